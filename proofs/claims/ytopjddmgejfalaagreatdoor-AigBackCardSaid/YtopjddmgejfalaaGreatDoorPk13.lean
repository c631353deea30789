/- Lists of any elements that a call makes itself: what appending leaves; no condition. The walks of aag's reading, line by line: what hands out lines, and what refuses them; no condition. Appending to a list of any elements that a call makes itself; no condition. The walks of aag's reading of lines of numbers; no condition. -/
import Derived.Test.YtopjddmgejfalaaGreatDoorPk12
import Derived.Test.YtopjddmgejfalaaGreatDoorPk11
import Derived.Test.YtopjddmgejfalaaGreatDoorPk01
import Derived.Deep.QuietTactic
import Derived.BigQuiet
import Derived.RegionTactic
namespace Go.Proofs.YtopjddmgejfalaaGreatDoor.Cw
open Go.ChangeShapes Go.WideShapes Go.ChangeAt Go.RowKit Go.Maps Circ

theorem flatten_at {α : Type} (m : Nat) (hm : 0 < m) : ∀ (xs : List (List α)) (_ : ∀ y ∈ xs, y.length = m) (j : Nat), xs.flatten[j]? = (xs[j / m]?).bind (·[j % m]?)
  | [], _, j => by simp
  | y :: ys, h, j => by
    have hy : y.length = m := h y List.mem_cons_self
    rw [List.flatten_cons]
    by_cases hj : j < m
    · rw [List.getElem?_append_left (by omega), Nat.div_eq_of_lt hj, Nat.mod_eq_of_lt hj]; rfl
    · rw [List.getElem?_append_right (by omega), hy, flatten_at m hm ys (fun z hz => h z (List.mem_cons_of_mem _ hz)) (j - m)]
      obtain ⟨k, rfl⟩ : ∃ k, j = k + m := ⟨j - m, by omega⟩
      rw [Nat.add_sub_cancel, Nat.add_div_right _ hm, Nat.add_mod_right]
      rfl
theorem flatten_len {α : Type} (m : Nat) : ∀ (xs : List (List α)) (_ : ∀ y ∈ xs, y.length = m), xs.flatten.length = xs.length * m
  | [], _ => by simp
  | y :: ys, h => by
    rw [List.flatten_cons, List.length_append, flatten_len m ys (fun z hz => h z (List.mem_cons_of_mem _ hz)), h y List.mem_cons_self, List.length_cons, Nat.add_mul]; omega

/-- the slice v, made from block base on, holds the elements xs of m cells each -/
def OwnC (w : World) (base : Nat) (e : TypeId) (m : Nat) (v : Value) (xs : List (List Value)) : Prop := w.ownsRow base e m v xs.length xs.flatten
theorem OwnC.nil (w : World) (base : Nat) (e : TypeId) (m : Nat) : OwnC w base e m (.slice none 0 0) [] := ⟨by simp, .inl ⟨rfl, rfl⟩⟩
theorem OwnC.row {w : World} {base : Nat} {e : TypeId} {m : Nat} {v : Value} {xs : List (List Value)} (h : OwnC w base e m v xs) (hm : 0 < m) (hx : ∀ y ∈ xs, y.length = m) : ∃ A q, v = .slice A xs.length q ∧ LRow w w.heap.size m A xs ∧ xs.length ≤ q ∧ q ≤ 9223372036854775807 := by
  obtain ⟨_, h⟩ := h
  rcases h with ⟨rfl, h0⟩ | ⟨g, cap, cur, rfl, _, hg, hn, hmx, hs, ht⟩
  · have hx0 : xs = [] := List.eq_nil_of_length_eq_zero h0
    subst hx0
    exact ⟨none, 0, rfl, .inl rfl, Nat.le_refl _, by decide⟩
  · refine ⟨_, cap, rfl, .inr ⟨g, 0, rfl, (Array.getElem?_eq_some_iff.1 hg).1, fun i ys hi j u hj => ?_⟩, hn, by unfold maxLen at hmx; exact hmx⟩
    have hil : i < xs.length := (List.getElem?_eq_some_iff.1 hi).1
    have hjl : j < m := by
      have h1 := (List.getElem?_eq_some_iff.1 hj).1
      have h2 := hx ys (List.mem_of_getElem? hi)
      omega
    have hlt : i * m + j < xs.length * m := by
      have : (i + 1) * m ≤ xs.length * m := Nat.mul_le_mul_right _ hil
      rw [Nat.add_mul] at this; omega
    have e := congrArg (fun l : List Value => l[i * m + j]?) ht
    simp only [List.getElem?_take] at e
    rw [if_pos hlt, flatten_at m hm xs hx, show (i * m + j) / m = i by rw [Nat.mul_comm, Nat.mul_add_div hm, Nat.div_eq_of_lt hjl, Nat.add_zero], show (i * m + j) % m = j by rw [Nat.mul_comm, Nat.mul_add_mod, Nat.mod_eq_of_lt hjl], hi] at e
    simp only [Option.bind_some] at e
    rw [hj] at e
    simp [World.cell?, hg]
    simpa using e
theorem OwnC.block_lt {w : World} {base : Nat} {e : TypeId} {m : Nat} {v : Value} {xs : List (List Value)} (h : OwnC w base e m v xs) (g : Nat) (hg : v.ownBlock = some g) : base ≤ g ∧ g < w.heap.size := by
  obtain ⟨_, h⟩ := h
  rcases h with ⟨rfl, h0⟩ | ⟨g', cap, cur, rfl, hb, hh, _⟩
  · simp [Value.ownBlock] at hg
  · have : g' = g := by simpa [Value.ownBlock] using hg
    subst this
    exact ⟨hb, (Array.getElem?_eq_some_iff.1 hh).1⟩
theorem OwnC.keep_at {w w' : World} {base : Nat} {e : TypeId} {m : Nat} {v : Value} {xs : List (List Value)} (h : OwnC w base e m v xs) (hb : ∀ g, base ≤ g → v.ownBlock = some g → w'.heap[g]? = w.heap[g]?) : OwnC w' base e m v xs := by
  obtain ⟨h0, h⟩ := h
  refine ⟨h0, ?_⟩
  rcases h with h | ⟨g, cap, cur, hv, hg, hh, r⟩
  · exact .inl h
  · exact .inr ⟨g, cap, cur, hv, hg, (hb g hg (by rw [hv]; rfl)).trans hh, r⟩
theorem OwnC.keep {w w' : World} {base : Nat} {e : TypeId} {m : Nat} {v : Value} {xs : List (List Value)} (h : OwnC w base e m v xs) (hb : Below w.heap.size w w') : OwnC w' base e m v xs := h.keep_at fun g _ hg => hb.block g (h.block_lt g hg).2

theorem wpList_fill {ops : Array Oper} {rest : List Oper} {o : Oper} {a : Act} {Q : Exit → Act → World → Prop} (w : World) (hgd : o.guard = none) (s x : Operand) (T : TypeId)
    (ho : o.op = .call { callee := .builtin .append, args := #[s, x], argTypes := #[T, T] })
    (e m bytes : Nat) (z : Value) (hT : Tryz.prog.underlying T = some (.slice e)) (hi : (Tryz.prog.info? e).map (fun i => (i.zero, i.size, i.bytes)) = some (some z, m, bytes)) (hzs : z.cells.size = m) (hm : 0 < m)
    (base B : Nat) (v : Value) (hown : OwnC w base e m v []) (b : Nat) (l : List (List Value)) (hs : a.eval s = v) (hv : v = .slice (some ⟨b, 0, none⟩) 0 0) (A : Option Addr) (n c : Nat) (hn : n = l.length) (hx : a.eval x = .slice A n c) (hr : LRow w B m A l)
    (hlen : ∀ y ∈ l, y.length = m) (hone : ∀ y ∈ l, ∀ u ∈ y, u.oneCell' = true) (hbytes : l.length * bytes ≤ 140737488355328) (hbase : base ≤ w.heap.size)
    (hmax : l.length ≤ 9223372036854775807)
    (h : ∀ v' w', OwnC w' base e m v' l → w.grownBy w' v.ownBlock → (v'.ownBlock = v.ownBlock ∨ v'.ownBlock = some w.heap.size) → wpList Tryz.prog ops Q rest (a.put o.dst v') w') : wpList Tryz.prog ops Q (o :: rest) a w := by
  subst hn
  obtain ⟨i0, hi0, hz0, hz1, hz2⟩ := info_parts hi
  have fin : ∀ v' w', (Builtin.append_ #[T, T] o.type #[v, .slice A l.length c]).run Tryz.prog w = .ok v' w' → OwnC w' base e m v' l → w.grownBy w' v.ownBlock → (v'.ownBlock = v.ownBlock ∨ v'.ownBlock = some w.heap.size) → wpList Tryz.prog ops Q (o :: rest) a w := fun v' w' hrun h2 h3 h4 => by
    refine wpList_plain hgd fun K hK => ?_
    unfold Oper.wp execOp
    simp only [ho, resolve, invoke, builtin, Sem.run_bind, Sem.run_pure, Result.andThen_ok, List.map_toArray, List.map_cons, List.map_nil, hs, hx, hrun]
    exact hK _ _ (h v' w' h2 h3 h4)
  have go : ∀ ad : Addr, A = some ad → (∀ j u, l.flatten[j]? = some u → w.cell? (ad.add j) = some u) → wpList Tryz.prog ops Q (o :: rest) a w := fun ad hA hc => by
    obtain ⟨v', w', h1, h2, h3, _, h5⟩ := run_append_own_at (P := Tryz.prog) w base T o.type e i0 z m bytes hT hi0 hz0 hz1 hz2 hzs hm v 0 [] (by simpa [OwnC] using hown) ad l.length c l.flatten (flatten_len m l hlen) hc (fun u hu => by
      obtain ⟨y, hy, hu'⟩ := List.mem_flatten.1 hu
      exact hone y hy u hu') (by unfold maxLen; omega) (by simpa using hbytes) hbase
    refine fin v' w' (by rw [hA]; exact h1) ?_ h3 h5
    unfold OwnC
    simpa using h2
  rcases hr with h0 | ⟨b', o', e', hb, hc⟩
  · subst h0
    rcases A with _ | ad
    · refine fin v w ?_ hown (World.grownBy.refl w _) (.inl rfl)
      subst hv
      simp [Builtin.append_, run_underlying hT, sizeOf, typeInfo, hi0, Builtin.lenOf, Builtin.firstCells, storeCells]
    · exact go ad rfl (fun j u hj => by simp at hj)
  · refine go _ e' (fun j u hj => ?_)
    rw [flatten_at m hm l hlen] at hj
    cases hq : l[j / m]? with
    | none => rw [hq] at hj; cases hj
    | some y =>
      rw [hq] at hj
      have h1 := hc (j / m) y hq (j % m) u hj
      have h3 : (⟨b', o', none⟩ : Addr).add j = ⟨b', o' + (j / m * m + j % m), none⟩ := by
        rw [show j / m * m + j % m = j by rw [Nat.mul_comm]; exact Nat.div_add_mod j m]
        unfold Addr.add
        by_cases hz : j = 0
        · simp [hz]
        · simp [hz]
      rw [h3]; exact h1
end Go.Proofs.YtopjddmgejfalaaGreatDoor.Cw
namespace Go.Proofs.YtopjddmgejfalaaGreatDoor.Aag
open Go.ChangeShapes Go.WideShapes Go.ChangeAt Go.RowKit Dig Circ Cw

/-- w' is w but for block R, and new blocks -/
structure Ext (R : Nat) (w w' : World) : Prop where
  os : w'.os = w.os
  tape : w'.tape = w.tape
  output : w'.output = w.output
  size : w.heap.size ≤ w'.heap.size
  block : ∀ k, k < w.heap.size → k ≠ R → w'.heap[k]? = w.heap[k]?
theorem Ext.refl (R : Nat) (w : World) : Ext R w w := ⟨rfl, rfl, rfl, Nat.le_refl _, fun _ _ _ => rfl⟩
theorem Ext.trans {R : Nat} {a b c : World} (h : Ext R a b) (k : Ext R b c) : Ext R a c :=
  ⟨k.os.trans h.os, k.tape.trans h.tape, k.output.trans h.output, Nat.le_trans h.size k.size, fun i hi hr => (k.block i (Nat.lt_of_lt_of_le hi h.size) hr).trans (h.block i hi hr)⟩
theorem Ext.of {R : Nat} {w w' : World} (h : Below w.heap.size w w') : Ext R w w' := ⟨h.os, h.tape, h.output, h.size, fun k hk _ => h.block k hk⟩
theorem Ext.below {R : Nat} {w w' : World} (h : Ext R w w') : Below R w w' ∨ w.heap.size ≤ R := by
  by_cases hr : R < w.heap.size
  · exact .inl ⟨h.os, h.tape, h.output, h.size, fun k hk => h.block k (by omega) (by omega)⟩
  · exact .inr (by omega)
theorem drewN_below (B : Nat) (w : World) : ∀ n, Below B w (w.drewN n)
  | 0 => Below.refl B w
  | n + 1 => (drewN_below B w n).drew

theorem reads_cellD {a : Option Addr} {L : List (List UInt8)} {w : World} (h : ReadsAt a L w) (k : Nat) (hk : k < L.length) : ∃ g off, a = some ⟨g, off, none⟩ ∧ w.cell? ⟨g, off + k, none⟩ = some (sv (L.getD k [])) := by
  rcases h with h | ⟨g, off, hv, hg, hc⟩
  · subst h; simp at hk
  · exact ⟨g, off, hv, hc k hk⟩
theorem index_any (l : List Int) (A : Option Addr) (c B : Nat) (v : Int) (w : World) (hl : l.length ≤ 9223372036854775807) (hr : LRow w B 1 A (ints l)) :
    Calls Tryz.prog 109 #[.slice A l.length c, .int .i64 v] w fun e w' => (∃ i : Int, e = .returned (.int .i64 i) ∧ -1 ≤ i ∧ i ≤ 9223372036854775807 ∧ decide (0 ≤ i) = l.any (fun x => v == x)) ∧ w = w' := by
  go_enter Tryz.func109, Tryz.ntmps109
  go_wp2
  go_loop [8] (fun i => ∃ j : Nat, j ≤ l.length ∧ i = .int .i64 j ∧ (l.take j).any (fun x => v == x) = false) (fun i => l.length - (intOf i).toNat)
  case atStart => exact ⟨0, Nat.zero_le _, rfl, by simp⟩
  case round =>
    obtain ⟨j, hj, rfl, hno⟩ := hrel
    have HN := Lib.hid hno; clear hno
    by_cases hlt : j < l.length
    · obtain ⟨b, o, rfl, hbb, hc⟩ := hr.int hlt
      have HX := Lib.hid (any_take l (fun x => v == x) j hlt)
      have HS := Lib.hid (any_of l (fun x => v == x) j hlt)
      clear hr
      generalize l[j] = x at *
      cases hq : (v == x)
      · have HQ := Lib.hid hq
        go_wp2
        go_round
        case rel => exact ⟨j + 1, by omega, by go_num, by rw [HX.out, HN.out, HQ.out]; rfl⟩
        case measure => simp [intOf]; omega
      · have HQ := Lib.hid hq
        go_wp2
        go_ret
        exact ⟨⟨j, rfl, by omega, by omega, by rw [HS.out HQ.out]; simp⟩, rfl⟩
    · obtain rfl : j = l.length := by omega
      rw [List.take_of_length_le (Nat.le_refl _)] at HN
      go_wp2
      go_ret
      exact ⟨⟨-1, rfl, by omega, by omega, by rw [HN.out]; rfl⟩, rfl⟩
theorem contains_any (l : List Int) (A : Option Addr) (c B : Nat) (v : Int) (w : World) (hl : l.length ≤ 9223372036854775807) (hr : LRow w B 1 A (ints l)) :
    Calls Tryz.prog 87 #[.slice A l.length c, .int .i64 v] w fun e w' => e = .returned (.bool (l.any (fun x => v == x))) ∧ w = w' := by
  have IX := Lib.hid (index_any l A c B v w hl hr)
  clear hr
  go_enter Tryz.func87, Tryz.ntmps87
  go_wp2_with fail
  refine IX.out.mono ?_
  rintro e w1 ⟨⟨i, rfl, h1, h2, h3⟩, rfl⟩
  have HX := Lib.hid h3
  clear h3
  go_wp2
  go_ret
  exact ⟨by rw [← HX.out]; rfl, rfl⟩

theorem any_contains (cs : List Nat) (n : Nat) : (cs.map (fun x : Nat => (x : Int))).any (fun x => ((n : Nat) : Int) == x) = cs.contains n := by
  induction cs with
  | nil => rfl
  | cons c cs ih =>
    rw [List.map_cons, List.any_cons, ih, List.contains_cons]
    congr 1
    rw [Bool.eq_iff_iff]
    simp only [beq_iff_eq]
    omega
theorem words_len (l : List UInt8) : (wordsL l).length ≤ l.length + 1 ∧ (wordsL l).flatten.length + (wordsL l).length ≤ l.length + 1 := by
  have := pieces_size 32 (fun p _ => !p.isEmpty) l
  unfold wordsL
  exact ⟨by omega, this⟩
end Go.Proofs.YtopjddmgejfalaaGreatDoor.Aag
namespace Go.Proofs.YtopjddmgejfalaaGreatDoor.Cw
open Go.ChangeShapes Go.WideShapes Go.ChangeAt Go.RowKit Go.Maps Circ

theorem wpList_push {ops : Array Oper} {rest : List Oper} {o : Oper} {a : Act} {Q : Exit → Act → World → Prop} (w : World) (hgd : o.guard = none) (s x : Operand) (T : TypeId)
    (ho : o.op = .call { callee := .builtin .append, args := #[s, x], argTypes := #[T, T] })
    (e m bytes : Nat) (z : Value) (hT : Tryz.prog.underlying T = some (.slice e)) (hi : (Tryz.prog.info? e).map (fun i => (i.zero, i.size, i.bytes)) = some (some z, m, bytes)) (hzs : z.cells.size = m) (hm : 0 < m)
    (base : Nat) (v : Value) (xs : List (List Value)) (hown : OwnC w base e m v xs) (hs : a.eval s = v) (g : Nat) (c : Nat) (hx : a.eval x = .slice (some ⟨g, 0, none⟩) 1 c) (y : List Value) (hy : ∀ j u, y[j]? = some u → w.cell? ⟨g, j, none⟩ = some u)
    (hlen : y.length = m) (hone : ∀ u ∈ y, u.oneCell' = true) (hbytes : (xs.length + 1) * bytes ≤ 140737488355328) (hmax : xs.length + 1 ≤ 9223372036854775807) (hbase : base ≤ w.heap.size)
    (h : ∀ v' w', OwnC w' base e m v' (xs ++ [y]) → Below base w w' → (∀ k, k < w.heap.size → some k ≠ v.ownBlock → w'.heap[k]? = w.heap[k]?) → wpList Tryz.prog ops Q rest (a.put o.dst v') w') : wpList Tryz.prog ops Q (o :: rest) a w := by
  obtain ⟨i0, hi0, hz0, hz1, hz2⟩ := info_parts hi
  obtain ⟨v', w', h1, h2, h3, _, h5⟩ := run_append_own_at (P := Tryz.prog) w base T o.type e i0 z m bytes hT hi0 hz0 hz1 hz2 hzs hm v xs.length xs.flatten hown ⟨g, 0, none⟩ 1 c y (by rw [Nat.one_mul]; exact hlen) (fun j u hj => by
    have e : (⟨g, 0, none⟩ : Addr).add j = ⟨g, j, none⟩ := by unfold Addr.add; by_cases hz : j = 0 <;> simp [hz]
    rw [e]; exact hy j u hj) hone (by unfold maxLen; omega) hbytes hbase
  refine wpList_plain hgd fun K hK => ?_
  unfold Oper.wp execOp
  simp only [ho, resolve, invoke, builtin, Sem.run_bind, Sem.run_pure, Result.andThen_ok, List.map_toArray, List.map_cons, List.map_nil, hs, hx, h1]
  refine hK _ _ (h v' w' ?_ ?_ ?_)
  · unfold OwnC
    simpa using h2
  · exact ⟨h3.os, h3.tape, h3.output, h3.size, fun k hk => h3.block k (by omega) (fun e => by have := hown.block_lt k e.symm; omega)⟩
  · exact fun k hk hne => h3.block k hk hne
theorem step_push {o : Oper} {a : Act} {K : Act → World → Prop} {Q : Exit → Act → World → Prop} (w : World) (s x : Operand) (T : TypeId)
    (ho : o.op = .call { callee := .builtin .append, args := #[s, x], argTypes := #[T, T] })
    (e m bytes : Nat) (z : Value) (hT : Tryz.prog.underlying T = some (.slice e)) (hi : (Tryz.prog.info? e).map (fun i => (i.zero, i.size, i.bytes)) = some (some z, m, bytes)) (hzs : z.cells.size = m) (hm : 0 < m)
    (base : Nat) (v : Value) (xs : List (List Value)) (hown : OwnC w base e m v xs) (hs : a.eval s = v) (g : Nat) (c : Nat) (hx : a.eval x = .slice (some ⟨g, 0, none⟩) 1 c) (y : List Value) (hy : ∀ j u, y[j]? = some u → w.cell? ⟨g, j, none⟩ = some u)
    (hlen : y.length = m) (hone : ∀ u ∈ y, u.oneCell' = true) (hbytes : (xs.length + 1) * bytes ≤ 140737488355328) (hmax : xs.length + 1 ≤ 9223372036854775807) (hbase : base ≤ w.heap.size)
    (h : ∀ v' w', OwnC w' base e m v' (xs ++ [y]) → Below base w w' → (∀ k, k < w.heap.size → some k ≠ v.ownBlock → w'.heap[k]? = w.heap[k]?) → K (a.put o.dst v') w') : o.wp Tryz.prog a w K Q := by
  obtain ⟨i0, hi0, hz0, hz1, hz2⟩ := info_parts hi
  obtain ⟨v', w', h1, h2, h3, _, h5⟩ := run_append_own_at (P := Tryz.prog) w base T o.type e i0 z m bytes hT hi0 hz0 hz1 hz2 hzs hm v xs.length xs.flatten hown ⟨g, 0, none⟩ 1 c y (by rw [Nat.one_mul]; exact hlen) (fun j u hj => by
    have e : (⟨g, 0, none⟩ : Addr).add j = ⟨g, j, none⟩ := by unfold Addr.add; by_cases hz : j = 0 <;> simp [hz]
    rw [e]; exact hy j u hj) hone (by unfold maxLen; omega) hbytes hbase
  unfold Oper.wp execOp
  simp only [ho, resolve, invoke, builtin, Sem.run_bind, Sem.run_pure, Result.andThen_ok, List.map_toArray, List.map_cons, List.map_nil, hs, hx, h1]
  refine h v' w' ?_ ?_ ?_
  · unfold OwnC
    simpa using h2
  · exact ⟨h3.os, h3.tape, h3.output, h3.size, fun k hk => h3.block k (by omega) (fun e => by have := hown.block_lt k e.symm; omega)⟩
  · exact fun k hk hne => h3.block k hk hne
end Go.Proofs.YtopjddmgejfalaaGreatDoor.Cw
namespace Go.Proofs.YtopjddmgejfalaaGreatDoor.Aag
open Go.ChangeShapes Go.WideShapes Go.ChangeAt Go.RowKit Dig Circ Cw

theorem infoInt : (Tryz.prog.info? 3).map (fun i => (i.zero, i.size, i.bytes)) = some (some (.int .i64 0), 1, 8) := by kernel_rfl
theorem ints_len1 (l : List Int) : ∀ y ∈ ints l, y.length = 1 := fun y hy => by obtain ⟨x, _, rfl⟩ := List.mem_map.1 hy; rfl
theorem ints_length1 (l : List Int) : (ints l).length = l.length := by simp [ints]
theorem ints_snoc (l : List Int) (x : Int) : ints l ++ [[.int .i64 x]] = ints (l ++ [x]) := by simp [ints]

theorem own_ext {R : Nat} {w w' : World} {m base : Nat} {e : TypeId} {v : Value} {xs : List (List Value)} (h : OwnC w base e m v xs) (hb : Ext R w w') (hR : R < base) : OwnC w' base e m v xs :=
  h.keep_at fun g hg hv => hb.block g (h.block_lt g hv).2 (by omega)
theorem Ext.then {R : Nat} {w w' w'' : World} (h : Ext R w w') (hb : Below w.heap.size w' w'') : Ext R w w'' :=
  ⟨hb.os.trans h.os, hb.tape.trans h.tape, hb.output.trans h.output, Nat.le_trans h.size hb.size, fun k hk hr => (hb.block k hk).trans (h.block k hk hr)⟩
end Go.Proofs.YtopjddmgejfalaaGreatDoor.Aag
