/- tseitin.Gates; condition: the circuit lies in memory. tseitin.Force; what the laws of layer 12 ask; condition: at most 2^47 bytes of clauses. unroll.may, ahead, Base; what a latch is in a frame; condition: the circuit lies in memory. -/
import Derived.Test.YtbgcoeejmnejdaaPt36
import Derived.Test.YtbgcoeejmnejdaaPt33
namespace Go.Proofs.Ytbgcoeejmnejdaa.Tse
open Go.ChangeShapes Go.WideShapes Go.ChangeAt Go.RowKit Go.Maps Circ Cw Str Sim Rep Cla

theorem op_assign (a : Act) (w : World) (t : Nat) (oo : Oper) (ho : oo.op = .assign (.tmp t)) : (execOp a.eval oo).run Try.prog w = .ok (.value (a.tmps.getD t undef)) w := by
  unfold execOp
  rw [ho]
  go_simp
theorem op_load_cirV (a : Act) (w : World) (g t : Nat) (c : Cir) (s : Places) (h : a.tmps.getD t undef = .pointer (some ⟨g, 0, none⟩)) (hh : w.heap[g]? = some (.cells (cirC c s) 27 (0, 0))) (oo : Oper) (ho : oo.op = .load 27 (.tmp t)) : (execOp a.eval oo).run Try.prog w = .ok (.value (cirV c s)) w := by
  have h' : a.tmps[t]?.getD undef = .pointer (some ⟨g, 0, none⟩) := by simpa using h
  obtain ⟨e0, e1, e2, e3, e4, e5, e6, e7⟩ := cells8 hh
  unfold cirV
  rw [show cirC c s = #[.int .i64 c.max, .slice s.ai c.ins.length s.ki, .slice s.al c.lats.length s.kl, .slice s.ao c.outs.length s.ko, .slice s.ab c.bads.length s.kb, .slice s.ac c.invs.length s.kc, .slice s.aa c.ands.length s.ka, .slice s.an c.names.length s.kn] from rfl]
  clear hh h
  unfold execOp
  rw [ho]
  go_simp
theorem and_box {w : World} {p : Nat} {a b c : Value} {T : TypeId} (h : w.heap[p]? = some (.cells #[a, b, c] T (0, 0))) : w.cell? ⟨p, 0, none⟩ = some a ∧ w.cell? ⟨p, 1, none⟩ = some b ∧ w.cell? ⟨p, 2, none⟩ = some c := by
  have hx := Lib.cell_of_heap h
  exact ⟨hx 0, hx 1, hx 2⟩
/-- the clauses of the variables up to k that are nothing -/
def freesM (c : Cir) (b : Int) (k : Nat) : List (List Int) := ((List.range k).filter fun (v : Nat) => freeT c (v : Int)).map fun (v : Nat) => [-(b + (v : Int) + 1)]
theorem frees_next (c : Cir) (b : Int) (k : Nat) : freesM c b (k + 1) = freesM c b k ++ if freeT c (k : Int) = true then [[-(b + (k : Int) + 1)]] else [] := by
  unfold freesM
  rw [List.range_succ, List.filter_append, List.map_append]
  cases hf : freeT c (k : Int) <;> simp [hf]
theorem ands_next (c : Cir) (b : Int) (k : Nat) (h : k < c.ands.length) : (c.ands.take (k + 1)).flatMap (andT b) = (c.ands.take k).flatMap (andT b) ++ andT b c.ands[k] := by
  rw [List.take_succ_eq_append_getElem h, List.flatMap_append]; simp
theorem mz_two (w : World) (x y : Int) (hx : I64 x) (hy : I64 y) : Mz (w.alloc (.cells #[.int .i64 x, .int .i64 y] 3)) ⟨[x, y], some ⟨w.heap.size, 0, none⟩, 2⟩ := by
  refine ⟨.inr ⟨_, _, rfl, Array.getElem?_push_size, fun i v hi => ?_⟩, fun v hv => ?_, by simp⟩
  · match i, hi with
    | 0, hi => obtain rfl : x = v := by simpa using hi
               rfl
    | 1, hi => obtain rfl : y = v := by simpa using hi
               rfl
  · rcases List.mem_cons.1 hv with rfl | hv
    · exact hx
    · rw [List.mem_singleton.1 hv]; exact hy
theorem mz_three (w : World) (x y z : Int) (hx : I64 x) (hy : I64 y) (hz : I64 z) : Mz (w.alloc (.cells #[.int .i64 x, .int .i64 y, .int .i64 z] 3)) ⟨[x, y, z], some ⟨w.heap.size, 0, none⟩, 3⟩ := by
  refine ⟨.inr ⟨_, _, rfl, Array.getElem?_push_size, fun i v hi => ?_⟩, fun v hv => ?_, by simp⟩
  · match i, hi with
    | 0, hi => obtain rfl : x = v := by simpa using hi
               rfl
    | 1, hi => obtain rfl : y = v := by simpa using hi
               rfl
    | 2, hi => obtain rfl : z = v := by simpa using hi
               rfl
  · rcases List.mem_cons.1 hv with rfl | hv
    · exact hx
    · rcases List.mem_cons.1 hv with rfl | hv
      · exact hy
      · rw [List.mem_singleton.1 hv]; exact hz
theorem mz_one (w : World) (x : Int) (hx : I64 x) : Mz (w.alloc (.cells #[.int .i64 x] 3)) ⟨[x], some ⟨w.heap.size, 0, none⟩, 1⟩ := by
  refine ⟨.inr ⟨_, _, rfl, Array.getElem?_push_size, fun i v hi => ?_⟩, fun v hv => ?_, by simp⟩
  · match i, hi with
    | 0, hi => obtain rfl : x = v := by simpa using hi
               rfl
  · rw [List.mem_singleton.1 hv]; exact hx
theorem cells_len (L : List Clz) : ∀ y ∈ L.map Clz.cells, y.length = 1 := fun y hy => by
  obtain ⟨z, _, rfl⟩ := List.mem_map.1 hy
  rfl
theorem cells_one (L : List Clz) : ∀ y ∈ L.map Clz.cells, ∀ u ∈ y, u.oneCell' = true := fun y hy u hu => by
  obtain ⟨z, _, rfl⟩ := List.mem_map.1 hy
  obtain rfl := List.mem_singleton.1 hu
  rfl
/-- the three clauses of a gate, made one after the other, and their list -/
theorem three_made (w : World) (x y z : Int) (hx : I64 x ∧ I64 (-x)) (hy : I64 y ∧ I64 (-y)) (hz : I64 z ∧ I64 (-z)) : ∃ V1 V2 V3 V4 : World, w.alloc (.cells #[.int .i64 (-x), .int .i64 y] 3) = V1 ∧ V1.alloc (.cells #[.int .i64 (-x), .int .i64 z] 3) = V2 ∧ V2.alloc (.cells #[.int .i64 x, .int .i64 (-y), .int .i64 (-z)] 3) = V3 ∧
    V3.alloc (.cells #[.slice (some ⟨w.heap.size, 0, none⟩) 2 2, .slice (some ⟨V1.heap.size, 0, none⟩) 2 2, .slice (some ⟨V2.heap.size, 0, none⟩) 3 3] 22) = V4 ∧ Below w.heap.size w V4 ∧
    (∀ q ∈ [(⟨[-x, y], some ⟨w.heap.size, 0, none⟩, 2⟩ : Clz), ⟨[-x, z], some ⟨V1.heap.size, 0, none⟩, 2⟩, ⟨[x, -y, -z], some ⟨V2.heap.size, 0, none⟩, 3⟩], Mz V4 q) ∧
    LRow V4 V4.heap.size 1 (some ⟨V3.heap.size, 0, none⟩) ([(⟨[-x, y], some ⟨w.heap.size, 0, none⟩, 2⟩ : Clz), ⟨[-x, z], some ⟨V1.heap.size, 0, none⟩, 2⟩, ⟨[x, -y, -z], some ⟨V2.heap.size, 0, none⟩, 3⟩].map Clz.cells) := by
  refine ⟨_, _, _, _, rfl, rfl, rfl, rfl, ?_⟩
  have m1 := mz_two w (-x) y hx.2 hy.1
  generalize hV1 : w.alloc (.cells #[.int .i64 (-x), .int .i64 y] 3) = V1 at *
  have b1 : Below w.heap.size w V1 := by rw [← hV1]; exact (Below.refl _ _).alloc (Nat.le_refl _) _
  have m2 := mz_two V1 (-x) z hx.2 hz.1
  generalize hV2 : V1.alloc (.cells #[.int .i64 (-x), .int .i64 z] 3) = V2 at *
  have b2 : Below V1.heap.size V1 V2 := by rw [← hV2]; exact (Below.refl _ _).alloc (Nat.le_refl _) _
  have m3 := mz_three V2 x (-y) (-z) hx.1 hy.2 hz.2
  generalize hV3 : V2.alloc (.cells #[.int .i64 x, .int .i64 (-y), .int .i64 (-z)] 3) = V3 at *
  have b3 : Below V2.heap.size V2 V3 := by rw [← hV3]; exact (Below.refl _ _).alloc (Nat.le_refl _) _
  have hh : (V3.alloc (.cells #[.slice (some ⟨w.heap.size, 0, none⟩) 2 2, .slice (some ⟨V1.heap.size, 0, none⟩) 2 2, .slice (some ⟨V2.heap.size, 0, none⟩) 3 3] 22)).heap[V3.heap.size]? = some (.cells #[.slice (some ⟨w.heap.size, 0, none⟩) 2 2, .slice (some ⟨V1.heap.size, 0, none⟩) 2 2, .slice (some ⟨V2.heap.size, 0, none⟩) 3 3] 22 (0, 0)) := Array.getElem?_push_size
  generalize hV4 : V3.alloc (.cells #[.slice (some ⟨w.heap.size, 0, none⟩) 2 2, .slice (some ⟨V1.heap.size, 0, none⟩) 2 2, .slice (some ⟨V2.heap.size, 0, none⟩) 3 3] 22) = V4 at *
  have b4 : Below V3.heap.size V3 V4 := by rw [← hV4]; exact (Below.refl _ _).alloc (Nat.le_refl _) _
  refine ⟨((b1.trans (b2.mono b1.size)).trans (b3.mono (Nat.le_trans b1.size b2.size))).trans (b4.mono (Nat.le_trans (Nat.le_trans b1.size b2.size) b3.size)), fun q hq => ?_, .inr ⟨V3.heap.size, 0, rfl, (Array.getElem?_eq_some_iff.1 hh).1, fun i ys hi j u hj => ?_⟩⟩
  · rcases List.mem_cons.1 hq with rfl | hq
    · exact ((m1.below b2).below b3).below b4
    · rcases List.mem_cons.1 hq with rfl | hq
      · exact (m2.below b3).below b4
      · rw [List.mem_singleton.1 hq]; exact m3.below b4
  · have hx := Lib.cell_of_heap hh
    match i, hi with
    | 0, hi =>
      obtain rfl : [Value.slice (some ⟨w.heap.size, 0, none⟩) 2 2] = ys := by simpa [Clz.cells] using hi
      match j, hj with
      | 0, hj => obtain rfl : Value.slice (some ⟨w.heap.size, 0, none⟩) 2 2 = u := by simpa using hj
                 exact hx 0
    | 1, hi =>
      obtain rfl : [Value.slice (some ⟨V1.heap.size, 0, none⟩) 2 2] = ys := by simpa [Clz.cells] using hi
      match j, hj with
      | 0, hj => obtain rfl : Value.slice (some ⟨V1.heap.size, 0, none⟩) 2 2 = u := by simpa using hj
                 exact hx 1
    | 2, hi =>
      obtain rfl : [Value.slice (some ⟨V2.heap.size, 0, none⟩) 3 3] = ys := by simpa [Clz.cells] using hi
      match j, hj with
      | 0, hj => obtain rfl : Value.slice (some ⟨V2.heap.size, 0, none⟩) 3 3 = u := by simpa using hj
                 exact hx 2
/-- one clause of one literal, and the list of it -/
theorem one_made (w : World) (x : Int) (hx : I64 x) : ∃ V1 V2 : World, w.alloc (.cells #[.int .i64 x] 3) = V1 ∧ V1.alloc (.cells #[.slice (some ⟨w.heap.size, 0, none⟩) 1 1] 22) = V2 ∧ Below w.heap.size w V2 ∧ (∀ q ∈ [(⟨[x], some ⟨w.heap.size, 0, none⟩, 1⟩ : Clz)], Mz V2 q) ∧
    (∀ j u, [Value.slice (some ⟨w.heap.size, 0, none⟩) 1 1][j]? = some u → V2.cell? ⟨V1.heap.size, j, none⟩ = some u) ∧ V1.heap.size ≤ V2.heap.size := by
  refine ⟨_, _, rfl, rfl, ?_⟩
  have m1 := mz_one w x hx
  generalize hV1 : w.alloc (.cells #[.int .i64 x] 3) = V1 at *
  have b1 : Below w.heap.size w V1 := by rw [← hV1]; exact (Below.refl _ _).alloc (Nat.le_refl _) _
  have hh : (V1.alloc (.cells #[.slice (some ⟨w.heap.size, 0, none⟩) 1 1] 22)).heap[V1.heap.size]? = some (.cells #[.slice (some ⟨w.heap.size, 0, none⟩) 1 1] 22 (0, 0)) := Array.getElem?_push_size
  generalize hV2 : V1.alloc (.cells #[.slice (some ⟨w.heap.size, 0, none⟩) 1 1] 22) = V2 at *
  have b2 : Below V1.heap.size V1 V2 := by rw [← hV2]; exact (Below.refl _ _).alloc (Nat.le_refl _) _
  refine ⟨b1.trans (b2.mono b1.size), fun q hq => ?_, fun j u hj => ?_, b2.size⟩
  · rw [List.mem_singleton.1 hq]; exact m1.below b2
  · rw [Lib.cell_of_heap hh]; simpa using hj
/-- one element more, where the list may be near the greatest there is; all other blocks stay -/
theorem wpList_push_far {ops : Array Oper} {rest : List Oper} {o : Oper} {a : Act} {Q : Exit → Act → World → Prop} (w : World) (hgd : o.guard = none) (s x : Operand) (T : TypeId)
    (ho : o.op = .call { callee := .builtin .append, args := #[s, x], argTypes := #[T, T] })
    (e m bytes : Nat) (z : Value) (hT : Try.prog.underlying T = some (.slice e)) (hi : (Try.prog.info? e).map (fun i => (i.zero, i.size, i.bytes)) = some (some z, m, bytes)) (hzs : z.cells.size = m) (hm : 0 < m)
    (base : Nat) (v : Value) (xs : List (List Value)) (hown : OwnC w base e m v xs) (hs : a.eval s = v) (g : Nat) (c : Nat) (hx : a.eval x = .slice (some ⟨g, 0, none⟩) 1 c) (y : List Value) (hy : ∀ j u, y[j]? = some u → w.cell? ⟨g, j, none⟩ = some u)
    (hlen : y.length = m) (hone : ∀ u ∈ y, u.oneCell' = true) (hbytes : ((xs.length + 1) + (xs.length + 1) / 4 + 192) * bytes ≤ 281474976710656) (hmax : xs.length + 1 ≤ 9223372036854775807) (hbase : base ≤ w.heap.size)
    (h : ∀ v' w', OwnC w' base e m v' (xs ++ [y]) → Below base w w' → (∀ k, k < w.heap.size → some k ≠ v.ownBlock → w'.heap[k]? = w.heap[k]?) → wpList Try.prog ops Q rest (a.put o.dst v') w') : wpList Try.prog ops Q (o :: rest) a w := by
  obtain ⟨i0, hi0, hz0, hz1, hz2⟩ := info_parts hi
  refine wpList_append_own_wide w hgd s x T ho base e i0 z m bytes hT hi0 hz0 hz1 hz2 hzs hm v xs.length xs.flatten hs hown ⟨g, 0, none⟩ 1 c y hx (by rw [Nat.one_mul]; exact hlen) (fun j u hj => by
    have e : (⟨g, 0, none⟩ : Addr).add j = ⟨g, j, none⟩ := by unfold Addr.add; by_cases hz : j = 0 <;> simp [hz]
    rw [e]; exact hy j u hj) hone (by unfold maxLen; omega) hbytes hbase (fun v' w' h2 h3 _ => h v' w' ?_ ?_ ?_)
  · unfold OwnC
    simpa using h2
  · exact ⟨h3.os, h3.tape, h3.output, h3.size, fun k hk => h3.block k (by omega) (fun e => by have := hown.block_lt k e.symm; omega)⟩
  · exact fun k hk hne => h3.block k hk hne
/-- what operation j of the region leaves -/
def gt5R (b : Int) (c : Cir) (s : Places) : Nat → (Nat → Value) → World → Prop
  | 0, f, _ => f 22 = .int .i64 b
  | 1, f, w => ∃ bx, f 23 = litV bx ∧ BaseAt w bx (baseT b)
  | 2, f, _ => f 24 = cirV c s
  | 3, f, w => ∃ by0, f 25 = nothV by0 ∧ NothAt w c by0
  | 4, f, w => ∃ bx, f 8 = litV bx ∧ BaseAt w bx (baseT b)
  | 5, f, w => ∃ by0, f 9 = nothV by0 ∧ NothAt w c by0
  | _, _, _ => True
def gt5M : Nat → List Nat
  | 0 => [22]
  | 1 => [23]
  | 2 => [24]
  | 3 => [25]
  | 4 => [8]
  | 5 => [9]
  | _ => []
theorem gt5_stab {b : Int} {c : Cir} {s : Places} (jj : Nat) {f f' : Nat → Value} {w w' : World} (h1 : jj = 1 → Below w.heap.size w w') (h3 : jj = 3 → Below w.heap.size w w') (h4 : jj = 4 → Below w.heap.size w w') (h5 : jj = 5 → Below w.heap.size w w') (hf : ∀ t ∈ gt5M jj, f' t = f t) (h : gt5R b c s jj f w) : gt5R b c s jj f' w' := by
  match jj, hf, h, h1, h3, h4, h5 with
  | 0, hf, h, _, _, _, _ => exact (hf 22 (by decide)).trans h
  | 1, hf, h, h1, h3, h4, h5 =>
    obtain ⟨bx, q1, q2⟩ := h
    exact ⟨bx, (hf 23 (by decide)).trans q1, q2.below (h1 rfl) q2.lt⟩
  | 2, hf, h, _, _, _, _ => exact (hf 24 (by decide)).trans h
  | 3, hf, h, h1, h3, h4, h5 =>
    obtain ⟨bx, q1, q2⟩ := h
    exact ⟨bx, (hf 25 (by decide)).trans q1, q2.below (h3 rfl) (Nat.le_refl _)⟩
  | 4, hf, h, h1, h3, h4, h5 =>
    obtain ⟨bx, q1, q2⟩ := h
    exact ⟨bx, (hf 8 (by decide)).trans q1, q2.below (h4 rfl) q2.lt⟩
  | 5, hf, h, h1, h3, h4, h5 =>
    obtain ⟨bx, q1, q2⟩ := h
    exact ⟨bx, (hf 9 (by decide)).trans q1, q2.below (h5 rfl) (Nat.le_refl _)⟩
  | _ + 6, _, _, _, _, _, _ => trivial
set_option maxHeartbeats 16000000 in
set_option maxRecDepth 100000 in
theorem gates_made (c : Cir) (s : Places) (b : Int) (w : World) (h : CLies w w.heap.size c s) (hf : CFits c s) (he : errT c b = 0) :
    Calls Try.prog 77 #[cirV c s, .int .i64 b] w fun e w' => (∃ K A' q', e = .returned (.tuple #[.slice A' K.length q', .int .i64 0]) ∧ Mk w' w.heap.size (.slice A' K.length q') K ∧ K.map Clz.l = gatesT c b) ∧ Below w.heap.size w w' := by
  obtain ⟨WA, hWA⟩ : ∃ x, w.alloc (.cells #[.int .i64 c.max, .slice s.ai c.ins.length s.ki, .slice s.al c.lats.length s.kl, .slice s.ao c.outs.length s.ko, .slice s.ab c.bads.length s.kb, .slice s.ac c.invs.length s.kc, .slice s.aa c.ands.length s.ka, .slice s.an c.names.length s.kn] 27) = x := ⟨_, rfl⟩
  have bA : Hid (Below w.heap.size w WA) := by unfold Hid; rw [← hWA]; exact (Below.refl _ _).alloc (Nat.le_refl _) _
  have GA : Hid (WA.heap[w.heap.size]? = some (.cells (cirC c s) 27 (0, 0))) := by unfold Hid; rw [← hWA]; exact Array.getElem?_push_size
  obtain ⟨e0, e1, e2, e3, e4, e5, e6, e7⟩ := cells8 GA.out
  have LW : Hid (∀ x, Below w.heap.size w x → CLies x x.heap.size c s) := fun x hx => (h.below hx).more hx.size
  have CK := Lib.hid (pcheck_any c s b WA (LW.out WA bA.out) hf)
  rw [he] at CK
  have hok : refOk c = true := by
    cases hr : refOk c with
    | true => rfl
    | false => unfold errT at he; rw [hr, if_pos rfl] at he; cases he
  have hb9 : 0 ≤ b ∧ b ≤ 262144 := by
    unfold errT at he
    rw [hok, if_neg (by decide)] at he
    split at he
    · cases he
    · split at he
      · cases he
      · omega
  have hbt : baseT b = b := by unfold baseT; rw [if_neg (by omega), if_neg (by omega)]
  have HBT := Lib.hid hbt
  have HB9 := Lib.hid hb9
  have HR := Lib.hid hok
  have HF := Lib.hid hf
  obtain ⟨m, hm, hm2⟩ := max_nat hok
  have HM := Lib.hid hm
  have HZ := Lib.hid (ref_sizes hok)
  have FA := Lib.hid (fun x => from_any b x)
  have NO := Lib.hid (fun x (hx : Below w.heap.size w x) => isnothing_any c s x (LW.out x hx) hf hok)
  have EVF : Hid (∀ args w, (callFunc 115 args).run Try.prog w = .ok (.enter 115 args) w) := enters_of Try.func115 (by kernel_rfl) rfl
  have EVN : Hid (∀ args w, (callFunc 116 args).run Try.prog w = .ok (.enter 116 args) w) := enters_of Try.func116 (by kernel_rfl) rfl
  have HGT : Hid (gatesT c b = freesM c b (m + 1) ++ c.ands.flatMap (andT b)) := by
    unfold Hid gatesT freesM
    rw [hm, show ((m : Int) + 1).toNat = m + 1 by omega]
  clear h hf he hok hb9 hbt hm
  unfold cirV at CK ⊢
  rw [show cirC c s = #[.int .i64 c.max, .slice s.ai c.ins.length s.ki, .slice s.al c.lats.length s.kl, .slice s.ao c.outs.length s.ko, .slice s.ab c.bads.length s.kb, .slice s.ac c.invs.length s.kc, .slice s.aa c.ands.length s.ka, .slice s.an c.names.length s.kn] from rfl] at CK ⊢
  go_enter Try.func77, Try.ntmps77
  go_wp2_with fail
  refine CK.out.mono ?_
  rintro e w1 ⟨rfl, hb⟩
  have B1 : Hid (Below w.heap.size w w1) := bA.out.trans (hb.mono bA.out.size)
  have G1 : Hid (w1.heap[w.heap.size]? = some (.cells (cirC c s) 27 (0, 0))) := (hb.block _ (lt_of_block GA.out)).trans GA.out
  clear e0 e1 e2 e3 e4 e5 e6 e7 hWA CK hb
  go_wp2
  refine wp_region_valsD (by kernel_rfl) (by kernel_rfl) gt5M (by kernel_rfl) (by kernel_rfl)
    (fun _ w' => Below w1.heap.size w1 w') (gt5R b c s) (Below.refl _ _).drew (fun jj f f' w w' hb hf h => gt5_stab jj (fun _ => hb) (fun _ => hb) (fun _ => hb) (fun _ => hb) hf h) ?_ ?_
  · intro i oo d a' w' ho hd hun hdf hok hD K hK hK0
    match i, ho, hd, hD, hK, hK0, hun with
    | 0, ho, hd, hD, hK, hK0, hun =>
      have e := (congrArg Oper.op (Option.some.inj ho)).symm
      obtain rfl := Option.some.inj ho
      exact wp_val (op_move a' w' 1 _ e) (hK _ _ (Below.refl _ _) hok (fun f h1 _ => (h1 _ rfl).trans (hun 1 (by kernel_rfl))))
    | 1, ho, hd, hD, hK, hK0, hun =>
      have e := (congrArg Oper.op (Option.some.inj ho)).symm
      obtain rfl := Option.some.inj ho
      refine wp_enter (op_call1 a' w' 115 22 3 EVF.out _ e) ?_
      rw [show a'.tmps.getD 22 undef = .int .i64 b from hD 0 (by kernel_rfl)]
      refine (FA.out w').mono ?_
      rintro ee w2 ⟨⟨bx, rfl, -, hat⟩, hb2⟩
      exact .inl ⟨_, rfl, hK _ _ hb2 (hok.trans (hb2.mono hok.size)) (fun f h1 _ => ⟨bx, h1 _ rfl, hat⟩)⟩
    | 2, ho, hd, hD, hK, hK0, hun =>
      have e := (congrArg Oper.op (Option.some.inj ho)).symm
      obtain rfl := Option.some.inj ho
      have hg : w'.heap[w.heap.size]? = some (.cells (cirC c s) 27 (0, 0)) := (hok.block _ (lt_of_block G1.out)).trans G1.out
      exact wp_val (op_load_cirV a' w' w.heap.size 2 c s (hun 2 (by kernel_rfl)) hg _ e) (hK _ _ (Below.refl _ _) hok (fun f h1 _ => h1 _ rfl))
    | 3, ho, hd, hD, hK, hK0, hun =>
      have e := (congrArg Oper.op (Option.some.inj ho)).symm
      obtain rfl := Option.some.inj ho
      refine wp_enter (op_call1 a' w' 116 24 27 EVN.out _ e) ?_
      rw [show a'.tmps.getD 24 undef = cirV c s from hD 2 (by kernel_rfl)]
      refine (NO.out w' (B1.out.trans (hok.mono B1.out.size))).mono ?_
      rintro ee w2 ⟨⟨by0, rfl, hat⟩, hb2⟩
      exact .inl ⟨_, rfl, hK _ _ hb2 (hok.trans (hb2.mono hok.size)) (fun f h1 _ => ⟨by0, h1 _ rfl, hat⟩)⟩
    | 4, ho, hd, hD, hK, hK0, hun =>
      have e := (congrArg Oper.op (Option.some.inj ho)).symm
      obtain rfl := Option.some.inj ho
      obtain ⟨bx, q1, q2⟩ := hD 1 (by kernel_rfl)
      exact wp_val (op_assign a' w' 23 _ e) (hK _ _ (Below.refl _ _) hok (fun f h1 _ => ⟨bx, (h1 _ rfl).trans q1, q2⟩))
    | 5, ho, hd, hD, hK, hK0, hun =>
      have e := (congrArg Oper.op (Option.some.inj ho)).symm
      obtain rfl := Option.some.inj ho
      obtain ⟨bx, q1, q2⟩ := hD 3 (by kernel_rfl)
      exact wp_val (op_assign a' w' 25 _ e) (hK _ _ (Below.refl _ _) hok (fun f h1 _ => ⟨bx, (h1 _ rfl).trans q1, q2⟩))
    | i + 6, ho, _, _, _, _, _ => exact absurd ho (by simp)
  · intro a' w3 hsz hdf hkt hok hR
    have HF3 := frame_sets [8, 9, 22, 23, 24, 25] (by kernel_rfl) hsz hkt
    obtain ⟨d, hok⟩ := hok
    obtain ⟨bx, p8, hbx⟩ := hR 4 (by decide)
    obtain ⟨by0, p9, hno⟩ := hR 5 (by decide)
    have BX := Lib.hid hbx
    have NX := Lib.hid hno
    have B3 : Hid (Below w.heap.size w w3) := B1.out.trans (hok.mono B1.out.size)
    have G3 : Hid (w3.heap[w.heap.size]? = some (.cells (cirC c s) 27 (0, 0))) := (hok.block _ (lt_of_block G1.out)).trans G1.out
    unfold litV vals at p8
    unfold nothV vals at p9
    obtain ⟨tm, df⟩ := a'
    obtain rfl : df = _ := hdf
    simp only [List.foldl_cons, List.foldl_nil] at HF3
    clear hkt hR hsz
    replace p8 : tm.getD 8 undef = _ := p8
    rw [p8] at HF3
    clear p8
    replace p9 : tm.getD 9 undef = _ := p9
    rw [p9] at HF3
    clear p9
    generalize tm.getD 22 undef = y22 at HF3
    generalize tm.getD 23 undef = y23 at HF3
    generalize tm.getD 24 undef = y24 at HF3
    generalize tm.getD 25 undef = y25 at HF3
    simp only [List.setIfInBounds_toArray, List.set_cons_succ, List.set_cons_zero] at HF3
    subst HF3
    clear hok hbx hno FA NO EVF EVN
    obtain ⟨e0, e1, e2, e3, e4, e5, e6, e7⟩ := cells8 G3.out
    rw [HM.out] at e0
    go_wp2
    clear e0 e1 e2 e3 e4 e5 e6 e7
    go_loopw [7, 29] (fun v i wr => ∃ (k : Nat) (vv : Value) (K : List Clz), k ≤ m + 1 ∧ i = .int .i64 k ∧ vv = v ∧ Mk wr w3.heap.size vv K ∧ K.map Clz.l = freesM c b k ∧ K.length ≤ k ∧ Below w3.heap.size w3 wr) (fun _ i _ => m + 1 - (intOf i).toNat)
    case atStart => exact ⟨0, _, [], Nat.zero_le _, rfl, rfl, Mk.nil _ _, rfl, Nat.le_refl _, Below.refl _ _⟩
    case round =>
      obtain ⟨k, v1, K, hk, rfl, rfl, hmk, hkl, hkn, hb⟩ := hrel
      have MK := Lib.hid hmk
      have HKF := Lib.hid hkl
      have HKL := Lib.hid hkn
      have BK := Lib.hid hb
      clear hmk hkl hkn hb
      by_cases hlt : k < m + 1
      · have hkz : (k : Int) < (m : Int) + 1 := by omega
        have N1 := Lib.hid (nothing1_any c HR.out by0 k wr (NX.out.below BK.out (Nat.le_refl _)) (by have := HM.out; omega))
        have HNX := Lib.hid (frees_next c b k)
        cases hfr : freeT c (k : Int) with
        | false =>
          rw [hfr] at N1 HNX
          have HN2 : Hid (K.map Clz.l = freesM c b (k + 1)) := by unfold Hid; rw [HNX.out, HKF.out]; simp
          clear hfr HNX
          go_wp2_with fail
          refine N1.out.mono ?_
          rintro e w' ⟨rfl, rfl⟩
          go_wp2
          go_roundw
          case rel => exact ⟨k + 1, _, K, by omega, by go_num, rfl, MK.out, HN2.out, by have := HKL.out; omega, BK.out⟩
          case measure => simp [intOf]; omega
        | true =>
          rw [hfr] at N1 HNX
          have M1 := Lib.hid (make_any (k : Int) wr (by omega) (by omega))
          have L1 := Lib.hid (from1_any b (2 * (k : Int) + 1) bx wr (by unfold I64; omega) (BX.out.below BK.out BX.out.lt))
          have hlt1 : litT b (2 * (k : Int) + 1) = -(b + (k : Int) + 1) := by
            rw [lit_cap, HBT.out, show min (2 * (k : Int) + 1) 4097 = 2 * (k : Int) + 1 by omega, cnt_pos _ (by omega), if_pos (by omega)]
            omega
          rw [hlt1] at L1
          have HN2 : Hid (K.map Clz.l ++ [[-(b + (k : Int) + 1)]] = freesM c b (k + 1)) := by unfold Hid; rw [HNX.out, HKF.out]; simp
          have HY : Hid (I64 (-(b + (k : Int) + 1))) := by have := HB9.out; unfold Hid I64; omega
          generalize -(b + (k : Int) + 1) = y at *
          clear hfr HNX hlt1
          go_wp2_with fail
          refine N1.out.mono ?_
          rintro e w' ⟨rfl, rfl⟩
          go_wp2_with fail
          refine M1.out.mono ?_
          rintro e w' ⟨rfl, rfl⟩
          go_wp2_with fail
          refine L1.out.mono ?_
          rintro e w2 ⟨rfl, hb2⟩
          have MK2 := Lib.hid (MK.out.below hb2)
          have B2 := Lib.hid (BK.out.trans (hb2.mono BK.out.size))
          clear hb2 L1 M1 N1 MK
          obtain ⟨V1, V2, hV1, hV2, bV, mV, cV, lV⟩ := one_made w2 y (HY.out)
          have MV := Lib.hid mV
          have BV := Lib.hid bV
          have CV := Lib.hid cV
          have LV := Lib.hid lV
          have O2 := Lib.hid (MK2.out.below bV)
          have HONE : Hid (∀ u ∈ [Value.slice (some ⟨w2.heap.size, 0, none⟩) 1 1], u.oneCell' = true) := fun u hu => by
            simp only [List.mem_singleton] at hu
            subst hu; rfl
          clear mV bV cV lV
          go_wp2_with (at_builtin; refine wpList_push_far _ rfl (.tmp 35) (.tmp 41) 58 rfl 22 1 24 (.slice none 0 0) Try.underlying58 row_info rfl (by decide) w3.heap.size v1 _ O2.out.own rfl V1.heap.size 1 rfl [.slice (some ⟨w2.heap.size, 0, none⟩) 1 1] CV.out rfl HONE.out (by have h1 := HKL.out; rw [List.length_map]; omega) (by have h1 := HKL.out; rw [List.length_map]; omega) (Nat.le_trans B2.out.size BV.out.size) ?_)
          intro v2 w6 hown hbel hkeep
          have MK6 : Hid (Mk w6 w3.heap.size v2 (K ++ [(⟨[y], some ⟨w2.heap.size, 0, none⟩, 1⟩ : Clz)])) := O2.out.push MV.out hown hkeep
          have B6 : Hid (Below w3.heap.size w3 w6) := (B2.out.trans (BV.out.mono B2.out.size)).trans hbel
          clear hown hbel hkeep hV1 hV2
          go_wp2
          go_roundw
          case rel => exact ⟨k + 1, _, _, by omega, by go_num, rfl, MK6.out, by rw [List.map_append]; exact HN2.out, by have := HKL.out; simp; omega, B6.out⟩
          case measure => simp [intOf]; omega
      · have HKE : Hid (k = m + 1) := by unfold Hid; omega
        have hkz : ¬ (k : Int) < (m : Int) + 1 := by omega
        clear hlt
        obtain ⟨wq, rfl⟩ : ∃ x, x = wr := ⟨_, rfl⟩
        have GQ : Hid (wq.heap[w.heap.size]? = some (.cells (cirC c s) 27 (0, 0))) := (BK.out.block _ (lt_of_block G3.out)).trans G3.out
        obtain ⟨e0, e1, e2, e3, e4, e5, e6, e7⟩ := cells8 GQ.out
        go_wp2
        clear e0 e1 e2 e3 e4 e5 e6 e7
        go_loopw [7, 47] (fun v i wr => ∃ (j : Nat) (vv : Value) (K : List Clz), j ≤ c.ands.length ∧ i = .int .i64 j ∧ vv = v ∧ Mk wr w3.heap.size vv K ∧ K.map Clz.l = freesM c b (m + 1) ++ (c.ands.take j).flatMap (andT b) ∧ K.length ≤ m + 1 + 3 * j ∧ Below w3.heap.size w3 wr) (fun _ i _ => c.ands.length - (intOf i).toNat)
        case atStart => exact ⟨0, _, K, Nat.zero_le _, rfl, rfl, MK.out, by rw [HKF.out, HKE.out]; simp, by have := HKL.out; have := HKE.out; omega, BK.out⟩
        case round =>
          clear MK HKF HKL BK GQ hk hkz HKE
          obtain ⟨j, v1, K, hj, rfl, rfl, hmk, hkl, hkn, hb⟩ := hrel
          have MK := Lib.hid hmk
          have HKF := Lib.hid hkl
          have HKL := Lib.hid hkn
          have BK := Lib.hid hb
          clear hmk hkl hkn hb
          have za : c.ands.length ≤ 4097 := HZ.out.2.2.2.2.2
          by_cases hlt : j < c.ands.length
          · obtain ⟨b0, o, hA, -, c0, c1, c2⟩ := LRow.tri (LW.out wr (B3.out.trans (BK.out.mono B3.out.size))).ands hlt
            have HNX := Lib.hid (ands_next c b j hlt)
            have HT := Lib.hid (HF.out.ands _ (List.getElem_mem hlt))
            rw [hA]
            clear hA
            generalize c.ands[j] = t at *
            obtain ⟨wt, hwt⟩ : ∃ x, wr.alloc (.cells #[.int .i64 t.a, .int .i64 t.b, .int .i64 t.c] 43) = x := ⟨_, rfl⟩
            have bt : Below wr.heap.size wr wt := by rw [← hwt]; exact (Below.refl _ _).alloc (Nat.le_refl _) _
            have KT : Hid (wt.heap[wr.heap.size]? = some (.cells #[.int .i64 t.a, .int .i64 t.b, .int .i64 t.c] 43 (0, 0))) := by unfold Hid; rw [← hwt]; exact Array.getElem?_push_size
            have MT := Lib.hid (MK.out.below bt)
            have BT : Hid (Below w3.heap.size w3 wt) := BK.out.trans (bt.mono BK.out.size)
            have BXT := Lib.hid (BX.out.below BT.out BX.out.lt)
            have K1 := Lib.hid (fun (u : Wd wt.heap.size wt) => Calls.in_wd u (from1_any b t.a bx u.w HT.out.1 (BXT.out.below u.ok BXT.out.lt)) (Nat.le_refl _))
            have K2 := Lib.hid (fun (u : Wd wt.heap.size wt) => Calls.in_wd u (from1_any b t.b bx u.w HT.out.2.1 (BXT.out.below u.ok BXT.out.lt)) (Nat.le_refl _))
            have K3 := Lib.hid (fun (u : Wd wt.heap.size wt) => Calls.in_wd u (from1_any b t.c bx u.w HT.out.2.2 (BXT.out.below u.ok BXT.out.lt)) (Nat.le_refl _))
            obtain ⟨r0, r1, r2⟩ := and_box KT.out
            have u0 := Wd.cell r0
            have u1 := Wd.cell r1
            have u2 := Wd.cell r2
            have HN2 : Hid (K.map Clz.l ++ [[-litT b t.a, litT b t.b], [-litT b t.a, litT b t.c], [litT b t.a, -litT b t.b, -litT b t.c]] = freesM c b (m + 1) ++ (c.ands.take (j + 1)).flatMap (andT b)) := by
              unfold Hid; rw [HNX.out, HKF.out, ← List.append_assoc]; rfl
            obtain ⟨hx0, hx1⟩ := lit_fits b t.a
            obtain ⟨hy0, hy1⟩ := lit_fits b t.b
            obtain ⟨hz0, hz1⟩ := lit_fits b t.c
            generalize litT b t.a = x at *
            generalize litT b t.b = y at *
            generalize litT b t.c = z at *
            clear HNX bt
            go_wp2
            clear hwt c0 c1 c2 r0 r1 r2
            refine wp_region_wd (by kernel_rfl) (by kernel_rfl) ?_
            repeat (first | go_big_quiet_skip | (go_big_quiet_want; go_big_quiet_op; first | go_big_quiet_on | (apply Exists.intro; refine ⟨fun u => ?_, ?_⟩; (first | (go_at_call 143; first | with_reducible exact K1.out u | with_reducible exact K2.out u | with_reducible exact K3.out u)); go_big_quiet_on)))
            refine wpQuiet_nil ?_
            intro w2 hw'
            obtain ⟨⟨_, hb9⟩, hw''⟩ := hw'
            subst hw''
            have MK2 := Lib.hid (MT.out.below hb9)
            have B2 := Lib.hid (BT.out.trans (hb9.mono BT.out.size))
            clear hb9 K1 K2 K3 u0 u1 u2 MT MK
            obtain ⟨V1, V2, V3, V4, hV1, hV2, hV3, hV4, bV, mV, rV⟩ := three_made w2 x y z (by unfold I64; omega) (by unfold I64; omega) (by unfold I64; omega)
            have MV := Lib.hid mV
            have BV := Lib.hid bV
            have RV := Lib.hid rV
            have O2 := Lib.hid (MK2.out.below bV)
            clear mV bV rV
            go_wp2_with (at_builtin; refine wpList_append_row _ rfl (.tmp 63) (.tmp 78) 58 rfl w3.heap.size V4.heap.size 22 1 24 (.slice none 0 0) Try.underlying58 row_info rfl (by decide) v1 _ _ rfl O2.out.own (some ⟨V3.heap.size, 0, none⟩) 3 3 rfl rfl RV.out (fun y hy => cells_len _ y hy) (fun y hy => cells_one _ y hy) (by have h1 := HKL.out; rw [List.length_map]; simp; omega) (by have h1 := HKL.out; rw [List.length_map]; simp; omega) (Nat.le_trans B2.out.size BV.out.size) ?_)
            intro v2 w6 hown hbel hkeep
            have MK6 : Hid (Mk w6 w3.heap.size v2 (K ++ [(⟨[-x, y], some ⟨w2.heap.size, 0, none⟩, 2⟩ : Clz), ⟨[-x, z], some ⟨V1.heap.size, 0, none⟩, 2⟩, ⟨[x, -y, -z], some ⟨V2.heap.size, 0, none⟩, 3⟩])) := O2.out.push MV.out hown hkeep
            have B6 : Hid (Below w3.heap.size w3 w6) := (B2.out.trans (BV.out.mono B2.out.size)).trans hbel
            clear hown hbel hkeep hV1 hV2 hV3 hV4
            go_wp2
            go_roundw
            case rel => exact ⟨j + 1, _, _, by omega, by go_num, rfl, MK6.out, by rw [List.map_append]; exact HN2.out, by have := HKL.out; simp; omega, B6.out⟩
            case measure => simp [intOf]; omega
          · obtain rfl : j = c.ands.length := by omega
            have HE : Hid (K.map Clz.l = gatesT c b) := by unfold Hid; rw [HKF.out, HGT.out, List.take_length]
            obtain ⟨A', q', hv, hz⟩ := MK.out.lies
            have HV := Lib.hid hv
            have HL : Hid (Mk wr w.heap.size (.slice A' K.length q') K) := by have h := MK.out; rw [hv] at h; exact ⟨h.own.base B3.out.size, h.each⟩
            have BE := Lib.hid (B3.out.trans (BK.out.mono B3.out.size))
            clear hv hz HKF
            go_wp2
            go_ret2
            exact ⟨⟨K, A', q', by rw [← HV.out]; rfl, HL.out, HE.out⟩, BE.out⟩
end Go.Proofs.Ytbgcoeejmnejdaa.Tse
namespace Go.Proofs.Ytbgcoeejmnejdaa.Tse
open Go.ChangeShapes Go.WideShapes Go.ChangeAt Go.RowKit Go.Maps Circ Cw Str Sim Rep Cla

set_option maxHeartbeats 16000000 in
set_option maxRecDepth 100000 in
theorem force_made (c : Cir) (s : Places) (L : List Clz) (A : Option Addr) (q : Nat) (b : Int) (w : World) (h : CLies w w.heap.size c s) (hf : CFits c s) (hA : ALies w w.heap.size A L) (hn : L.length * 3 ≤ 17592186044416) (hz : ∀ z ∈ L, z.l.length ≤ 17592186044416) (he : errT c b = 0) :
    Calls Try.prog 78 #[cirV c s, .slice A L.length q, .int .i64 b] w fun e w' => (∃ K A' q', e = .returned (.tuple #[.slice A' K.length q', .int .i64 0]) ∧ Mk w' w.heap.size (.slice A' K.length q') K ∧ K.map Clz.l = forceT c (L.map Clz.l) b) ∧ Below w.heap.size w w' := by
  obtain ⟨WA, hWA⟩ : ∃ x, w.alloc (.cells #[.int .i64 c.max, .slice s.ai c.ins.length s.ki, .slice s.al c.lats.length s.kl, .slice s.ao c.outs.length s.ko, .slice s.ab c.bads.length s.kb, .slice s.ac c.invs.length s.kc, .slice s.aa c.ands.length s.ka, .slice s.an c.names.length s.kn] 27) = x := ⟨_, rfl⟩
  have bA : Hid (Below w.heap.size w WA) := by unfold Hid; rw [← hWA]; exact (Below.refl _ _).alloc (Nat.le_refl _) _
  have GA : Hid (WA.heap[w.heap.size]? = some (.cells (cirC c s) 27 (0, 0))) := by unfold Hid; rw [← hWA]; exact Array.getElem?_push_size
  obtain ⟨e0, e1, e2, e3, e4, e5, e6, e7⟩ := cells8 GA.out
  have LW : Hid (∀ x, Below w.heap.size w x → CLies x x.heap.size c s) := fun x hx => (h.below hx).more hx.size
  have CK := Lib.hid (pcheck_any c s b WA (LW.out WA bA.out) hf)
  rw [he] at CK
  have hok : refOk c = true := by
    cases hr : refOk c with
    | true => rfl
    | false => unfold errT at he; rw [hr, if_pos rfl] at he; cases he
  have HF := Lib.hid hf
  have HZ := Lib.hid (ref_sizes hok)
  have HZL := Lib.hid hz
  have HNL := Lib.hid hn
  have AL := Lib.hid hA
  have hLL := hA.len
  have FA := Lib.hid (fun x => from_any b x)
  clear h hf he hok hA hn hz
  unfold cirV at CK ⊢
  rw [show cirC c s = #[.int .i64 c.max, .slice s.ai c.ins.length s.ki, .slice s.al c.lats.length s.kl, .slice s.ao c.outs.length s.ko, .slice s.ab c.bads.length s.kb, .slice s.ac c.invs.length s.kc, .slice s.aa c.ands.length s.ka, .slice s.an c.names.length s.kn] from rfl] at CK ⊢
  go_enter Try.func78, Try.ntmps78
  go_wp2_with fail
  refine CK.out.mono ?_
  rintro e w1 ⟨rfl, hb⟩
  have B1 : Hid (Below w.heap.size w w1) := bA.out.trans (hb.mono bA.out.size)
  have G1 : Hid (w1.heap[w.heap.size]? = some (.cells (cirC c s) 27 (0, 0))) := (hb.block _ (lt_of_block GA.out)).trans GA.out
  clear e0 e1 e2 e3 e4 e5 e6 e7 hWA CK hb
  obtain ⟨e0, e1, e2, e3, e4, e5, e6, e7⟩ := cells8 G1.out
  go_wp2_with fail
  refine (FA.out w1).mono ?_
  unfold litV
  rintro e w3 ⟨⟨bx, rfl, -, hbx⟩, hb⟩
  have BX := Lib.hid hbx
  have B3 : Hid (Below w.heap.size w w3) := B1.out.trans (hb.mono B1.out.size)
  have G3 : Hid (w3.heap[w.heap.size]? = some (.cells (cirC c s) 27 (0, 0))) := (hb.block _ (lt_of_block G1.out)).trans G1.out
  clear e0 e1 e2 e3 e4 e5 e6 e7 hbx hb FA
  obtain ⟨e0, e1, e2, e3, e4, e5, e6, e7⟩ := cells8 G3.out
  go_wp2
  clear e0 e1 e2 e3 e4 e5 e6 e7
  go_loopw [9, 26] (fun v i wr => ∃ (k : Nat) (vv : Value) (K : List Clz), k ≤ c.invs.length ∧ i = .int .i64 k ∧ vv = v ∧ Mk wr w3.heap.size vv K ∧ K.map Clz.l = (c.invs.take k).map (fun l => [litT b l]) ∧ K.length ≤ k ∧ Below w3.heap.size w3 wr) (fun _ i _ => c.invs.length - (intOf i).toNat)
  case atStart => exact ⟨0, _, [], Nat.zero_le _, rfl, rfl, Mk.nil _ _, rfl, Nat.le_refl _, Below.refl _ _⟩
  case round =>
    obtain ⟨k, v1, K, hk, rfl, rfl, hmk, hkl, hkn, hb⟩ := hrel
    have MK := Lib.hid hmk
    have HKF := Lib.hid hkl
    have HKL := Lib.hid hkn
    have BK := Lib.hid hb
    clear hmk hkl hkn hb
    have zi : c.invs.length ≤ 64 := HZ.out.2.2.2.2.1
    by_cases hlt : k < c.invs.length
    · obtain ⟨b0, o, hA, -, hc⟩ := LRow.int (LW.out wr (B3.out.trans (BK.out.mono B3.out.size))).invs hlt
      have L1 := Lib.hid (from1_any b c.invs[k] bx wr (HF.out.invs _ (List.getElem_mem hlt)) (BX.out.below BK.out BX.out.lt))
      have HN2 : Hid (K.map Clz.l ++ [[litT b c.invs[k]]] = (c.invs.take (k + 1)).map (fun l => [litT b l])) := by
        unfold Hid; rw [List.take_succ_eq_append_getElem hlt, List.map_append, HKF.out]; rfl
      have HY : Hid (I64 (litT b c.invs[k])) := lit_i64 _ _
      rw [hA]
      clear hA
      generalize litT b c.invs[k] = y at *
      generalize c.invs[k] = x at *
      go_wp2_with fail
      refine L1.out.mono ?_
      rintro e w2 ⟨rfl, hb2⟩
      have MK2 := Lib.hid (MK.out.below hb2)
      have B2 := Lib.hid (BK.out.trans (hb2.mono BK.out.size))
      clear hb2 L1 MK hc
      obtain ⟨V1, V2, hV1, hV2, bV, mV, cV, lV⟩ := one_made w2 y (HY.out)
      have MV := Lib.hid mV
      have BV := Lib.hid bV
      have CV := Lib.hid cV
      have LV := Lib.hid lV
      have O2 := Lib.hid (MK2.out.below bV)
      have HONE : Hid (∀ u ∈ [Value.slice (some ⟨w2.heap.size, 0, none⟩) 1 1], u.oneCell' = true) := fun u hu => by
        simp only [List.mem_singleton] at hu
        subst hu; rfl
      clear mV bV cV lV
      go_wp2_with (at_builtin; refine wpList_push_far _ rfl (.tmp 30) (.tmp 35) 58 rfl 22 1 24 (.slice none 0 0) Try.underlying58 row_info rfl (by decide) w3.heap.size v1 _ O2.out.own rfl V1.heap.size 1 rfl [.slice (some ⟨w2.heap.size, 0, none⟩) 1 1] CV.out rfl HONE.out (by have h1 := HKL.out; rw [List.length_map]; omega) (by have h1 := HKL.out; rw [List.length_map]; omega) (Nat.le_trans B2.out.size BV.out.size) ?_)
      intro v2 w6 hown hbel hkeep
      have MK6 : Hid (Mk w6 w3.heap.size v2 (K ++ [(⟨[y], some ⟨w2.heap.size, 0, none⟩, 1⟩ : Clz)])) := O2.out.push MV.out hown hkeep
      have B6 : Hid (Below w3.heap.size w3 w6) := (B2.out.trans (BV.out.mono B2.out.size)).trans hbel
      clear hown hbel hkeep hV1 hV2
      go_wp2
      go_roundw
      case rel => exact ⟨k + 1, _, _, by omega, by go_num, rfl, MK6.out, by rw [List.map_append]; exact HN2.out, by have := HKL.out; simp; omega, B6.out⟩
      case measure => simp [intOf]; omega
    · obtain rfl : k = c.invs.length := by omega
      obtain ⟨wq, rfl⟩ : ∃ x, x = wr := ⟨_, rfl⟩
      go_wp2
      go_loopw [9, 40] (fun v i wr => ∃ (j : Nat) (vv : Value) (K : List Clz), j ≤ L.length ∧ i = .int .i64 j ∧ vv = v ∧ Mk wr w3.heap.size vv K ∧ K.map Clz.l = (c.invs.map fun l => [litT b l]) ++ ((L.take j).map Clz.l).map (fun l => l.map (litT b)) ∧ K.length ≤ 64 + j ∧ Below w3.heap.size w3 wr) (fun _ i _ => L.length - (intOf i).toNat)
      case atStart => exact ⟨0, _, K, Nat.zero_le _, rfl, rfl, MK.out, by rw [HKF.out, List.take_length]; simp, by have := HKL.out; omega, BK.out⟩
      case round =>
        clear MK HKF HKL BK hk
        obtain ⟨j, v1, K, hj, rfl, rfl, hmk, hkl, hkn, hb⟩ := hrel
        have MK := Lib.hid hmk
        have HKF := Lib.hid hkl
        have HKL := Lib.hid hkn
        have BK := Lib.hid hb
        clear hmk hkl hkn hb
        by_cases hlt : j < L.length
        · obtain ⟨b0, o, hA, -, hc⟩ := (AL.out.below (B3.out.trans (BK.out.mono B3.out.size))).at hlt
          have hl2 : ILies wr wr.heap.size L[j].A L[j].l := by
            have hq := (B3.out.trans (BK.out.mono B3.out.size))
            exact clz_lies (((AL.out.below hq).more hq.size).each _ (List.getElem_mem hlt))
          have E1 := Lib.hid (each_any b bx L[j].l L[j].A L[j].q wr hl2 (BX.out.below BK.out BX.out.lt) (by have := HZL.out _ (List.getElem_mem hlt); omega))
          have HN2 : Hid (K.map Clz.l ++ [L[j].l.map (litT b)] = (c.invs.map fun l => [litT b l]) ++ ((L.take (j + 1)).map Clz.l).map (fun l => l.map (litT b))) := by
            unfold Hid; rw [List.take_succ_eq_append_getElem hlt, List.map_append, List.map_append, HKF.out, List.append_assoc]; rfl
          subst hA
          clear hl2
          unfold litV at E1
          generalize L[j].l.map (litT b) = ys at *
          generalize L[j] = z at *
          go_wp2_with fail
          refine E1.out.mono ?_
          rintro e w2 ⟨⟨A5, q5, rfl, hmz⟩, hb2⟩
          have MK2 := Lib.hid (MK.out.below hb2)
          have B2 := Lib.hid (BK.out.trans (hb2.mono BK.out.size))
          have MZ := Lib.hid hmz
          clear hb2 hmz E1 MK hc
          obtain ⟨V2, hV2⟩ : ∃ x, w2.alloc (.cells #[.slice A5 ys.length q5] 22) = x := ⟨_, rfl⟩
          have bV : Below w2.heap.size w2 V2 := by rw [← hV2]; exact (Below.refl _ _).alloc (Nat.le_refl _) _
          have CV : Hid (∀ (j : Nat) u, [Value.slice A5 ys.length q5][j]? = some u → V2.cell? ⟨w2.heap.size, j, none⟩ = some u) := fun j u hj => by
            rw [← hV2, Lib.cell_of_heap (show (w2.alloc (.cells #[.slice A5 ys.length q5] 22)).heap[w2.heap.size]? = some (.cells #[.slice A5 ys.length q5] 22 (0, 0)) from Array.getElem?_push_size)]; simpa using hj
          have MV : Hid (∀ q ∈ [(⟨ys, A5, q5⟩ : Clz)], Mz V2 q) := fun q hq => by rw [List.mem_singleton.1 hq]; exact MZ.out.below bV
          have O2 := Lib.hid (MK2.out.below bV)
          have BV := Lib.hid bV
          have HONE : Hid (∀ u ∈ [Value.slice A5 ys.length q5], u.oneCell' = true) := fun u hu => by
            simp only [List.mem_singleton] at hu
            subst hu; rfl
          clear bV MZ MK2
          go_wp2_with (at_builtin; refine wpList_push_far _ rfl (.tmp 44) (.tmp 48) 58 rfl 22 1 24 (.slice none 0 0) Try.underlying58 row_info rfl (by decide) w3.heap.size v1 _ O2.out.own rfl w2.heap.size 1 rfl [.slice A5 ys.length q5] CV.out rfl HONE.out (by have h1 := HKL.out; have h2 := HNL.out; rw [List.length_map]; omega) (by have h1 := HKL.out; have h2 := HNL.out; rw [List.length_map]; omega) (Nat.le_trans B2.out.size BV.out.size) ?_)
          intro v2 w6 hown hbel hkeep
          have MK6 : Hid (Mk w6 w3.heap.size v2 (K ++ [(⟨ys, A5, q5⟩ : Clz)])) := O2.out.push MV.out hown hkeep
          have B6 : Hid (Below w3.heap.size w3 w6) := (B2.out.trans (BV.out.mono B2.out.size)).trans hbel
          clear hown hbel hkeep hV2
          go_wp2
          go_roundw
          case rel => exact ⟨j + 1, _, _, by omega, by go_num, rfl, MK6.out, by rw [List.map_append]; exact HN2.out, by have := HKL.out; simp; omega, B6.out⟩
          case measure => simp [intOf]; omega
        · obtain rfl : j = L.length := by omega
          have HE : Hid (K.map Clz.l = forceT c (L.map Clz.l) b) := by unfold Hid forceT; rw [HKF.out, List.take_length]
          obtain ⟨A', q', hv, hz⟩ := MK.out.lies
          have HV := Lib.hid hv
          have HL : Hid (Mk wr w.heap.size (.slice A' K.length q') K) := by have h := MK.out; rw [hv] at h; exact ⟨h.own.base B3.out.size, h.each⟩
          have BE := Lib.hid (B3.out.trans (BK.out.mono B3.out.size))
          clear hv hz HKF
          go_wp2
          go_ret2
          exact ⟨⟨K, A', q', by rw [← HV.out]; rfl, HL.out, HE.out⟩, BE.out⟩
end Go.Proofs.Ytbgcoeejmnejdaa.Tse
namespace Go.Proofs.Ytbgcoeejmnejdaa.Unr
open Go.ChangeShapes Go.WideShapes Go.ChangeAt Go.RowKit Go.Maps Circ Cw Str Sim Rep Cla Tse

/-- may a frame not be? -/
def notF (f : Int) : Bool := decide (f < 0) || decide (80 < f)
def mayM (c : Cir) (l : List Int) : Bool := !(l.any notF) && refOk c
theorem may_right (c : Cir) (f : Int) : mayM c [f] = rightM c f := by
  unfold mayM rightM notF
  rw [List.any_cons, List.any_nil, Bool.or_false]
  by_cases h0 : f < 0
  · rw [decide_eq_true h0, decide_eq_false (show ¬ 0 ≤ f by omega)]; rfl
  · rw [decide_eq_false h0, decide_eq_true (show 0 ≤ f by omega)]
    by_cases h1 : 80 < f
    · rw [decide_eq_true h1, decide_eq_false (show ¬ f ≤ 80 by omega)]; rfl
    · rw [decide_eq_false h1, decide_eq_true (show f ≤ 80 by omega)]; rfl
theorem max_small {c : Cir} (h : refOk c = true) : 0 ≤ c.max ∧ c.max ≤ 2048 := by obtain ⟨m, hm, hm2⟩ := max_nat h; omega
/-- what latch k is in a frame that begins at b; 0: no latch -/
def latK (c : Cir) (b k : Int) : Int := if 1 ≤ k ∧ k ≤ (c.lats.length : Int) then litT b (c.lats.getD (k - 1).toNat ⟨0, 0, 0⟩).a else if -(c.lats.length : Int) ≤ k ∧ k ≤ -1 then -litT b (c.lats.getD (-k - 1).toNat ⟨0, 0, 0⟩).a else 0
theorem lit_own {b a : Int} (h0 : 0 ≤ b) (h1 : b ≤ 262144) (h2 : 2 ≤ a) (he : a % 2 = 0) (hm : a / 2 ≤ 2048) : litT b a = b + a / 2 + 1 := by
  rw [lit_cap]
  have hb : baseT b = b := by unfold baseT; rw [if_neg (by omega), if_neg (by omega)]
  rw [hb, show min a 4097 = a by omega, cnt_pos _ (by omega), if_neg (by omega)]
theorem latK_lat {c : Cir} (hr : refOk c = true) {b k : Int} (h0 : 0 ≤ b) (h1 : b ≤ 262144) (hk : k ≠ 0) (hk1 : -(c.lats.length : Int) ≤ k) (hk2 : k ≤ (c.lats.length : Int)) : latK c b k = latT c b k := by
  have hm := max_small hr
  unfold latK latT
  by_cases hp : 0 < k
  · rw [if_pos (by omega), if_neg (by omega)]
    have hi : (k - 1).toNat < c.lats.length := by omega
    obtain ⟨g1, g2, g3⟩ := lat_own hr hi
    rw [getD_lat hi]
    exact lit_own h0 h1 g1 g2 (by omega)
  · rw [if_neg (by omega), if_pos (by omega), if_pos (by omega)]
    have hi : (-k - 1).toNat < c.lats.length := by omega
    obtain ⟨g1, g2, g3⟩ := lat_own hr hi
    rw [getD_lat hi, lit_own h0 h1 g1 g2 (by omega)]
theorem latK_fits (c : Cir) (b k : Int) : -264193 ≤ latK c b k ∧ latK c b k ≤ 264193 := by
  unfold latK
  split
  · exact lit_fits _ _
  · split
    · have := lit_fits b (c.lats.getD (-k - 1).toNat ⟨0, 0, 0⟩).a
      omega
    · omega
theorem latK_i64 (c : Cir) (b k : Int) : I64 (latK c b k) := by have := latK_fits c b k; unfold I64; omega
set_option maxRecDepth 100000 in
theorem may1_any (f : Int) (w : World) : Calls Try.prog 113 #[.int .i64 f] w fun e w' => e = .returned (.bool (notF f)) ∧ w = w' := by
  by_cases h0 : f < 0
  · have h : notF f = true := by unfold notF; rw [decide_eq_true h0]; rfl
    rw [h]
    go_enter Try.func113, Try.ntmps113
    go_wp2
    go_ret
    exact ⟨rfl, rfl⟩
  · by_cases h1 : 80 < f
    · have h : notF f = true := by unfold notF; rw [decide_eq_true h1, Bool.or_true]
      rw [h]
      go_enter Try.func113, Try.ntmps113
      go_wp2
      go_ret
      exact ⟨rfl, rfl⟩
    · have h : notF f = false := by unfold notF; rw [decide_eq_false h0, decide_eq_false h1]; rfl
      rw [h]
      go_enter Try.func113, Try.ntmps113
      go_wp2
      go_ret
      exact ⟨rfl, rfl⟩
set_option maxHeartbeats 16000000 in
set_option maxRecDepth 100000 in
theorem may_any (c : Cir) (s : Places) (l : List Int) (A : Option Addr) (q : Nat) (w : World) (h : CLies w w.heap.size c s) (hf : CFits c s) (hl : ILies w w.heap.size A l) :
    Calls Try.prog 75 #[cirV c s, .slice A l.length q] w fun e w' => e = .returned (.bool (mayM c l)) ∧ Below w.heap.size w w' := by
  obtain ⟨WA, hWA⟩ : ∃ x, w.alloc (.cells #[.int .i64 c.max, .slice s.ai c.ins.length s.ki, .slice s.al c.lats.length s.kl, .slice s.ao c.outs.length s.ko, .slice s.ab c.bads.length s.kb, .slice s.ac c.invs.length s.kc, .slice s.aa c.ands.length s.ka, .slice s.an c.names.length s.kn] 27) = x := ⟨_, rfl⟩
  have bA : Hid (Below w.heap.size w WA) := by unfold Hid; rw [← hWA]; exact (Below.refl _ _).alloc (Nat.le_refl _) _
  have GA : Hid (WA.heap[w.heap.size]? = some (.cells (cirC c s) 27 (0, 0))) := by unfold Hid; rw [← hWA]; exact Array.getElem?_push_size
  have GW : Hid (∀ x, Below WA.heap.size WA x → x.heap[w.heap.size]? = some (.cells (cirC c s) 27 (0, 0))) := fun x hx => (hx.block _ (lt_of_block GA.out)).trans GA.out
  have CW : Hid (∀ x, Below WA.heap.size WA x → CLies x x.heap.size c s) := fun x hx => by
    have h1 := bA.out.trans (hx.mono bA.out.size)
    exact (h.below h1).more h1.size
  have EV : ∀ args w, (callFunc 113 args).run Try.prog w = .ok (.enter 113 args) w := enters_of Try.func113 (by kernel_rfl) rfl
  have C := Lib.hid (contains52_any 113 #[] l A q notF WA hl.len EV ((hl.row.below bA.out).more bA.out.size) (fun i hi x hx => by
    refine (may1_any l[i] x).mono ?_
    rintro e w' ⟨rfl, rfl⟩
    exact ⟨rfl, hx⟩))
  have HO : refOk c = decide (chkV c = 0) := by
    rw [← chk_same]
    cases hc : chk c with
    | true => rw [chkV_yes c hc]; rfl
    | false => rw [chkV_no c hc]; rfl
  have CK := Lib.hid (fun x (hx : Below WA.heap.size WA x) => check_any c s x (CW.out x hx) hf)
  clear EV h hf hl
  unfold mayM
  rw [HO]
  clear HO
  generalize chkV c = y at *
  unfold cirV at CK ⊢
  rw [show cirC c s = #[.int .i64 c.max, .slice s.ai c.ins.length s.ki, .slice s.al c.lats.length s.kl, .slice s.ao c.outs.length s.ko, .slice s.ab c.bads.length s.kb, .slice s.ac c.invs.length s.kc, .slice s.aa c.ands.length s.ka, .slice s.an c.names.length s.kn] from rfl] at CK ⊢
  cases hn : l.any notF with
  | true =>
    rw [hn] at C
    go_enter Try.func75, Try.ntmps75
    go_wp2_with fail
    refine C.out.mono ?_
    rintro e w1 ⟨rfl, hb⟩
    have B1 : Hid (Below w.heap.size w w1) := bA.out.trans (hb.mono bA.out.size)
    clear hb C hWA
    go_wp2
    go_ret
    exact ⟨rfl, B1.out⟩
  | false =>
    rw [hn] at C
    go_enter Try.func75, Try.ntmps75
    go_wp2_with fail
    refine C.out.mono ?_
    rintro e w1 ⟨rfl, hb⟩
    have B1 := Lib.hid hb
    clear hb C hWA hn
    obtain ⟨e0, e1, e2, e3, e4, e5, e6, e7⟩ := cells8 (GW.out _ B1.out)
    have CK1 := Lib.hid (CK.out w1 B1.out)
    go_wp2_with fail
    refine CK1.out.mono ?_
    rintro e w2 ⟨rfl, hb⟩
    have B2 : Hid (Below w.heap.size w w2) := bA.out.trans ((B1.out.trans (hb.mono B1.out.size)).mono bA.out.size)
    clear hb CK CK1 e0 e1 e2 e3 e4 e5 e6 e7
    by_cases hy : y = 0
    · subst hy
      go_wp2
      go_ret
      exact ⟨rfl, B2.out⟩
    · have hyb : (y == 0) = false := by rw [beq_eq_false_iff_ne]; exact hy
      go_wp2
      go_ret
      exact ⟨by rw [decide_eq_false hy]; rfl, B2.out⟩
end Go.Proofs.Ytbgcoeejmnejdaa.Unr
