/- Lists of a call's own whose elements are written over, one by one; literals that are named lie within bounds; no condition. What stays while aig's Order writes its copy's lists over; no condition. -/
import Derived.Test.YtopjddmgejfalaaGreatDoorPk28
import Derived.Test.YtopjddmgejfalaaGreatDoorPk31
namespace Go.Proofs.YtopjddmgejfalaaGreatDoor.Aig
open Go.ChangeShapes Go.WideShapes Go.ChangeAt Go.RowKit Dig Circ Cw Aag

theorem put_row {w w' : World} {B : Nat} {e : TypeId} {m g q : Nat} {xs : List (List Value)} {cur cur' : Array Value} (h : OwnC w B e m (.slice (some ⟨g, 0, none⟩) xs.length q) xs) (hm : 0 < m) (hx : ∀ y ∈ xs, y.length = m) (i : Nat) (hi : i < xs.length) (ys : List Value) (hy : ys.length = m)
    (hg : w.heap[g]? = some (.cells cur e (0, 0))) (hg' : w'.heap[g]? = some (.cells cur' e (0, 0))) (hsz : cur'.size = cur.size) (hk : ∀ k, k < cur.size → cur'[k]? = if k / m = i then ys[k % m]? else cur[k]?) :
    OwnC w' B e m (.slice (some ⟨g, 0, none⟩) xs.length q) (xs.set i ys) := by
  have hx' : ∀ y ∈ xs.set i ys, y.length = m := fun y hy' => by
    rcases List.mem_or_eq_of_mem_set hy' with h1 | h1
    · exact hx y h1
    · rw [h1]; exact hy
  obtain ⟨h0, h⟩ := h
  rcases h with ⟨hv, _⟩ | ⟨g1, cap, c1, hv, hb, hh, hn, hc, hs, ht⟩
  · simp at hv
  · simp only [Value.slice.injEq, Option.some.injEq, Addr.mk.injEq, and_true, true_and] at hv
    obtain ⟨rfl, rfl⟩ := hv
    rw [hh] at hg
    simp only [Option.some.injEq, Obj.cells.injEq, and_true] at hg
    subst hg
    have hle : xs.length * m ≤ q * m := Nat.mul_le_mul_right _ hn
    refine ⟨by rw [flatten_len m _ hx'], .inr ⟨g, q, cur', by rw [List.length_set], hb, hg', by rw [List.length_set]; exact hn, hc, by rw [hsz]; exact hs, ?_⟩⟩
    apply List.ext_getElem?
    intro k
    rw [List.getElem?_take, List.length_set]
    by_cases hkl : k < xs.length * m
    · rw [if_pos hkl, flatten_at m hm _ hx', Array.getElem?_toList, hk k (by omega)]
      have hkm : k / m < xs.length := Nat.div_lt_of_lt_mul (by rw [Nat.mul_comm]; exact hkl)
      by_cases hki : k / m = i
      · rw [if_pos hki, hki, List.getElem?_set_self hi]; rfl
      · rw [if_neg hki, List.getElem?_set_ne (Ne.symm hki), ← flatten_at m hm xs hx, ← ht, List.getElem?_take, if_pos hkl, Array.getElem?_toList]
    · rw [if_neg hkl, List.getElem?_eq_none]
      rw [flatten_len m _ hx', List.length_set]; omega
theorem own_block {w : World} {B : Nat} {e : TypeId} {m n q : Nat} {A : Option Addr} {xs : List (List Value)} (h : OwnC w B e m (.slice A n q) xs) (hn : 0 < xs.length) : ∃ g cur, A = some ⟨g, 0, none⟩ ∧ n = xs.length ∧ B ≤ g ∧ w.heap[g]? = some (.cells cur e (0, 0)) ∧ xs.length * m ≤ cur.size := by
  obtain ⟨h0, h⟩ := h
  rcases h with ⟨_, hz⟩ | ⟨g, cap, cur, hv, hb, hh, hn', _, hs, _⟩
  · omega
  · simp only [Value.slice.injEq] at hv
    obtain ⟨rfl, rfl, rfl⟩ := hv
    exact ⟨g, cur, rfl, rfl, hb, hh, by rw [hs]; exact Nat.mul_le_mul_right _ hn'⟩
theorem ints_set (l : List Int) (i : Nat) (x : Int) : (ints l).set i [.int .i64 x] = ints (l.set i x) := by unfold ints; rw [List.map_set]
theorem tris_set (l : List Tri) (i : Nat) (x : Tri) : (tris l).set i x.cells = tris (l.set i x) := by unfold tris; rw [List.map_set]
/-- one number of a list of numbers is written over -/
theorem put_int {w w' : World} {B g q : Nat} {l : List Int} {cur : Array Value} (h : OwnC w B 3 1 (.slice (some ⟨g, 0, none⟩) l.length q) (ints l)) (i : Nat) (hi : i < l.length) (x : Int) (hg : w.heap[g]? = some (.cells cur 3 (0, 0))) (hg' : w'.heap[g]? = some (.cells (cur.setIfInBounds i (.int .i64 x)) 3 (0, 0))) :
    OwnC w' B 3 1 (.slice (some ⟨g, 0, none⟩) l.length q) (ints (l.set i x)) := by
  have hl := ints_length l
  rw [← ints_set]
  rw [← hl] at h ⊢
  refine put_row h (by decide) (ints_len l) i (by rw [hl]; exact hi) [.int .i64 x] rfl hg hg' (by simp) (fun k hk => ?_)
  rw [Array.getElem?_setIfInBounds, Nat.div_one, Nat.mod_one]
  by_cases hik : i = k
  · rw [if_pos hik, if_pos hik.symm, if_pos (by omega)]; rfl
  · rw [if_neg hik, if_neg (Ne.symm hik)]
/-- one triple of a list of triples is written over -/
theorem put_tri {w w' : World} {B g q : Nat} {e : TypeId} {l : List Tri} {cur : Array Value} (h : OwnC w B e 3 (.slice (some ⟨g, 0, none⟩) l.length q) (tris l)) (i : Nat) (hi : i < l.length) (t : Tri) (hg : w.heap[g]? = some (.cells cur e (0, 0))) (hs : l.length * 3 ≤ cur.size)
    (hg' : w'.heap[g]? = some (.cells (((cur.setIfInBounds (i * 3) (.int .i64 t.a)).setIfInBounds (i * 3 + 1) (.int .i64 t.b)).setIfInBounds (i * 3 + 2) (.int .i64 t.c)) e (0, 0))) :
    OwnC w' B e 3 (.slice (some ⟨g, 0, none⟩) l.length q) (tris (l.set i t)) := by
  have hl := tris_length l
  rw [← tris_set]
  rw [← hl] at h ⊢
  refine put_row h (by decide) (tris_len l) i (by rw [hl]; exact hi) t.cells rfl hg hg' (by simp) (fun k hk => ?_)
  have h3 : i * 3 + 2 < cur.size := by omega
  rw [Array.getElem?_setIfInBounds, Array.getElem?_setIfInBounds, Array.getElem?_setIfInBounds]
  simp only [Array.size_setIfInBounds]
  by_cases h2 : i * 3 + 2 = k
  · rw [if_pos h2, if_pos h3, if_pos (by omega), show k % 3 = 2 by omega]; rfl
  rw [if_neg h2]
  by_cases h1 : i * 3 + 1 = k
  · rw [if_pos h1, if_pos (by omega), if_pos (by omega), show k % 3 = 1 by omega]; rfl
  rw [if_neg h1]
  by_cases h0 : i * 3 = k
  · rw [if_pos h0, if_pos (by omega), if_pos (by omega), show k % 3 = 0 by omega]; rfl
  rw [if_neg h0, if_neg (by omega)]

theorem own_lrow {w : World} {B : Nat} {e : TypeId} {m : Nat} {A : Option Addr} {n q : Nat} {xs : List (List Value)} (h : OwnC w B e m (.slice A n q) xs) (hm : 0 < m) (hx : ∀ y ∈ xs, y.length = m) : LRow w w.heap.size m A xs ∧ xs.length ≤ q := by
  obtain ⟨A', q', hv, hr, hq, _⟩ := h.row hm hx
  injection hv with h1 h2 h3
  subst h1; subst h3
  exact ⟨hr, hq⟩
theorem Owned.lies {w : World} {B : Nat} {c : Cir} {s : Places} (h : Owned w B c s) : CLies w w.heap.size c s :=
  ⟨(own_lrow h.ins (by decide) (ints_len _)).1, (own_lrow h.lats (by decide) (tris_len _)).1, (own_lrow h.outs (by decide) (ints_len _)).1, (own_lrow h.bads (by decide) (ints_len _)).1, (own_lrow h.invs (by decide) (ints_len _)).1, (own_lrow h.ands (by decide) (tris_len _)).1, (own_lrow h.names (by decide) (nams_len _)).1⟩
theorem Owned.caps {w : World} {B : Nat} {c : Cir} {s : Places} (h : Owned w B c s) : c.ins.length ≤ s.ki ∧ c.outs.length ≤ s.ko ∧ c.bads.length ≤ s.kb ∧ c.invs.length ≤ s.kc ∧ c.lats.length ≤ s.kl ∧ c.ands.length ≤ s.ka ∧ c.names.length ≤ s.kn :=
  ⟨by simpa [ints] using (own_lrow h.ins (by decide) (ints_len _)).2, by simpa [ints] using (own_lrow h.outs (by decide) (ints_len _)).2, by simpa [ints] using (own_lrow h.bads (by decide) (ints_len _)).2, by simpa [ints] using (own_lrow h.invs (by decide) (ints_len _)).2, by simpa [tris] using (own_lrow h.lats (by decide) (tris_len _)).2, by simpa [tris] using (own_lrow h.ands (by decide) (tris_len _)).2, by simpa [nams] using (own_lrow h.names (by decide) (nams_len _)).2⟩
theorem Owned.kept {w w' : World} {B : Nat} {c : Cir} {s : Places} (h : Owned w B c s) (hb : ∀ k, B ≤ k → k < w.heap.size → w'.heap[k]? = w.heap[k]?) : Owned w' B c s := by
  have kp : ∀ {e m v xs}, OwnC w B e m v xs → OwnC w' B e m v xs := fun h => h.keep_at fun g hg hv => hb g hg (h.block_lt g hv).2
  exact ⟨kp h.ins, kp h.lats, kp h.outs, kp h.bads, kp h.invs, kp h.ands, kp h.names⟩

/- literals that a circuit that may be names -/
def Lits (c : Cir) (x : Int) : Prop := 0 ≤ x ∧ x ≤ 2 * c.max + 1
theorem known_lit {c : Cir} (h : refOk c = true) {x : Int} (hx : knownL c x = true) : Lits c x := by
  obtain ⟨_, hg⟩ := good_all c.max (own c) [] (ref_parts h).2.2.2.1
  obtain ⟨h0, h1⟩ := known_cases h x hx
  have hm := own_count h
  refine ⟨h0, ?_⟩
  rcases h1 with ⟨h1, _⟩ | ⟨k, hk, h1, _⟩
  · omega
  · have := hg _ (List.getElem_mem hk); omega
theorem own_lit {c : Cir} (h : refOk c = true) {x : Int} (hx : x ∈ own c) : Lits c x := by
  obtain ⟨_, hg⟩ := good_all c.max (own c) [] (ref_parts h).2.2.2.1
  have := hg x hx
  exact ⟨by omega, by omega⟩
structure AllLits (c : Cir) : Prop where
  ins : ∀ x ∈ c.ins, Lits c x
  outs : ∀ x ∈ c.outs, Lits c x
  bads : ∀ x ∈ c.bads, Lits c x
  invs : ∀ x ∈ c.invs, Lits c x
  lats : ∀ t ∈ c.lats, Lits c t.a ∧ Lits c t.b ∧ Lits c t.c
  ands : ∀ t ∈ c.ands, Lits c t.a ∧ Lits c t.b ∧ Lits c t.c
  max : 0 ≤ c.max ∧ c.max ≤ 2048
theorem all_lits {c : Cir} (h : refOk c = true) : AllLits c := by
  obtain ⟨hh, hl, ha, hg, ho, hb, hi⟩ := ref_parts h
  have hm := own_count h
  have hmax : 0 ≤ c.max ∧ c.max ≤ 2048 := by
    unfold refHead at hh
    simp only [Bool.and_eq_true, Bool.not_eq_true', decide_eq_false_iff_not] at hh
    omega
  have lk : ∀ l : List Int, allKnown c l = true → ∀ x ∈ l, Lits c x := fun l hl x hx => by
    unfold allKnown at hl
    simp only [Bool.and_eq_true, List.all_eq_true] at hl
    exact known_lit h (hl.1 x hx)
  refine ⟨fun x hx => own_lit h (by unfold own; simp [hx]), lk _ ho, lk _ hb, lk _ hi, fun t ht => ?_, fun t ht => ?_, hmax⟩
  · have h1 := List.all_eq_true.1 hl t ht
    unfold latR at h1
    simp only [Bool.and_eq_true, Bool.or_eq_true, decide_eq_true_eq] at h1
    have oa : Lits c t.a := own_lit h (by unfold own; simp only [List.mem_append, List.mem_map]; exact .inr (.inl ⟨t, ht, rfl⟩))
    refine ⟨oa, known_lit h h1.2, ?_⟩
    rcases h1.1 with (e | e) | e <;> rw [e]
    · exact ⟨by omega, by omega⟩
    · exact ⟨by omega, by omega⟩
    · exact oa
  · obtain ⟨k, hk, rfl⟩ := List.getElem_of_mem ht
    obtain ⟨_, _, b3, b4⟩ := and_at h k hk
    exact ⟨own_lit h (by unfold own; simp only [List.mem_append, List.mem_map]; exact .inr (.inr ⟨_, ht, rfl⟩)), known_lit h b3, known_lit h b4⟩
theorem numAt_bd : ∀ (R : List Int) (v : Int), 0 ≤ numAt R v ∧ numAt R v ≤ R.length
  | [], _ => by simp [numAt]
  | x :: R, v => by
    have := numAt_bd R v
    rw [numAt, List.length_cons]
    split <;> omega
theorem ren_bd {c : Cir} (h : refOk c = true) (x : Int) (hx : 0 ≤ x) : 0 ≤ ren c x ∧ ren c x ≤ 4097 := by
  have h1 := numAt_bd (own c).reverse (cnt x / 2)
  rw [List.length_reverse] at h1
  have h2 := own_count h
  unfold ren renV
  rw [cnt_pos x hx] at *
  omega
/-- the renumbering's closure, called on a literal within bounds -/
theorem ren_call (c : Cir) (h : refOk c = true) (B gl gn nb : Nat) (x : Int) (w : World) (hn : Num B gl gn nb c.max.toNat (own c).reverse w) (hx : Lits c x) :
    Calls Tryz.prog 73 #[.int .i64 x, .pointer (some ⟨gn, 0, none⟩)] w fun e w' => e = .returned (.int .i64 (ren c x)) ∧ Below w.heap.size w w' := by
  obtain ⟨x0, x1⟩ := hx
  have hm := (all_lits h).max
  have hc : cnt x = x := cnt_pos x x0
  have h1 := numAt_bd (own c).reverse (((x / 2).toNat : Nat) : Int)
  rw [List.length_reverse] at h1
  have h2 := own_count h
  exact renum_any B gl gn nb c.max.toNat (x / 2).toNat x (own c).reverse w hn (by rw [hc]; omega) (by omega) (by omega) ⟨h1.1, by omega⟩
end Go.Proofs.YtopjddmgejfalaaGreatDoor.Aig
namespace Go.Proofs.YtopjddmgejfalaaGreatDoor.Aig
open Go.ChangeShapes Go.WideShapes Go.ChangeAt Go.RowKit Dig Circ Cw Aag Cpy

/-- w' is w and more, but for the block g -/
structure Save (g : Option Nat) (w w' : World) : Prop where
  os : w'.os = w.os
  tape : w'.tape = w.tape
  output : w'.output = w.output
  size : w.heap.size ≤ w'.heap.size
  b : ∀ k, k < w.heap.size → g ≠ some k → w'.heap[k]? = w.heap[k]?
theorem Save.of {g : Option Nat} {w w' : World} (h : Below w.heap.size w w') : Save g w w' := ⟨h.os, h.tape, h.output, h.size, fun k hk _ => h.block k hk⟩
theorem Save.trans {g : Option Nat} {a b c : World} (h : Save g a b) (k : Save g b c) : Save g a c :=
  ⟨k.os.trans h.os, k.tape.trans h.tape, k.output.trans h.output, Nat.le_trans h.size k.size, fun i hi hg => (k.b i (Nat.lt_of_lt_of_le hi h.size) hg).trans (h.b i hi hg)⟩
theorem Save.below {g : Option Nat} {N : Nat} {W w w' : World} (h : Save g w w') (hb : Below N W w) (hN : N ≤ w.heap.size) (hg : ∀ k, g = some k → N ≤ k) : Below N W w' :=
  ⟨h.os.trans hb.os, h.tape.trans hb.tape, h.output.trans hb.output, Nat.le_trans hb.size h.size, fun k hk => (h.b k (by omega) (fun e => by have := hg k e; omega)).trans (hb.block k hk)⟩
theorem save_but {g : Nat} {w w' : World} (h : Cw.But g w w') : Save (some g) w w' := ⟨h.os, h.tape, h.output, Nat.le_of_eq h.z.symm, fun k _ hk => h.b k (fun e => hk (by rw [e]))⟩
theorem own_save {w w' : World} {N : Nat} {e : TypeId} {m n q : Nat} {A : Option Addr} {xs : List (List Value)} {g : Option Nat} (h : OwnC w N e m (.slice A n q) xs) (hs : Save g w w') (hne : ∀ k, A.map Addr.block = some k → g ≠ some k) : OwnC w' N e m (.slice A n q) xs := h.keep_at fun k _ hv => by
  have hk := (h.block_lt k hv).2
  refine hs.b k hk (hne k ?_)
  cases A with
  | none => cases hv
  | some a => exact hv
theorem other_type {w : World} {N : Nat} {e e' : TypeId} {m n q : Nat} {A : Option Addr} {xs : List (List Value)} {g : Nat} {cur : Array Value} (h : OwnC w N e m (.slice A n q) xs) (hg : w.heap[g]? = some (.cells cur e' (0, 0))) (he : e ≠ e') : ∀ k, A.map Addr.block = some k → (some g : Option Nat) ≠ some k := fun k hk e2 => by
  obtain rfl : g = k := by simpa using e2
  obtain ⟨c2, hc⟩ := own_type h (g := g) (by
    cases A with
    | none => cases hk
    | some a => exact hk)
  rw [hg] at hc
  simp only [Option.some.injEq, Obj.cells.injEq] at hc
  exact he hc.2.1.symm
def boxC (c : Cir) (s : Places) : Array Value := #[.int .i64 ((c.ins.length : Int) + c.lats.length + c.ands.length), .slice s.ai c.ins.length s.ki, .slice s.al c.lats.length s.kl, .slice s.ao c.outs.length s.ko, .slice s.ab c.bads.length s.kb, .slice s.ac c.invs.length s.kc, .slice s.aa c.ands.length s.ka, .slice s.an c.names.length s.kn]
/-- the copy's lists while they are written over -/
structure Or (N gd : Nat) (W : World) (c : Cir) (s : Places) (ins outs bads invs : List Int) (lats ands : List Tri) (w : World) : Prop where
  i : OwnC w N 3 1 (.slice s.ai c.ins.length s.ki) (ints ins)
  o : OwnC w N 3 1 (.slice s.ao c.outs.length s.ko) (ints outs)
  d : OwnC w N 3 1 (.slice s.ab c.bads.length s.kb) (ints bads)
  v : OwnC w N 3 1 (.slice s.ac c.invs.length s.kc) (ints invs)
  l : OwnC w N 48 3 (.slice s.al c.lats.length s.kl) (tris lats)
  a : OwnC w N 54 3 (.slice s.aa c.ands.length s.ka) (tris ands)
  n : OwnC w N 57 3 (.slice s.an c.names.length s.kn) (nams c.names)
  x : w.heap[gd]? = some (.cells (boxC c s) 27 (0, 0))
  b : Below N W w
  z : N ≤ w.heap.size
  g : N ≤ gd
section
variable {N gd : Nat} {W w w' : World} {c : Cir} {s : Places} {ins outs bads invs : List Int} {lats ands : List Tri}
theorem Or.below (h : Or N gd W c s ins outs bads invs lats ands w) (hb : Below w.heap.size w w') : Or N gd W c s ins outs bads invs lats ands w' :=
  ⟨h.i.keep hb, h.o.keep hb, h.d.keep hb, h.v.keep hb, h.l.keep hb, h.a.keep hb, h.n.keep hb, (hb.block gd (lt_of_block h.x)).trans h.x, h.b.trans (hb.mono h.z), Nat.le_trans h.z hb.size, h.g⟩
theorem Or.latsTo (h : Or N gd W c s ins outs bads invs lats ands w) {g : Nat} {cur : Array Value} (hg : w.heap[g]? = some (.cells cur 48 (0, 0))) (hN : N ≤ g) (hs : Save (some g) w w') {lats' : List Tri} (hl : OwnC w' N 48 3 (.slice s.al c.lats.length s.kl) (tris lats')) : Or N gd W c s ins outs bads invs lats' ands w' :=
  ⟨own_save h.i hs (other_type h.i hg (by decide)), own_save h.o hs (other_type h.o hg (by decide)), own_save h.d hs (other_type h.d hg (by decide)), own_save h.v hs (other_type h.v hg (by decide)), hl, own_save h.a hs (other_type h.a hg (by decide)), own_save h.n hs (other_type h.n hg (by decide)),
   (hs.b gd (lt_of_block h.x) (fun e => by
      obtain rfl : g = gd := by simpa using e
      rw [h.x] at hg
      simp at hg)).trans h.x, hs.below h.b h.z (fun k e => by obtain rfl : g = k := (by simpa using e); exact hN), Nat.le_trans h.z hs.size, h.g⟩
theorem Or.andsTo (h : Or N gd W c s ins outs bads invs lats ands w) {g : Nat} {cur : Array Value} (hg : w.heap[g]? = some (.cells cur 54 (0, 0))) (hN : N ≤ g) (hs : Save (some g) w w') {ands' : List Tri} (hl : OwnC w' N 54 3 (.slice s.aa c.ands.length s.ka) (tris ands')) : Or N gd W c s ins outs bads invs lats ands' w' :=
  ⟨own_save h.i hs (other_type h.i hg (by decide)), own_save h.o hs (other_type h.o hg (by decide)), own_save h.d hs (other_type h.d hg (by decide)), own_save h.v hs (other_type h.v hg (by decide)), own_save h.l hs (other_type h.l hg (by decide)), hl, own_save h.n hs (other_type h.n hg (by decide)),
   (hs.b gd (lt_of_block h.x) (fun e => by
      obtain rfl : g = gd := by simpa using e
      rw [h.x] at hg
      simp at hg)).trans h.x, hs.below h.b h.z (fun k e => by obtain rfl : g = k := (by simpa using e); exact hN), Nat.le_trans h.z hs.size, h.g⟩
end
theorem own_ge {w : World} {N : Nat} {e : TypeId} {m n q : Nat} {A : Option Addr} {xs : List (List Value)} (h : OwnC w N e m (.slice A n q) xs) : ∀ k, A.map Addr.block = some k → N ≤ k := fun k hk => (h.block_lt k (by
  cases A with
  | none => cases hk
  | some a => exact hk)).1
theorem own_typed {w : World} {N : Nat} {e : TypeId} {m n q : Nat} {A : Option Addr} {xs : List (List Value)} (h : OwnC w N e m (.slice A n q) xs) : ∀ k, A.map Addr.block = some k → ∃ cur, w.heap[k]? = some (.cells cur e (0, 0)) := fun k hk => own_type h (by
  cases A with
  | none => cases hk
  | some a => exact hk)
/-- a list of one type stays where one of another is written over -/
theorem own_part {w w' : World} {N : Nat} {e e' : TypeId} {m n q m' n' q' : Nat} {A A' : Option Addr} {xs xs' : List (List Value)} (h : OwnC w N e m (.slice A n q) xs) (h' : OwnC w N e' m' (.slice A' n' q') xs') (he : e ≠ e') (hs : Save (A'.map Addr.block) w w') : OwnC w' N e m (.slice A n q) xs :=
  own_save h hs fun k hk e2 => by
    obtain ⟨c1, h1⟩ := own_typed h k hk
    obtain ⟨c2, h2⟩ := own_typed h' k e2
    rw [h1] at h2
    simp only [Option.some.injEq, Obj.cells.injEq] at h2
    exact he h2.2.1
theorem sep_ne {A A' : Option Addr} (h : A.map Addr.block = A'.map Addr.block → A = none) : ∀ k, A.map Addr.block = some k → A'.map Addr.block ≠ some k := fun k hk e => by
  have := h (hk.trans e.symm)
  rw [this] at hk; cases hk
theorem sep_ne' {A A' : Option Addr} (h : A.map Addr.block = A'.map Addr.block → A = none) : ∀ k, A'.map Addr.block = some k → A.map Addr.block ≠ some k := fun k hk e => by
  have := h (e.trans hk.symm)
  rw [this] at e; cases e
/-- the first j lists of numbers are written over; the row of the four lists lies in gL -/
def lsts (c : Cir) (s : Places) : Array Value := #[.slice s.ai c.ins.length s.ki, .slice s.ao c.outs.length s.ko, .slice s.ab c.bads.length s.kb, .slice s.ac c.invs.length s.kc]
def one (b : Prop) [Decidable b] (c : Cir) (l : List Int) : List Int := if b then l.map (ren c) else l
def OrL (N gd gL : Nat) (W : World) (c : Cir) (s : Places) (j : Nat) (w : World) : Prop :=
  Or N gd W c s (one (0 < j) c c.ins) (one (1 < j) c c.outs) (one (2 < j) c c.bads) (one (3 < j) c c.invs) c.lats c.ands w ∧ w.heap[gL]? = some (.cells (lsts c s) 22 (0, 0))
theorem box_stays {w w' : World} {N k : Nat} {e e' : TypeId} {m n q : Nat} {A : Option Addr} {xs : List (List Value)} {cur : Array Value} (h : OwnC w N e m (.slice A n q) xs) (hs : Save (A.map Addr.block) w w') (hk : w.heap[k]? = some (.cells cur e' (0, 0))) (he : e' ≠ e) : w'.heap[k]? = some (.cells cur e' (0, 0)) :=
  (hs.b k (lt_of_block hk) fun e2 => by
    obtain ⟨c1, h1⟩ := own_typed h k e2
    rw [hk] at h1
    simp only [Option.some.injEq, Obj.cells.injEq] at h1
    exact he h1.2.1).trans hk
/-- list number j, and what is so once it is written over -/
def PickP (N gd gL : Nat) (W : World) (c : Cir) (s : Places) (j : Nat) (w : World) (A : Option Addr) (q : Nat) (xs : List Int) : Prop :=
  (lsts c s)[j]? = some (.slice A xs.length q) ∧ OwnC w N 3 1 (.slice A xs.length q) (ints xs) ∧ (∀ x ∈ xs, Lits c x) ∧ xs.length ≤ 64 ∧ ∀ w2, OwnC w2 N 3 1 (.slice A xs.length q) (ints (xs.map (ren c))) → Save (A.map Addr.block) w w2 → OrL N gd gL W c s (j + 1) w2
theorem pick (N gd gL : Nat) (W : World) (c : Cir) (s : Places) (j : Nat) (w : World) (hj : j < 4) (h : OrL N gd gL W c s j w) (hl : AllLits c) (hz : c.ins.length ≤ 64 ∧ c.outs.length ≤ 64 ∧ c.bads.length ≤ 64 ∧ c.invs.length ≤ 64) (ha : Apart s) : ∃ A q xs, PickP N gd gL W c s j w A q xs := by
  obtain ⟨h, hL⟩ := h
  match j, hj with
  | 0, _ =>
    have o := h.i
    refine ⟨s.ai, s.ki, c.ins, rfl, o, hl.ins, hz.1, fun w2 h2 hs => ⟨⟨h2, own_save h.o hs (sep_ne' ha.io), own_save h.d hs (sep_ne' ha.ib), own_save h.v hs (sep_ne' ha.ic), own_part h.l o (by decide) hs, own_part h.a o (by decide) hs, own_part h.n o (by decide) hs, box_stays o hs h.x (by decide), hs.below h.b h.z (own_ge o), Nat.le_trans h.z hs.size, h.g⟩, box_stays o hs hL (by decide)⟩⟩
  | 1, _ =>
    have o := h.o
    refine ⟨s.ao, s.ko, c.outs, rfl, o, hl.outs, hz.2.1, fun w2 h2 hs => ⟨⟨own_save h.i hs (sep_ne ha.io), h2, own_save h.d hs (sep_ne' ha.ob), own_save h.v hs (sep_ne' ha.oc), own_part h.l o (by decide) hs, own_part h.a o (by decide) hs, own_part h.n o (by decide) hs, box_stays o hs h.x (by decide), hs.below h.b h.z (own_ge o), Nat.le_trans h.z hs.size, h.g⟩, box_stays o hs hL (by decide)⟩⟩
  | 2, _ =>
    have o := h.d
    refine ⟨s.ab, s.kb, c.bads, rfl, o, hl.bads, hz.2.2.1, fun w2 h2 hs => ⟨⟨own_save h.i hs (sep_ne ha.ib), own_save h.o hs (sep_ne ha.ob), h2, own_save h.v hs (sep_ne' ha.bc), own_part h.l o (by decide) hs, own_part h.a o (by decide) hs, own_part h.n o (by decide) hs, box_stays o hs h.x (by decide), hs.below h.b h.z (own_ge o), Nat.le_trans h.z hs.size, h.g⟩, box_stays o hs hL (by decide)⟩⟩
  | 3, _ =>
    have o := h.v
    refine ⟨s.ac, s.kc, c.invs, rfl, o, hl.invs, hz.2.2.2, fun w2 h2 hs => ⟨⟨own_save h.i hs (sep_ne ha.ic), own_save h.o hs (sep_ne ha.oc), own_save h.d hs (sep_ne ha.bc), h2, own_part h.l o (by decide) hs, own_part h.a o (by decide) hs, own_part h.n o (by decide) hs, box_stays o hs h.x (by decide), hs.below h.b h.z (own_ge o), Nat.le_trans h.z hs.size, h.g⟩, box_stays o hs hL (by decide)⟩⟩
  | j + 4, h => exact absurd h (by omega)
/-- lists of which the first j elements are written over -/
def upto {α : Type} (f : α → α) (l : List α) (j : Nat) : List α := (l.take j).map f ++ l.drop j
theorem upto_zero {α : Type} (f : α → α) (l : List α) : upto f l 0 = l := by simp [upto]
theorem upto_all {α : Type} (f : α → α) (l : List α) : upto f l l.length = l.map f := by simp [upto]
theorem upto_len {α : Type} (f : α → α) (l : List α) (j : Nat) : (upto f l j).length = l.length := by unfold upto; simp; omega
theorem upto_at {α : Type} (f : α → α) (l : List α) (j : Nat) (h : j < l.length) : (upto f l j)[j]'(by rw [upto_len]; exact h) = l[j] := by
  unfold upto
  rw [List.getElem_append_right (by simp; omega)]
  simp [Nat.min_eq_left (Nat.le_of_lt h)]
theorem upto_set {α : Type} (f : α → α) (l : List α) (j : Nat) (h : j < l.length) : (upto f l j).set j (f l[j]) = upto f l (j + 1) := by
  unfold upto
  rw [List.take_succ_eq_append_getElem h, List.map_append, List.map_cons, List.map_nil, List.set_append_right _ _ (by simp; omega)]
  have e : l.drop j = l[j] :: l.drop (j + 1) := (List.getElem_cons_drop h).symm
  rw [show j - ((l.take j).map f).length = 0 by rw [List.length_map, List.length_take]; omega, e, List.set_cons_zero, List.append_assoc]
  rfl
end Go.Proofs.YtopjddmgejfalaaGreatDoor.Aig
