/- The walks of aig's renumbering: variables numbered in a row, and literals by it; condition: numbers within bounds. The walks of aig's making of literals and reading of ands; no condition. -/
import Derived.Test.YtopjddmgejfalaaGreatDoorPk24
import Derived.Test.YtopjddmgejfalaaGreatDoorPk17
namespace Go.Proofs.YtopjddmgejfalaaGreatDoor.Aig
open Go.ChangeShapes Go.WideShapes Go.ChangeAt Go.RowKit Dig Circ Cw Aag

/-- the heap is as it was -/
structure Still (w w' : World) : Prop where
  b : ∀ k : Nat, w'.heap[k]? = w.heap[k]?
  os : w'.os = w.os
  tape : w'.tape = w.tape
  output : w'.output = w.output
theorem Still.size {w w' : World} (h : Still w w') : w'.heap.size = w.heap.size := by
  rcases Nat.lt_trichotomy w'.heap.size w.heap.size with e | e | e
  · have := h.b w'.heap.size
    rw [Array.getElem?_eq_none (Nat.le_refl _), Array.getElem?_eq_getElem e] at this; cases this
  · exact e
  · have := h.b w.heap.size
    rw [Array.getElem?_eq_none (Nat.le_refl _), Array.getElem?_eq_getElem e] at this; cases this
theorem Still.below {w w' : World} (h : Still w w') : Below w.heap.size w w' := ⟨h.os, h.tape, h.output, Nat.le_of_eq h.size.symm, fun k _ => h.b k⟩

theorem cell_one {w : World} {g : Nat} {v : Value} {T : TypeId} (h : w.heap[g]? = some (.cells #[v] T (0, 0))) : w.cell? ⟨g, 0, none⟩ = some v := by rw [Lib.cell_of_heap h]; rfl
def numC (m : Nat) (R : List Int) : Array Value := ((List.range (m + 1)).map fun (v : Nat) => Value.int .i64 (numAt R (v : Int))).toArray
theorem numC_size (m : Nat) (R : List Int) : (numC m R).size = m + 1 := by unfold numC; simp
theorem numC_at (m v : Nat) (R : List Int) (h : v < m + 1) : (numC m R)[v]? = some (.int .i64 (numAt R (v : Int))) := by
  unfold numC
  rw [List.getElem?_toArray, List.getElem?_map, List.getElem?_range h]; rfl
theorem numC_set (m v : Nat) (x : Int) (R : List Int) (hx : cnt x / 2 = (v : Int)) : (numC m R).setIfInBounds v (.int .i64 ((R.length : Int) + 1)) = numC m (x :: R) := by
  apply Array.ext_getElem?
  intro i
  by_cases hi : i < m + 1
  · rw [numC_at m i _ hi, Array.getElem?_setIfInBounds]
    by_cases he : v = i
    · subst he
      rw [if_pos rfl, if_pos (by rw [numC_size]; omega), numAt, if_pos hx]
    · rw [if_neg he, numC_at m i R hi, numAt, if_neg (by omega)]
  · rw [Array.getElem?_eq_none (by rw [Array.size_setIfInBounds, numC_size]; omega), Array.getElem?_eq_none (by rw [numC_size]; omega)]
/-- the numbers of the variables that were met, the last one first -/
structure Num (B gl gn nb m : Nat) (R : List Int) (w : World) : Prop where
  l : w.heap[gl]? = some (.cells #[.int .i64 (R.length : Int)] 3 (0, 0))
  n : w.heap[gn]? = some (.cells #[.slice (some ⟨nb, 0, none⟩) (m + 1) (m + 1)] 22 (0, 0))
  r : w.heap[nb]? = some (.cells (numC m R) 3 (0, 0))
  d : gl ≠ nb ∧ gl ≠ gn ∧ gn ≠ nb
  b : B ≤ gl ∧ B ≤ gn ∧ B ≤ nb
theorem Num.below {B gl gn nb m : Nat} {R : List Int} {w w' : World} (h : Num B gl gn nb m R w) (hb : Below w.heap.size w w') : Num B gl gn nb m R w' :=
  ⟨(hb.block _ (lt_of_block h.l)).trans h.l, (hb.block _ (lt_of_block h.n)).trans h.n, (hb.block _ (lt_of_block h.r)).trans h.r, h.d, h.b⟩

theorem op_index_int_at (a : Act) (w : World) (b o n q k : Nat) (t s : Nat) (h : a.tmps.getD t undef = .slice (some ⟨b, o, none⟩) n q) (h2 : a.tmps.getD s undef = .int .i64 (k : Int)) (hk : k < n) (oo : Oper) (ho : oo.op = .indexAddr 22 (.tmp t) (.tmp s)) : (execOp a.eval oo).run Tryz.prog w = .ok (.value (.pointer (some ⟨b, o + k, none⟩))) w := by
  have h' : a.tmps[t]?.getD undef = .slice (some ⟨b, o, none⟩) n q := by simpa using h
  have h2' : a.tmps[s]?.getD undef = .int .i64 (k : Int) := by simpa using h2
  unfold execOp
  rw [ho]
  have h0 : (0 : Int) ≤ k := by omega
  have h1 : (k : Int) < n := by omega
  go_simp
theorem make_all (v : Int) (b : Bool) (w : World) (h0 : 0 ≤ v) (h1 : v ≤ 4096) :
    Calls Tryz.prog 61 #[.int .i64 v, .bool b] w fun e w' => e = .returned (.int .i64 (2 * v + (if b = true then 1 else 0))) ∧ w = w' := by
  have h : ¬ v < 0 := by omega
  have h' : ¬ 1099511627776 < v := by omega
  cases b
  · go_enter Tryz.func61, Tryz.ntmps61
    go_wp2
    go_ret
    exact ⟨by simp, rfl⟩
  · go_enter Tryz.func61, Tryz.ntmps61
    go_wp2
    go_ret
    exact ⟨rfl, rfl⟩
theorem op_load_Lint (a : Act) (w : World) (A : Addr) (t : Nat) (v : Value) (h : a.tmps.getD t undef = .pointer (some A)) (hc : w.cell? A = some v) (oo : Oper) (ho : oo.op = .load 22 (.tmp t)) : (execOp a.eval oo).run Tryz.prog w = .ok (.value v) w := by
  have h' : a.tmps[t]?.getD undef = .pointer (some A) := by simpa using h
  unfold execOp
  rw [ho]
  go_simp
theorem op_load_int (a : Act) (w : World) (A : Addr) (t : Nat) (v : Value) (h : a.tmps.getD t undef = .pointer (some A)) (hc : w.cell? A = some v) (oo : Oper) (ho : oo.op = .load 3 (.tmp t)) : (execOp a.eval oo).run Tryz.prog w = .ok (.value v) w := by
  have h' : a.tmps[t]?.getD undef = .pointer (some A) := by simpa using h
  unfold execOp
  rw [ho]
  go_simp
/-- what operation j of the region leaves -/
def def1R (nb m v : Nat) (x : Int) (R : List Int) : Nat → (Nat → Value) → World → Prop
  | 0, f, _ => f 6 = .slice (some ⟨nb, 0, none⟩) (m + 1) (m + 1)
  | 1, f, _ => f 7 = .int .i64 x
  | 2, f, _ => f 8 = .int .i64 (v : Int)
  | 3, f, _ => f 9 = .int .i64 ((R.length : Int) + 1)
  | 4, f, _ => f 10 = .pointer (some ⟨nb, v, none⟩)
  | 5, _, w => w.heap[nb]? = some (.cells (numC m (x :: R)) 3 (0, 0))
  | _, _, _ => True
def def1M : Nat → List Nat
  | 0 => [6]
  | 1 => [7]
  | 2 => [8]
  | 3 => [9]
  | 4 => [10]
  | 5 => []
  | _ => []
theorem def1_stab {nb m v : Nat} {x : Int} {R : List Int} (jj : Nat) {f f' : Nat → Value} {w w' : World} (h5 : jj = 5 → Below w.heap.size w w') (hf : ∀ t ∈ def1M jj, f' t = f t) (h : def1R nb m v x R jj f w) : def1R nb m v x R jj f' w' := by
  match jj, hf, h, h5 with
  | 0, hf, h, _ => exact (hf 6 (by decide)).trans h
  | 1, hf, h, _ => exact (hf 7 (by decide)).trans h
  | 2, hf, h, _ => exact (hf 8 (by decide)).trans h
  | 3, hf, h, _ => exact (hf 9 (by decide)).trans h
  | 4, hf, h, _ => exact (hf 10 (by decide)).trans h
  | 5, hf, h, h5 =>
    exact ((h5 rfl).block nb (lt_of_block h)).trans h
  | _ + 6, _, _, _ => trivial

set_option maxHeartbeats 2000000 in
set_option maxRecDepth 100000 in
theorem define_any (B gl gn nb m v : Nat) (x : Int) (R : List Int) (w : World) (h : Num B gl gn nb m R w) (hx : cnt x / 2 = (v : Int)) (hv : v ≤ m) (hx1 : x ≤ 9223372036854775807) (hR : R.length ≤ 1099511627776) :
    Calls Tryz.prog 71 #[.int .i64 x, .pointer (some ⟨gl, 0, none⟩), .pointer (some ⟨gn, 0, none⟩)] w fun e w' => e = .returned (.tuple #[]) ∧ Num B gl gn nb m (x :: R) w' ∧ Below B w w' := by
  obtain ⟨Z1, u0, ⟨hS1, p0, t0⟩, E1, F1⟩ := store1 h.l rfl (.int .i64 ((R.length : Int) + 1))
  have c0 : w.cell? ⟨gl, 0, none⟩ = some (.int .i64 (R.length : Int)) := cell_one h.l
  have NE : Hid (gl ≠ nb ∧ gl ≠ gn ∧ gn ≠ nb) := h.d
  have HB := Lib.hid h.b
  have CL := Lib.hid E1
  have CN : Hid (Z1.heap[gn]? = some (.cells #[.slice (some ⟨nb, 0, none⟩) (m + 1) (m + 1)] 22 (0, 0))) := (F1.b gn (fun e => h.d.2.1 e.symm)).trans h.n
  have CR : Hid (Z1.heap[nb]? = some (.cells (numC m R) 3 (0, 0))) := (F1.b nb (fun e => h.d.1 e.symm)).trans h.r
  have HF1 := Lib.hid F1
  have HV : Hid (v < m + 1) := by unfold Hid; omega
  have HX := Lib.hid hx
  have VA := Lib.hid (fun w => var_any x w hx1)
  rw [hx] at VA
  have EV : Hid (∀ args w, (callFunc 72 args).run Tryz.prog w = .ok (.enter 72 args) w) := enters_of Tryz.func72 (by kernel_rfl) rfl
  clear h hx hv hx1 E1 F1
  obtain ⟨n, hn⟩ : ∃ n, n = R.length := ⟨_, rfl⟩
  rw [← hn] at c0 hS1 hR CL
  have HN := Lib.hid hn
  clear hn
  have hu : u0 = .int .i64 (n : Int) := Option.some.inj (p0.symm.trans c0)
  subst hu
  clear c0
  go_enter Tryz.func71, Tryz.ntmps71
  go_wp2
  obtain ⟨w1, rfl⟩ : ∃ w1, w1 = Z1 := ⟨_, rfl⟩
  rw [HN.out] at CL
  clear hS1 p0 t0
  refine wp_region_valsD (by kernel_rfl) (by kernel_rfl) def1M (by kernel_rfl) (by kernel_rfl)
    (fun d w' => But nb w1 w' ∧ (d 5 = false → w'.heap[nb]? = w1.heap[nb]?)) (def1R nb m v x R) ⟨⟨fun _ _ => rfl, rfl, rfl, rfl, rfl⟩, fun _ => rfl⟩ (fun jj f f' w w' hb hf h => def1_stab jj (fun _ => hb) hf h) ?_ ?_
  · intro i oo d a' w' ho hd hun hdf hok hD K hK hK0
    match i, ho, hd, hD, hK, hK0, hun with
    | 0, ho, hd, hD, hK, hK0, hun =>
      have e := (congrArg Oper.op (Option.some.inj ho)).symm
      obtain rfl := Option.some.inj ho
      exact wp_val (op_load_Lint a' w' _ 2 _ (hun 2 (by kernel_rfl)) (cell_one ((hok.1.b gn NE.out.2.2).trans CN.out)) _ e) (hK _ _ (Below.refl _ _) ⟨hok.1, fun h => hok.2 (by simp only [Bool.or_eq_false_iff] at h; exact h.2)⟩ (fun f h1 _ => h1 _ rfl))
    | 1, ho, hd, hD, hK, hK0, hun =>
      have e := (congrArg Oper.op (Option.some.inj ho)).symm
      obtain rfl := Option.some.inj ho
      exact wp_val (op_move a' w' 0 _ e) (hK _ _ (Below.refl _ _) ⟨hok.1, fun h => hok.2 (by simp only [Bool.or_eq_false_iff] at h; exact h.2)⟩ (fun f h1 _ => (h1 _ rfl).trans (hun 0 (by kernel_rfl))))
    | 2, ho, hd, hD, hK, hK0, hun =>
      have e := (congrArg Oper.op (Option.some.inj ho)).symm
      obtain rfl := Option.some.inj ho
      refine wp_enter (op_call1 a' w' _ 7 _ EV.out _ e) ?_
      rw [show a'.tmps.getD 7 undef = .int .i64 x from hD 1 (by kernel_rfl)]
      refine (VA.out w').mono ?_
      rintro e w'' ⟨rfl, rfl⟩
      exact .inl ⟨_, rfl, hK _ _ (Below.refl _ _) ⟨hok.1, fun h => hok.2 (by simp only [Bool.or_eq_false_iff] at h; exact h.2)⟩ (fun f h1 _ => h1 _ rfl)⟩
    | 3, ho, hd, hD, hK, hK0, hun =>
      have e := (congrArg Oper.op (Option.some.inj ho)).symm
      obtain rfl := Option.some.inj ho
      exact wp_val (op_load_int a' w' _ 1 _ (hun 1 (by kernel_rfl)) (cell_one ((hok.1.b gl NE.out.1).trans CL.out)) _ e) (hK _ _ (Below.refl _ _) ⟨hok.1, fun h => hok.2 (by simp only [Bool.or_eq_false_iff] at h; exact h.2)⟩ (fun f h1 _ => h1 _ rfl))
    | 4, ho, hd, hD, hK, hK0, hun =>
      have e := (congrArg Oper.op (Option.some.inj ho)).symm
      obtain rfl := Option.some.inj ho
      have q := op_index_int_at a' w' nb 0 (m + 1) (m + 1) v 6 8 (hD 0 (by kernel_rfl)) (hD 2 (by kernel_rfl)) HV.out _ e
      rw [Nat.zero_add] at q
      exact wp_val q (hK _ _ (Below.refl _ _) ⟨hok.1, fun h => hok.2 (by simp only [Bool.or_eq_false_iff] at h; exact h.2)⟩ (fun f h1 _ => h1 _ rfl))
    | 5, ho, hd, hD, hK, hK0, hun =>
      have e := (congrArg Oper.op (Option.some.inj ho)).symm
      obtain rfl := Option.some.inj ho
      obtain ⟨w'', hr, hgc2, hbut⟩ := op_store_int a' w' nb v _ _ ((hok.2 (hd 5 (by kernel_rfl))).trans CR.out) (by rw [numC_size]; exact HV.out) _ 10 9 (hD 4 (by kernel_rfl)) (hD 3 (by kernel_rfl)) _ e
      rw [numC_set m v x R HX.out] at hgc2
      exact wp_skip' hr (hK0 _ _ ⟨hok.1.trans hbut, fun h => by simp at h⟩ (fun f _ _ => hgc2) (fun j f hj hf hq => def1_stab j (fun e2 => absurd e2 hj) hf hq))
    | i + 6, ho, _, _, _, _, _ => exact absurd ho (by simp)
  · intro a' w3 hsz hdf hkt hok hR
    have HF3 := frame_sets [6, 7, 8, 9, 10] (by kernel_rfl) hsz hkt
    obtain ⟨d, hok⟩ := hok
    have hr5 : w3.heap[nb]? = some (.cells (numC m (x :: R)) 3 (0, 0)) := hR 5 (by decide)
    have HR5 := Lib.hid hr5
    have HO := Lib.hid hok.1
    clear hr5 hok
    obtain ⟨tm, df⟩ := a'
    obtain rfl : df = _ := hdf
    simp only [List.foldl_cons, List.foldl_nil] at HF3
    clear hkt hR hsz
    generalize tm.getD 6 undef = y6 at HF3
    generalize tm.getD 7 undef = y7 at HF3
    generalize tm.getD 8 undef = y8 at HF3
    generalize tm.getD 9 undef = y9 at HF3
    generalize tm.getD 10 undef = y10 at HF3
    simp only [List.setIfInBounds_toArray, List.set_cons_succ, List.set_cons_zero] at HF3
    subst HF3
    go_wp2
    go_end0
    have NE' := NE.out
    have HB' := HB.out
    refine ⟨rfl, ⟨?_, (HO.out.b gn NE'.2.2).trans CN.out, HR5.out, NE', HB'⟩, HO.out.below (HF1.out.below (Below.refl _ _) HB'.1) HB'.2.2⟩
    rw [HO.out.b gl NE'.1, CL.out]
    simp
/-- what operation j of the region leaves -/
def ren1R (nb m v : Nat) (x : Int) (R : List Int) : Nat → (Nat → Value) → World → Prop
  | 0, f, _ => f 4 = .slice (some ⟨nb, 0, none⟩) (m + 1) (m + 1)
  | 1, f, _ => f 5 = .int .i64 x
  | 2, f, _ => f 6 = .int .i64 (v : Int)
  | 3, f, _ => f 7 = .pointer (some ⟨nb, v, none⟩)
  | 4, f, _ => f 8 = .int .i64 (numAt R (v : Int))
  | 5, f, _ => f 9 = .int .i64 x
  | 6, f, _ => f 10 = .bool (decide (cnt x % 2 = 1))
  | 7, f, _ => f 11 = .int .i64 (2 * numAt R (v : Int) + cnt x % 2)
  | 8, f, _ => f 3 = .int .i64 (2 * numAt R (v : Int) + cnt x % 2)
  | _, _, _ => True
def ren1M : Nat → List Nat
  | 0 => [4]
  | 1 => [5]
  | 2 => [6]
  | 3 => [7]
  | 4 => [8]
  | 5 => [9]
  | 6 => [10]
  | 7 => [11]
  | 8 => [3]
  | _ => []
theorem ren1_stab {nb m v : Nat} {x : Int} {R : List Int} (jj : Nat) {f f' : Nat → Value} {w w' : World}  (hf : ∀ t ∈ ren1M jj, f' t = f t) (h : ren1R nb m v x R jj f w) : ren1R nb m v x R jj f' w' := by
  match jj, hf, h with
  | 0, hf, h => exact (hf 4 (by decide)).trans h
  | 1, hf, h => exact (hf 5 (by decide)).trans h
  | 2, hf, h => exact (hf 6 (by decide)).trans h
  | 3, hf, h => exact (hf 7 (by decide)).trans h
  | 4, hf, h => exact (hf 8 (by decide)).trans h
  | 5, hf, h => exact (hf 9 (by decide)).trans h
  | 6, hf, h => exact (hf 10 (by decide)).trans h
  | 7, hf, h => exact (hf 11 (by decide)).trans h
  | 8, hf, h => exact (hf 3 (by decide)).trans h
  | _ + 9, _, _ => trivial

set_option maxHeartbeats 2000000 in
set_option maxRecDepth 100000 in
theorem renum_any (B gl gn nb m v : Nat) (x : Int) (R : List Int) (w : World) (h : Num B gl gn nb m R w) (hx : cnt x / 2 = (v : Int)) (hv : v ≤ m) (hx1 : x ≤ 9223372036854775807) (hR : 0 ≤ numAt R (v : Int) ∧ numAt R (v : Int) ≤ 4096) :
    Calls Tryz.prog 73 #[.int .i64 x, .pointer (some ⟨gn, 0, none⟩)] w fun e w' => e = .returned (.int .i64 (2 * numAt R (cnt x / 2) + cnt x % 2)) ∧ Below w.heap.size w w' := by
  have CN : Hid (w.heap[gn]? = some (.cells #[.slice (some ⟨nb, 0, none⟩) (m + 1) (m + 1)] 22 (0, 0))) := h.n
  have CC : Hid (∀ w' : World, w'.heap[nb]? = w.heap[nb]? → w'.cell? ⟨nb, v, none⟩ = some (.int .i64 (numAt R (v : Int)))) := fun w' hw => by
    rw [Lib.cell_of_heap (hw.trans h.r)]
    exact numC_at m v R (by omega)
  have HV : Hid (v < m + 1) := by unfold Hid; omega
  have VA := Lib.hid (fun w => var_any x w hx1)
  rw [hx] at VA
  have NA := Lib.hid (fun w => neg_any x w hx1)
  have hif : (if decide (cnt x % 2 = 1) = true then (1 : Int) else 0) = cnt x % 2 := by
    have h1 := (cnt_bd x hx1).1
    by_cases q : cnt x % 2 = 1
    · rw [decide_eq_true q, if_pos rfl, q]
    · rw [decide_eq_false q, if_neg (by simp)]; omega
  have MA := Lib.hid (fun w => make_all (numAt R (v : Int)) (decide (cnt x % 2 = 1)) w hR.1 hR.2)
  rw [hif] at MA
  have EV : Hid (∀ args w, (callFunc 72 args).run Tryz.prog w = .ok (.enter 72 args) w) := enters_of Tryz.func72 (by kernel_rfl) rfl
  have EN : Hid (∀ args w, (callFunc 74 args).run Tryz.prog w = .ok (.enter 74 args) w) := enters_of Tryz.func74 (by kernel_rfl) rfl
  have EM : Hid (∀ args w, (callFunc 61 args).run Tryz.prog w = .ok (.enter 61 args) w) := enters_of Tryz.func61 (by kernel_rfl) rfl
  rw [hx]
  clear h hx hv hx1 hR hif
  go_enter Tryz.func73, Tryz.ntmps73
  go_wp2
  refine wp_region_valsD (by kernel_rfl) (by kernel_rfl) ren1M (by kernel_rfl) (by kernel_rfl)
    (fun _ w' => Still w w') (ren1R nb m v x R) ⟨fun _ => rfl, rfl, rfl, rfl⟩ (fun jj f f' w w' hb hf h => ren1_stab jj  hf h) ?_ ?_
  · intro i oo d a' w' ho hd hun hdf hok hD K hK hK0
    match i, ho, hd, hD, hK, hK0, hun with
    | 0, ho, hd, hD, hK, hK0, hun =>
      have e := (congrArg Oper.op (Option.some.inj ho)).symm
      obtain rfl := Option.some.inj ho
      exact wp_val (op_load_Lint a' w' _ 1 _ (hun 1 (by kernel_rfl)) (cell_one ((hok.b gn).trans CN.out)) _ e) (hK _ _ (Below.refl _ _) hok (fun f h1 _ => h1 _ rfl))
    | 1, ho, hd, hD, hK, hK0, hun =>
      have e := (congrArg Oper.op (Option.some.inj ho)).symm
      obtain rfl := Option.some.inj ho
      exact wp_val (op_move a' w' 0 _ e) (hK _ _ (Below.refl _ _) hok (fun f h1 _ => (h1 _ rfl).trans (hun 0 (by kernel_rfl))))
    | 2, ho, hd, hD, hK, hK0, hun =>
      have e := (congrArg Oper.op (Option.some.inj ho)).symm
      obtain rfl := Option.some.inj ho
      refine wp_enter (op_call1 a' w' _ 5 _ EV.out _ e) ?_
      rw [show a'.tmps.getD 5 undef = .int .i64 x from hD 1 (by kernel_rfl)]
      refine (VA.out w').mono ?_
      rintro e w'' ⟨rfl, rfl⟩
      exact .inl ⟨_, rfl, hK _ _ (Below.refl _ _) hok (fun f h1 _ => h1 _ rfl)⟩
    | 3, ho, hd, hD, hK, hK0, hun =>
      have e := (congrArg Oper.op (Option.some.inj ho)).symm
      obtain rfl := Option.some.inj ho
      have q := op_index_int_at a' w' nb 0 (m + 1) (m + 1) v 4 6 (hD 0 (by kernel_rfl)) (hD 2 (by kernel_rfl)) HV.out _ e
      rw [Nat.zero_add] at q
      exact wp_val q (hK _ _ (Below.refl _ _) hok (fun f h1 _ => h1 _ rfl))
    | 4, ho, hd, hD, hK, hK0, hun =>
      have e := (congrArg Oper.op (Option.some.inj ho)).symm
      obtain rfl := Option.some.inj ho
      exact wp_val (op_load_int a' w' _ 7 _ (hD 3 (by kernel_rfl)) (CC.out w' (hok.b nb)) _ e) (hK _ _ (Below.refl _ _) hok (fun f h1 _ => h1 _ rfl))
    | 5, ho, hd, hD, hK, hK0, hun =>
      have e := (congrArg Oper.op (Option.some.inj ho)).symm
      obtain rfl := Option.some.inj ho
      exact wp_val (op_move a' w' 0 _ e) (hK _ _ (Below.refl _ _) hok (fun f h1 _ => (h1 _ rfl).trans (hun 0 (by kernel_rfl))))
    | 6, ho, hd, hD, hK, hK0, hun =>
      have e := (congrArg Oper.op (Option.some.inj ho)).symm
      obtain rfl := Option.some.inj ho
      refine wp_enter (op_call1 a' w' _ 9 _ EN.out _ e) ?_
      rw [show a'.tmps.getD 9 undef = .int .i64 x from hD 5 (by kernel_rfl)]
      refine (NA.out w').mono ?_
      rintro e w'' ⟨rfl, rfl⟩
      exact .inl ⟨_, rfl, hK _ _ (Below.refl _ _) hok (fun f h1 _ => h1 _ rfl)⟩
    | 7, ho, hd, hD, hK, hK0, hun =>
      have e := (congrArg Oper.op (Option.some.inj ho)).symm
      obtain rfl := Option.some.inj ho
      refine wp_enter (op_call2 a' w' _ 8 10 _ _ EM.out _ e) ?_
      rw [show a'.tmps.getD 8 undef = .int .i64 (numAt R (v : Int)) from hD 4 (by kernel_rfl), show a'.tmps.getD 10 undef = .bool (decide (cnt x % 2 = 1)) from hD 6 (by kernel_rfl)]
      refine (MA.out w').mono ?_
      rintro e w'' ⟨rfl, rfl⟩
      exact .inl ⟨_, rfl, hK _ _ (Below.refl _ _) hok (fun f h1 _ => h1 _ rfl)⟩
    | 8, ho, hd, hD, hK, hK0, hun =>
      have e := (congrArg Oper.op (Option.some.inj ho)).symm
      obtain rfl := Option.some.inj ho
      exact wp_val (op_assign a' w' 11 _ e) (hK _ _ (Below.refl _ _) hok (fun f h1 _ => (h1 _ rfl).trans (hD 7 (by kernel_rfl))))
    | i + 9, ho, _, _, _, _, _ => exact absurd ho (by simp)
  · intro a' w3 hsz hdf hkt hok hR
    have HF3 := frame_sets [3, 4, 5, 6, 7, 8, 9, 10, 11] (by kernel_rfl) hsz hkt
    obtain ⟨d, hok⟩ := hok
    have h3 : w3 = w3 ∧ vals a' 3 = .int .i64 (2 * numAt R (v : Int) + cnt x % 2) := ⟨rfl, hR 8 (by decide)⟩
    have h3 := h3.2
    have HO := Lib.hid hok
    clear hok
    obtain ⟨tm, df⟩ := a'
    obtain rfl : df = _ := hdf
    simp only [List.foldl_cons, List.foldl_nil] at HF3
    clear hkt hR hsz
    replace h3 : tm.getD 3 undef = _ := h3
    rw [h3] at HF3
    clear h3
    generalize tm.getD 4 undef = y4 at HF3
    generalize tm.getD 5 undef = y5 at HF3
    generalize tm.getD 6 undef = y6 at HF3
    generalize tm.getD 7 undef = y7 at HF3
    generalize tm.getD 8 undef = y8 at HF3
    generalize tm.getD 9 undef = y9 at HF3
    generalize tm.getD 10 undef = y10 at HF3
    generalize tm.getD 11 undef = y11 at HF3
    simp only [List.setIfInBounds_toArray, List.set_cons_succ, List.set_cons_zero] at HF3
    subst HF3
    go_wp2
    go_ret
    exact ⟨rfl, HO.out.below⟩
end Go.Proofs.YtopjddmgejfalaaGreatDoor.Aig
namespace Go.Proofs.YtopjddmgejfalaaGreatDoor.Aig
open Go.ChangeShapes Go.WideShapes Go.ChangeAt Go.RowKit Dig Circ Cw Aag

theorem literal_any (k : Nat) (w : World) (hk : k ≤ 4095) :
    Calls Tryz.prog 34 #[.int .i64 k] w fun e w' => e = .returned (.int .i64 (lit k)) ∧ w = w' := by
  have MK := Lib.hid (make_all ((k : Int) + 1) false w (by omega) (by omega))
  go_enter Tryz.func34, Tryz.ntmps34
  go_wp2_with fail
  refine MK.out.mono ?_
  rintro e w1 ⟨rfl, rfl⟩
  go_wp2
  go_ret
  exact ⟨congrArg (fun z => Ending.returned (Value.int .i64 z)) (by unfold lit; simp), rfl⟩
theorem rdNum_le {l r : List UInt8} {x : Nat} (h : rdNum l = some (x, r)) : x ≤ 100000 ∧ r.length < l.length := by
  match l, h with
  | a :: s, h =>
    have ha := a.toNat_lt
    simp only [rdNum] at h
    split at h
    · simp only [Option.some.injEq, Prod.mk.injEq] at h
      obtain ⟨rfl, rfl⟩ := h
      exact ⟨by omega, by simp⟩
    · match s, h with
      | b :: r', h =>
        have hb := b.toNat_lt
        simp only at h
        split at h
        · simp only [Option.some.injEq, Prod.mk.injEq] at h
          obtain ⟨rfl, rfl⟩ := h
          exact ⟨by omega, by simp; omega⟩
        · cases h
set_option maxHeartbeats 2000000 in
set_option maxRecDepth 100000 in
theorem and_run {S R : Nat} (k : Int) (l : List UInt8) (w : World) (h : Src S R l w) (h0 : 0 ≤ k) (h1 : k ≤ 4096) :
    Calls Tryz.prog 37 #[.pointer (some ⟨R, 0, none⟩), .int .i64 k] w (Runs5 S R w (rdAnd k l) fun t e _ => e = .returned (.agg #[.int .i64 t.a, .int .i64 t.b, .int .i64 t.c])) := by
  have hb1 : Below w.heap.size w (w.alloc (.cells #[.int .i64 0, .int .i64 0, .int .i64 0] 54)) := (Below.refl _ _).alloc (Nat.le_refl _) _
  have N1 := Lib.hid (rnumber_any l _ (h.below hb1))
  have HRW : Hid (R < w.heap.size) := Nat.lt_of_lt_of_le h.ins h.bd
  have HSW : Hid (S ≤ w.heap.size) := h.bd
  have HB1 := Lib.hid hb1
  have HZ0 : Hid ((w.alloc (.cells #[.int .i64 0, .int .i64 0, .int .i64 0] 54)).heap[w.heap.size]? = some (.cells #[.int .i64 0, .int .i64 0, .int .i64 0] 54 (0, 0))) := Array.getElem?_push_size
  clear h hb1
  go_enter Tryz.func37, Tryz.ntmps37
  go_wp2_with fail
  refine N1.out.mono ?_
  intro e w1 hr
  cases hq : rdNum l with
  | none =>
    rw [hq] at hr
    obtain ⟨rfl, hE⟩ := hr
    have HG : Hid (rdAnd k l = none) := by unfold Hid; unfold rdAnd; rw [hq]; rfl
    exact ⟨rfl, runs5_none HG.out ⟨rfl, (Ext.of HB1.out).trans hE⟩⟩
  | some x =>
    obtain ⟨x, s⟩ := x
    rw [hq] at hr
    obtain ⟨rfl, hS, hE⟩ := hr
    have N2 := Lib.hid (rnumber_any s w1 hS)
    have E1 : Hid (Ext R w w1) := (Ext.of HB1.out).trans hE
    have Z1 : Hid (w1.heap[w.heap.size]? = some (.cells #[.int .i64 0, .int .i64 0, .int .i64 0] 54 (0, 0))) := (hE.block _ (lt_of_block HZ0.out) (by have := HRW.out; omega)).trans HZ0.out
    have HQ := Lib.hid hq
    clear hS hE hq N1 HZ0
    have hx : (x : Int) ≤ 100000 := by have := (rdNum_le HQ.out).1; omega
    go_wp2_with fail
    refine N2.out.mono ?_
    intro e w2 hr
    cases hq2 : rdNum s with
    | none =>
      rw [hq2] at hr
      obtain ⟨rfl, hE⟩ := hr
      have HG : Hid (rdAnd k l = none) := by unfold Hid; unfold rdAnd; rw [HQ.out]; simp only [Option.bind_some]; rw [hq2]; rfl
      exact ⟨rfl, runs5_none HG.out ⟨rfl, E1.out.trans hE⟩⟩
    | some y =>
      obtain ⟨y, r⟩ := y
      rw [hq2] at hr
      obtain ⟨rfl, hS, hE⟩ := hr
      have hy : (y : Int) ≤ 100000 := by have := (rdNum_le hq2).1; omega
      have E2 : Hid (Ext R w w2) := E1.out.trans hE
      have Z2 : w2.heap[w.heap.size]? = some (.cells #[.int .i64 0, .int .i64 0, .int .i64 0] 54 (0, 0)) := (hE.block _ (lt_of_block Z1.out) (by have := HRW.out; omega)).trans Z1.out
      have HS := Lib.hid hS
      have HG : Hid (rdAnd k l = some (⟨k, k - x, k - x - y⟩, r)) := by unfold Hid; unfold rdAnd; rw [HQ.out]; simp only [Option.bind_some]; rw [hq2]; rfl
      obtain ⟨Y1, Y2, Y3, u0, u1, u2, ⟨hS1, p0, t0⟩, ⟨hS2, p1, t1⟩, ⟨hS3, p2, t2⟩, E3, FF⟩ := store3 Z2 rfl (.int .i64 k) (.int .i64 (k - x)) (.int .i64 (k - x - y))
      have r0 : Y3.cell? ⟨w.heap.size, 0, none⟩ = some (.int .i64 k) := by simp [World.cell?, E3]
      have r1 : Y3.cell? ⟨w.heap.size, 1, none⟩ = some (.int .i64 (k - x)) := by simp [World.cell?, E3]
      have r2 : Y3.cell? ⟨w.heap.size, 2, none⟩ = some (.int .i64 (k - x - y)) := by simp [World.cell?, E3]
      have HB : Below w.heap.size w2 Y3 := FF.below (Below.refl _ _) (Nat.le_refl _)
      have SF : Hid (Src S R r Y3) := HS.out.later (HB.mono HSW.out)
      have EF : Hid (Ext R w Y3) := E2.out.then HB
      clear hS hE Z2 E3 FF HB hq2
      go_wp2
      (try simp only [Exit.inBlock, Exit.then])
      have hres : ∀ tmps : Array Value, tmps.getD 4 undef = .pointer (some ⟨w.heap.size, 0, none⟩) → (results Tryz.f37 tmps).run Tryz.prog Y3 = .ok (.agg #[.int .i64 k, .int .i64 (k - x), .int .i64 (k - x - y)]) Y3 := fun tmps ht => by
        simp only [results, show Tryz.f37.results = #[ResultVar.cell 4 54] from rfl]
        have ht' : tmps[4]?.getD undef = .pointer (some ⟨w.heap.size, 0, none⟩) := by simpa using ht
        go_simp
      refine bodyPost_ret (hres _ rfl) rfl ?_
      exact runs5_some HG.out ⟨rfl, SF.out, EF.out⟩
end Go.Proofs.YtopjddmgejfalaaGreatDoor.Aig
