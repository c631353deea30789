/- The walk of aig's reading of a latch's line; no condition. -/
import Derived.Test.YtopjddmgejfalaaGreatDoorPk17
import Derived.Test.YtopjddmgejfalaaGreatDoorPk18
namespace Go.Proofs.YtopjddmgejfalaaGreatDoor.Aig
open Go.ChangeShapes Go.WideShapes Go.ChangeAt Go.RowKit Dig Circ Cw Aag

theorem lat5_no {k : Int} {l : List UInt8} (h : rdLine (wl [1, 2]) l = none) : rdLine (formLat5 k) l = none := by
  unfold rdLine at h ⊢
  cases hc : lineCut l with
  | none => rfl
  | some x =>
    rw [hc] at h
    simp only [Option.bind_some, wl] at h ⊢
    split at h
    · cases h
    · rename_i hw
      unfold formLat5
      rw [show wordsOk [1, 2] x.1 = false by simpa using hw]; rfl
theorem lat5_eq {k : Int} {l r : List UInt8} {ws : List (List UInt8)} (h : rdLine (wl [1, 2]) l = some (ws, r)) : (ws.length = 1 ∨ ws.length = 2) ∧ rdLine (formLat5 k) l = if numOk (ws.getD 0 []) = true then (if ws.length = 2 then (if numOk (ws.getD 1 []) = true ∧ numV (ws.getD 1 []) ≠ 0 then some (⟨k, numV (ws.getD 0 []), numV (ws.getD 1 [])⟩, r) else none) else some (⟨k, numV (ws.getD 0 []), 0⟩, r)) else none := by
  obtain ⟨y, hc, rfl, hk⟩ := wl_get h
  refine ⟨?_, ?_⟩
  · unfold wordsOk at hk
    simp only [Bool.and_eq_true, List.contains_cons, List.contains_nil, Bool.or_false, Bool.or_eq_true, beq_iff_eq] at hk
    exact hk.1
  · rw [rdLine_some hc]
    unfold formLat5
    rw [hk, Bool.true_and]
    split
    · rename_i h0
      split
      · rename_i h2
        by_cases h1 : numOk ((wordsL y).getD 1 []) = true ∧ numV ((wordsL y).getD 1 []) ≠ 0
        · rw [if_pos h1, if_pos (by rw [h1.1]; simpa using h1.2)]; rfl
        · rw [if_neg h1, if_neg (fun e => h1 (by simpa using e))]; rfl
      · rfl
    · rfl
theorem wl_fit4 {cs : List Nat} {s r : List UInt8} {ws : List (List UInt8)} (h : rdLine (wl cs) s = some (ws, r)) (hs : s.length ≤ 65536) (k : Nat) : (ws.getD k []).length ≤ 4194304 := by have := (wl_fit h k).1; omega
/-- what operation j of the region leaves -/
def alat2R (T : TypeId) (W : World) (R b o n q' : Nat) (k : Int) (y0 : List UInt8) : Nat → (Nat → Value) → World → Prop
  | 0, f, _ => f 12 = .int .i64 k
  | 1, f, _ => f 13 = .pointer (some ⟨R, 0, none⟩)
  | 2, f, _ => f 14 = .pointer (some ⟨R, 0, none⟩)
  | 3, f, _ => f 15 = .pointer (some ⟨R, 0, none⟩)
  | 4, f, _ => f 16 = .slice (some ⟨b, o, none⟩) n q'
  | 5, f, _ => f 17 = .pointer (some ⟨b, o + 0, none⟩)
  | 6, f, _ => f 18 = sv y0
  | 7, f, _ => f 19 = .int .i64 (numV y0) ∧ numOk y0 = true
  | 8, f, _ => f 20 = .agg #[.int .i64 k, .int .i64 (numV y0), .int .i64 0]
  | 9, f, w => ∃ g, f 6 = .pointer (some ⟨g, 0, none⟩) ∧ W.heap.size ≤ g ∧ ∃ z : Array Value, w.heap[g]? = some (.cells z T (0, 0)) ∧ z.size = 3
  | 10, f, w => ∃ g, f 6 = .pointer (some ⟨g, 0, none⟩) ∧ W.heap.size ≤ g ∧ w.heap[g]? = some (.cells #[.int .i64 k, .int .i64 (numV y0), .int .i64 0] T (0, 0))
  | _, _, _ => True
def alat2M : Nat → List Nat
  | 0 => [12]
  | 1 => [13]
  | 2 => [14]
  | 3 => [15]
  | 4 => [16]
  | 5 => [17]
  | 6 => [18]
  | 7 => [19]
  | 8 => [20]
  | 9 => [6]
  | 10 => [6]
  | _ => []
theorem alat2_stab {T : TypeId} {W : World} {R b o n q' : Nat} {k : Int} {y0 : List UInt8} (jj : Nat) {f f' : Nat → Value} {w w' : World} (h9 : jj = 9 → Below w.heap.size w w') (h10 : jj = 10 → Below w.heap.size w w') (hf : ∀ t ∈ alat2M jj, f' t = f t) (h : alat2R T W R b o n q' k y0 jj f w) : alat2R T W R b o n q' k y0 jj f' w' := by
  match jj, hf, h, h9, h10 with
  | 0, hf, h, _, _ => exact (hf 12 (by decide)).trans h
  | 1, hf, h, _, _ => exact (hf 13 (by decide)).trans h
  | 2, hf, h, _, _ => exact (hf 14 (by decide)).trans h
  | 3, hf, h, _, _ => exact (hf 15 (by decide)).trans h
  | 4, hf, h, _, _ => exact (hf 16 (by decide)).trans h
  | 5, hf, h, _, _ => exact (hf 17 (by decide)).trans h
  | 6, hf, h, _, _ => exact (hf 18 (by decide)).trans h
  | 7, hf, h, h9, h10 =>
    exact ⟨(hf 19 (by decide)).trans h.1, h.2⟩
  | 8, hf, h, _, _ => exact (hf 20 (by decide)).trans h
  | 9, hf, h, h9, h10 =>
    obtain ⟨g, h1, h2, z, h3, h4⟩ := h
    exact ⟨g, (hf 6 (by decide)).trans h1, h2, z, ((h9 rfl).block g (lt_of_block h3)).trans h3, h4⟩
  | 10, hf, h, h9, h10 =>
    obtain ⟨g, h1, h2, h3⟩ := h
    exact ⟨g, (hf 6 (by decide)).trans h1, h2, ((h10 rfl).block g (lt_of_block h3)).trans h3⟩
  | _ + 11, _, _, _, _ => trivial
/-- what operation j of the region leaves -/
def alat4R (T : TypeId) (R b o n q' g : Nat) (k x : Int) (y1 : List UInt8) : Nat → (Nat → Value) → World → Prop
  | 0, f, _ => f 24 = .pointer (some ⟨R, 0, none⟩)
  | 1, f, _ => f 25 = .pointer (some ⟨R, 0, none⟩)
  | 2, f, _ => f 26 = .pointer (some ⟨R, 0, none⟩)
  | 3, f, _ => f 27 = .slice (some ⟨b, o, none⟩) n q'
  | 4, f, _ => f 28 = .pointer (some ⟨b, o + 1, none⟩)
  | 5, f, _ => f 29 = sv y1
  | 6, f, _ => f 30 = .int .i64 (numV y1) ∧ numOk y1 = true
  | 7, f, _ => f 31 = .pointer (some ⟨g, 2, none⟩)
  | 8, _, w => w.heap[g]? = some (.cells #[.int .i64 k, .int .i64 x, .int .i64 (numV y1)] T (0, 0))
  | _, _, _ => True
def alat4M : Nat → List Nat
  | 0 => [24]
  | 1 => [25]
  | 2 => [26]
  | 3 => [27]
  | 4 => [28]
  | 5 => [29]
  | 6 => [30]
  | 7 => [31]
  | 8 => []
  | _ => []
theorem alat4_stab {T : TypeId} {R b o n q' g : Nat} {k x : Int} {y1 : List UInt8} (jj : Nat) {f f' : Nat → Value} {w w' : World} (h8 : jj = 8 → Below w.heap.size w w') (hf : ∀ t ∈ alat4M jj, f' t = f t) (h : alat4R T R b o n q' g k x y1 jj f w) : alat4R T R b o n q' g k x y1 jj f' w' := by
  match jj, hf, h, h8 with
  | 0, hf, h, _ => exact (hf 24 (by decide)).trans h
  | 1, hf, h, _ => exact (hf 25 (by decide)).trans h
  | 2, hf, h, _ => exact (hf 26 (by decide)).trans h
  | 3, hf, h, _ => exact (hf 27 (by decide)).trans h
  | 4, hf, h, _ => exact (hf 28 (by decide)).trans h
  | 5, hf, h, _ => exact (hf 29 (by decide)).trans h
  | 6, hf, h, h8 =>
    exact ⟨(hf 30 (by decide)).trans h.1, h.2⟩
  | 7, hf, h, _ => exact (hf 31 (by decide)).trans h
  | 8, hf, h, h8 =>
    exact ((h8 rfl).block g (lt_of_block h)).trans h
  | _ + 9, _, _, _ => trivial
/-- what operation j of the region leaves -/
def alat5R (R g : Nat) (nv : Int) : Nat → (Nat → Value) → World → Prop
  | 0, f, _ => f 32 = .pointer (some ⟨R, 0, none⟩)
  | 1, f, _ => f 33 = .pointer (some ⟨R, 0, none⟩)
  | 2, f, _ => f 34 = .pointer (some ⟨R, 0, none⟩)
  | 3, f, _ => f 35 = .pointer (some ⟨g, 2, none⟩)
  | 4, f, _ => f 36 = .int .i64 nv
  | 5, f, _ => f 37 = .bool (!(nv == 0))
  | 6, _, _ => (!(nv == 0)) = true
  | _, _, _ => True
def alat5M : Nat → List Nat
  | 0 => [32]
  | 1 => [33]
  | 2 => [34]
  | 3 => [35]
  | 4 => [36]
  | 5 => [37]
  | 6 => []
  | _ => []
theorem alat5_stab {R g : Nat} {nv : Int} (jj : Nat) {f f' : Nat → Value} {w w' : World}  (hf : ∀ t ∈ alat5M jj, f' t = f t) (h : alat5R R g nv jj f w) : alat5R R g nv jj f' w' := by
  match jj, hf, h with
  | 0, hf, h => exact (hf 32 (by decide)).trans h
  | 1, hf, h => exact (hf 33 (by decide)).trans h
  | 2, hf, h => exact (hf 34 (by decide)).trans h
  | 3, hf, h => exact (hf 35 (by decide)).trans h
  | 4, hf, h => exact (hf 36 (by decide)).trans h
  | 5, hf, h => exact (hf 37 (by decide)).trans h
  | 6, hf, h =>
    exact h
  | _ + 7, _, _ => trivial
set_option maxHeartbeats 4000000 in
set_option maxRecDepth 100000 in
theorem latch_run {S R : Nat} (k : Int) (l : List UInt8) (w : World) (h : Src S R l w) :
    Calls Tryz.prog 35 #[.pointer (some ⟨R, 0, none⟩), .int .i64 k] w (Runs5 S R w (rdLine (formLat5 k) l) (fun t e _ => e = .returned (.agg #[.int .i64 t.a, .int .i64 t.b, .int .i64 t.c]))) := by
  have hb1 : Below w.heap.size w (w.alloc (.cells #[.int .i64 0, .int .i64 0, .int .i64 0] 48)) := (Below.refl _ _).alloc (Nat.le_refl _) _
  have hs1 : (w.alloc (.cells #[.int .i64 0, .int .i64 0, .int .i64 0] 48)).heap.size = w.heap.size + 1 := by simp
  have hb2 : Below w.heap.size w ((w.alloc (.cells #[.int .i64 0, .int .i64 0, .int .i64 0] 48)).alloc (.cells #[.int .i64 1, .int .i64 2] 3)) := hb1.alloc hb1.size _
  have hs2 : ((w.alloc (.cells #[.int .i64 0, .int .i64 0, .int .i64 0] 48)).alloc (.cells #[.int .i64 1, .int .i64 2] 3)).heap.size = w.heap.size + 2 := by simp
  have hrow : LRow ((w.alloc (.cells #[.int .i64 0, .int .i64 0, .int .i64 0] 48)).alloc (.cells #[.int .i64 1, .int .i64 2] 3)) (w.heap.size + 2) 1 (some ⟨w.heap.size + 1, 0, none⟩) (ints ([1, 2].map fun x : Nat => (x : Int))) := by
    have := ints_row (w.alloc (.cells #[.int .i64 0, .int .i64 0, .int .i64 0] 48)) [1, 2] #[.int .i64 1, .int .i64 2] 3 rfl
    rw [hs1] at this
    exact this
  have HRW : Hid (R < w.heap.size) := Nat.lt_of_lt_of_le h.ins h.bd
  have HSW : Hid (S ≤ w.heap.size) := h.bd
  have hlen := h.len
  have WO := Lib.hid (reader_words [1, 2] _ 2 _ _ (h.below hb2) hrow (by rw [hs2]; exact Nat.le_refl _) (fun p hp => by cases hp; exact Nat.ne_of_gt (Nat.lt_succ_of_lt HRW.out)) (by simp))
  have HB2 := Lib.hid hb2
  have KZ0 : Hid (((w.alloc (.cells #[.int .i64 0, .int .i64 0, .int .i64 0] 48)).alloc (.cells #[.int .i64 1, .int .i64 2] 3)).heap[w.heap.size]? = some (.cells #[.int .i64 0, .int .i64 0, .int .i64 0] 48 (0, 0))) := by
    unfold Hid
    rw [Below.heap_alloc _ _ _ (by rw [hs1]; omega)]; exact Array.getElem?_push_size
  have EN : Hid (∀ args w, (callFunc 60 args).run Tryz.prog w = .ok (.enter 60 args) w) := enters_of Tryz.func60 (by kernel_rfl) rfl
  have ED : Hid (∀ args w, (callFunc 21 args).run Tryz.prog w = .ok (.enter 21 args) w) := enters_of Tryz.func21 (by kernel_rfl) rfl
  clear h hb1 hb2 hs1 hs2 hrow
  obtain ⟨goal, hgoal⟩ : ∃ g, g = rdLine (formLat5 k) l := ⟨_, rfl⟩
  have HG := Lib.hid hgoal
  rw [← hgoal]
  clear hgoal
  go_enter Tryz.func35, Tryz.ntmps35
  go_wp2_with fail
  refine WO.out.mono ?_
  intro e w2 hr
  cases hq : rdLine (wl [1, 2]) l with
  | none =>
    rw [hq] at hr
    obtain ⟨rfl, hE⟩ := hr
    exact ⟨rfl, runs5_none (HG.out.trans (lat5_no hq)) ⟨rfl, (Ext.of HB2.out).trans hE⟩⟩
  | some x =>
  obtain ⟨ws, r⟩ := x
  obtain ⟨hlc, heq⟩ := lat5_eq (k := k) hq
  rw [← HG.out] at heq
  rw [hq] at hr
  obtain ⟨⟨A1, q1, rfl, hrd, -⟩, hS, hE⟩ := hr
  replace hrd : ReadsAt A1 ws w2 := hrd
  replace hS : Src S R r w2 := hS
  have E2 : Hid (Ext R w w2) := (Ext.of HB2.out).trans hE
  have KZ1 : Hid (w2.heap[w.heap.size]? = some (.cells #[.int .i64 0, .int .i64 0, .int .i64 0] 48 (0, 0))) := (hE.block _ (lt_of_block KZ0.out) (by have := HRW.out; omega)).trans KZ0.out
  have KZ : Hid (∀ x, Below w2.heap.size w2 x → x.heap[w.heap.size]? = some (.cells #[.int .i64 0, .int .i64 0, .int .i64 0] 48 (0, 0))) := fun x hx => (hx.block _ (lt_of_block KZ1.out)).trans KZ1.out
  have HS2 := Lib.hid hS
  have HWF := Lib.hid (wl_fit4 hq hlen)
  have FA0 : Hid (numOk (ws.getD 0 []) = false → ∀ x, Ext R w x → Runs5 S R w goal (fun t e _ => e = .returned (.agg #[.int .i64 t.a, .int .i64 t.b, .int .i64 t.c])) (.panicked fault5) x) := fun hy x hx => runs5_none (by rw [heq, if_neg (by rw [hy]; simp)]) ⟨rfl, hx⟩
  have FA1' : Hid (ws.length = 2 → numOk (ws.getD 1 []) = false → ∀ x, Ext R w x → Runs5 S R w goal (fun t e _ => e = .returned (.agg #[.int .i64 t.a, .int .i64 t.b, .int .i64 t.c])) (.panicked fault5) x) := fun h2 hy x hx => runs5_none (by
    rw [heq]; split
    · first | rw [if_pos h2, if_neg (fun e => by rw [hy] at e; simp at e)] | rw [if_neg (fun e => by rw [hy] at e; simp at e)]
    · rfl) ⟨rfl, hx⟩
  have FA3 : Hid (ws.length = 2 → numV (ws.getD 1 []) = 0 → ∀ x, Ext R w x → Runs5 S R w goal (fun t e _ => e = .returned (.agg #[.int .i64 t.a, .int .i64 t.b, .int .i64 t.c])) (.panicked fault5) x) := fun h2 hy x hx => runs5_none (by
    rw [heq]; split
    · first | rw [if_pos h2, if_neg (fun e => e.2 hy)] | rw [if_neg (fun e => e.2 hy)]
    · rfl) ⟨rfl, hx⟩
  have OK1 : Hid (ws.length = 1 → numOk (ws.getD 0 []) = true → goal = some (⟨k, numV (ws.getD 0 []), 0⟩, r)) := fun h2 h0 => by rw [heq, if_pos h0, if_neg (by omega)]
  have OK2 : Hid (ws.length = 2 → numOk (ws.getD 0 []) = true → numOk (ws.getD 1 []) = true → numV (ws.getD 1 []) ≠ 0 → goal = some (⟨k, numV (ws.getD 0 []), numV (ws.getD 1 [])⟩, r)) := fun h2 h0 h1 h3 => by rw [heq, if_pos h0, if_pos h2, if_pos ⟨h1, h3⟩]
  have HLC := Lib.hid hlc
  have HR := Lib.hid hrd
  have hl1 : 1 ≤ ws.length := by omega
  obtain ⟨b, o, rfl, hc0⟩ := reads_cellD hrd 0 (by omega)
  have HBB : Hid (b < w2.heap.size) := World.block_lt_of_cell? _ _ hc0
  have HC0 : Hid (∀ x, Below w2.heap.size w2 x → x.cell? ⟨b, o + 0, none⟩ = some (sv (ws.getD 0 []))) := fun x hx => (hx.cell HBB.out).trans hc0
  clear hrd hS hE hc0 hlc heq hq WO KZ0 KZ1 HB2 HG
  go_wp2
  refine wp_region_valsD (by kernel_rfl) (by kernel_rfl) alat2M (by kernel_rfl) (by kernel_rfl)
    (fun _ w' => Below w2.heap.size w2 w') (alat2R 48 w2 R b o ws.length q1 k (ws.getD 0 [])) (Below.refl _ _).drew (fun jj f f' w w' hb hf h => alat2_stab jj (fun _ => hb) (fun _ => hb) hf h) ?_ ?_
  · intro i oo d a' w' ho hd hun hdf hok hD K hK hK0
    match i, ho, hd, hD, hK, hK0, hun with
    | 0, ho, hd, hD, hK, hK0, hun =>
      have e := (congrArg Oper.op (Option.some.inj ho)).symm
      obtain rfl := Option.some.inj ho
      exact wp_val (op_move a' w' 1 _ e) (hK _ _ (Below.refl _ _) hok (fun f h1 _ => (h1 _ rfl).trans (hun 1 (by kernel_rfl))))
    | 1, ho, hd, hD, hK, hK0, hun =>
      have e := (congrArg Oper.op (Option.some.inj ho)).symm
      obtain rfl := Option.some.inj ho
      exact wp_val (op_move a' w' 0 _ e) (hK _ _ (Below.refl _ _) hok (fun f h1 _ => (h1 _ rfl).trans (hun 0 (by kernel_rfl))))
    | 2, ho, hd, hD, hK, hK0, hun =>
      have e := (congrArg Oper.op (Option.some.inj ho)).symm
      obtain rfl := Option.some.inj ho
      exact wp_val (op_nil a' w' _ 13 (hD 1 (by kernel_rfl)) _ e) (hK _ _ (Below.refl _ _) hok (fun f h1 _ => h1 _ rfl))
    | 3, ho, hd, hD, hK, hK0, hun =>
      have e := (congrArg Oper.op (Option.some.inj ho)).symm
      obtain rfl := Option.some.inj ho
      exact wp_val (op_field_aig_reader_0 a' w' _ 14 (hD 2 (by kernel_rfl)) _ e) (hK _ _ (Below.refl _ _) hok (fun f h1 _ => h1 _ rfl))
    | 4, ho, hd, hD, hK, hK0, hun =>
      have e := (congrArg Oper.op (Option.some.inj ho)).symm
      obtain rfl := Option.some.inj ho
      exact wp_val (op_move a' w' 5 _ e) (hK _ _ (Below.refl _ _) hok (fun f h1 _ => (h1 _ rfl).trans (hun 5 (by kernel_rfl))))
    | 5, ho, hd, hD, hK, hK0, hun =>
      have e := (congrArg Oper.op (Option.some.inj ho)).symm
      obtain rfl := Option.some.inj ho
      exact wp_val (op_index_Lstring a' w' _ _ _ _ 0 16 (hD 4 (by kernel_rfl)) (by first | decide | omega) _ e) (hK _ _ (Below.refl _ _) hok (fun f h1 _ => h1 _ rfl))
    | 6, ho, hd, hD, hK, hK0, hun =>
      have e := (congrArg Oper.op (Option.some.inj ho)).symm
      obtain rfl := Option.some.inj ho
      exact wp_val (op_load_string a' w' _ 17 _ (hD 5 (by kernel_rfl)) (HC0.out _ hok) _ e) (hK _ _ (Below.refl _ _) hok (fun f h1 _ => h1 _ rfl))
    | 7, ho, hd, hD, hK, hK0, hun =>
      have e := (congrArg Oper.op (Option.some.inj ho)).symm
      obtain rfl := Option.some.inj ho
      refine wp_enter (op_call2 a' w' _ 15 18 _ _ EN.out _ e) ?_
      rw [show a'.tmps.getD 15 undef = .pointer (some ⟨R, 0, none⟩) from hD 3 (by kernel_rfl), show a'.tmps.getD 18 undef = sv (ws.getD 0 []) from hD 6 (by kernel_rfl)]
      refine (parsed_any (R := R) _ w' (HWF.out _)).mono ?_
      rintro e w'' ⟨hb, ⟨hy, rfl⟩ | ⟨hy, rfl⟩⟩
      · exact .inl ⟨_, rfl, hK _ _ hb (hok.trans (hb.mono hok.size)) (fun f h1 _ => ⟨h1 _ rfl, hy⟩)⟩
      · exact .inr ⟨_, rfl, hdf, FA0.out hy _ (E2.out.trans (Ext.of (hok.trans (hb.mono hok.size))))⟩
    | 8, ho, hd, hD, hK, hK0, hun =>
      have e := (congrArg Oper.op (Option.some.inj ho)).symm
      obtain rfl := Option.some.inj ho
      exact wp_val (op_build_lat a' w' _ _ 12 19 (hD 0 (by kernel_rfl)) (hD 7 (by kernel_rfl)).1 _ e) (hK _ _ (Below.refl _ _) hok (fun f h1 _ => h1 _ rfl))
    | 9, ho, hd, hD, hK, hK0, hun =>
      have e := (congrArg Oper.op (Option.some.inj ho)).symm
      obtain rfl := Option.some.inj ho
      exact wp_val (op_alloc_lat a' w' _ e) (hK _ _ ((Below.refl _ _).alloc (Nat.le_refl _) _) (hok.alloc hok.size _) (fun f h1 _ => ⟨w'.heap.size, h1 _ rfl, hok.size, _, Array.getElem?_push_size, rfl⟩))
    | 10, ho, hd, hD, hK, hK0, hun =>
      have e := (congrArg Oper.op (Option.some.inj ho)).symm
      obtain rfl := Option.some.inj ho
      obtain ⟨g, h4, hg, z, hgc, hz⟩ : ∃ g, vals a' 6 = .pointer (some ⟨g, 0, none⟩) ∧ w2.heap.size ≤ g ∧ ∃ z : Array Value, w'.heap[g]? = some (.cells z 48 (0, 0)) ∧ z.size = 3 := hD 9 (by kernel_rfl)
      obtain ⟨w'', hr, hgc2, hbut⟩ := op_store_lat a' w' g z hgc hz _ _ _ 6 20 h4 (hD 8 (by kernel_rfl)) _ e
      refine wp_skip' hr (hK0 _ _ (hbut.below hok hg) (fun f h1 h2 => ⟨g, (h2 6 (by decide)).trans h4, hg, hgc2⟩) (fun j f hj hf hq => ?_))
      by_cases h9 : j = 9
      · subst h9
        obtain ⟨g', h4', _, z', hgc', hz'⟩ := hq
        have e3 := h4'.symm.trans h4
        simp only [Value.pointer.injEq, Option.some.injEq, Addr.mk.injEq, and_true] at e3
        subst e3
        exact ⟨g', (hf 6 (by decide)).trans h4', hg, _, hgc2, rfl⟩
      · exact alat2_stab j (fun e2 => absurd e2 h9) (fun e2 => absurd e2 hj) hf hq
    | i + 11, ho, _, _, _, _, _ => exact absurd ho (by simp)
  · intro a' w3 hsz hdf hkt hok hR
    have HF3 := frame_sets [6, 12, 13, 14, 15, 16, 17, 18, 19, 20] (by kernel_rfl) hsz hkt
    obtain ⟨d, hok⟩ := hok
    obtain ⟨g, h4, hg, hgc⟩ : ∃ g, vals a' 6 = .pointer (some ⟨g, 0, none⟩) ∧ w2.heap.size ≤ g ∧ w3.heap[g]? = some (.cells #[.int .i64 k, .int .i64 (numV (ws.getD 0 [])), .int .i64 0] 48 (0, 0)) := hR 10 (by decide)
    have N0 := Lib.hid (hR 7 (by decide) : _ ∧ numOk (ws.getD 0 []) = true).2
    obtain ⟨tm, df⟩ := a'
    obtain rfl : df = _ := hdf
    simp only [List.foldl_cons, List.foldl_nil] at HF3
    clear hkt hR hsz
    replace h4 : tm.getD 6 undef = _ := h4
    rw [h4] at HF3
    clear h4
    generalize tm.getD 12 undef = y12 at HF3
    generalize tm.getD 13 undef = y13 at HF3
    generalize tm.getD 14 undef = y14 at HF3
    generalize tm.getD 15 undef = y15 at HF3
    generalize tm.getD 16 undef = y16 at HF3
    generalize tm.getD 17 undef = y17 at HF3
    generalize tm.getD 18 undef = y18 at HF3
    generalize tm.getD 19 undef = y19 at HF3
    generalize tm.getD 20 undef = y20 at HF3
    simp only [List.setIfInBounds_toArray, List.set_cons_succ, List.set_cons_zero] at HF3
    subst HF3
    have GC := Lib.hid hgc
    have HG4 := Lib.hid hg
    have B3 := Lib.hid hok
    clear hgc hg hok HC0
    rcases HLC.out with h2 | h3
    · have h23 : ((ws.length : Int) == 2) = false := by rw [h2]; rfl
      have BZ9 : Hid (Below w2.heap.size w2 w3) := B3.out
      have GC9 := Lib.hid GC.out
      have OKG : Hid (goal = some (⟨k, numV (ws.getD 0 []), 0⟩, r)) := (OK1.out h2 N0.out)
      clear FA0 N0
      generalize numV (ws.getD 0 []) = nx at *
      have CZ : Hid (w3.heap[w.heap.size]? = some (.cells #[.int .i64 0, .int .i64 0, .int .i64 0] 48 (0, 0))) := KZ.out _ BZ9.out
      have G8 : w3.heap[g]? = some (.cells #[.int .i64 k, .int .i64 nx, .int .i64 0] 48 (0, 0)) := GC9.out
      have Z8 : w3.heap[w.heap.size]? = some (.cells #[.int .i64 0, .int .i64 0, .int .i64 0] 48 (0, 0)) := CZ.out
      have c0 : w3.cell? ⟨g, 0, none⟩ = some (.int .i64 k) := by simp [World.cell?, G8]
      have c1 : w3.cell? ⟨g, 1, none⟩ = some (.int .i64 nx) := by simp [World.cell?, G8]
      have c2 : w3.cell? ⟨g, 2, none⟩ = some (.int .i64 0) := by simp [World.cell?, G8]
      obtain ⟨Z1, Z2, Z3, u0, u1, u2, ⟨hS1, p0, t0⟩, ⟨hS2, p1, t1⟩, ⟨hS3, p2, t2⟩, E3, FF⟩ := store3 Z8 rfl (.int .i64 k) (.int .i64 nx) (.int .i64 0)
      have r0 : Z3.cell? ⟨w.heap.size, 0, none⟩ = some (.int .i64 k) := by simp [World.cell?, E3]
      have r1 : Z3.cell? ⟨w.heap.size, 1, none⟩ = some (.int .i64 nx) := by simp [World.cell?, E3]
      have r2 : Z3.cell? ⟨w.heap.size, 2, none⟩ = some (.int .i64 0) := by simp [World.cell?, E3]
      have HB : Below w.heap.size w3 Z3 := FF.below (Below.refl _ _) (Nat.le_refl _)
      have SF : Hid (Src S R r Z3) := (HS2.out.below BZ9.out).later (HB.mono HSW.out)
      have EF : Hid (Ext R w Z3) := (E2.out.trans (Ext.of BZ9.out)).then HB
      clear G8 Z8 E3 FF HB
      go_wp2
      (try simp only [Exit.inBlock, Exit.then])
      have hres : ∀ tmps : Array Value, tmps.getD 4 undef = .pointer (some ⟨w.heap.size, 0, none⟩) → (results Tryz.f35 tmps).run Tryz.prog Z3 = .ok (.agg #[.int .i64 k, .int .i64 nx, .int .i64 0]) Z3 := fun tmps ht => by
        simp only [results, show Tryz.f35.results = #[ResultVar.cell 4 48] from rfl]
        have ht' : tmps[4]?.getD undef = .pointer (some ⟨w.heap.size, 0, none⟩) := by simpa using ht
        go_simp
      refine bodyPost_ret (hres _ rfl) rfl ?_
      exact runs5_some OKG.out ⟨rfl, SF.out, EF.out⟩
    · have h23 : ((ws.length : Int) == 2) = true := by rw [h3]; rfl
      have H3 := Lib.hid h3
      have hl3 : 2 ≤ ws.length := by omega
      obtain ⟨b2, o2, e2, hc2⟩ := reads_cellD HR.out 1 (by omega)
      injection e2 with e2; injection e2 with e2 e2'; subst e2; subst e2'
      have HC1 : Hid (∀ x, Below w3.heap.size w3 x → x.cell? ⟨b, o + 1, none⟩ = some (sv (ws.getD 1 []))) := fun x hx => by
        have hbx := B3.out.trans (hx.mono B3.out.size)
        exact (hbx.cell HBB.out).trans hc2
      have FA1 := Lib.hid (FA1'.out H3.out)
      have FA3' := Lib.hid (FA3.out H3.out)
      have OK3' := Lib.hid (OK2.out H3.out N0.out)
      clear hc2 FA1' FA3 OK2 OK1 h3
      go_wp2
      refine wp_region_valsD (by kernel_rfl) (by kernel_rfl) alat4M (by kernel_rfl) (by kernel_rfl)
        (fun d w' => (d 8 = false → Below w3.heap.size w3 w') ∧ Below w2.heap.size w3 w') (alat4R 48 R b o ws.length q1 g k (numV (ws.getD 0 [])) (ws.getD 1 [])) ⟨fun _ => (Below.refl _ _).drew, (Below.refl _ _).drew⟩ (fun jj f f' w w' hb hf h => alat4_stab jj (fun _ => hb) hf h) ?_ ?_
      · intro i oo d a' w' ho hd hun hdf hok hD K hK hK0
        match i, ho, hd, hD, hK, hK0, hun with
        | 0, ho, hd, hD, hK, hK0, hun =>
          have e := (congrArg Oper.op (Option.some.inj ho)).symm
          obtain rfl := Option.some.inj ho
          exact wp_val (op_move a' w' 0 _ e) (hK _ _ (Below.refl _ _) ⟨fun h => hok.1 (by simp only [Bool.or_eq_false_iff] at h; exact h.2), hok.2⟩ (fun f h1 _ => (h1 _ rfl).trans (hun 0 (by kernel_rfl))))
        | 1, ho, hd, hD, hK, hK0, hun =>
          have e := (congrArg Oper.op (Option.some.inj ho)).symm
          obtain rfl := Option.some.inj ho
          exact wp_val (op_nil a' w' _ 24 (hD 0 (by kernel_rfl)) _ e) (hK _ _ (Below.refl _ _) ⟨fun h => hok.1 (by simp only [Bool.or_eq_false_iff] at h; exact h.2), hok.2⟩ (fun f h1 _ => h1 _ rfl))
        | 2, ho, hd, hD, hK, hK0, hun =>
          have e := (congrArg Oper.op (Option.some.inj ho)).symm
          obtain rfl := Option.some.inj ho
          exact wp_val (op_field_aig_reader_0 a' w' _ 25 (hD 1 (by kernel_rfl)) _ e) (hK _ _ (Below.refl _ _) ⟨fun h => hok.1 (by simp only [Bool.or_eq_false_iff] at h; exact h.2), hok.2⟩ (fun f h1 _ => h1 _ rfl))
        | 3, ho, hd, hD, hK, hK0, hun =>
          have e := (congrArg Oper.op (Option.some.inj ho)).symm
          obtain rfl := Option.some.inj ho
          exact wp_val (op_move a' w' 5 _ e) (hK _ _ (Below.refl _ _) ⟨fun h => hok.1 (by simp only [Bool.or_eq_false_iff] at h; exact h.2), hok.2⟩ (fun f h1 _ => (h1 _ rfl).trans (hun 5 (by kernel_rfl))))
        | 4, ho, hd, hD, hK, hK0, hun =>
          have e := (congrArg Oper.op (Option.some.inj ho)).symm
          obtain rfl := Option.some.inj ho
          exact wp_val (op_index_Lstring a' w' _ _ _ _ 1 27 (hD 3 (by kernel_rfl)) (by first | decide | omega) _ e) (hK _ _ (Below.refl _ _) ⟨fun h => hok.1 (by simp only [Bool.or_eq_false_iff] at h; exact h.2), hok.2⟩ (fun f h1 _ => h1 _ rfl))
        | 5, ho, hd, hD, hK, hK0, hun =>
          have e := (congrArg Oper.op (Option.some.inj ho)).symm
          obtain rfl := Option.some.inj ho
          exact wp_val (op_load_string a' w' _ 28 _ (hD 4 (by kernel_rfl)) (HC1.out _ (hok.1 (hd 8 (by kernel_rfl)))) _ e) (hK _ _ (Below.refl _ _) ⟨fun h => hok.1 (by simp only [Bool.or_eq_false_iff] at h; exact h.2), hok.2⟩ (fun f h1 _ => h1 _ rfl))
        | 6, ho, hd, hD, hK, hK0, hun =>
          have e := (congrArg Oper.op (Option.some.inj ho)).symm
          obtain rfl := Option.some.inj ho
          have hb8 := hok.1 (hd 8 (by kernel_rfl))
          refine wp_enter (op_call2 a' w' _ 26 29 _ _ EN.out _ e) ?_
          rw [show a'.tmps.getD 26 undef = .pointer (some ⟨R, 0, none⟩) from hD 2 (by kernel_rfl), show a'.tmps.getD 29 undef = sv (ws.getD 1 []) from hD 5 (by kernel_rfl)]
          refine (parsed_any (R := R) _ w' (HWF.out _)).mono ?_
          rintro e w'' ⟨hb, ⟨hy, rfl⟩ | ⟨hy, rfl⟩⟩
          · exact .inl ⟨_, rfl, hK _ _ hb ⟨fun _ => hb8.trans (hb.mono hb8.size), hok.2.trans (hb.mono (Nat.le_trans B3.out.size hb8.size))⟩ (fun f h1 _ => ⟨h1 _ rfl, hy⟩)⟩
          · exact .inr ⟨_, rfl, hdf, FA1.out hy _ (E2.out.trans ((Ext.of B3.out).trans (Ext.of (hb8.trans (hb.mono hb8.size)))))⟩
        | 7, ho, hd, hD, hK, hK0, hun =>
          have e := (congrArg Oper.op (Option.some.inj ho)).symm
          obtain rfl := Option.some.inj ho
          exact wp_val (op_field_api_Latch_2 a' w' _ 6 (hun 6 (by kernel_rfl)) _ e) (hK _ _ (Below.refl _ _) ⟨fun h => hok.1 (by simp only [Bool.or_eq_false_iff] at h; exact h.2), hok.2⟩ (fun f h1 _ => h1 _ rfl))
        | 8, ho, hd, hD, hK, hK0, hun =>
          have e := (congrArg Oper.op (Option.some.inj ho)).symm
          obtain rfl := Option.some.inj ho
          have hb8 := hok.1 (hd 8 (by kernel_rfl))
          obtain ⟨w'', hr, hgc2, hbut⟩ := op_store_int a' w' g 2 _ _ ((hb8.block g (lt_of_block GC.out)).trans GC.out) (Nat.lt_succ_self 2) _ 31 30 (hD 7 (by kernel_rfl)) (hD 6 (by kernel_rfl)).1 _ e
          refine wp_skip' hr (hK0 _ _ ⟨fun h => by simp at h, hbut.below hok.2 HG4.out⟩ (fun f h1 h2 => hgc2) (fun j f hj hf hq => alat4_stab j (fun e2 => absurd e2 hj) hf hq))
        | i + 9, ho, _, _, _, _, _ => exact absurd ho (by simp)
      · intro a' w4 hsz hdf hkt hok hR
        have HF3 := frame_sets [24, 25, 26, 27, 28, 29, 30, 31] (by kernel_rfl) hsz hkt
        obtain ⟨d, hok⟩ := hok
        have GC9 : Hid (w4.heap[g]? = some (.cells #[.int .i64 k, .int .i64 (numV (ws.getD 0 [])), .int .i64 (numV (ws.getD 1 []))] 48 (0, 0))) := hR 8 (by decide)
        have N2 := Lib.hid (hR 6 (by decide) : _ ∧ numOk (ws.getD 1 []) = true).2
        obtain ⟨tm, df⟩ := a'
        obtain rfl : df = _ := hdf
        simp only [List.foldl_cons, List.foldl_nil] at HF3
        clear hkt hR hsz
        generalize tm.getD 24 undef = y24 at HF3
        generalize tm.getD 25 undef = y25 at HF3
        generalize tm.getD 26 undef = y26 at HF3
        generalize tm.getD 27 undef = y27 at HF3
        generalize tm.getD 28 undef = y28 at HF3
        generalize tm.getD 29 undef = y29 at HF3
        generalize tm.getD 30 undef = y30 at HF3
        generalize tm.getD 31 undef = y31 at HF3
        simp only [List.setIfInBounds_toArray, List.set_cons_succ, List.set_cons_zero] at HF3
        subst HF3
        have BZ9 : Hid (Below w2.heap.size w2 w4) := B3.out.trans hok.2
        clear hok HC1
        have d2 : w4.cell? ⟨g, 2, none⟩ = some (.int .i64 (numV (ws.getD 1 []))) := by have := GC9.out; simp [World.cell?, this]
        have D2 : Hid (∀ x, Below w4.heap.size w4 x → x.cell? ⟨g, 2, none⟩ = some (.int .i64 (numV (ws.getD 1 [])))) := fun x hx => (hx.cell (lt_of_block GC9.out)).trans d2
        have OK3'' := Lib.hid (OK3'.out N2.out)
        clear d2 OK3' FA1
        generalize hnv : numV (ws.getD 1 []) = nv at *
        clear hnv
        go_wp2
        refine wp_region_valsD (by kernel_rfl) (by kernel_rfl) alat5M (by kernel_rfl) (by kernel_rfl)
          (fun _ w' => Below w4.heap.size w4 w') (alat5R R g nv) (Below.refl _ _).drew (fun jj f f' w w' hb hf h => alat5_stab jj  hf h) ?_ ?_
        · intro i oo d a' w' ho hd hun hdf hok hD K hK hK0
          match i, ho, hd, hD, hK, hK0, hun with
          | 0, ho, hd, hD, hK, hK0, hun =>
            have e := (congrArg Oper.op (Option.some.inj ho)).symm
            obtain rfl := Option.some.inj ho
            exact wp_val (op_move a' w' 0 _ e) (hK _ _ (Below.refl _ _) hok (fun f h1 _ => (h1 _ rfl).trans (hun 0 (by kernel_rfl))))
          | 1, ho, hd, hD, hK, hK0, hun =>
            have e := (congrArg Oper.op (Option.some.inj ho)).symm
            obtain rfl := Option.some.inj ho
            exact wp_val (op_nil a' w' _ 32 (hD 0 (by kernel_rfl)) _ e) (hK _ _ (Below.refl _ _) hok (fun f h1 _ => h1 _ rfl))
          | 2, ho, hd, hD, hK, hK0, hun =>
            have e := (congrArg Oper.op (Option.some.inj ho)).symm
            obtain rfl := Option.some.inj ho
            exact wp_val (op_field_aig_reader_0 a' w' _ 33 (hD 1 (by kernel_rfl)) _ e) (hK _ _ (Below.refl _ _) hok (fun f h1 _ => h1 _ rfl))
          | 3, ho, hd, hD, hK, hK0, hun =>
            have e := (congrArg Oper.op (Option.some.inj ho)).symm
            obtain rfl := Option.some.inj ho
            exact wp_val (op_field_api_Latch_2 a' w' _ 6 (hun 6 (by kernel_rfl)) _ e) (hK _ _ (Below.refl _ _) hok (fun f h1 _ => h1 _ rfl))
          | 4, ho, hd, hD, hK, hK0, hun =>
            have e := (congrArg Oper.op (Option.some.inj ho)).symm
            obtain rfl := Option.some.inj ho
            exact wp_val (op_load_int a' w' _ 35 _ (hD 3 (by kernel_rfl)) (D2.out _ hok) _ e) (hK _ _ (Below.refl _ _) hok (fun f h1 _ => h1 _ rfl))
          | 5, ho, hd, hD, hK, hK0, hun =>
            have e := (congrArg Oper.op (Option.some.inj ho)).symm
            obtain rfl := Option.some.inj ho
            exact wp_val (op_ne0 a' w' _ 36 (hD 4 (by kernel_rfl)) _ e) (hK _ _ (Below.refl _ _) hok (fun f h1 _ => h1 _ rfl))
          | 6, ho, hd, hD, hK, hK0, hun =>
            have e := (congrArg Oper.op (Option.some.inj ho)).symm
            obtain rfl := Option.some.inj ho
            refine wp_enter (op_call2 a' w' _ 34 37 _ _ ED.out _ e) ?_
            rw [show a'.tmps.getD 34 undef = .pointer (some ⟨R, 0, none⟩) from hD 2 (by kernel_rfl), show a'.tmps.getD 37 undef = .bool (!(nv == 0)) from hD 5 (by kernel_rfl)]
            refine (need_any _ _ w').mono ?_
            rintro e w'' ⟨⟨hy, rfl⟩ | ⟨hy, rfl⟩, rfl⟩
            · exact .inl ⟨_, rfl, hK _ _ (Below.refl _ _) hok (fun f h1 _ => hy)⟩
            · exact .inr ⟨_, rfl, hdf, FA3'.out (by simpa using hy) _ (E2.out.trans (Ext.of (BZ9.out.trans (hok.mono BZ9.out.size))))⟩
          | i + 7, ho, _, _, _, _, _ => exact absurd ho (by simp)
        · intro a' w5 hsz hdf hkt hok hR
          have HF3 := frame_sets [32, 33, 34, 35, 36, 37, 38] (by kernel_rfl) hsz hkt
          obtain ⟨d, hok⟩ := hok
          have hnz : (!(nv == 0)) = true := hR 6 (by decide)
          obtain ⟨tm, df⟩ := a'
          obtain rfl : df = _ := hdf
          simp only [List.foldl_cons, List.foldl_nil] at HF3
          clear hkt hR hsz
          generalize tm.getD 32 undef = y32 at HF3
          generalize tm.getD 33 undef = y33 at HF3
          generalize tm.getD 34 undef = y34 at HF3
          generalize tm.getD 35 undef = y35 at HF3
          generalize tm.getD 36 undef = y36 at HF3
          generalize tm.getD 37 undef = y37 at HF3
          generalize tm.getD 38 undef = y38 at HF3
          simp only [List.setIfInBounds_toArray, List.set_cons_succ, List.set_cons_zero] at HF3
          subst HF3
          have hz : nv ≠ 0 := by simpa using hnz
          have OKF := Lib.hid (OK3''.out hz)
          clear hz hnz D2
          have BZ9' : Hid (Below w2.heap.size w2 w5) := BZ9.out.trans (hok.mono BZ9.out.size)
          have GC9' : Hid (w5.heap[g]? = _) := (hok.block g (lt_of_block GC9.out)).trans GC9.out
          clear hok
          have OKG : Hid (goal = some (⟨k, numV (ws.getD 0 []), nv⟩, r)) := OKF.out
          clear FA0 N0
          generalize numV (ws.getD 0 []) = nx at *
          have CZ : Hid (w5.heap[w.heap.size]? = some (.cells #[.int .i64 0, .int .i64 0, .int .i64 0] 48 (0, 0))) := KZ.out _ BZ9'.out
          have G8 : w5.heap[g]? = some (.cells #[.int .i64 k, .int .i64 nx, .int .i64 nv] 48 (0, 0)) := GC9'.out
          have Z8 : w5.heap[w.heap.size]? = some (.cells #[.int .i64 0, .int .i64 0, .int .i64 0] 48 (0, 0)) := CZ.out
          have c0 : w5.cell? ⟨g, 0, none⟩ = some (.int .i64 k) := by simp [World.cell?, G8]
          have c1 : w5.cell? ⟨g, 1, none⟩ = some (.int .i64 nx) := by simp [World.cell?, G8]
          have c2 : w5.cell? ⟨g, 2, none⟩ = some (.int .i64 nv) := by simp [World.cell?, G8]
          obtain ⟨Z1, Z2, Z3, u0, u1, u2, ⟨hS1, p0, t0⟩, ⟨hS2, p1, t1⟩, ⟨hS3, p2, t2⟩, E3, FF⟩ := store3 Z8 rfl (.int .i64 k) (.int .i64 nx) (.int .i64 nv)
          have r0 : Z3.cell? ⟨w.heap.size, 0, none⟩ = some (.int .i64 k) := by simp [World.cell?, E3]
          have r1 : Z3.cell? ⟨w.heap.size, 1, none⟩ = some (.int .i64 nx) := by simp [World.cell?, E3]
          have r2 : Z3.cell? ⟨w.heap.size, 2, none⟩ = some (.int .i64 nv) := by simp [World.cell?, E3]
          have HB : Below w.heap.size w5 Z3 := FF.below (Below.refl _ _) (Nat.le_refl _)
          have SF : Hid (Src S R r Z3) := (HS2.out.below BZ9'.out).later (HB.mono HSW.out)
          have EF : Hid (Ext R w Z3) := (E2.out.trans (Ext.of BZ9'.out)).then HB
          clear G8 Z8 E3 FF HB
          go_wp2
          (try simp only [Exit.inBlock, Exit.then])
          have hres : ∀ tmps : Array Value, tmps.getD 4 undef = .pointer (some ⟨w.heap.size, 0, none⟩) → (results Tryz.f35 tmps).run Tryz.prog Z3 = .ok (.agg #[.int .i64 k, .int .i64 nx, .int .i64 nv]) Z3 := fun tmps ht => by
            simp only [results, show Tryz.f35.results = #[ResultVar.cell 4 48] from rfl]
            have ht' : tmps[4]?.getD undef = .pointer (some ⟨w.heap.size, 0, none⟩) := by simpa using ht
            go_simp
          refine bodyPost_ret (hres _ rfl) rfl ?_
          exact runs5_some OKG.out ⟨rfl, SF.out, EF.out⟩
end Go.Proofs.YtopjddmgejfalaaGreatDoor.Aig
