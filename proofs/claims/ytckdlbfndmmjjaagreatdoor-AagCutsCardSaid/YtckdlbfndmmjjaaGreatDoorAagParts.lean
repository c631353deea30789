/- The walks of aag's reading of latches, of a header and of names; no condition. -/
import Derived.Test.YtckdlbfndmmjjaaGreatDoorAagLatch
import Derived.Test.YtckdlbfndmmjjaaGreatDoorShelf
namespace Go.Proofs.YtckdlbfndmmjjaaGreatDoor.Aag
open Go.ChangeShapes Go.WideShapes Go.ChangeAt Go.RowKit Dig Circ Cw

set_option maxHeartbeats 2000000 in
set_option maxRecDepth 100000 in
theorem latches_run {R : Nat} {A : Option Addr} {L : List (List UInt8)} {q wh a : Nat} (n : Nat) (w : World) (h : Src R A L q wh a w) (hn : n ≤ 1099511627776) :
    Calls Tryz.prog 42 #[.pointer (some ⟨R, 0, none⟩), .int .i64 n] w (Runs R w (manyGo L wh formLat n a []) (TrisP 48 R A L q wh w)) := by
  have H := Lib.hid h
  have HRW : Hid (R < w.heap.size) := h.lt
  clear h
  obtain ⟨goal, hgoal⟩ : ∃ g, g = manyGo L wh formLat n a [] := ⟨_, rfl⟩
  have HG := Lib.hid hgoal
  rw [← hgoal]
  clear hgoal
  go_enter Tryz.func42, Tryz.ntmps42
  go_wp2
  go_loopw [7, 5] (fun i v wr => ∃ (j : Nat) (vv : Value) (acc : List Tri), j ≤ n ∧ i = .int .i64 j ∧ vv = v ∧ acc.length = j ∧ goal = manyGo L wh formLat (n - j) (a + j) acc ∧ OwnC wr w.heap.size 48 3 vv (tris acc) ∧ Src R A L q wh (a + j) wr ∧ Ext R w wr) (fun i _ _ => n - (intOf i).toNat)
  case atStart => exact ⟨0, _, [], Nat.zero_le _, rfl, rfl, rfl, HG.out, OwnC.nil _ _ _ _, H.out, Ext.refl _ _⟩
  case round =>
    obtain ⟨j, v, acc, hj, rfl, rfl, hacc, hg, how, hS, hE⟩ := hrel
    have GG := Lib.hid hg
    have HO := Lib.hid how
    have HS := Lib.hid hS
    have HE := Lib.hid hE
    have HA := Lib.hid hacc
    clear hg how hS hE hacc
    by_cases hlt : j < n
    · have NR := Lib.hid (latch_run wr HS.out)
      have hst : n - j = (n - (j + 1)) + 1 := by omega
      have GS := Lib.hid hst
      clear hst
      go_wp2_with fail
      refine NR.out.mono ?_
      intro e w2 hr
      cases hq : readAt L wh formLat (a + j) with
      | error b =>
        rw [hq] at hr
        obtain ⟨rfl, hE2⟩ := hr
        have HGE : Hid (goal = .error b) := by
          unfold Hid
          rw [GG.out, GS.out, manyGo, hq]
        have HX := Lib.hid (HE.out.trans hE2)
        clear hq hE2 NR
        refine ⟨rfl, ?_⟩
        exact runs_error (b := b.1) (t := b.2) HGE.out ⟨rfl, HX.out⟩
      | ok t =>
        rw [hq] at hr
        obtain ⟨rfl, hS2, hE2⟩ := hr
        obtain ⟨x, y, z⟩ := t
        have HGO : Hid (goal = manyGo L wh formLat (n - (j + 1)) (a + (j + 1)) (acc ++ [⟨x, y, z⟩])) := by
          unfold Hid
          rw [GG.out, GS.out, manyGo, hq]
          rfl
        simp only
        have hal2 : Below w2.heap.size w2 (w2.alloc (.cells #[.int .i64 x, .int .i64 y, .int .i64 z] 48)) := (Below.refl _ _).alloc (Nat.le_refl _) _
        have EW : Hid (Ext R w w2) := HE.out.trans hE2
        have EW3 : Hid (Ext R w (w2.alloc (.cells #[.int .i64 x, .int .i64 y, .int .i64 z] 48))) := EW.out.then (hal2.mono EW.out.size)
        have O3 := Lib.hid ((own_ext HO.out hE2 HRW.out).keep hal2)
        have S2 := Lib.hid (hS2.below hal2)
        have HC : Hid (∀ (j : Nat) u, (Tri.cells ⟨x, y, z⟩)[j]? = some u → (w2.alloc (.cells #[.int .i64 x, .int .i64 y, .int .i64 z] 48)).cell? ⟨w2.heap.size, j, none⟩ = some u) := fun j u hu => by
          rw [new_cell]; simpa [Tri.cells] using hu
        have HONE : Hid (∀ u ∈ Tri.cells ⟨x, y, z⟩, u.oneCell' = true) := fun u hu => by
          simp [Tri.cells] at hu
          rcases hu with rfl | rfl | rfl <;> rfl
        have HL : Hid ((tris acc).length ≤ 65537) := by
          have h1 := HA.out
          have h2 := HS.out.ale
          have h3 := HS.out.whl
          have h4 := HS.out.len
          unfold Hid; rw [tris_length1]; omega
        have HSZ : Hid (w.heap.size ≤ (w2.alloc (.cells #[.int .i64 x, .int .i64 y, .int .i64 z] 48)).heap.size) := EW3.out.size
        clear hal2 hE2 hS2 hq NR
        go_wp2_with (at_builtin; refine wpList_push _ rfl (.tmp 9) (.tmp 12) 23 rfl 48 3 24 _ Tryz.underlying23 infoLat rfl (by decide) w.heap.size v _ O3.out rfl w2.heap.size 1 rfl (Tri.cells ⟨x, y, z⟩) HC.out rfl HONE.out (by have := HL.out; omega) (by have := HL.out; omega) HSZ.out ?_)
        intro v2 w3 hown hbel _
        have HO4 := Lib.hid hown
        have HS4 := Lib.hid (H.out.later S2.out EW3.out hbel)
        have HE4 := Lib.hid (EW3.out.then hbel)
        clear hown hbel
        go_wp2
        go_roundw
        case rel => exact ⟨j + 1, _, acc ++ [⟨x, y, z⟩], by omega, by go_num, rfl, by rw [List.length_append, HA.out]; rfl, HGO.out, by rw [← tris_snoc]; exact HO4.out, HS4.out, HE4.out⟩
        case measure => simp [intOf]; omega
    · obtain rfl : j = n := by omega
      have HGE : Hid (goal = .ok (acc, a + j)) := by
        unfold Hid
        rw [GG.out, Nat.sub_self]; rfl
      go_wp2
      go_ret
      exact runs_ok HGE.out ⟨v, rfl, HO.out, HS.out, HE.out⟩
end Go.Proofs.YtckdlbfndmmjjaaGreatDoor.Aag
namespace Go.Proofs.YtckdlbfndmmjjaaGreatDoor.Aag
open Go.ChangeShapes Go.WideShapes Go.ChangeAt Go.RowKit Dig Circ Cw

theorem op_eq_aag (a : Act) (w : World) (y : List UInt8) (t : Nat) (h : a.tmps.getD t undef = sv y) (oo : Oper) (ho : oo.op = .binOp .eql 9 (.tmp t) (.const (.string ⟨#[97, 97, 103]⟩)) 9) : (execOp a.eval oo).run Tryz.prog w = .ok (.value (.bool (y == [97, 97, 103]))) w := by
  have h' : a.tmps[t]?.getD undef = .string ⟨y.toArray⟩ := by simpa [sv] using h
  clear h
  unfold execOp
  rw [ho]
  go_simp
theorem op_one_more (a : Act) (w : World) (j : Nat) (t : Nat) (hj : j < 1000000) (h : a.tmps.getD t undef = .int .i64 (j : Int)) (oo : Oper) (ho : oo.op = .binOp .add 3 (.const (.int .i64 1)) (.tmp t) 3) : (execOp a.eval oo).run Tryz.prog w = .ok (.value (.int .i64 ((1 + j : Nat) : Int))) w := by
  have h' : a.tmps[t]?.getD undef = .int .i64 (j : Int) := by simpa using h
  unfold execOp
  rw [ho]
  have h0 : IntKind.i64.wrap (1 + (j : Int)) = ((1 + j : Nat) : Int) := by rw [IntKind.wrap_i64]; omega
  go_simp
theorem op_index_lstr_at (a : Act) (w : World) (b o n q k : Nat) (t s : Nat) (h : a.tmps.getD t undef = .slice (some ⟨b, o, none⟩) n q) (h2 : a.tmps.getD s undef = .int .i64 (k : Int)) (hk : k < n) (oo : Oper) (ho : oo.op = .indexAddr 53 (.tmp t) (.tmp s)) : (execOp a.eval oo).run Tryz.prog w = .ok (.value (.pointer (some ⟨b, o + k, none⟩))) w := by
  have h' : a.tmps[t]?.getD undef = .slice (some ⟨b, o, none⟩) n q := by simpa using h
  have h2' : a.tmps[s]?.getD undef = .int .i64 (k : Int) := by simpa using h2
  unfold execOp
  rw [ho]
  have h0 : (0 : Int) ≤ k := by omega
  have h1 : (k : Int) < n := by omega
  go_simp
theorem op_index_arr7 (a : Act) (w : World) (g k : Nat) (t s : Nat) (h : a.tmps.getD t undef = .pointer (some ⟨g, 0, none⟩)) (h2 : a.tmps.getD s undef = .int .i64 (k : Int)) (hk : k < 7) (oo : Oper) (ho : oo.op = .indexAddr 110 (.tmp t) (.tmp s)) : (execOp a.eval oo).run Tryz.prog w = .ok (.value (.pointer (some ⟨g, k, none⟩))) w := by
  have h' : a.tmps[t]?.getD undef = .pointer (some ⟨g, 0, none⟩) := by simpa using h
  have h2' : a.tmps[s]?.getD undef = .int .i64 (k : Int) := by simpa using h2
  unfold execOp
  rw [ho]
  have h0 : (0 : Int) ≤ k := by omega
  have h1 : (k : Int) < 7 := by omega
  go_simp
/-- what operation j of the region leaves -/
def hdr2R (R b o n q' : Nat) (y0 : List UInt8) : Nat → (Nat → Value) → World → Prop
  | 0, f, _ => f 11 = .pointer (some ⟨R, 0, none⟩)
  | 1, f, _ => f 12 = .pointer (some ⟨R, 0, none⟩)
  | 2, f, _ => f 13 = .pointer (some ⟨R, 0, none⟩)
  | 3, f, _ => f 14 = .slice (some ⟨b, o, none⟩) n q'
  | 4, f, _ => f 15 = .pointer (some ⟨b, o + 0, none⟩)
  | 5, f, _ => f 16 = sv y0
  | 6, f, _ => f 17 = .bool (y0 == [97, 97, 103])
  | 7, _, _ => (y0 == [97, 97, 103]) = true
  | _, _, _ => True
def hdr2M : Nat → List Nat
  | 0 => [11]
  | 1 => [12]
  | 2 => [13]
  | 3 => [14]
  | 4 => [15]
  | 5 => [16]
  | 6 => [17]
  | 7 => []
  | _ => []
theorem hdr2_stab {R b o n q' : Nat} {y0 : List UInt8} (jj : Nat) {f f' : Nat → Value} {w w' : World}  (hf : ∀ t ∈ hdr2M jj, f' t = f t) (h : hdr2R R b o n q' y0 jj f w) : hdr2R R b o n q' y0 jj f' w' := by
  match jj, hf, h with
  | 0, hf, h => exact (hf 11 (by decide)).trans h
  | 1, hf, h => exact (hf 12 (by decide)).trans h
  | 2, hf, h => exact (hf 13 (by decide)).trans h
  | 3, hf, h => exact (hf 14 (by decide)).trans h
  | 4, hf, h => exact (hf 15 (by decide)).trans h
  | 5, hf, h => exact (hf 16 (by decide)).trans h
  | 6, hf, h => exact (hf 17 (by decide)).trans h
  | 7, hf, h =>
    exact h
  | _ + 8, _, _ => trivial
/-- what operation j of the region leaves -/
def hdr7R (T : TypeId) (R b o n q' g j : Nat) (z : Array Value) (y : List UInt8) : Nat → (Nat → Value) → World → Prop
  | 0, f, _ => f 22 = .int .i64 (j : Int)
  | 1, f, _ => f 23 = .pointer (some ⟨R, 0, none⟩)
  | 2, f, _ => f 24 = .pointer (some ⟨R, 0, none⟩)
  | 3, f, _ => f 25 = .pointer (some ⟨R, 0, none⟩)
  | 4, f, _ => f 26 = .slice (some ⟨b, o, none⟩) n q'
  | 5, f, _ => f 27 = .int .i64 (j : Int)
  | 6, f, _ => f 28 = .int .i64 ((1 + j : Nat) : Int)
  | 7, f, _ => f 29 = .pointer (some ⟨b, o + (1 + j), none⟩)
  | 8, f, _ => f 30 = sv y
  | 9, f, _ => f 31 = .int .i64 (numV y) ∧ numOk y = true
  | 10, f, _ => f 32 = .pointer (some ⟨g, j, none⟩)
  | 11, _, w => w.heap[g]? = some (.cells (z.setIfInBounds j (.int .i64 (numV y))) T (0, 0))
  | _, _, _ => True
def hdr7M : Nat → List Nat
  | 0 => [22]
  | 1 => [23]
  | 2 => [24]
  | 3 => [25]
  | 4 => [26]
  | 5 => [27]
  | 6 => [28]
  | 7 => [29]
  | 8 => [30]
  | 9 => [31]
  | 10 => [32]
  | 11 => []
  | _ => []
theorem hdr7_stab {T : TypeId} {R b o n q' g j : Nat} {z : Array Value} {y : List UInt8} (jj : Nat) {f f' : Nat → Value} {w w' : World} (h11 : jj = 11 → Below w.heap.size w w') (hf : ∀ t ∈ hdr7M jj, f' t = f t) (h : hdr7R T R b o n q' g j z y jj f w) : hdr7R T R b o n q' g j z y jj f' w' := by
  match jj, hf, h, h11 with
  | 0, hf, h, _ => exact (hf 22 (by decide)).trans h
  | 1, hf, h, _ => exact (hf 23 (by decide)).trans h
  | 2, hf, h, _ => exact (hf 24 (by decide)).trans h
  | 3, hf, h, _ => exact (hf 25 (by decide)).trans h
  | 4, hf, h, _ => exact (hf 26 (by decide)).trans h
  | 5, hf, h, _ => exact (hf 27 (by decide)).trans h
  | 6, hf, h, _ => exact (hf 28 (by decide)).trans h
  | 7, hf, h, _ => exact (hf 29 (by decide)).trans h
  | 8, hf, h, _ => exact (hf 30 (by decide)).trans h
  | 9, hf, h, h11 =>
    exact ⟨(hf 31 (by decide)).trans h.1, h.2⟩
  | 10, hf, h, _ => exact (hf 32 (by decide)).trans h
  | 11, hf, h, h11 =>
    exact ((h11 rfl).block g (lt_of_block h)).trans h
  | _ + 12, _, _, _ => trivial
def HeadP (R : Nat) (A : Option Addr) (L : List (List UInt8)) (q wh a : Nat) (w : World) (ns : List Int) (e : Ending) (w' : World) : Prop :=
  ∃ x0 x1 x2 x3 x4 x5 x6, ns = [x0, x1, x2, x3, x4, x5, x6] ∧ e = .returned (.agg #[.int .i64 x0, .int .i64 x1, .int .i64 x2, .int .i64 x3, .int .i64 x4, .int .i64 x5, .int .i64 x6]) ∧ Src R A L q wh (a + 1) w' ∧ Ext R w w'
theorem head_counts {l : List UInt8} (h : wordsOk [8] l = true) : (wordsL l).length = 8 := by
  unfold wordsOk at h
  simp only [Bool.and_eq_true, List.contains_cons, List.contains_nil, Bool.or_false, beq_iff_eq] at h
  exact h.1
theorem formHead_no {l : List UInt8} (h : wordsOk [8] l = false) : formHead l = none := by unfold formHead; rw [h]; rfl
theorem formHead_no0 {l : List UInt8} (h : ((wordsL l).getD 0 [] == [97, 97, 103]) = false) : formHead l = none := by unfold formHead; rw [h]; simp
theorem formHead_noj {l : List UInt8} (j : Nat) (h1 : 1 ≤ j) (h2 : j < (wordsL l).length) (h : numOk ((wordsL l).getD j []) = false) : formHead l = none := by
  unfold formHead
  have : ((wordsL l).drop 1).all numOk = false := by
    rw [List.all_eq_false]
    refine ⟨(wordsL l).getD j [], ?_, by rw [h]; simp⟩
    rw [List.getD_eq_getElem?_getD, List.getElem?_eq_getElem h2]
    rw [List.mem_iff_getElem?]
    exact ⟨j - 1, by rw [List.getElem?_drop, show 1 + (j - 1) = j by omega, List.getElem?_eq_getElem h2]; rfl⟩
  rw [this]; simp
theorem eight {α : Type} (l : List α) (d : α) (h : l.length = 8) : l.drop 1 = [l.getD 1 d, l.getD 2 d, l.getD 3 d, l.getD 4 d, l.getD 5 d, l.getD 6 d, l.getD 7 d] := by
  match l, h with
  | [x0, x1, x2, x3, x4, x5, x6, x7], _ => rfl
theorem formHead_yes {l : List UInt8} (h : wordsOk [8] l = true) (h0 : ((wordsL l).getD 0 [] == [97, 97, 103]) = true) (ho : ∀ j, 1 ≤ j → j < 8 → numOk ((wordsL l).getD j []) = true) : formHead l = some [numV ((wordsL l).getD 1 []), numV ((wordsL l).getD 2 []), numV ((wordsL l).getD 3 []), numV ((wordsL l).getD 4 []), numV ((wordsL l).getD 5 []), numV ((wordsL l).getD 6 []), numV ((wordsL l).getD 7 [])] := by
  unfold formHead
  have := eight (wordsL l) [] (head_counts h)
  rw [h, h0, this]
  have ha : List.all [(wordsL l).getD 1 [], (wordsL l).getD 2 [], (wordsL l).getD 3 [], (wordsL l).getD 4 [], (wordsL l).getD 5 [], (wordsL l).getD 6 [], (wordsL l).getD 7 []] numOk = true := by
    simp only [List.all_cons, List.all_nil, ho 1 (by omega) (by omega), ho 2 (by omega) (by omega), ho 3 (by omega) (by omega), ho 4 (by omega) (by omega), ho 5 (by omega) (by omega), ho 6 (by omega) (by omega), ho 7 (by omega) (by omega)]; rfl
  rw [ha]; rfl
theorem row7 (ws : List (List UInt8)) (z : Array Value) (hz : z.size = 7) (h : ∀ k, k < 7 → z[k]? = some (.int .i64 (numV (ws.getD (1 + k) [])))) : z = #[.int .i64 (numV (ws.getD 1 [])), .int .i64 (numV (ws.getD 2 [])), .int .i64 (numV (ws.getD 3 [])), .int .i64 (numV (ws.getD 4 [])), .int .i64 (numV (ws.getD 5 [])), .int .i64 (numV (ws.getD 6 [])), .int .i64 (numV (ws.getD 7 []))] := by
  apply Array.ext
  · rw [hz]; rfl
  · intro i h1 h2
    have h3 := h i (by omega)
    rw [Array.getElem?_eq_getElem h1] at h3
    have h4 := Option.some.inj h3
    rw [h4]
    have h5 : i < 7 := by omega
    match i, h5 with
    | 0, _ => rfl
    | 1, _ => rfl
    | 2, _ => rfl
    | 3, _ => rfl
    | 4, _ => rfl
    | 5, _ => rfl
    | 6, _ => rfl
set_option maxRecDepth 100000 in
theorem header_stop (R : Nat) (p : List PanicEntry) (w : World)
    (hW : Calls Tryz.prog 59 #[.pointer (some ⟨R, 0, none⟩), .slice (some ⟨w.heap.size + 1, 0, none⟩) 1 1] ((w.alloc (.cells #[.int .i64 0, .int .i64 0, .int .i64 0, .int .i64 0, .int .i64 0, .int .i64 0, .int .i64 0] 91)).alloc (.cells #[.int .i64 8] 3)) fun e w' => e = .panicked p ∧ Below w.heap.size w w') :
    Calls Tryz.prog 40 #[.pointer (some ⟨R, 0, none⟩)] w fun e w' => e = .panicked p ∧ Below w.heap.size w w' := by
  have HW := Lib.hid hW
  clear hW
  go_enter Tryz.func40, Tryz.ntmps40
  go_wp2_with fail
  refine HW.out.mono ?_
  rintro e w1 ⟨rfl, hb⟩
  exact ⟨rfl, rfl, hb⟩
set_option maxHeartbeats 4000000 in
set_option maxRecDepth 100000 in
theorem header_run {R : Nat} {A : Option Addr} {L : List (List UInt8)} {q wh a : Nat} (w : World) (h : Src R A L q wh a w) :
    Calls Tryz.prog 40 #[.pointer (some ⟨R, 0, none⟩)] w (Runs R w (readAt L wh formHead a) (HeadP R A L q wh a w)) := by
  have hb1 : Below w.heap.size w (w.alloc (.cells #[.int .i64 0, .int .i64 0, .int .i64 0, .int .i64 0, .int .i64 0, .int .i64 0, .int .i64 0] 91)) := (Below.refl _ _).alloc (Nat.le_refl _) _
  have hs1 : (w.alloc (.cells #[.int .i64 0, .int .i64 0, .int .i64 0, .int .i64 0, .int .i64 0, .int .i64 0, .int .i64 0] 91)).heap.size = w.heap.size + 1 := by simp
  have hb2 : Below w.heap.size w ((w.alloc (.cells #[.int .i64 0, .int .i64 0, .int .i64 0, .int .i64 0, .int .i64 0, .int .i64 0, .int .i64 0] 91)).alloc (.cells #[.int .i64 8] 3)) := hb1.alloc hb1.size _
  have hs2 : ((w.alloc (.cells #[.int .i64 0, .int .i64 0, .int .i64 0, .int .i64 0, .int .i64 0, .int .i64 0, .int .i64 0] 91)).alloc (.cells #[.int .i64 8] 3)).heap.size = w.heap.size + 2 := by simp
  have hrow : LRow ((w.alloc (.cells #[.int .i64 0, .int .i64 0, .int .i64 0, .int .i64 0, .int .i64 0, .int .i64 0, .int .i64 0] 91)).alloc (.cells #[.int .i64 8] 3)) (w.heap.size + 2) 1 (some ⟨w.heap.size + 1, 0, none⟩) (ints ([8].map fun x : Nat => (x : Int))) := by
    have := ints_row (w.alloc (.cells #[.int .i64 0, .int .i64 0, .int .i64 0, .int .i64 0, .int .i64 0, .int .i64 0, .int .i64 0] 91)) [8] #[.int .i64 8] 3 rfl
    rw [hs1] at this
    exact this
  by_cases ha : wh ≤ a
  · exact (header_stop R _ w ((words_short _ _ (h.below hb2) ha).mono fun e w' ⟨he, hb⟩ => ⟨he, hb2.trans (hb.mono hb2.size)⟩)).mono fun e w' ⟨he, hb⟩ => runs_error (readAt_short ha) ⟨he, Ext.of hb⟩
  have ha : a < wh := by omega
  cases hw : wordsOk [8] (L.getD a [])
  · exact (header_stop R _ w ((words_fault [8] _ 1 _ _ (h.below hb2) ha hrow (by rw [hs2]; exact Nat.le_refl _) (by simp) hw).mono fun e w' ⟨he, hb⟩ => ⟨he, hb2.trans (hb.mono hb2.size)⟩)).mono fun e w' ⟨he, hb⟩ => runs_error (readAt_none ha (formHead_no hw)) ⟨he, Ext.of hb⟩
  have WO := Lib.hid (words_ok [8] _ 1 _ _ (h.below hb2) ha hrow (by rw [hs2]; exact Nat.le_refl _) (by simp) hw)
  have H := Lib.hid h
  have HWF := Lib.hid (word_fit h.fit a)
  have HRW : Hid (R < w.heap.size) := h.lt
  have HL8' := Lib.hid (head_counts hw)
  have FA0 : Hid (((wordsL (L.getD a [])).getD 0 [] == [97, 97, 103]) = false → ∀ x, Below w.heap.size w x → Runs R w (readAt L wh formHead a) (HeadP R A L q wh a w) (.panicked (faultOf a eSyntax)) x) := fun hy x hb => runs_error (readAt_none ha (formHead_no0 hy)) ⟨rfl, Ext.of hb⟩
  have FA1 : Hid (∀ j, 1 ≤ j → j < (wordsL (L.getD a [])).length → numOk ((wordsL (L.getD a [])).getD j []) = false → ∀ x, Below w.heap.size w x → Runs R w (readAt L wh formHead a) (HeadP R A L q wh a w) (.panicked (faultOf a eSyntax)) x) := fun j h1 h2 hy x hb => runs_error (readAt_none ha (formHead_noj j h1 h2 hy)) ⟨rfl, Ext.of hb⟩
  have OKH : Hid (((wordsL (L.getD a [])).getD 0 [] == [97, 97, 103]) = true → (∀ j, 1 ≤ j → j < 8 → numOk ((wordsL (L.getD a [])).getD j []) = true) → readAt L wh formHead a = .ok [numV ((wordsL (L.getD a [])).getD 1 []), numV ((wordsL (L.getD a [])).getD 2 []), numV ((wordsL (L.getD a [])).getD 3 []), numV ((wordsL (L.getD a [])).getD 4 []), numV ((wordsL (L.getD a [])).getD 5 []), numV ((wordsL (L.getD a [])).getD 6 []), numV ((wordsL (L.getD a [])).getD 7 [])]) := fun h0 h1 => readAt_some ha (formHead_yes hw h0 h1)
  have EN : Hid (∀ args w, (callFunc 61 args).run Tryz.prog w = .ok (.enter 61 args) w) := enters_of Tryz.func61 (by kernel_rfl) rfl
  have ED : Hid (∀ args w, (callFunc 60 args).run Tryz.prog w = .ok (.enter 60 args) w) := enters_of Tryz.func60 (by kernel_rfl) rfl
  have HB2 := Lib.hid hb2
  have KZ0 : Hid (∀ x, Below (w.heap.size + 2) ((w.alloc (.cells #[.int .i64 0, .int .i64 0, .int .i64 0, .int .i64 0, .int .i64 0, .int .i64 0, .int .i64 0] 91)).alloc (.cells #[.int .i64 8] 3)) x → x.heap[w.heap.size]? = some (.cells #[.int .i64 0, .int .i64 0, .int .i64 0, .int .i64 0, .int .i64 0, .int .i64 0, .int .i64 0] 91 (0, 0))) := fun x hb => by
    rw [hb.block _ (by omega), Below.heap_alloc _ _ _ (by rw [hs1]; omega)]; exact Array.getElem?_push_size
  have HS2 := Lib.hid hs2
  clear h hw hb1 hb2 hs1 hs2 hrow
  obtain ⟨goal, hgoal⟩ : ∃ g, g = readAt L wh formHead a := ⟨_, rfl⟩
  rw [← hgoal] at FA0 FA1 OKH ⊢
  clear hgoal
  obtain ⟨ws, hws⟩ : ∃ ws, ws = wordsL (L.getD a []) := ⟨_, rfl⟩
  rw [← hws] at FA0 FA1 OKH WO HWF HL8'
  have HL9 : Hid (ws.length = 8) := HL8'.out
  have HL8 : Hid (0 < ws.length ∧ 8 ≤ ws.length) := by unfold Hid; rw [HL9.out]; omega
  clear hws HL8'
  go_enter Tryz.func40, Tryz.ntmps40
  go_wp2_with fail
  refine WO.out.mono ?_
  rintro e w2 ⟨A1, q1, rfl, hr, hb⟩
  have B2 : Hid (Below w.heap.size w w2) := HB2.out.trans (hb.mono HB2.out.size)
  have KZ : Hid (∀ x, Below w2.heap.size w2 x → x.heap[w.heap.size]? = some (.cells #[.int .i64 0, .int .i64 0, .int .i64 0, .int .i64 0, .int .i64 0, .int .i64 0, .int .i64 0] 91 (0, 0))) := fun x hx => KZ0.out x ((hb.mono (by rw [HS2.out]; exact Nat.le_refl _)).trans (hx.mono (by have := hb.size; rw [HS2.out] at this; exact this)))
  obtain ⟨b, o, hA1, -⟩ := reads_cellD hr 0 HL8.out.1
  subst hA1
  have HBB : Hid (b < w2.heap.size) := by
    rcases hr with h0 | ⟨g, off, hv, hg, _⟩
    · have := HL8.out.1; rw [h0] at this; simp at this
    · injection hv with hv; injection hv with hv _; subst hv; exact hg
  have HC : Hid (∀ k, k < ws.length → ∀ x, Below w2.heap.size w2 x → x.cell? ⟨b, o + k, none⟩ = some (sv (ws.getD k []))) := fun k hk x hx => by
    obtain ⟨b1, o1, e1, hc1⟩ := reads_cellD hr k hk
    injection e1 with e1; injection e1 with e1 e1'; subst e1; subst e1'
    exact (hx.cell HBB.out).trans hc1
  have NM : Hid (∀ k x, Below w2.heap.size w2 x → Calls Tryz.prog 61 #[.pointer (some ⟨R, 0, none⟩), sv (ws.getD k [])] x (NumE a (ws.getD k []) x)) := fun k x hx => number_any _ x (H.out.below (B2.out.trans (hx.mono B2.out.size))) (HWF.out k)
  have hl8 : 0 < ws.length := HL8.out.1
  clear hr hb WO KZ0 HB2 HS2
  go_wp2
  refine wp_region_valsD (by kernel_rfl) (by kernel_rfl) hdr2M (by kernel_rfl) (by kernel_rfl)
    (fun _ w' => Below w2.heap.size w2 w') (hdr2R R b o ws.length q1 (ws.getD 0 [])) (Below.refl _ _).drew (fun jj f f' w w' hb hf h => hdr2_stab jj  hf h) ?_ ?_
  · intro i oo d a' w' ho hd hun hdf hok hD K hK hK0
    match i, ho, hd, hD, hK, hK0, hun with
    | 0, ho, hd, hD, hK, hK0, hun =>
      have e := (congrArg Oper.op (Option.some.inj ho)).symm
      obtain rfl := Option.some.inj ho
      exact wp_val (op_move a' w' 0 _ e) (hK _ _ (Below.refl _ _) hok (fun f h1 _ => (h1 _ rfl).trans (hun 0 (by kernel_rfl))))
    | 1, ho, hd, hD, hK, hK0, hun =>
      have e := (congrArg Oper.op (Option.some.inj ho)).symm
      obtain rfl := Option.some.inj ho
      exact wp_val (op_nil a' w' _ 11 (hD 0 (by kernel_rfl)) _ e) (hK _ _ (Below.refl _ _) hok (fun f h1 _ => h1 _ rfl))
    | 2, ho, hd, hD, hK, hK0, hun =>
      have e := (congrArg Oper.op (Option.some.inj ho)).symm
      obtain rfl := Option.some.inj ho
      exact wp_val (op_field_aag_reader_0 a' w' _ 12 (hD 1 (by kernel_rfl)) _ e) (hK _ _ (Below.refl _ _) hok (fun f h1 _ => h1 _ rfl))
    | 3, ho, hd, hD, hK, hK0, hun =>
      have e := (congrArg Oper.op (Option.some.inj ho)).symm
      obtain rfl := Option.some.inj ho
      exact wp_val (op_move a' w' 3 _ e) (hK _ _ (Below.refl _ _) hok (fun f h1 _ => (h1 _ rfl).trans (hun 3 (by kernel_rfl))))
    | 4, ho, hd, hD, hK, hK0, hun =>
      have e := (congrArg Oper.op (Option.some.inj ho)).symm
      obtain rfl := Option.some.inj ho
      exact wp_val (op_index_Lstring a' w' _ _ _ _ 0 14 (hD 3 (by kernel_rfl)) (by first | decide | omega) _ e) (hK _ _ (Below.refl _ _) hok (fun f h1 _ => h1 _ rfl))
    | 5, ho, hd, hD, hK, hK0, hun =>
      have e := (congrArg Oper.op (Option.some.inj ho)).symm
      obtain rfl := Option.some.inj ho
      exact wp_val (op_load_string a' w' _ 15 _ (hD 4 (by kernel_rfl)) (HC.out 0 HL8.out.1 _ hok) _ e) (hK _ _ (Below.refl _ _) hok (fun f h1 _ => h1 _ rfl))
    | 6, ho, hd, hD, hK, hK0, hun =>
      have e := (congrArg Oper.op (Option.some.inj ho)).symm
      obtain rfl := Option.some.inj ho
      exact wp_val (op_eq_aag a' w' _ 16 (hD 5 (by kernel_rfl)) _ e) (hK _ _ (Below.refl _ _) hok (fun f h1 _ => h1 _ rfl))
    | 7, ho, hd, hD, hK, hK0, hun =>
      have e := (congrArg Oper.op (Option.some.inj ho)).symm
      obtain rfl := Option.some.inj ho
      refine wp_enter (op_call2 a' w' _ 13 17 _ _ ED.out _ e) ?_
      rw [show a'.tmps.getD 13 undef = .pointer (some ⟨R, 0, none⟩) from hD 2 (by kernel_rfl), show a'.tmps.getD 17 undef = .bool (ws.getD 0 [] == [97, 97, 103]) from hD 6 (by kernel_rfl)]
      refine (need_any _ w' (H.out.below (B2.out.trans (hok.mono B2.out.size)))).mono ?_
      rintro e w'' ⟨hb, ⟨hy, rfl⟩ | ⟨hy, rfl⟩⟩
      · exact .inl ⟨_, rfl, hK _ _ hb (hok.trans (hb.mono hok.size)) (fun f h1 _ => hy)⟩
      · exact .inr ⟨_, rfl, hdf, FA0.out hy _ (B2.out.trans ((hok.trans (hb.mono hok.size)).mono B2.out.size))⟩
    | i + 8, ho, _, _, _, _, _ => exact absurd ho (by simp)
  · intro a' w3 hsz hdf hkt hok hR
    have HF3 := frame_sets [11, 12, 13, 14, 15, 16, 17, 18] (by kernel_rfl) hsz hkt
    obtain ⟨d, hok⟩ := hok
    have N0 := Lib.hid (hR 7 (by decide) : (ws.getD 0 [] == [97, 97, 103]) = true)
    obtain ⟨tm, df⟩ := a'
    obtain rfl : df = [] := hdf
    simp only [List.foldl_cons, List.foldl_nil] at HF3
    clear hkt hR hsz
    generalize tm.getD 11 undef = y11 at HF3
    generalize tm.getD 12 undef = y12 at HF3
    generalize tm.getD 13 undef = y13 at HF3
    generalize tm.getD 14 undef = y14 at HF3
    generalize tm.getD 15 undef = y15 at HF3
    generalize tm.getD 16 undef = y16 at HF3
    generalize tm.getD 17 undef = y17 at HF3
    generalize tm.getD 18 undef = y18 at HF3
    simp only [List.setIfInBounds_toArray, List.set_cons_succ, List.set_cons_zero] at HF3
    subst HF3
    have B3 := Lib.hid hok
    clear hok FA0
    have HG4 : Hid (w2.heap.size ≤ w3.heap.size) := B3.out.size
    have LP : Hid (Below w2.heap.size w2 (w3.alloc (.cells #[.int .i64 0, .int .i64 0, .int .i64 0, .int .i64 0, .int .i64 0, .int .i64 0, .int .i64 0] 110))) := B3.out.alloc B3.out.size _
    have GA : Hid ((w3.alloc (.cells #[.int .i64 0, .int .i64 0, .int .i64 0, .int .i64 0, .int .i64 0, .int .i64 0, .int .i64 0] 110)).heap[w3.heap.size]? = some (.cells #[.int .i64 0, .int .i64 0, .int .i64 0, .int .i64 0, .int .i64 0, .int .i64 0, .int .i64 0] 110 (0, 0))) := Array.getElem?_push_size
    go_wp2
    obtain ⟨g, hgg⟩ : ∃ g, g = w3.heap.size := ⟨_, rfl⟩
    rw [← hgg] at GA HG4 ⊢
    clear hgg
    generalize w3.alloc (.cells #[.int .i64 0, .int .i64 0, .int .i64 0, .int .i64 0, .int .i64 0, .int .i64 0, .int .i64 0] 110) = wa at *
    go_loopw [19, 5] (fun i _ wr => ∃ (j : Nat) (z : Array Value), j ≤ 7 ∧ i = .int .i64 j ∧ z.size = 7 ∧ (∀ k, k < j → numOk (ws.getD (1 + k) []) = true ∧ z[k]? = some (.int .i64 (numV (ws.getD (1 + k) [])))) ∧ wr.heap[g]? = some (.cells z 110 (0, 0)) ∧ Below w2.heap.size w2 wr) (fun i _ _ => 7 - (intOf i).toNat)
    case atStart => exact ⟨0, _, Nat.zero_le _, rfl, rfl, fun k hk => absurd hk (Nat.not_lt_zero _), GA.out, LP.out⟩
    case round =>
      obtain ⟨j, z, hj, rfl, hzs, hzk, hgc, hbr⟩ := hrel
      have ZS := Lib.hid hzs
      have ZK := Lib.hid hzk
      have GC := Lib.hid hgc
      have BR := Lib.hid hbr
      clear hzs hzk hgc hbr
      by_cases hlt : j < 7
      · have HCJ : Hid (∀ x, Below wr.heap.size wr x → x.cell? ⟨b, o + (1 + j), none⟩ = some (sv (ws.getD (1 + j) []))) := fun x hx => HC.out (1 + j) (by have := HL8.out; omega) x (BR.out.trans (hx.mono BR.out.size))
        go_wp2
        refine wp_region_valsD (by kernel_rfl) (by kernel_rfl) hdr7M (by kernel_rfl) (by kernel_rfl)
          (fun d w' => (d 11 = false → Below wr.heap.size wr w') ∧ Below w2.heap.size wr w') (hdr7R 110 R b o ws.length q1 g j z (ws.getD (1 + j) [])) ⟨fun _ => (Below.refl _ _).drew, (Below.refl _ _).drew⟩ (fun jj f f' w w' hb hf h => hdr7_stab jj (fun _ => hb) hf h) ?_ ?_
        · intro i oo d a' w' ho hd hun hdf hok hD K hK hK0
          match i, ho, hd, hD, hK, hK0, hun with
          | 0, ho, hd, hD, hK, hK0, hun =>
            have e := (congrArg Oper.op (Option.some.inj ho)).symm
            obtain rfl := Option.some.inj ho
            exact wp_val (op_move a' w' 5 _ e) (hK _ _ (Below.refl _ _) ⟨fun h => hok.1 (by simp only [Bool.or_eq_false_iff] at h; exact h.2), hok.2⟩ (fun f h1 _ => (h1 _ rfl).trans (hun 5 (by kernel_rfl))))
          | 1, ho, hd, hD, hK, hK0, hun =>
            have e := (congrArg Oper.op (Option.some.inj ho)).symm
            obtain rfl := Option.some.inj ho
            exact wp_val (op_move a' w' 0 _ e) (hK _ _ (Below.refl _ _) ⟨fun h => hok.1 (by simp only [Bool.or_eq_false_iff] at h; exact h.2), hok.2⟩ (fun f h1 _ => (h1 _ rfl).trans (hun 0 (by kernel_rfl))))
          | 2, ho, hd, hD, hK, hK0, hun =>
            have e := (congrArg Oper.op (Option.some.inj ho)).symm
            obtain rfl := Option.some.inj ho
            exact wp_val (op_nil a' w' _ 23 (hD 1 (by kernel_rfl)) _ e) (hK _ _ (Below.refl _ _) ⟨fun h => hok.1 (by simp only [Bool.or_eq_false_iff] at h; exact h.2), hok.2⟩ (fun f h1 _ => h1 _ rfl))
          | 3, ho, hd, hD, hK, hK0, hun =>
            have e := (congrArg Oper.op (Option.some.inj ho)).symm
            obtain rfl := Option.some.inj ho
            exact wp_val (op_field_aag_reader_0 a' w' _ 24 (hD 2 (by kernel_rfl)) _ e) (hK _ _ (Below.refl _ _) ⟨fun h => hok.1 (by simp only [Bool.or_eq_false_iff] at h; exact h.2), hok.2⟩ (fun f h1 _ => h1 _ rfl))
          | 4, ho, hd, hD, hK, hK0, hun =>
            have e := (congrArg Oper.op (Option.some.inj ho)).symm
            obtain rfl := Option.some.inj ho
            exact wp_val (op_move a' w' 3 _ e) (hK _ _ (Below.refl _ _) ⟨fun h => hok.1 (by simp only [Bool.or_eq_false_iff] at h; exact h.2), hok.2⟩ (fun f h1 _ => (h1 _ rfl).trans (hun 3 (by kernel_rfl))))
          | 5, ho, hd, hD, hK, hK0, hun =>
            have e := (congrArg Oper.op (Option.some.inj ho)).symm
            obtain rfl := Option.some.inj ho
            exact wp_val (op_move a' w' 5 _ e) (hK _ _ (Below.refl _ _) ⟨fun h => hok.1 (by simp only [Bool.or_eq_false_iff] at h; exact h.2), hok.2⟩ (fun f h1 _ => (h1 _ rfl).trans (hun 5 (by kernel_rfl))))
          | 6, ho, hd, hD, hK, hK0, hun =>
            have e := (congrArg Oper.op (Option.some.inj ho)).symm
            obtain rfl := Option.some.inj ho
            exact wp_val (op_one_more a' w' j 27 (by omega) (hD 5 (by kernel_rfl)) _ e) (hK _ _ (Below.refl _ _) ⟨fun h => hok.1 (by simp only [Bool.or_eq_false_iff] at h; exact h.2), hok.2⟩ (fun f h1 _ => h1 _ rfl))
          | 7, ho, hd, hD, hK, hK0, hun =>
            have e := (congrArg Oper.op (Option.some.inj ho)).symm
            obtain rfl := Option.some.inj ho
            exact wp_val (op_index_lstr_at a' w' _ _ _ _ (1 + j) 26 28 (hD 4 (by kernel_rfl)) (hD 6 (by kernel_rfl)) (by have := HL8.out; omega) _ e) (hK _ _ (Below.refl _ _) ⟨fun h => hok.1 (by simp only [Bool.or_eq_false_iff] at h; exact h.2), hok.2⟩ (fun f h1 _ => h1 _ rfl))
          | 8, ho, hd, hD, hK, hK0, hun =>
            have e := (congrArg Oper.op (Option.some.inj ho)).symm
            obtain rfl := Option.some.inj ho
            exact wp_val (op_load_string a' w' _ 29 _ (hD 7 (by kernel_rfl)) (HCJ.out _ (hok.1 (hd 11 (by kernel_rfl)))) _ e) (hK _ _ (Below.refl _ _) ⟨fun h => hok.1 (by simp only [Bool.or_eq_false_iff] at h; exact h.2), hok.2⟩ (fun f h1 _ => h1 _ rfl))
          | 9, ho, hd, hD, hK, hK0, hun =>
            have e := (congrArg Oper.op (Option.some.inj ho)).symm
            obtain rfl := Option.some.inj ho
            have hb8 := hok.1 (hd 11 (by kernel_rfl))
            refine wp_enter (op_call2 a' w' _ 25 30 _ _ EN.out _ e) ?_
            rw [show a'.tmps.getD 25 undef = .pointer (some ⟨R, 0, none⟩) from hD 3 (by kernel_rfl), show a'.tmps.getD 30 undef = sv (ws.getD (1 + j) []) from hD 8 (by kernel_rfl)]
            refine (NM.out (1 + j) w' (BR.out.trans (hb8.mono BR.out.size))).mono ?_
            rintro e w'' ⟨hb, ⟨hy, rfl⟩ | ⟨hy, rfl⟩⟩
            · exact .inl ⟨_, rfl, hK _ _ hb ⟨fun _ => hb8.trans (hb.mono hb8.size), hok.2.trans (hb.mono (Nat.le_trans BR.out.size hb8.size))⟩ (fun f h1 _ => ⟨h1 _ rfl, hy⟩)⟩
            · exact .inr ⟨_, rfl, hdf, FA1.out (1 + j) (by omega) (by have := HL8.out; omega) hy _ ((B2.out.trans (BR.out.mono B2.out.size)).trans ((hb8.trans (hb.mono hb8.size)).mono (Nat.le_trans B2.out.size BR.out.size)))⟩
          | 10, ho, hd, hD, hK, hK0, hun =>
            have e := (congrArg Oper.op (Option.some.inj ho)).symm
            obtain rfl := Option.some.inj ho
            exact wp_val (op_index_arr7 a' w' _ j 4 22 (hun 4 (by kernel_rfl)) (hD 0 (by kernel_rfl)) (by omega) _ e) (hK _ _ (Below.refl _ _) ⟨fun h => hok.1 (by simp only [Bool.or_eq_false_iff] at h; exact h.2), hok.2⟩ (fun f h1 _ => h1 _ rfl))
          | 11, ho, hd, hD, hK, hK0, hun =>
            have e := (congrArg Oper.op (Option.some.inj ho)).symm
            obtain rfl := Option.some.inj ho
            have hb8 := hok.1 (hd 11 (by kernel_rfl))
            obtain ⟨w'', hr, hgc2, hbut⟩ := op_store_int a' w' g j _ _ ((hb8.block g (lt_of_block GC.out)).trans GC.out) (by rw [ZS.out]; omega) _ 32 31 (hD 10 (by kernel_rfl)) (hD 9 (by kernel_rfl)).1 _ e
            refine wp_skip' hr (hK0 _ _ ⟨fun h => by simp at h, hbut.below hok.2 HG4.out⟩ (fun f h1 h2 => hgc2) (fun j f hj hf hq => hdr7_stab j (fun e2 => absurd e2 hj) hf hq))
          | i + 12, ho, _, _, _, _, _ => exact absurd ho (by simp)
        · intro a' w4 hsz hdf hkt hok hR
          have HF3 := frame_sets [22, 23, 24, 25, 26, 27, 28, 29, 30, 31, 32] (by kernel_rfl) hsz hkt
          obtain ⟨d, hok⟩ := hok
          have GC9 : w4.heap[g]? = some (.cells (z.setIfInBounds j (.int .i64 (numV (ws.getD (1 + j) [])))) 110 (0, 0)) := hR 11 (by decide)
          have N1 : numOk (ws.getD (1 + j) []) = true := (hR 9 (by decide) : _ ∧ numOk (ws.getD (1 + j) []) = true).2
          obtain ⟨tm, df⟩ := a'
          obtain rfl : df = [] := hdf
          simp only [List.foldl_cons, List.foldl_nil] at HF3
          clear hkt hR hsz
          generalize tm.getD 22 undef = y22 at HF3
          generalize tm.getD 23 undef = y23 at HF3
          generalize tm.getD 24 undef = y24 at HF3
          generalize tm.getD 25 undef = y25 at HF3
          generalize tm.getD 26 undef = y26 at HF3
          generalize tm.getD 27 undef = y27 at HF3
          generalize tm.getD 28 undef = y28 at HF3
          generalize tm.getD 29 undef = y29 at HF3
          generalize tm.getD 30 undef = y30 at HF3
          generalize tm.getD 31 undef = y31 at HF3
          generalize tm.getD 32 undef = y32 at HF3
          simp only [List.setIfInBounds_toArray, List.set_cons_succ, List.set_cons_zero] at HF3
          subst HF3
          have REL : Hid (∃ (j' : Nat) (z' : Array Value), j' ≤ 7 ∧ ((j + 1 : Nat) : Int) = (j' : Int) ∧ z'.size = 7 ∧ (∀ k, k < j' → numOk (ws.getD (1 + k) []) = true ∧ z'[k]? = some (.int .i64 (numV (ws.getD (1 + k) [])))) ∧ w4.heap[g]? = some (.cells z' 110 (0, 0)) ∧ Below w2.heap.size w2 w4) := by
            refine ⟨j + 1, _, by omega, rfl, ?_, fun k hk => ?_, GC9, BR.out.trans hok.2⟩
            · rw [Array.size_setIfInBounds]; exact ZS.out
            · by_cases hkj : k = j
              · subst hkj
                refine ⟨N1, ?_⟩
                rw [Array.getElem?_setIfInBounds, if_pos rfl, if_pos (by rw [ZS.out]; omega)]
              · refine ⟨(ZK.out k (by omega)).1, ?_⟩
                rw [Array.getElem?_setIfInBounds, if_neg (Ne.symm hkj)]
                exact (ZK.out k (by omega)).2
          clear hok GC9 N1 HCJ
          go_wp2
          go_roundw
          case rel =>
            obtain ⟨j', z', h1, h2, h3⟩ := REL.out
            obtain rfl : j' = j + 1 := by omega
            exact ⟨j + 1, z', h1, by go_num, h3⟩
          case measure => simp [intOf]; omega
      · obtain rfl : j = 7 := by omega
        have hz7 := row7 ws z ZS.out (fun k hk => (ZK.out k hk).2)
        have OKG : Hid (goal = .ok [numV (ws.getD 1 []), numV (ws.getD 2 []), numV (ws.getD 3 []), numV (ws.getD 4 []), numV (ws.getD 5 []), numV (ws.getD 6 []), numV (ws.getD 7 [])]) := OKH.out N0.out (fun j h1 h2 => by have := (ZK.out (j - 1) (by omega)).1; rwa [show 1 + (j - 1) = j by omega] at this)
        subst hz7
        have B9 : Hid (Below w.heap.size w wr) := B2.out.trans (BR.out.mono B2.out.size)
        have HNE : Hid (g ≠ R) := by have := HRW.out; have := B2.out.size; have := HG4.out; unfold Hid; omega
        have CZ : Hid (wr.heap[w.heap.size]? = some (.cells #[.int .i64 0, .int .i64 0, .int .i64 0, .int .i64 0, .int .i64 0, .int .i64 0, .int .i64 0] 91 (0, 0))) := KZ.out _ BR.out
        have TK := Lib.hid (take_any wr (H.out.below B9.out) ha)
        clear N0 ZK ZS HC NM FA1 OKH HWF HL8 HL9 HBB
        generalize numV (ws.getD 1 []) = x0 at *
        generalize numV (ws.getD 2 []) = x1 at *
        generalize numV (ws.getD 3 []) = x2 at *
        generalize numV (ws.getD 4 []) = x3 at *
        generalize numV (ws.getD 5 []) = x4 at *
        generalize numV (ws.getD 6 []) = x5 at *
        generalize numV (ws.getD 7 []) = x6 at *
        go_wp2_with fail
        refine TK.out.mono ?_
        rintro e w8 ⟨rfl, hS, hE⟩
        have G8 : w8.heap[g]? = some (.cells #[.int .i64 x0, .int .i64 x1, .int .i64 x2, .int .i64 x3, .int .i64 x4, .int .i64 x5, .int .i64 x6] 110 (0, 0)) := (hE.block g (lt_of_block GC.out) HNE.out).trans GC.out
        have Z8 : w8.heap[w.heap.size]? = some (.cells #[.int .i64 0, .int .i64 0, .int .i64 0, .int .i64 0, .int .i64 0, .int .i64 0, .int .i64 0] 91 (0, 0)) := (hE.block _ (lt_of_block CZ.out) (by have := HRW.out; omega)).trans CZ.out
        have c0 : w8.cell? ⟨g, 0, none⟩ = some (.int .i64 x0) := by simp [World.cell?, G8]
        have c1 : w8.cell? ⟨g, 1, none⟩ = some (.int .i64 x1) := by simp [World.cell?, G8]
        have c2 : w8.cell? ⟨g, 2, none⟩ = some (.int .i64 x2) := by simp [World.cell?, G8]
        have c3 : w8.cell? ⟨g, 3, none⟩ = some (.int .i64 x3) := by simp [World.cell?, G8]
        have c4 : w8.cell? ⟨g, 4, none⟩ = some (.int .i64 x4) := by simp [World.cell?, G8]
        have c5 : w8.cell? ⟨g, 5, none⟩ = some (.int .i64 x5) := by simp [World.cell?, G8]
        have c6 : w8.cell? ⟨g, 6, none⟩ = some (.int .i64 x6) := by simp [World.cell?, G8]
        obtain ⟨Z1, Z2, Z3, Z4, Z5, Z6, Z7, u0, u1, u2, u3, u4, u5, u6, ⟨hS1, p0, t0⟩, ⟨hS2, p1, t1⟩, ⟨hS3, p2, t2⟩, ⟨hS4, p3, t3⟩, ⟨hS5, p4, t4⟩, ⟨hS6, p5, t5⟩, ⟨hS7, p6, t6⟩, E7, FF⟩ := store7 Z8 rfl (.int .i64 x0) (.int .i64 x1) (.int .i64 x2) (.int .i64 x3) (.int .i64 x4) (.int .i64 x5) (.int .i64 x6)
        have r0 : Z7.cell? ⟨w.heap.size, 0, none⟩ = some (.int .i64 x0) := by simp [World.cell?, E7]
        have r1 : Z7.cell? ⟨w.heap.size, 1, none⟩ = some (.int .i64 x1) := by simp [World.cell?, E7]
        have r2 : Z7.cell? ⟨w.heap.size, 2, none⟩ = some (.int .i64 x2) := by simp [World.cell?, E7]
        have r3 : Z7.cell? ⟨w.heap.size, 3, none⟩ = some (.int .i64 x3) := by simp [World.cell?, E7]
        have r4 : Z7.cell? ⟨w.heap.size, 4, none⟩ = some (.int .i64 x4) := by simp [World.cell?, E7]
        have r5 : Z7.cell? ⟨w.heap.size, 5, none⟩ = some (.int .i64 x5) := by simp [World.cell?, E7]
        have r6 : Z7.cell? ⟨w.heap.size, 6, none⟩ = some (.int .i64 x6) := by simp [World.cell?, E7]
        have HB : Below w.heap.size w8 Z7 := FF.below (Below.refl _ _) (Nat.le_refl _)
        have SF : Hid (Src R A L q wh (a + 1) Z7) := H.out.later hS ((Ext.of B9.out).trans hE) HB
        have EF : Hid (Ext R w Z7) := ((Ext.of B9.out).trans hE).then HB
        clear hS hE G8 Z8 E7 FF HB
        go_wp2
        (try simp only [Exit.inBlock, Exit.then])
        have hres : ∀ tmps : Array Value, tmps.getD 2 undef = .pointer (some ⟨w.heap.size, 0, none⟩) → (results Tryz.f40 tmps).run Tryz.prog Z7 = .ok (.agg #[.int .i64 x0, .int .i64 x1, .int .i64 x2, .int .i64 x3, .int .i64 x4, .int .i64 x5, .int .i64 x6]) Z7 := fun tmps ht => by
          simp only [results, show Tryz.f40.results = #[ResultVar.cell 2 91] from rfl]
          have ht' : tmps[2]?.getD undef = .pointer (some ⟨w.heap.size, 0, none⟩) := by simpa using ht
          go_simp
        refine bodyPost_ret (hres _ rfl) rfl ?_
        exact runs_ok OKG.out ⟨_, _, _, _, _, _, _, rfl, rfl, SF.out, EF.out⟩
end Go.Proofs.YtckdlbfndmmjjaaGreatDoor.Aag
namespace Go.Proofs.YtckdlbfndmmjjaaGreatDoor.Aag
open Go.ChangeShapes Go.WideShapes Go.ChangeAt Go.RowKit Dig Circ Cw

theorem kinds_any (b : UInt8) (w : World) : Calls Tryz.prog 87 #[.string ⟨#[105, 108, 111, 98, 99]⟩, sv [b]] w fun e w' => e = .returned (.bool (kindsL.contains b)) ∧ w' = w := by
  refine (Tryz.strings_Contains_one ⟨#[105, 108, 111, 98, 99]⟩ b w).mono fun e w' ⟨he, hw⟩ => ⟨?_, hw⟩
  rw [he]
  have : decide (0 ≤ Lib.indexByte [105, 108, 111, 98, 99] b) = kindsL.contains b := by
    have h : ∀ l : List UInt8, decide (0 ≤ Lib.indexByte l b) = l.contains b := by
      intro l
      induction l with
      | nil => rfl
      | cons x l ih =>
        unfold Lib.indexByte
        rw [List.contains_cons]
        by_cases hx : x = b
        · subst hx; simp
        · have h1 : (x == b) = false := by simpa using hx
          have h2 : (b == x) = false := by simpa using Ne.symm hx
          rw [h1, h2, Bool.false_or, ← ih]
          have := Lib.indexByte_ge l b
          by_cases hi : Lib.indexByte l b = -1
          · simp [hi]
          · have h3 : (Lib.indexByte l b == -1) = false := by simpa using hi
            simp only [h3, Bool.false_eq_true, if_false]
            congr 1
            apply propext
            omega
    exact h _
  exact congrArg (fun x => Ending.returned (.bool x)) this
theorem op_call_c (a : Act) (w : World) (f t T S : Nat) (v : Value) (hf : ∀ args w, (callFunc f args).run Tryz.prog w = .ok (.enter f args) w) (oo : Oper) (ho : oo.op = .call { callee := .value (.func f), args := #[.const v, .tmp t], argTypes := #[T, S] }) : (execOp a.eval oo).run Tryz.prog w = .ok (.enter f #[v, a.tmps.getD t undef]) w := by
  unfold execOp
  rw [ho]
  go_simp
theorem op_take1 (a : Act) (w : World) (b0 : UInt8) (t0 : List UInt8) (t : Nat) (h : a.tmps.getD t undef = sv (b0 :: t0)) (hl : t0.length ≤ 4194304) (oo : Oper) (ho : oo.op = .slice 9 (.tmp t) none (some (.const (.int .i64 1))) none) : (execOp a.eval oo).run Tryz.prog w = .ok (.value (sv [b0])) w := by
  have h' : a.tmps[t]?.getD undef = .string ⟨(b0 :: t0).toArray⟩ := by simpa [sv] using h
  clear h
  unfold sv execOp
  rw [ho]
  have h1 : (0 : Int) ≤ 1 := by decide
  have h2 : (1 : Int) ≤ (t0.length : Int) + 1 := by omega
  go_simp
  rw [show ((⟨(b0 :: t0).toArray⟩ : ByteArray).extract 0 1) = ⟨#[b0]⟩ from ByteArray.ext (by rw [ByteArray.data_extract]; simp)]
theorem op_drop1 (a : Act) (w : World) (b0 : UInt8) (t0 : List UInt8) (t : Nat) (h : a.tmps.getD t undef = sv (b0 :: t0)) (hl : t0.length ≤ 4194304) (oo : Oper) (ho : oo.op = .slice 9 (.tmp t) (some (.const (.int .i64 1))) none none) : (execOp a.eval oo).run Tryz.prog w = .ok (.value (sv t0)) w := by
  have h' : a.tmps[t]?.getD undef = .string ⟨(b0 :: t0).toArray⟩ := by simpa [sv] using h
  clear h
  unfold sv execOp
  rw [ho]
  have h1 : (0 : Int) ≤ 1 := by decide
  have h2 : (1 : Int) ≤ (t0.length : Int) + 1 := by omega
  go_simp
  rw [show ((⟨(b0 :: t0).toArray⟩ : ByteArray).extract 1 (t0.length + 1)) = ⟨t0.toArray⟩ from ByteArray.ext (by rw [ByteArray.data_extract]; simp)]
theorem op_build_nam (a : Act) (w : World) (x y : List UInt8) (n : Int) (i j k : Nat) (h1 : a.tmps.getD i undef = sv x) (h2 : a.tmps.getD j undef = .int .i64 n) (h3 : a.tmps.getD k undef = sv y) (oo : Oper) (ho : oo.op = .build 56 #[(0, .tmp i), (1, .tmp j), (2, .tmp k)]) : (execOp a.eval oo).run Tryz.prog w = .ok (.value (.agg #[.string ⟨x.toArray⟩, .int .i64 n, .string ⟨y.toArray⟩])) w := by
  have h1' : a.tmps[i]?.getD undef = .string ⟨x.toArray⟩ := by simpa [sv] using h1
  have h2' : a.tmps[j]?.getD undef = .int .i64 n := by simpa using h2
  have h3' : a.tmps[k]?.getD undef = .string ⟨y.toArray⟩ := by simpa [sv] using h3
  clear h1 h2 h3
  unfold execOp
  rw [ho]
  go_simp
theorem op_alloc_nam (a : Act) (w : World) (o : Oper) (ho : o.op = .alloc 56) : (execOp a.eval o).run Tryz.prog w = .ok (.value (.pointer (some ⟨w.heap.size, 0, none⟩))) (w.alloc (.cells #[.string ⟨#[]⟩, .int .i64 0, .string ⟨#[]⟩] 56)) := by
  unfold execOp
  rw [ho]
  go_simp
theorem op_store_nam (a : Act) (w : World) (g : Nat) (z : Array Value) (hg : w.heap[g]? = some (.cells z 56 (0, 0))) (hz : z.size = 3) (x y : ByteArray) (c : Int) (p s : Nat) (hp : a.tmps.getD p undef = .pointer (some ⟨g, 0, none⟩)) (hs : a.tmps.getD s undef = .agg #[.string x, .int .i64 c, .string y]) (o : Oper) (ho : o.op = .store 56 (.tmp p) (.tmp s)) : ∃ w', (execOp a.eval o).run Tryz.prog w = .ok .skip w' ∧ w'.heap[g]? = some (.cells #[.string x, .int .i64 c, .string y] 56 (0, 0)) ∧ But g w w' := by
  obtain ⟨Z1, Z2, Z3, u0, u1, u2, ⟨hS1, p0, t0⟩, ⟨hS2, p1, t1⟩, ⟨hS3, p2, t2⟩, E3, FF⟩ := store3 hg hz (.string x) (.int .i64 c) (.string y)
  refine ⟨Z3, ?_, E3, FF⟩
  unfold execOp
  rw [ho]
  have hp' : a.tmps[p]?.getD undef = .pointer (some ⟨g, 0, none⟩) := by simpa using hp
  have hs' : a.tmps[s]?.getD undef = .agg #[.string x, .int .i64 c, .string y] := by simpa using hs
  clear hp hs hg hz E3 FF
  go_simp
/-- what operation j of the region leaves -/
def nam2R (b o n q' : Nat) (b0 : UInt8) (t0 : List UInt8) : Nat → (Nat → Value) → World → Prop
  | 0, f, _ => f 12 = .slice (some ⟨b, o, none⟩) n q'
  | 1, f, _ => f 13 = .pointer (some ⟨b, o + 0, none⟩)
  | 2, f, _ => f 14 = sv (b0 :: t0)
  | 3, f, _ => f 15 = sv [b0]
  | 4, f, _ => f 16 = .slice (some ⟨b, o, none⟩) n q'
  | 5, f, _ => f 17 = .pointer (some ⟨b, o + 0, none⟩)
  | 6, f, _ => f 18 = sv (b0 :: t0)
  | 7, f, _ => f 19 = sv t0
  | 8, f, _ => f 4 = sv [b0]
  | 9, f, _ => f 5 = sv t0
  | _, _, _ => True
def nam2M : Nat → List Nat
  | 0 => [12]
  | 1 => [13]
  | 2 => [14]
  | 3 => [15]
  | 4 => [16]
  | 5 => [17]
  | 6 => [18]
  | 7 => [19]
  | 8 => [4]
  | 9 => [5]
  | _ => []
theorem nam2_stab {b o n q' : Nat} {b0 : UInt8} {t0 : List UInt8} (jj : Nat) {f f' : Nat → Value} {w w' : World}  (hf : ∀ t ∈ nam2M jj, f' t = f t) (h : nam2R b o n q' b0 t0 jj f w) : nam2R b o n q' b0 t0 jj f' w' := by
  match jj, hf, h with
  | 0, hf, h => exact (hf 12 (by decide)).trans h
  | 1, hf, h => exact (hf 13 (by decide)).trans h
  | 2, hf, h => exact (hf 14 (by decide)).trans h
  | 3, hf, h => exact (hf 15 (by decide)).trans h
  | 4, hf, h => exact (hf 16 (by decide)).trans h
  | 5, hf, h => exact (hf 17 (by decide)).trans h
  | 6, hf, h => exact (hf 18 (by decide)).trans h
  | 7, hf, h => exact (hf 19 (by decide)).trans h
  | 8, hf, h => exact (hf 4 (by decide)).trans h
  | 9, hf, h => exact (hf 5 (by decide)).trans h
  | _ + 10, _, _ => trivial
/-- what operation j of the region leaves -/
def nam3R (R : Nat) (b0 : UInt8) : Nat → (Nat → Value) → World → Prop
  | 0, f, _ => f 20 = .pointer (some ⟨R, 0, none⟩)
  | 1, f, _ => f 21 = .pointer (some ⟨R, 0, none⟩)
  | 2, f, _ => f 22 = .pointer (some ⟨R, 0, none⟩)
  | 3, f, _ => f 23 = sv [b0]
  | 4, f, _ => f 24 = .bool (kindsL.contains b0)
  | 5, _, _ => kindsL.contains b0 = true
  | _, _, _ => True
def nam3M : Nat → List Nat
  | 0 => [20]
  | 1 => [21]
  | 2 => [22]
  | 3 => [23]
  | 4 => [24]
  | 5 => []
  | _ => []
theorem nam3_stab {R : Nat} {b0 : UInt8} (jj : Nat) {f f' : Nat → Value} {w w' : World}  (hf : ∀ t ∈ nam3M jj, f' t = f t) (h : nam3R R b0 jj f w) : nam3R R b0 jj f' w' := by
  match jj, hf, h with
  | 0, hf, h => exact (hf 20 (by decide)).trans h
  | 1, hf, h => exact (hf 21 (by decide)).trans h
  | 2, hf, h => exact (hf 22 (by decide)).trans h
  | 3, hf, h => exact (hf 23 (by decide)).trans h
  | 4, hf, h => exact (hf 24 (by decide)).trans h
  | 5, hf, h =>
    exact h
  | _ + 6, _, _ => trivial
/-- what operation j of the region leaves -/
def nam4R (T : TypeId) (W : World) (R b o n q' : Nat) (b0 : UInt8) (t0 y1 : List UInt8) : Nat → (Nat → Value) → World → Prop
  | 0, f, _ => f 26 = sv [b0]
  | 1, f, _ => f 27 = .pointer (some ⟨R, 0, none⟩)
  | 2, f, _ => f 28 = .pointer (some ⟨R, 0, none⟩)
  | 3, f, _ => f 29 = .pointer (some ⟨R, 0, none⟩)
  | 4, f, _ => f 30 = sv t0
  | 5, f, _ => f 31 = .int .i64 (numV t0) ∧ numOk t0 = true
  | 6, f, _ => f 32 = .slice (some ⟨b, o, none⟩) n q'
  | 7, f, _ => f 33 = .pointer (some ⟨b, o + 1, none⟩)
  | 8, f, _ => f 34 = sv y1
  | 9, f, _ => f 35 = .agg #[.string ⟨#[b0]⟩, .int .i64 (numV t0), .string ⟨y1.toArray⟩]
  | 10, f, w => ∃ g, f 6 = .pointer (some ⟨g, 0, none⟩) ∧ W.heap.size ≤ g ∧ ∃ z : Array Value, w.heap[g]? = some (.cells z T (0, 0)) ∧ z.size = 3
  | 11, f, w => ∃ g, f 6 = .pointer (some ⟨g, 0, none⟩) ∧ W.heap.size ≤ g ∧ w.heap[g]? = some (.cells #[.string ⟨#[b0]⟩, .int .i64 (numV t0), .string ⟨y1.toArray⟩] T (0, 0))
  | _, _, _ => True
def nam4M : Nat → List Nat
  | 0 => [26]
  | 1 => [27]
  | 2 => [28]
  | 3 => [29]
  | 4 => [30]
  | 5 => [31]
  | 6 => [32]
  | 7 => [33]
  | 8 => [34]
  | 9 => [35]
  | 10 => [6]
  | 11 => [6]
  | _ => []
theorem nam4_stab {T : TypeId} {W : World} {R b o n q' : Nat} {b0 : UInt8} {t0 y1 : List UInt8} (jj : Nat) {f f' : Nat → Value} {w w' : World} (h10 : jj = 10 → Below w.heap.size w w') (h11 : jj = 11 → Below w.heap.size w w') (hf : ∀ t ∈ nam4M jj, f' t = f t) (h : nam4R T W R b o n q' b0 t0 y1 jj f w) : nam4R T W R b o n q' b0 t0 y1 jj f' w' := by
  match jj, hf, h, h10, h11 with
  | 0, hf, h, _, _ => exact (hf 26 (by decide)).trans h
  | 1, hf, h, _, _ => exact (hf 27 (by decide)).trans h
  | 2, hf, h, _, _ => exact (hf 28 (by decide)).trans h
  | 3, hf, h, _, _ => exact (hf 29 (by decide)).trans h
  | 4, hf, h, _, _ => exact (hf 30 (by decide)).trans h
  | 5, hf, h, h10, h11 =>
    exact ⟨(hf 31 (by decide)).trans h.1, h.2⟩
  | 6, hf, h, _, _ => exact (hf 32 (by decide)).trans h
  | 7, hf, h, _, _ => exact (hf 33 (by decide)).trans h
  | 8, hf, h, _, _ => exact (hf 34 (by decide)).trans h
  | 9, hf, h, _, _ => exact (hf 35 (by decide)).trans h
  | 10, hf, h, h10, h11 =>
    obtain ⟨g, h1, h2, z, h3, h4⟩ := h
    exact ⟨g, (hf 6 (by decide)).trans h1, h2, z, ((h10 rfl).block g (lt_of_block h3)).trans h3, h4⟩
  | 11, hf, h, h10, h11 =>
    obtain ⟨g, h1, h2, h3⟩ := h
    exact ⟨g, (hf 6 (by decide)).trans h1, h2, ((h11 rfl).block g (lt_of_block h3)).trans h3⟩
  | _ + 12, _, _, _, _ => trivial
def NamP (R : Nat) (A : Option Addr) (L : List (List UInt8)) (q wh a : Nat) (w : World) (x : Nam) (e : Ending) (w' : World) : Prop :=
  e = .returned (.agg #[.string x.kind, .int .i64 x.num, .string x.text]) ∧ Src R A L q wh (a + 1) w' ∧ Ext R w w'
theorem nam_counts {l : List UInt8} (h : wordsOk [2] l = true) : (wordsL l).length = 2 := by
  unfold wordsOk at h
  simp only [Bool.and_eq_true, List.contains_cons, List.contains_nil, Bool.or_false, beq_iff_eq] at h
  exact h.1
theorem formNam_no {l : List UInt8} (h : wordsOk [2] l = false) : formNam l = none := by unfold formNam; rw [h]; rfl
theorem formNam_no0 {l : List UInt8} {b : UInt8} {t : List UInt8} (h0 : (wordsL l).getD 0 [] = b :: t) (h : kindsL.contains b = false) : formNam l = none := by
  unfold formNam; rw [h0, List.getD_cons_zero, h]; simp
theorem formNam_no1 {l : List UInt8} {b : UInt8} {t : List UInt8} (h0 : (wordsL l).getD 0 [] = b :: t) (h : numOk t = false) : formNam l = none := by
  unfold formNam; rw [h0, List.drop_succ_cons, List.drop_zero, h]; simp
theorem formNam_yes {l : List UInt8} {b : UInt8} {t : List UInt8} (hw : wordsOk [2] l = true) (h0 : (wordsL l).getD 0 [] = b :: t) (h1 : kindsL.contains b = true) (h : numOk t = true) : formNam l = some ⟨⟨#[b]⟩, numV t, ⟨((wordsL l).getD 1 []).toArray⟩⟩ := by
  unfold formNam; rw [hw, h0, List.getD_cons_zero, h1, List.drop_succ_cons, List.drop_zero, h]; rfl
set_option maxRecDepth 100000 in
theorem name_stop (R : Nat) (p : List PanicEntry) (w : World)
    (hW : Calls Tryz.prog 59 #[.pointer (some ⟨R, 0, none⟩), .slice (some ⟨w.heap.size + 1, 0, none⟩) 1 1] ((w.alloc (.cells #[.string ⟨#[]⟩, .int .i64 0, .string ⟨#[]⟩] 56)).alloc (.cells #[.int .i64 2] 3)) fun e w' => e = .panicked p ∧ Below w.heap.size w w') :
    Calls Tryz.prog 67 #[.pointer (some ⟨R, 0, none⟩)] w fun e w' => e = .panicked p ∧ Below w.heap.size w w' := by
  have HW := Lib.hid hW
  clear hW
  go_enter Tryz.func67, Tryz.ntmps67
  go_wp2_with fail
  refine HW.out.mono ?_
  rintro e w1 ⟨rfl, hb⟩
  exact ⟨rfl, rfl, hb⟩
set_option maxHeartbeats 4000000 in
set_option maxRecDepth 100000 in
theorem name_run {R : Nat} {A : Option Addr} {L : List (List UInt8)} {q wh a : Nat} (w : World) (h : Src R A L q wh a w) :
    Calls Tryz.prog 67 #[.pointer (some ⟨R, 0, none⟩)] w (Runs R w (readAt L wh formNam a) (NamP R A L q wh a w)) := by
  have hb1 : Below w.heap.size w (w.alloc (.cells #[.string ⟨#[]⟩, .int .i64 0, .string ⟨#[]⟩] 56)) := (Below.refl _ _).alloc (Nat.le_refl _) _
  have hs1 : (w.alloc (.cells #[.string ⟨#[]⟩, .int .i64 0, .string ⟨#[]⟩] 56)).heap.size = w.heap.size + 1 := by simp
  have hb2 : Below w.heap.size w ((w.alloc (.cells #[.string ⟨#[]⟩, .int .i64 0, .string ⟨#[]⟩] 56)).alloc (.cells #[.int .i64 2] 3)) := hb1.alloc hb1.size _
  have hs2 : ((w.alloc (.cells #[.string ⟨#[]⟩, .int .i64 0, .string ⟨#[]⟩] 56)).alloc (.cells #[.int .i64 2] 3)).heap.size = w.heap.size + 2 := by simp
  have hrow : LRow ((w.alloc (.cells #[.string ⟨#[]⟩, .int .i64 0, .string ⟨#[]⟩] 56)).alloc (.cells #[.int .i64 2] 3)) (w.heap.size + 2) 1 (some ⟨w.heap.size + 1, 0, none⟩) (ints ([2].map fun x : Nat => (x : Int))) := by
    have := ints_row (w.alloc (.cells #[.string ⟨#[]⟩, .int .i64 0, .string ⟨#[]⟩] 56)) [2] #[.int .i64 2] 3 rfl
    rw [hs1] at this
    exact this
  by_cases ha : wh ≤ a
  · exact (name_stop R _ w ((words_short _ _ (h.below hb2) ha).mono fun e w' ⟨he, hb⟩ => ⟨he, hb2.trans (hb.mono hb2.size)⟩)).mono fun e w' ⟨he, hb⟩ => runs_error (readAt_short ha) ⟨he, Ext.of hb⟩
  have ha : a < wh := by omega
  cases hw : wordsOk [2] (L.getD a [])
  · exact (name_stop R _ w ((words_fault [2] _ 1 _ _ (h.below hb2) ha hrow (by rw [hs2]; exact Nat.le_refl _) (by simp) hw).mono fun e w' ⟨he, hb⟩ => ⟨he, hb2.trans (hb.mono hb2.size)⟩)).mono fun e w' ⟨he, hb⟩ => runs_error (readAt_none ha (formNam_no hw)) ⟨he, Ext.of hb⟩
  have WO := Lib.hid (words_ok [2] _ 1 _ _ (h.below hb2) ha hrow (by rw [hs2]; exact Nat.le_refl _) (by simp) hw)
  have H := Lib.hid h
  have HRW : Hid (R < w.heap.size) := h.lt
  have HL2' := Lib.hid (nam_counts hw)
  obtain ⟨b0, t0, h0⟩ : ∃ b0 t0, (wordsL (L.getD a [])).getD 0 [] = b0 :: t0 := by
    have hl := nam_counts hw
    have hne := words_ne (L.getD a [])
    generalize wordsL (L.getD a []) = ws at *
    match ws, hl with
    | [w0, w1], _ =>
      have := (hne w0 List.mem_cons_self).1
      cases w0 with
      | nil => exact absurd rfl this
      | cons b t => exact ⟨b, t, rfl⟩
  have T0L : Hid (t0.length ≤ 4194304) := by
    have := word_fit h.fit a 0
    rw [h0, List.length_cons] at this
    unfold Hid; omega
  have FA0 : Hid (kindsL.contains b0 = false → ∀ x, Below w.heap.size w x → Runs R w (readAt L wh formNam a) (NamP R A L q wh a w) (.panicked (faultOf a eSyntax)) x) := fun hy x hb => runs_error (readAt_none ha (formNam_no0 h0 hy)) ⟨rfl, Ext.of hb⟩
  have FA1 : Hid (numOk t0 = false → ∀ x, Below w.heap.size w x → Runs R w (readAt L wh formNam a) (NamP R A L q wh a w) (.panicked (faultOf a eSyntax)) x) := fun hy x hb => runs_error (readAt_none ha (formNam_no1 h0 hy)) ⟨rfl, Ext.of hb⟩
  have OKH : Hid (kindsL.contains b0 = true → numOk t0 = true → readAt L wh formNam a = .ok ⟨⟨#[b0]⟩, numV t0, ⟨((wordsL (L.getD a [])).getD 1 []).toArray⟩⟩) := fun h1 h2 => readAt_some ha (formNam_yes hw h0 h1 h2)
  have EN : Hid (∀ args w, (callFunc 61 args).run Tryz.prog w = .ok (.enter 61 args) w) := enters_of Tryz.func61 (by kernel_rfl) rfl
  have ED : Hid (∀ args w, (callFunc 60 args).run Tryz.prog w = .ok (.enter 60 args) w) := enters_of Tryz.func60 (by kernel_rfl) rfl
  have EC : Hid (∀ args w, (callFunc 87 args).run Tryz.prog w = .ok (.enter 87 args) w) := enters_of Tryz.func87 (by kernel_rfl) rfl
  have HB2 := Lib.hid hb2
  have KZ0 : Hid (∀ x, Below (w.heap.size + 2) ((w.alloc (.cells #[.string ⟨#[]⟩, .int .i64 0, .string ⟨#[]⟩] 56)).alloc (.cells #[.int .i64 2] 3)) x → x.heap[w.heap.size]? = some (.cells #[.string ⟨#[]⟩, .int .i64 0, .string ⟨#[]⟩] 56 (0, 0))) := fun x hb => by
    rw [hb.block _ (by omega), Below.heap_alloc _ _ _ (by rw [hs1]; omega)]; exact Array.getElem?_push_size
  have HS2 := Lib.hid hs2
  have H0 := Lib.hid h0
  clear h hw hb1 hb2 hs1 hs2 hrow h0
  obtain ⟨goal, hgoal⟩ : ∃ g, g = readAt L wh formNam a := ⟨_, rfl⟩
  rw [← hgoal] at FA0 FA1 OKH ⊢
  clear hgoal
  obtain ⟨ws, hws⟩ : ∃ ws, ws = wordsL (L.getD a []) := ⟨_, rfl⟩
  rw [← hws] at OKH WO HL2' H0
  have HL2 : Hid (ws.length = 2) := HL2'.out
  clear hws HL2'
  go_enter Tryz.func67, Tryz.ntmps67
  go_wp2_with fail
  refine WO.out.mono ?_
  rintro e w2 ⟨A1, q1, rfl, hr, hb⟩
  have B2 : Hid (Below w.heap.size w w2) := HB2.out.trans (hb.mono HB2.out.size)
  have KZ : Hid (∀ x, Below w2.heap.size w2 x → x.heap[w.heap.size]? = some (.cells #[.string ⟨#[]⟩, .int .i64 0, .string ⟨#[]⟩] 56 (0, 0))) := fun x hx => KZ0.out x ((hb.mono (by rw [HS2.out]; exact Nat.le_refl _)).trans (hx.mono (by have := hb.size; rw [HS2.out] at this; exact this)))
  obtain ⟨b, o, hA1, hc0⟩ := reads_cellD hr 0 (by have := HL2.out; omega)
  subst hA1
  have HBB : Hid (b < w2.heap.size) := by
    rcases hr with h0 | ⟨g, off, hv, hg, _⟩
    · have := HL2.out; rw [h0] at this; simp at this
    · injection hv with hv; injection hv with hv _; subst hv; exact hg
  rw [H0.out] at hc0
  have HC0 : Hid (∀ x, Below w2.heap.size w2 x → x.cell? ⟨b, o + 0, none⟩ = some (sv (b0 :: t0))) := fun x hx => (hx.cell HBB.out).trans hc0
  have HCC : Hid (∀ x, Below w2.heap.size w2 x → x.cell? ⟨b, o + 1, none⟩ = some (sv (ws.getD 1 []))) := fun x hx => by
    obtain ⟨b1, o1, e1, hc1⟩ := reads_cellD hr 1 (by have := HL2.out; omega)
    injection e1 with e1; injection e1 with e1 e1'; subst e1; subst e1'
    exact (hx.cell HBB.out).trans hc1
  have hl2 : ws.length = 2 := HL2.out
  clear hr hb hc0 WO KZ0 HB2 HS2
  go_wp2
  refine wp_region_valsD (by kernel_rfl) (by kernel_rfl) nam2M (by kernel_rfl) (by kernel_rfl)
    (fun _ w' => Below w2.heap.size w2 w') (nam2R b o 2 q1 b0 t0) (Below.refl _ _).drew (fun jj f f' w w' hb hf h => nam2_stab jj  hf h) ?_ ?_
  · intro i oo d a' w' ho hd hun hdf hok hD K hK hK0
    match i, ho, hd, hD, hK, hK0, hun with
    | 0, ho, hd, hD, hK, hK0, hun =>
      have e := (congrArg Oper.op (Option.some.inj ho)).symm
      obtain rfl := Option.some.inj ho
      exact wp_val (op_move a' w' 3 _ e) (hK _ _ (Below.refl _ _) hok (fun f h1 _ => (h1 _ rfl).trans (hun 3 (by kernel_rfl))))
    | 1, ho, hd, hD, hK, hK0, hun =>
      have e := (congrArg Oper.op (Option.some.inj ho)).symm
      obtain rfl := Option.some.inj ho
      exact wp_val (op_index_Lstring a' w' _ _ _ _ 0 12 (hD 0 (by kernel_rfl)) (by first | decide | omega) _ e) (hK _ _ (Below.refl _ _) hok (fun f h1 _ => h1 _ rfl))
    | 2, ho, hd, hD, hK, hK0, hun =>
      have e := (congrArg Oper.op (Option.some.inj ho)).symm
      obtain rfl := Option.some.inj ho
      exact wp_val (op_load_string a' w' _ 13 _ (hD 1 (by kernel_rfl)) (HC0.out _ hok) _ e) (hK _ _ (Below.refl _ _) hok (fun f h1 _ => h1 _ rfl))
    | 3, ho, hd, hD, hK, hK0, hun =>
      have e := (congrArg Oper.op (Option.some.inj ho)).symm
      obtain rfl := Option.some.inj ho
      exact wp_val (op_take1 a' w' b0 t0 14 (hD 2 (by kernel_rfl)) T0L.out _ e) (hK _ _ (Below.refl _ _) hok (fun f h1 _ => h1 _ rfl))
    | 4, ho, hd, hD, hK, hK0, hun =>
      have e := (congrArg Oper.op (Option.some.inj ho)).symm
      obtain rfl := Option.some.inj ho
      exact wp_val (op_move a' w' 3 _ e) (hK _ _ (Below.refl _ _) hok (fun f h1 _ => (h1 _ rfl).trans (hun 3 (by kernel_rfl))))
    | 5, ho, hd, hD, hK, hK0, hun =>
      have e := (congrArg Oper.op (Option.some.inj ho)).symm
      obtain rfl := Option.some.inj ho
      exact wp_val (op_index_Lstring a' w' _ _ _ _ 0 16 (hD 4 (by kernel_rfl)) (by first | decide | omega) _ e) (hK _ _ (Below.refl _ _) hok (fun f h1 _ => h1 _ rfl))
    | 6, ho, hd, hD, hK, hK0, hun =>
      have e := (congrArg Oper.op (Option.some.inj ho)).symm
      obtain rfl := Option.some.inj ho
      exact wp_val (op_load_string a' w' _ 17 _ (hD 5 (by kernel_rfl)) (HC0.out _ hok) _ e) (hK _ _ (Below.refl _ _) hok (fun f h1 _ => h1 _ rfl))
    | 7, ho, hd, hD, hK, hK0, hun =>
      have e := (congrArg Oper.op (Option.some.inj ho)).symm
      obtain rfl := Option.some.inj ho
      exact wp_val (op_drop1 a' w' b0 t0 18 (hD 6 (by kernel_rfl)) T0L.out _ e) (hK _ _ (Below.refl _ _) hok (fun f h1 _ => h1 _ rfl))
    | 8, ho, hd, hD, hK, hK0, hun =>
      have e := (congrArg Oper.op (Option.some.inj ho)).symm
      obtain rfl := Option.some.inj ho
      exact wp_val (op_assign a' w' 15 _ e) (hK _ _ (Below.refl _ _) hok (fun f h1 _ => (h1 _ rfl).trans (hD 3 (by kernel_rfl))))
    | 9, ho, hd, hD, hK, hK0, hun =>
      have e := (congrArg Oper.op (Option.some.inj ho)).symm
      obtain rfl := Option.some.inj ho
      exact wp_val (op_assign a' w' 19 _ e) (hK _ _ (Below.refl _ _) hok (fun f h1 _ => (h1 _ rfl).trans (hD 7 (by kernel_rfl))))
    | i + 10, ho, _, _, _, _, _ => exact absurd ho (by simp)
  · intro a' w3 hsz hdf hkt hok hR
    have HF3 := frame_sets [4, 5, 12, 13, 14, 15, 16, 17, 18, 19] (by kernel_rfl) hsz hkt
    obtain ⟨d, hok⟩ := hok
    have h4 : a'.tmps.getD 4 undef = sv [b0] := hR 8 (by decide)
    have h5 : a'.tmps.getD 5 undef = sv t0 := hR 9 (by decide)
    obtain ⟨tm, df⟩ := a'
    obtain rfl : df = [] := hdf
    simp only [List.foldl_cons, List.foldl_nil] at HF3
    clear hkt hR hsz
    replace h4 : tm.getD 4 undef = _ := h4
    rw [h4] at HF3
    clear h4
    replace h5 : tm.getD 5 undef = _ := h5
    rw [h5] at HF3
    clear h5
    generalize tm.getD 12 undef = y12 at HF3
    generalize tm.getD 13 undef = y13 at HF3
    generalize tm.getD 14 undef = y14 at HF3
    generalize tm.getD 15 undef = y15 at HF3
    generalize tm.getD 16 undef = y16 at HF3
    generalize tm.getD 17 undef = y17 at HF3
    generalize tm.getD 18 undef = y18 at HF3
    generalize tm.getD 19 undef = y19 at HF3
    simp only [List.setIfInBounds_toArray, List.set_cons_succ, List.set_cons_zero] at HF3
    subst HF3
    have B23 : Hid (Below w2.heap.size w2 w3) := hok
    have B3 : Hid (Below w.heap.size w w3) := B2.out.trans (B23.out.mono B2.out.size)
    clear hok HC0
    go_wp2
    refine wp_region_valsD (by kernel_rfl) (by kernel_rfl) nam3M (by kernel_rfl) (by kernel_rfl)
      (fun _ w' => Below w3.heap.size w3 w') (nam3R R b0) (Below.refl _ _).drew (fun jj f f' w w' hb hf h => nam3_stab jj  hf h) ?_ ?_
    · intro i oo d a' w' ho hd hun hdf hok hD K hK hK0
      match i, ho, hd, hD, hK, hK0, hun with
      | 0, ho, hd, hD, hK, hK0, hun =>
        have e := (congrArg Oper.op (Option.some.inj ho)).symm
        obtain rfl := Option.some.inj ho
        exact wp_val (op_move a' w' 0 _ e) (hK _ _ (Below.refl _ _) hok (fun f h1 _ => (h1 _ rfl).trans (hun 0 (by kernel_rfl))))
      | 1, ho, hd, hD, hK, hK0, hun =>
        have e := (congrArg Oper.op (Option.some.inj ho)).symm
        obtain rfl := Option.some.inj ho
        exact wp_val (op_nil a' w' _ 20 (hD 0 (by kernel_rfl)) _ e) (hK _ _ (Below.refl _ _) hok (fun f h1 _ => h1 _ rfl))
      | 2, ho, hd, hD, hK, hK0, hun =>
        have e := (congrArg Oper.op (Option.some.inj ho)).symm
        obtain rfl := Option.some.inj ho
        exact wp_val (op_field_aag_reader_0 a' w' _ 21 (hD 1 (by kernel_rfl)) _ e) (hK _ _ (Below.refl _ _) hok (fun f h1 _ => h1 _ rfl))
      | 3, ho, hd, hD, hK, hK0, hun =>
        have e := (congrArg Oper.op (Option.some.inj ho)).symm
        obtain rfl := Option.some.inj ho
        exact wp_val (op_move a' w' 4 _ e) (hK _ _ (Below.refl _ _) hok (fun f h1 _ => (h1 _ rfl).trans (hun 4 (by kernel_rfl))))
      | 4, ho, hd, hD, hK, hK0, hun =>
        have e := (congrArg Oper.op (Option.some.inj ho)).symm
        obtain rfl := Option.some.inj ho
        refine wp_enter (op_call_c a' w' _ 23 _ _ _ EC.out _ e) ?_
        rw [show a'.tmps.getD 23 undef = sv [b0] from hD 3 (by kernel_rfl)]
        refine (kinds_any b0 w').mono ?_
        rintro e w'' ⟨rfl, hw⟩
        exact .inl ⟨_, rfl, hK _ _ (hw ▸ Below.refl _ _) (hw ▸ hok) (fun f h1 _ => h1 _ rfl)⟩
      | 5, ho, hd, hD, hK, hK0, hun =>
        have e := (congrArg Oper.op (Option.some.inj ho)).symm
        obtain rfl := Option.some.inj ho
        refine wp_enter (op_call2 a' w' _ 22 24 _ _ ED.out _ e) ?_
        rw [show a'.tmps.getD 22 undef = .pointer (some ⟨R, 0, none⟩) from hD 2 (by kernel_rfl), show a'.tmps.getD 24 undef = .bool (kindsL.contains b0) from hD 4 (by kernel_rfl)]
        refine (need_any _ w' (H.out.below (B3.out.trans (hok.mono B3.out.size)))).mono ?_
        rintro e w'' ⟨hb, ⟨hy, rfl⟩ | ⟨hy, rfl⟩⟩
        · exact .inl ⟨_, rfl, hK _ _ hb (hok.trans (hb.mono hok.size)) (fun f h1 _ => hy)⟩
        · exact .inr ⟨_, rfl, hdf, FA0.out hy _ (B3.out.trans ((hok.trans (hb.mono hok.size)).mono B3.out.size))⟩
      | i + 6, ho, _, _, _, _, _ => exact absurd ho (by simp)
    · intro a' w4 hsz hdf hkt hok hR
      have HF3 := frame_sets [20, 21, 22, 23, 24, 25] (by kernel_rfl) hsz hkt
      obtain ⟨d, hok⟩ := hok
      have K0 : Hid (kindsL.contains b0 = true) := hR 5 (by decide)
      obtain ⟨tm, df⟩ := a'
      obtain rfl : df = [] := hdf
      simp only [List.foldl_cons, List.foldl_nil] at HF3
      clear hkt hR hsz
      generalize tm.getD 20 undef = y20 at HF3
      generalize tm.getD 21 undef = y21 at HF3
      generalize tm.getD 22 undef = y22 at HF3
      generalize tm.getD 23 undef = y23 at HF3
      generalize tm.getD 24 undef = y24 at HF3
      generalize tm.getD 25 undef = y25 at HF3
      simp only [List.setIfInBounds_toArray, List.set_cons_succ, List.set_cons_zero] at HF3
      subst HF3
      have BA : Hid (Below w2.heap.size w2 w4) := B23.out.trans (hok.mono B23.out.size)
      have B4 : Hid (Below w.heap.size w w4) := B2.out.trans (BA.out.mono B2.out.size)
      have HC1 : Hid (∀ x, Below w4.heap.size w4 x → x.cell? ⟨b, o + 1, none⟩ = some (sv (ws.getD 1 []))) := fun x hx => HCC.out x (BA.out.trans (hx.mono BA.out.size))
      clear hok HCC FA0
      go_wp2
      refine wp_region_valsD (by kernel_rfl) (by kernel_rfl) nam4M (by kernel_rfl) (by kernel_rfl)
        (fun _ w' => Below w4.heap.size w4 w') (nam4R 56 w4 R b o 2 q1 b0 t0 (ws.getD 1 [])) (Below.refl _ _).drew (fun jj f f' w w' hb hf h => nam4_stab jj (fun _ => hb) (fun _ => hb) hf h) ?_ ?_
      · intro i oo d a' w' ho hd hun hdf hok hD K hK hK0
        match i, ho, hd, hD, hK, hK0, hun with
        | 0, ho, hd, hD, hK, hK0, hun =>
          have e := (congrArg Oper.op (Option.some.inj ho)).symm
          obtain rfl := Option.some.inj ho
          exact wp_val (op_move a' w' 4 _ e) (hK _ _ (Below.refl _ _) hok (fun f h1 _ => (h1 _ rfl).trans (hun 4 (by kernel_rfl))))
        | 1, ho, hd, hD, hK, hK0, hun =>
          have e := (congrArg Oper.op (Option.some.inj ho)).symm
          obtain rfl := Option.some.inj ho
          exact wp_val (op_move a' w' 0 _ e) (hK _ _ (Below.refl _ _) hok (fun f h1 _ => (h1 _ rfl).trans (hun 0 (by kernel_rfl))))
        | 2, ho, hd, hD, hK, hK0, hun =>
          have e := (congrArg Oper.op (Option.some.inj ho)).symm
          obtain rfl := Option.some.inj ho
          exact wp_val (op_nil a' w' _ 27 (hD 1 (by kernel_rfl)) _ e) (hK _ _ (Below.refl _ _) hok (fun f h1 _ => h1 _ rfl))
        | 3, ho, hd, hD, hK, hK0, hun =>
          have e := (congrArg Oper.op (Option.some.inj ho)).symm
          obtain rfl := Option.some.inj ho
          exact wp_val (op_field_aag_reader_0 a' w' _ 28 (hD 2 (by kernel_rfl)) _ e) (hK _ _ (Below.refl _ _) hok (fun f h1 _ => h1 _ rfl))
        | 4, ho, hd, hD, hK, hK0, hun =>
          have e := (congrArg Oper.op (Option.some.inj ho)).symm
          obtain rfl := Option.some.inj ho
          exact wp_val (op_move a' w' 5 _ e) (hK _ _ (Below.refl _ _) hok (fun f h1 _ => (h1 _ rfl).trans (hun 5 (by kernel_rfl))))
        | 5, ho, hd, hD, hK, hK0, hun =>
          have e := (congrArg Oper.op (Option.some.inj ho)).symm
          obtain rfl := Option.some.inj ho
          refine wp_enter (op_call2 a' w' _ 29 30 _ _ EN.out _ e) ?_
          rw [show a'.tmps.getD 29 undef = .pointer (some ⟨R, 0, none⟩) from hD 3 (by kernel_rfl), show a'.tmps.getD 30 undef = sv t0 from hD 4 (by kernel_rfl)]
          refine (number_any t0 w' (H.out.below (B4.out.trans (hok.mono B4.out.size))) T0L.out).mono ?_
          rintro e w'' ⟨hb, ⟨hy, rfl⟩ | ⟨hy, rfl⟩⟩
          · exact .inl ⟨_, rfl, hK _ _ hb (hok.trans (hb.mono hok.size)) (fun f h1 _ => ⟨h1 _ rfl, hy⟩)⟩
          · exact .inr ⟨_, rfl, hdf, FA1.out hy _ (B4.out.trans ((hok.trans (hb.mono hok.size)).mono B4.out.size))⟩
        | 6, ho, hd, hD, hK, hK0, hun =>
          have e := (congrArg Oper.op (Option.some.inj ho)).symm
          obtain rfl := Option.some.inj ho
          exact wp_val (op_move a' w' 3 _ e) (hK _ _ (Below.refl _ _) hok (fun f h1 _ => (h1 _ rfl).trans (hun 3 (by kernel_rfl))))
        | 7, ho, hd, hD, hK, hK0, hun =>
          have e := (congrArg Oper.op (Option.some.inj ho)).symm
          obtain rfl := Option.some.inj ho
          exact wp_val (op_index_Lstring a' w' _ _ _ _ 1 32 (hD 6 (by kernel_rfl)) (by first | decide | omega) _ e) (hK _ _ (Below.refl _ _) hok (fun f h1 _ => h1 _ rfl))
        | 8, ho, hd, hD, hK, hK0, hun =>
          have e := (congrArg Oper.op (Option.some.inj ho)).symm
          obtain rfl := Option.some.inj ho
          exact wp_val (op_load_string a' w' _ 33 _ (hD 7 (by kernel_rfl)) (HC1.out _ hok) _ e) (hK _ _ (Below.refl _ _) hok (fun f h1 _ => h1 _ rfl))
        | 9, ho, hd, hD, hK, hK0, hun =>
          have e := (congrArg Oper.op (Option.some.inj ho)).symm
          obtain rfl := Option.some.inj ho
          exact wp_val (op_build_nam a' w' [b0] (ws.getD 1 []) (numV t0) 26 31 34 (hD 0 (by kernel_rfl)) (hD 5 (by kernel_rfl)).1 (hD 8 (by kernel_rfl)) _ e) (hK _ _ (Below.refl _ _) hok (fun f h1 _ => h1 _ rfl))
        | 10, ho, hd, hD, hK, hK0, hun =>
          have e := (congrArg Oper.op (Option.some.inj ho)).symm
          obtain rfl := Option.some.inj ho
          exact wp_val (op_alloc_nam a' w' _ e) (hK _ _ ((Below.refl _ _).alloc (Nat.le_refl _) _) (hok.alloc hok.size _) (fun f h1 _ => ⟨w'.heap.size, h1 _ rfl, hok.size, _, Array.getElem?_push_size, rfl⟩))
        | 11, ho, hd, hD, hK, hK0, hun =>
          have e := (congrArg Oper.op (Option.some.inj ho)).symm
          obtain rfl := Option.some.inj ho
          obtain ⟨g, h4, hg, z, hgc, hz⟩ : ∃ g, vals a' 6 = .pointer (some ⟨g, 0, none⟩) ∧ w4.heap.size ≤ g ∧ ∃ z : Array Value, w'.heap[g]? = some (.cells z 56 (0, 0)) ∧ z.size = 3 := hD 10 (by kernel_rfl)
          obtain ⟨w'', hr, hgc2, hbut⟩ := op_store_nam a' w' g z hgc hz _ _ _ 6 35 h4 (hD 9 (by kernel_rfl)) _ e
          refine wp_skip' hr (hK0 _ _ (hbut.below hok hg) (fun f h1 h2 => ⟨g, (h2 6 (by decide)).trans h4, hg, hgc2⟩) (fun j f hj hf hq => ?_))
          by_cases h15 : j = 10
          · subst h15
            obtain ⟨g', h4', _, z', hgc', hz'⟩ := hq
            have e3 := h4'.symm.trans h4
            simp only [Value.pointer.injEq, Option.some.injEq, Addr.mk.injEq, and_true] at e3
            subst e3
            exact ⟨g', (hf 6 (by decide)).trans h4', hg, _, hgc2, rfl⟩
          · exact nam4_stab j (fun e2 => absurd e2 h15) (fun e2 => absurd e2 hj) hf hq
        | i + 12, ho, _, _, _, _, _ => exact absurd ho (by simp)
      · intro a' w5 hsz hdf hkt hok hR
        have HF3 := frame_sets [6, 26, 27, 28, 29, 30, 31, 32, 33, 34, 35] (by kernel_rfl) hsz hkt
        obtain ⟨d, hok⟩ := hok
        obtain ⟨g, h6, hg, hgc⟩ : ∃ g, vals a' 6 = .pointer (some ⟨g, 0, none⟩) ∧ w4.heap.size ≤ g ∧ w5.heap[g]? = some (.cells #[.string ⟨#[b0]⟩, .int .i64 (numV t0), .string ⟨(ws.getD 1 []).toArray⟩] 56 (0, 0)) := hR 11 (by decide)
        have N1 := Lib.hid (hR 5 (by decide) : _ ∧ numOk t0 = true).2
        obtain ⟨tm, df⟩ := a'
        obtain rfl : df = [] := hdf
        simp only [List.foldl_cons, List.foldl_nil] at HF3
        clear hkt hR hsz
        replace h6 : tm.getD 6 undef = _ := h6
        rw [h6] at HF3
        clear h6
        generalize tm.getD 26 undef = y26 at HF3
        generalize tm.getD 27 undef = y27 at HF3
        generalize tm.getD 28 undef = y28 at HF3
        generalize tm.getD 29 undef = y29 at HF3
        generalize tm.getD 30 undef = y30 at HF3
        generalize tm.getD 31 undef = y31 at HF3
        generalize tm.getD 32 undef = y32 at HF3
        generalize tm.getD 33 undef = y33 at HF3
        generalize tm.getD 34 undef = y34 at HF3
        generalize tm.getD 35 undef = y35 at HF3
        simp only [List.setIfInBounds_toArray, List.set_cons_succ, List.set_cons_zero] at HF3
        subst HF3
        have GC := Lib.hid hgc
        have B9 : Hid (Below w.heap.size w w5) := B4.out.trans (hok.mono B4.out.size)
        have HNE : Hid (g ≠ R) := by have := HRW.out; have := B4.out.size; unfold Hid; omega
        have CZ : Hid (w5.heap[w.heap.size]? = some (.cells #[.string ⟨#[]⟩, .int .i64 0, .string ⟨#[]⟩] 56 (0, 0))) := KZ.out _ (BA.out.trans (hok.mono BA.out.size))
        have TK := Lib.hid (take_any w5 (H.out.below B9.out) ha)
        have OKG : Hid (goal = .ok ⟨⟨#[b0]⟩, numV t0, ⟨(ws.getD 1 []).toArray⟩⟩) := OKH.out K0.out N1.out
        clear hgc hok hg OKH N1 K0 HC1 FA1
        generalize numV t0 = nv at *
        generalize ws.getD 1 [] = y1 at *
        go_wp2_with fail
        refine TK.out.mono ?_
        rintro e w8 ⟨rfl, hS, hE⟩
        have G8 : w8.heap[g]? = some (.cells #[.string ⟨#[b0]⟩, .int .i64 nv, .string ⟨y1.toArray⟩] 56 (0, 0)) := (hE.block g (lt_of_block GC.out) HNE.out).trans GC.out
        have Z8 : w8.heap[w.heap.size]? = some (.cells #[.string ⟨#[]⟩, .int .i64 0, .string ⟨#[]⟩] 56 (0, 0)) := (hE.block _ (lt_of_block CZ.out) (by have := HRW.out; omega)).trans CZ.out
        have c0 : w8.cell? ⟨g, 0, none⟩ = some (.string ⟨#[b0]⟩) := by simp [World.cell?, G8]
        have c1 : w8.cell? ⟨g, 1, none⟩ = some (.int .i64 nv) := by simp [World.cell?, G8]
        have c2 : w8.cell? ⟨g, 2, none⟩ = some (.string ⟨y1.toArray⟩) := by simp [World.cell?, G8]
        obtain ⟨Z1, Z2, Z3, u0, u1, u2, ⟨hS1, p0, t0'⟩, ⟨hS2, p1, t1⟩, ⟨hS3, p2, t2⟩, E3, FF⟩ := store3 Z8 rfl (.string ⟨#[b0]⟩) (.int .i64 nv) (.string ⟨y1.toArray⟩)
        have r0 : Z3.cell? ⟨w.heap.size, 0, none⟩ = some (.string ⟨#[b0]⟩) := by simp [World.cell?, E3]
        have r1 : Z3.cell? ⟨w.heap.size, 1, none⟩ = some (.int .i64 nv) := by simp [World.cell?, E3]
        have r2 : Z3.cell? ⟨w.heap.size, 2, none⟩ = some (.string ⟨y1.toArray⟩) := by simp [World.cell?, E3]
        have HB : Below w.heap.size w8 Z3 := FF.below (Below.refl _ _) (Nat.le_refl _)
        have SF : Hid (Src R A L q wh (a + 1) Z3) := H.out.later hS ((Ext.of B9.out).trans hE) HB
        have EF : Hid (Ext R w Z3) := ((Ext.of B9.out).trans hE).then HB
        clear hS hE G8 Z8 E3 FF HB
        go_wp2
        (try simp only [Exit.inBlock, Exit.then])
        have hres : ∀ tmps : Array Value, tmps.getD 2 undef = .pointer (some ⟨w.heap.size, 0, none⟩) → (results Tryz.f67 tmps).run Tryz.prog Z3 = .ok (.agg #[.string ⟨#[b0]⟩, .int .i64 nv, .string ⟨y1.toArray⟩]) Z3 := fun tmps ht => by
          simp only [results, show Tryz.f67.results = #[ResultVar.cell 2 56] from rfl]
          have ht' : tmps[2]?.getD undef = .pointer (some ⟨w.heap.size, 0, none⟩) := by simpa using ht
          go_simp
        refine bodyPost_ret (hres _ rfl) rfl ?_
        exact runs_ok OKG.out ⟨rfl, SF.out, EF.out⟩
/-- where the reading stands, out of the world -/
def srcAt (R : Nat) (w : World) : Nat := match w.cell? ⟨R, 2, none⟩ with
  | some v => (intOf v).toNat
  | none => 0
theorem Src.at_ {R : Nat} {A : Option Addr} {L : List (List UInt8)} {q wh a : Nat} {w : World} (h : Src R A L q wh a w) : srcAt R w = a := by
  unfold srcAt; rw [h.cells.2.2]; simp [intOf]
theorem nams_length1 (l : List Nam) : (nams l).length = l.length := by simp [nams]
theorem nams_snoc (l : List Nam) (t : Nam) : nams l ++ [t.cells] = nams (l ++ [t]) := by simp [nams]
def NamsP (R : Nat) (A : Option Addr) (L : List (List UInt8)) (q wh : Nat) (w : World) (r : List Nam × Nat) (e : Ending) (w' : World) : Prop :=
  ∃ v, e = .returned v ∧ OwnC w' w.heap.size 56 3 v (nams r.1) ∧ Src R A L q wh r.2 w' ∧ Ext R w w'
set_option maxHeartbeats 2000000 in
set_option maxRecDepth 100000 in
theorem names_run {R : Nat} {A : Option Addr} {L : List (List UInt8)} {q wh a : Nat} (w : World) (h : Src R A L q wh a w) :
    Calls Tryz.prog 44 #[.pointer (some ⟨R, 0, none⟩)] w (Runs R w (namesGo L wh (L.length - a) a []) (NamsP R A L q wh w)) := by
  have H := Lib.hid h
  have HRW : Hid (R < w.heap.size) := h.lt
  clear h
  obtain ⟨goal, hgoal⟩ : ∃ g, g = namesGo L wh (L.length - a) a [] := ⟨_, rfl⟩
  have HG := Lib.hid hgoal
  rw [← hgoal]
  clear hgoal
  go_enter Tryz.func44, Tryz.ntmps44
  go_wp2
  go_loopw [3] (fun v wr => ∃ (j : Nat) (vv : Value) (acc : List Nam), vv = v ∧ acc.length = j ∧ goal = namesGo L wh (L.length - (a + j)) (a + j) acc ∧ OwnC wr w.heap.size 56 3 vv (nams acc) ∧ Src R A L q wh (a + j) wr ∧ Ext R w wr) (fun _ wr => L.length + 1 - srcAt R wr)
  case atStart => exact ⟨0, _, [], rfl, rfl, HG.out, OwnC.nil _ _ _ _, H.out, Ext.refl _ _⟩
  case round =>
    obtain ⟨j, v, acc, rfl, hacc, hg, how, hS, hE⟩ := hrel
    have GG := Lib.hid hg
    have HO := Lib.hid how
    have HS := Lib.hid hS
    have HE := Lib.hid hE
    have HA := Lib.hid hacc
    clear hg how hS hE hacc
    have ED := Lib.hid (ended_any wr HS.out)
    by_cases hend : L.length ≤ a + j
    · rw [decide_eq_true hend] at ED
      have HGE : Hid (goal = .ok (acc, a + j)) := by
        unfold Hid
        rw [GG.out, Nat.sub_eq_zero_of_le hend]; rfl
      clear hend
      go_wp2_with fail
      refine ED.out.mono ?_
      rintro e w1 ⟨rfl, hb⟩
      have HO1 := Lib.hid (HO.out.keep hb)
      have HS1 := Lib.hid (HS.out.below hb)
      have HE1 := Lib.hid (HE.out.trans (Ext.of hb))
      clear hb
      go_wp2
      go_ret
      exact runs_ok HGE.out ⟨v, rfl, HO1.out, HS1.out, HE1.out⟩
    · rw [decide_eq_false hend] at ED
      have GS : Hid (L.length - (a + j) = (L.length - (a + (j + 1))) + 1) := by unfold Hid; omega
      have HLT : Hid (a + j < L.length) := by unfold Hid; omega
      clear hend
      go_wp2_with fail
      refine ED.out.mono ?_
      rintro e w1 ⟨rfl, hb⟩
      have HO1 := Lib.hid (HO.out.keep hb)
      have HS1 := Lib.hid (HS.out.below hb)
      have HE1 := Lib.hid (HE.out.trans (Ext.of hb))
      clear hb ED
      by_cases hw : wh ≤ a + j
      · have LS := Lib.hid (line_short w1 HS1.out hw)
        have HGE : Hid (goal = .error (a + j, eShort)) := by
          unfold Hid
          rw [GG.out, GS.out, namesGo, if_pos hw]
        clear hw
        go_wp2_with fail
        refine LS.out.mono ?_
        rintro e w2 ⟨rfl, hb⟩
        exact ⟨rfl, runs_error HGE.out ⟨rfl, HE1.out.trans (Ext.of hb)⟩⟩
      · have LO := Lib.hid (line_ok w1 HS1.out (by omega))
        by_cases hc : L.getD (a + j) [] = [99]
        · have HGE : Hid (goal = .ok (acc, a + j)) := by
            unfold Hid
            rw [GG.out, GS.out, namesGo, if_neg hw, if_pos hc]
          rw [hc] at LO
          unfold sv at LO
          clear hw hc
          go_wp2_with fail
          refine LO.out.mono ?_
          rintro e w2 ⟨rfl, hb⟩
          have HO2 := Lib.hid (HO1.out.keep hb)
          have HS2 := Lib.hid (HS1.out.below hb)
          have HE2 := Lib.hid (HE1.out.trans (Ext.of hb))
          clear hb
          go_wp2
          go_ret
          exact runs_ok HGE.out ⟨v, rfl, HO2.out, HS2.out, HE2.out⟩
        · have HNC : Hid ((L.getD (a + j) [] == [99]) = false) := by unfold Hid; simpa using hc
          have HN0 : Hid (∀ x, namesGo L wh (L.length - (a + (j + 1)) + 1) (a + j) x = match formNam (L.getD (a + j) []) with | none => .error (a + j, eSyntax) | some t => namesGo L wh (L.length - (a + (j + 1))) (a + j + 1) (x ++ [t])) := fun x => by rw [namesGo, if_neg hw, if_neg hc]; rfl
          have HW := Lib.hid hw
          clear hw hc
          obtain ⟨y, hy⟩ : ∃ y, y = L.getD (a + j) [] := ⟨_, rfl⟩
          rw [← hy] at LO HNC
          have hny : (!(y == [99])) = true := by rw [HNC.out]; rfl
          unfold sv at LO
          clear hy
          go_wp2_with fail
          refine LO.out.mono ?_
          rintro e w2 ⟨rfl, hb⟩
          have HO2 := Lib.hid (HO1.out.keep hb)
          have HS2 := Lib.hid (HS1.out.below hb)
          have HE2 := Lib.hid (HE1.out.trans (Ext.of hb))
          clear hb
          have NR := Lib.hid (name_run w2 HS2.out)
          go_wp2_with fail
          refine NR.out.mono ?_
          intro e w3 hr
          cases hq : readAt L wh formNam (a + j) with
          | error b =>
            rw [hq] at hr
            obtain ⟨rfl, hE3⟩ := hr
            have HGE : Hid (goal = .error b) := by
              unfold Hid
              rw [GG.out, GS.out, HN0.out]
              unfold readAt at hq
              rw [if_neg HW.out] at hq
              cases hf : formNam (L.getD (a + j) []) with
              | none => rw [hf] at hq; cases hq; rfl
              | some t => rw [hf] at hq; cases hq
            have HX := Lib.hid (HE2.out.trans hE3)
            clear hq hE3 NR
            exact ⟨rfl, runs_error (b := b.1) (t := b.2) HGE.out ⟨rfl, HX.out⟩⟩
          | ok t =>
            rw [hq] at hr
            obtain ⟨rfl, hS3, hE3⟩ := hr
            obtain ⟨hca, hform⟩ := read_get hq
            have HGO : Hid (goal = namesGo L wh (L.length - (a + (j + 1))) (a + (j + 1)) (acc ++ [t])) := by
              unfold Hid
              rw [GG.out, GS.out, HN0.out, hform]
              rfl
            obtain ⟨xk, xn, xt⟩ := t
            simp only
            have hal2 : Below w3.heap.size w3 (w3.alloc (.cells #[.string xk, .int .i64 xn, .string xt] 56)) := (Below.refl _ _).alloc (Nat.le_refl _) _
            have EW : Hid (Ext R w w3) := HE2.out.trans hE3
            have EW3 : Hid (Ext R w (w3.alloc (.cells #[.string xk, .int .i64 xn, .string xt] 56))) := EW.out.then (hal2.mono EW.out.size)
            have O3 := Lib.hid ((own_ext HO2.out hE3 HRW.out).keep hal2)
            have S3 := Lib.hid (hS3.below hal2)
            have HC : Hid (∀ (j : Nat) u, (Nam.cells ⟨xk, xn, xt⟩)[j]? = some u → (w3.alloc (.cells #[.string xk, .int .i64 xn, .string xt] 56)).cell? ⟨w3.heap.size, j, none⟩ = some u) := fun j u hu => by
              rw [new_cell]; simpa [Nam.cells] using hu
            have HONE : Hid (∀ u ∈ Nam.cells ⟨xk, xn, xt⟩, u.oneCell' = true) := fun u hu => by
              simp [Nam.cells] at hu
              rcases hu with rfl | rfl | rfl <;> rfl
            have HL : Hid ((nams acc).length ≤ 65537) := by
              have h1 := HA.out
              have h2 := HS.out.ale
              have h3 := HS.out.whl
              have h4 := HS.out.len
              unfold Hid; rw [nams_length1]; omega
            have HSZ : Hid (w.heap.size ≤ (w3.alloc (.cells #[.string xk, .int .i64 xn, .string xt] 56)).heap.size) := EW3.out.size
            have HMS : Hid (a + j < L.length) := HLT.out
            clear hal2 hE3 hS3 hq NR hform hca HNC hny
            go_wp2_with (at_builtin; refine wpList_push _ rfl (.tmp 16) (.tmp 19) 25 rfl 56 3 40 _ Tryz.underlying25 infoNam rfl (by decide) w.heap.size v _ O3.out rfl w3.heap.size 1 rfl (Nam.cells ⟨xk, xn, xt⟩) HC.out rfl HONE.out (by have := HL.out; omega) (by have := HL.out; omega) HSZ.out ?_)
            intro v2 w4 hown hbel _
            have HO4 := Lib.hid hown
            have HS4 := Lib.hid (H.out.later S3.out EW3.out hbel)
            have HE4 := Lib.hid (EW3.out.then hbel)
            clear hown hbel
            go_wp2
            go_roundw
            case rel => exact ⟨j + 1, _, acc ++ [⟨xk, xn, xt⟩], rfl, by rw [List.length_append, HA.out]; rfl, HGO.out, by rw [← nams_snoc]; exact HO4.out, HS4.out, HE4.out⟩
            case measure => rw [HS4.out.at_, HS.out.at_]; have := HMS.out; omega

end Go.Proofs.YtckdlbfndmmjjaaGreatDoor.Aag
