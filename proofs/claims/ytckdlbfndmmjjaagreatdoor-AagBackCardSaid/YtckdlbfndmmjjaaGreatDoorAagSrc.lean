/- The walks of aag's reading, line by line: what hands out lines, and what refuses them; no condition. -/
import Derived.Test.YtckdlbfndmmjjaaGreatDoorDigText
import Derived.Test.YtckdlbfndmmjjaaGreatDoorAagText
import Derived.Test.YtckdlbfndmmjjaaGreatDoorOwnC
import Derived.Deep.QuietTactic
import Derived.BigQuiet
import Derived.RegionTactic
namespace Go.Proofs.YtckdlbfndmmjjaaGreatDoor.Aag
open Go.ChangeShapes Go.WideShapes Go.ChangeAt Go.RowKit Dig Circ Cw

def faultOf (a : Nat) (e : Int) : List PanicEntry := [{ v := .iface 60 (.agg #[.int .i64 a, .int .i64 e]), recovered := false }]
/-- w' is w but for block R, and new blocks -/
structure Ext (R : Nat) (w w' : World) : Prop where
  os : w'.os = w.os
  tape : w'.tape = w.tape
  output : w'.output = w.output
  size : w.heap.size ≤ w'.heap.size
  block : ∀ k, k < w.heap.size → k ≠ R → w'.heap[k]? = w.heap[k]?
theorem Ext.refl (R : Nat) (w : World) : Ext R w w := ⟨rfl, rfl, rfl, Nat.le_refl _, fun _ _ _ => rfl⟩
theorem Ext.trans {R : Nat} {a b c : World} (h : Ext R a b) (k : Ext R b c) : Ext R a c :=
  ⟨k.os.trans h.os, k.tape.trans h.tape, k.output.trans h.output, Nat.le_trans h.size k.size, fun i hi hr => (k.block i (Nat.lt_of_lt_of_le hi h.size) hr).trans (h.block i hi hr)⟩
theorem Ext.of {R : Nat} {w w' : World} (h : Below w.heap.size w w') : Ext R w w' := ⟨h.os, h.tape, h.output, h.size, fun k hk _ => h.block k hk⟩
theorem Ext.below {R : Nat} {w w' : World} (h : Ext R w w') : Below R w w' ∨ w.heap.size ≤ R := by
  by_cases hr : R < w.heap.size
  · exact .inl ⟨h.os, h.tape, h.output, h.size, fun k hk => h.block k (by omega) (by omega)⟩
  · exact .inr (by omega)
theorem drewN_below (B : Nat) (w : World) : ∀ n, Below B w (w.drewN n)
  | 0 => Below.refl B w
  | n + 1 => (drewN_below B w n).drew

theorem reads_cellD {a : Option Addr} {L : List (List UInt8)} {w : World} (h : ReadsAt a L w) (k : Nat) (hk : k < L.length) : ∃ g off, a = some ⟨g, off, none⟩ ∧ w.cell? ⟨g, off + k, none⟩ = some (sv (L.getD k [])) := by
  rcases h with h | ⟨g, off, hv, hg, hc⟩
  · subst h; simp at hk
  · exact ⟨g, off, hv, hc k hk⟩
/-- where the lines lie, and at which of them the reading stands -/
structure Src (R : Nat) (A : Option Addr) (L : List (List UInt8)) (q wh a : Nat) (w : World) : Prop where
  blk : w.heap[R]? = some (.cells #[.slice A L.length q, .int .i64 wh, .int .i64 a] 66 (0, 0))
  txt : ReadsAt A L w
  off : ∀ p, A = some p → p.block ≠ R
  whl : wh ≤ L.length
  ale : a ≤ wh
  len : L.length ≤ 65537
  fit : ∀ l ∈ L, l.length ≤ 65536
  mx : MaxCell w
  gr : 0 < R
theorem Src.cells {R : Nat} {A : Option Addr} {L : List (List UInt8)} {q wh a : Nat} {w : World} (h : Src R A L q wh a w) : w.cell? ⟨R, 0, none⟩ = some (.slice A L.length q) ∧ w.cell? ⟨R, 1, none⟩ = some (.int .i64 wh) ∧ w.cell? ⟨R, 2, none⟩ = some (.int .i64 a) := by
  refine ⟨?_, ?_, ?_⟩ <;> simp [World.cell?, h.blk]
theorem Src.lt {R : Nat} {A : Option Addr} {L : List (List UInt8)} {q wh a : Nat} {w : World} (h : Src R A L q wh a w) : R < w.heap.size := lt_of_block h.blk
theorem Src.below {R : Nat} {A : Option Addr} {L : List (List UInt8)} {q wh a : Nat} {w w' : World} (h : Src R A L q wh a w) (hb : Below w.heap.size w w') : Src R A L q wh a w' :=
  ⟨(hb.block R h.lt).trans h.blk, h.txt.below hb, h.off, h.whl, h.ale, h.len, h.fit, h.mx.below h.mx.lt hb, h.gr⟩
theorem Src.moved {R : Nat} {A : Option Addr} {L : List (List UInt8)} {q wh a b : Nat} {w w' : World} (h : Src R A L q wh a w) (hb : Ext R w w') (hc : w'.heap[R]? = some (.cells #[.slice A L.length q, .int .i64 wh, .int .i64 b] 66 (0, 0))) (hle : b ≤ wh) : Src R A L q wh b w' := by
  have hm : MaxCell w' := by
    obtain ⟨m, hm⟩ := h.mx
    exact ⟨m, by rw [← hm]; exact World.cell?_of_block (w := w) (hb.block _ h.mx.lt (Nat.ne_of_lt h.gr))⟩
  refine ⟨hc, ?_, h.off, h.whl, hle, h.len, h.fit, hm, h.gr⟩
  rcases h.txt with h0 | ⟨g, off, e, hg, hx⟩
  · exact .inl h0
  · refine .inr ⟨g, off, e, Nat.lt_of_lt_of_le hg hb.size, fun i hi => ?_⟩
    rw [← hx i hi]
    exact World.cell?_of_block (w := w) (hb.block g hg (h.off _ e))

theorem refuse_any {R : Nat} {A : Option Addr} {L : List (List UInt8)} {q wh a : Nat} (x : Int) (w : World) (h : Src R A L q wh a w) :
    Calls Tryz.prog 23 #[.pointer (some ⟨R, 0, none⟩), .int .i64 x] w fun e w' => e = .panicked (faultOf a x) ∧ Below w.heap.size w w' := by
  obtain ⟨c0, c1, c2⟩ := h.cells
  clear h
  go_enter Tryz.func23, Tryz.ntmps23
  go_wp2
  exact ⟨rfl, rfl, Below.refl _ _⟩
theorem need_ok (R : Nat) (w : World) : Calls Tryz.prog 60 #[.pointer (some ⟨R, 0, none⟩), .bool true] w fun e w' => e = .returned (.tuple #[]) ∧ w = w' := by
  go_enter Tryz.func60, Tryz.ntmps60
  go_wp2
  go_end0
  exact ⟨rfl, rfl⟩
theorem need_fault {R : Nat} {A : Option Addr} {L : List (List UInt8)} {q wh a : Nat} (w : World) (h : Src R A L q wh a w) :
    Calls Tryz.prog 60 #[.pointer (some ⟨R, 0, none⟩), .bool false] w fun e w' => e = .panicked (faultOf a eSyntax) ∧ Below w.heap.size w w' := by
  have RF := Lib.hid (refuse_any 33 w h)
  clear h
  go_enter Tryz.func60, Tryz.ntmps60
  go_wp2_with fail
  refine RF.out.mono ?_
  rintro e w1 ⟨rfl, hb⟩
  exact ⟨rfl, rfl, hb⟩
theorem take_any {R : Nat} {A : Option Addr} {L : List (List UInt8)} {q wh a : Nat} (w : World) (h : Src R A L q wh a w) (ha : a < wh) :
    Calls Tryz.prog 62 #[.pointer (some ⟨R, 0, none⟩)] w fun e w' => e = .returned (.tuple #[]) ∧ Src R A L q wh (a + 1) w' ∧ Ext R w w' := by
  obtain ⟨c0, c1, c2⟩ := h.cells
  have hf : w.frozen? ⟨R, 2, none⟩ = false := by simp [World.frozen?, h.blk]
  have hlt : (a : Int) < 9223372036854775807 := by have := h.whl; have := h.len; omega
  have HE : Hid (Ext R w (w.setCell ⟨R, 2, none⟩ (.int .i64 (a + 1 : Nat)))) :=
    ⟨rfl, rfl, rfl, by simp [World.setCell], fun k _ hk => Below.heap_setCell _ _ _ _ hk⟩
  have HS : Hid (Src R A L q wh (a + 1) (w.setCell ⟨R, 2, none⟩ (.int .i64 (a + 1 : Nat)))) := h.moved HE.out (by simp [World.setCell, Array.getElem?_modify, h.blk]) ha
  clear h
  go_enter Tryz.func62, Tryz.ntmps62
  go_wp2
  go_end0
  exact ⟨rfl, HS.out, HE.out⟩
theorem line_ok {R : Nat} {A : Option Addr} {L : List (List UInt8)} {q wh a : Nat} (w : World) (h : Src R A L q wh a w) (ha : a < wh) :
    Calls Tryz.prog 66 #[.pointer (some ⟨R, 0, none⟩)] w fun e w' => e = .returned (sv (L.getD a [])) ∧ Below w.heap.size w w' := by
  obtain ⟨c0, c1, c2⟩ := h.cells
  have hl := h.whl
  obtain ⟨g, off, rfl, hx⟩ := reads_cellD h.txt a (by omega)
  unfold sv at hx ⊢
  have h0 : (0 : Int) ≤ a := by omega
  have h1 : (a : Int) < L.length := by omega
  have h2 : decide ((wh : Int) ≤ a) = false := by simpa using ha
  have h3 : decide (wh ≤ a) = false := by simpa using ha
  have hlen : (L.length : Int) ≤ 9223372036854775807 := by have := h.len; omega
  clear h hl
  generalize L.getD a [] = y at *
  go_enter Tryz.func66, Tryz.ntmps66
  go_wp2
  go_quiet (fail)
  go_wp2
  go_quiet (fail)
  go_wp2
  go_ret
  exact ⟨rfl, (drewN_below _ _ _).trans (drewN_below _ _ _)⟩
theorem line_short {R : Nat} {A : Option Addr} {L : List (List UInt8)} {q wh a : Nat} (w : World) (h : Src R A L q wh a w) (ha : wh ≤ a) :
    Calls Tryz.prog 66 #[.pointer (some ⟨R, 0, none⟩)] w fun e w' => e = .panicked (faultOf a eShort) ∧ Below w.heap.size w w' := by
  obtain ⟨c0, c1, c2⟩ := h.cells
  have h2 : decide ((wh : Int) ≤ a) = true := by simpa using ha
  have h3 : decide (wh ≤ a) = true := by simpa using ha
  have RF : Hid (∀ n, Calls Tryz.prog 23 #[.pointer (some ⟨R, 0, none⟩), .int .i64 8] (w.drewN n) fun e w' => e = .panicked (faultOf a 8) ∧ Below (w.drewN n).heap.size (w.drewN n) w') :=
    fun n => refuse_any 8 _ (h.below (drewN_below _ _ _))
  clear h
  go_enter Tryz.func66, Tryz.ntmps66
  go_wp2
  go_quiet (fail)
  go_wp2_with fail
  refine (RF.out _).mono ?_
  rintro e w1 ⟨rfl, hb⟩
  exact ⟨rfl, rfl, (drewN_below _ _ _).trans (hb.mono (drewN_below 0 w _).size)⟩
theorem ended_any {R : Nat} {A : Option Addr} {L : List (List UInt8)} {q wh a : Nat} (w : World) (h : Src R A L q wh a w) :
    Calls Tryz.prog 65 #[.pointer (some ⟨R, 0, none⟩)] w fun e w' => e = .returned (.bool (decide (L.length ≤ a))) ∧ Below w.heap.size w w' := by
  obtain ⟨c0, c1, c2⟩ := h.cells
  clear h
  by_cases ha : L.length ≤ a
  · have h2 : decide ((L.length : Int) ≤ a) = true := by simpa using ha
    have h3 : decide (L.length ≤ a) = true := by simpa using ha
    clear ha
    go_enter Tryz.func65, Tryz.ntmps65
    go_wp2
    go_quiet (fail)
    go_wp2
    go_ret
    exact ⟨by rw [h3]; rfl, drewN_below _ _ _⟩
  · have h2 : decide ((L.length : Int) ≤ a) = false := by simpa using ha
    have h3 : decide (L.length ≤ a) = false := by simpa using ha
    clear ha
    go_enter Tryz.func65, Tryz.ntmps65
    go_wp2
    go_quiet (fail)
    go_wp2
    go_ret
    exact ⟨by rw [h3]; rfl, drewN_below _ _ _⟩

theorem index_any (l : List Int) (A : Option Addr) (c B : Nat) (v : Int) (w : World) (hl : l.length ≤ 9223372036854775807) (hr : LRow w B 1 A (ints l)) :
    Calls Tryz.prog 97 #[.slice A l.length c, .int .i64 v] w fun e w' => (∃ i : Int, e = .returned (.int .i64 i) ∧ -1 ≤ i ∧ i ≤ 9223372036854775807 ∧ decide (0 ≤ i) = l.any (fun x => v == x)) ∧ w = w' := by
  go_enter Tryz.func97, Tryz.ntmps97
  go_wp2
  go_loop [8] (fun i => ∃ j : Nat, j ≤ l.length ∧ i = .int .i64 j ∧ (l.take j).any (fun x => v == x) = false) (fun i => l.length - (intOf i).toNat)
  case atStart => exact ⟨0, Nat.zero_le _, rfl, by simp⟩
  case round =>
    obtain ⟨j, hj, rfl, hno⟩ := hrel
    have HN := Lib.hid hno; clear hno
    by_cases hlt : j < l.length
    · obtain ⟨b, o, rfl, hbb, hc⟩ := hr.int hlt
      have HX := Lib.hid (any_take l (fun x => v == x) j hlt)
      have HS := Lib.hid (any_of l (fun x => v == x) j hlt)
      clear hr
      generalize l[j] = x at *
      cases hq : (v == x)
      · have HQ := Lib.hid hq
        go_wp2
        go_round
        case rel => exact ⟨j + 1, by omega, by go_num, by rw [HX.out, HN.out, HQ.out]; rfl⟩
        case measure => simp [intOf]; omega
      · have HQ := Lib.hid hq
        go_wp2
        go_ret
        exact ⟨⟨j, rfl, by omega, by omega, by rw [HS.out HQ.out]; simp⟩, rfl⟩
    · obtain rfl : j = l.length := by omega
      rw [List.take_of_length_le (Nat.le_refl _)] at HN
      go_wp2
      go_ret
      exact ⟨⟨-1, rfl, by omega, by omega, by rw [HN.out]; rfl⟩, rfl⟩
theorem contains_any (l : List Int) (A : Option Addr) (c B : Nat) (v : Int) (w : World) (hl : l.length ≤ 9223372036854775807) (hr : LRow w B 1 A (ints l)) :
    Calls Tryz.prog 85 #[.slice A l.length c, .int .i64 v] w fun e w' => e = .returned (.bool (l.any (fun x => v == x))) ∧ w = w' := by
  have IX := Lib.hid (index_any l A c B v w hl hr)
  clear hr
  go_enter Tryz.func85, Tryz.ntmps85
  go_wp2_with fail
  refine IX.out.mono ?_
  rintro e w1 ⟨⟨i, rfl, h1, h2, h3⟩, rfl⟩
  have HX := Lib.hid h3
  clear h3
  go_wp2
  go_ret
  exact ⟨by rw [← HX.out]; rfl, rfl⟩

theorem number_ok {R : Nat} (s : List UInt8) (w : World) (hs : s.length ≤ 4194304) (h : numOk s = true) :
    Calls Tryz.prog 61 #[.pointer (some ⟨R, 0, none⟩), sv s] w fun e w' => e = .returned (.int .i64 (numV s)) ∧ Below w.heap.size w w' := by
  have PA := Lib.hid (parse_any ⟨s.toArray⟩ w (by unfold maxLen; simp [ByteArray.size]; omega))
  unfold numOk at h
  simp only [Bool.and_eq_true, decide_eq_true_eq] at h
  obtain ⟨h1, h2⟩ := h
  unfold parseOut at PA
  simp only at PA
  unfold numV
  have h3 : decide (0 ≤ (parseL s).1) = true := by simpa using h2
  rw [h1] at PA
  clear h1
  generalize (parseL s).1 = n at *
  go_enter Tryz.func61, Tryz.ntmps61
  go_wp2_with fail
  refine PA.out.mono ?_
  rintro e w1 ⟨rfl, hb⟩
  go_wp2_with (go_at_call 60; refine (need_ok _ _).mono ?_; rintro e w' ⟨rfl, rfl⟩)
  go_ret
  exact ⟨rfl, hb⟩
theorem number_fault {R : Nat} {A : Option Addr} {L : List (List UInt8)} {q wh a : Nat} (s : List UInt8) (w : World) (hS : Src R A L q wh a w) (hs : s.length ≤ 4194304) (h : numOk s = false) :
    Calls Tryz.prog 61 #[.pointer (some ⟨R, 0, none⟩), sv s] w fun e w' => e = .panicked (faultOf a eSyntax) ∧ Below w.heap.size w w' := by
  have PA := Lib.hid (parse_any ⟨s.toArray⟩ w (by unfold maxLen; simp [ByteArray.size]; omega))
  have NF := Lib.hid (fun w' (hb : Below w.heap.size w w') => need_fault w' (hS.below hb))
  clear hS
  unfold parseOut at PA
  simp only at PA
  unfold numOk at h
  by_cases h1 : (parseL s).2 = 0
  · have h2 : ¬ 0 ≤ (parseL s).1 := by
      intro h2
      simp [h1, h2] at h
    have h3 : decide (0 ≤ (parseL s).1) = false := by simpa using h2
    rw [h1] at PA
    clear h h1 h2
    generalize (parseL s).1 = n at *
    go_enter Tryz.func61, Tryz.ntmps61
    go_wp2_with fail
    refine PA.out.mono ?_
    rintro e w1 ⟨rfl, hb⟩
    go_wp2_with fail
    refine (NF.out _ hb).mono ?_
    rintro e w2 ⟨rfl, hb2⟩
    exact ⟨rfl, rfl, hb.trans (hb2.mono hb.size)⟩
  · have h2 : ((parseL s).2 == 0) = false := by simpa using h1
    clear h
    generalize (parseL s).1 = n at *
    generalize (parseL s).2 = m at *
    go_enter Tryz.func61, Tryz.ntmps61
    go_wp2_with fail
    refine PA.out.mono ?_
    rintro e w1 ⟨rfl, hb⟩
    go_wp2_with fail
    refine (NF.out _ hb).mono ?_
    rintro e w2 ⟨rfl, hb2⟩
    exact ⟨rfl, rfl, hb.trans (hb2.mono hb.size)⟩

theorem any_contains (cs : List Nat) (n : Nat) : (cs.map (fun x : Nat => (x : Int))).any (fun x => ((n : Nat) : Int) == x) = cs.contains n := by
  induction cs with
  | nil => rfl
  | cons c cs ih =>
    rw [List.map_cons, List.any_cons, ih, List.contains_cons]
    congr 1
    rw [Bool.eq_iff_iff]
    simp only [beq_iff_eq]
    omega
theorem words_len (l : List UInt8) : (wordsL l).length ≤ l.length + 1 ∧ (wordsL l).flatten.length + (wordsL l).length ≤ l.length + 1 := by
  have := pieces_size 32 (fun p _ => !p.isEmpty) l
  unfold wordsL
  exact ⟨by omega, this⟩
theorem getD_fit {L : List (List UInt8)} (h : ∀ l ∈ L, l.length ≤ 65536) (a : Nat) : (L.getD a []).length ≤ 65536 := by
  rw [List.getD_eq_getElem?_getD]
  cases hq : L[a]? with
  | none => simp
  | some y => exact h y (List.mem_of_getElem? hq)
theorem words_short {R : Nat} {A : Option Addr} {L : List (List UInt8)} {q wh a : Nat} (C : Value) (w : World) (h : Src R A L q wh a w) (ha : wh ≤ a) :
    Calls Tryz.prog 59 #[.pointer (some ⟨R, 0, none⟩), C] w fun e w' => e = .panicked (faultOf a eShort) ∧ Below w.heap.size w w' := by
  have LS := Lib.hid (line_short w h ha)
  clear h
  go_enter Tryz.func59, Tryz.ntmps59
  go_wp2_with fail
  refine LS.out.mono ?_
  rintro e w1 ⟨rfl, hb⟩
  exact ⟨rfl, rfl, hb⟩
set_option maxHeartbeats 1000000 in
theorem words_ok {R : Nat} {A : Option Addr} {L : List (List UInt8)} {q wh a : Nat} (cs : List Nat) (C : Option Addr) (qc B : Nat) (w : World) (h : Src R A L q wh a w) (ha : a < wh) (hc : LRow w B 1 C (ints (cs.map fun x : Nat => (x : Int)))) (hB : B ≤ w.heap.size) (hl : cs.length ≤ 100) (hw : wordsOk cs (L.getD a []) = true) :
    Calls Tryz.prog 59 #[.pointer (some ⟨R, 0, none⟩), .slice C cs.length qc] w fun e w' => ∃ A' q', e = .returned (.slice A' (wordsL (L.getD a [])).length q') ∧ ReadsAt A' (wordsL (L.getD a [])) w' ∧ Below w.heap.size w w' := by
  have LO := Lib.hid (line_ok w h ha)
  have H := Lib.hid h
  have HC := Lib.hid hc
  have hfit := getD_fit h.fit a
  obtain ⟨_, hwl⟩ := words_len (L.getD a [])
  unfold wordsOk at hw
  simp only [Bool.and_eq_true, beq_iff_eq] at hw
  obtain ⟨hw1, hw2⟩ := hw
  have HW1 : Hid _ := any_contains cs (wordsL (L.getD a [])).length
  have HW2 : Hid (cs.contains (wordsL (L.getD a [])).length = true) := hw1
  have HW3 : Hid (joinL (wordsL (L.getD a [])) = L.getD a []) := hw2
  clear h hc hw1 hw2
  have hlen : (cs.map fun x : Nat => (x : Int)).length = cs.length := by simp
  generalize L.getD a [] = y at *
  go_enter Tryz.func59, Tryz.ntmps59
  go_wp2_with fail
  refine LO.out.mono ?_
  rintro e w1 ⟨rfl, hb1⟩
  have WD := Lib.hid (words_at ⟨y.toArray⟩ w1 (by simp [ByteArray.size]; omega) (H.out.below hb1).mx)
  unfold sv
  go_wp2_with fail
  refine WD.out.mono ?_
  rintro e w2 ⟨A', q', rfl, hr, hb2⟩
  have hb12 : Below w.heap.size w w2 := hb1.trans (hb2.mono hb1.size)
  have HR := Lib.hid hr
  clear hr WD LO
  have CN := Lib.hid (contains_any (cs.map fun x : Nat => (x : Int)) C qc B ((wordsL y).length : Int) w2 (by rw [hlen]; omega) (HC.out.below (hb12.mono hB)))
  rw [HW1.out, HW2.out, hlen] at CN
  have JN := Lib.hid (join_any (.slice A' (wordsL y).length q') (wordsL y) w2 HR.out.texts (by omega))
  rw [HW3.out] at JN
  unfold sv at JN
  go_wp2_with fail
  refine CN.out.mono ?_
  rintro e w3 ⟨rfl, rfl⟩
  go_wp2_with fail
  refine (need_ok _ _).mono ?_
  rintro e w3 ⟨rfl, rfl⟩
  go_wp2_with fail
  refine JN.out.mono ?_
  rintro e w3 ⟨rfl, hb3⟩
  go_wp2_with fail
  refine (need_ok _ _).mono ?_
  rintro e w4 ⟨rfl, rfl⟩
  go_wp2
  go_ret
  exact ⟨A', q', rfl, HR.out.below hb3, hb12.trans (hb3.mono hb12.size)⟩
set_option maxHeartbeats 1000000 in
theorem words_fault {R : Nat} {A : Option Addr} {L : List (List UInt8)} {q wh a : Nat} (cs : List Nat) (C : Option Addr) (qc B : Nat) (w : World) (h : Src R A L q wh a w) (ha : a < wh) (hc : LRow w B 1 C (ints (cs.map fun x : Nat => (x : Int)))) (hB : B ≤ w.heap.size) (hl : cs.length ≤ 100) (hw : wordsOk cs (L.getD a []) = false) :
    Calls Tryz.prog 59 #[.pointer (some ⟨R, 0, none⟩), .slice C cs.length qc] w fun e w' => e = .panicked (faultOf a eSyntax) ∧ Below w.heap.size w w' := by
  have LO := Lib.hid (line_ok w h ha)
  have H := Lib.hid h
  have HC := Lib.hid hc
  have hfit := getD_fit h.fit a
  obtain ⟨_, hwl⟩ := words_len (L.getD a [])
  unfold wordsOk at hw
  have HW1 : Hid _ := any_contains cs (wordsL (L.getD a [])).length
  clear h hc
  have hlen : (cs.map fun x : Nat => (x : Int)).length = cs.length := by simp
  generalize L.getD a [] = y at *
  have NF := Lib.hid (fun w' (hb : Below w.heap.size w w') => need_fault w' (H.out.below hb))
  cases hw1 : cs.contains (wordsL y).length
  · have HW2 := Lib.hid hw1
    clear hw1 hw
    go_enter Tryz.func59, Tryz.ntmps59
    go_wp2_with fail
    refine LO.out.mono ?_
    rintro e w1 ⟨rfl, hb1⟩
    have WD := Lib.hid (words_at ⟨y.toArray⟩ w1 (by simp [ByteArray.size]; omega) (H.out.below hb1).mx)
    unfold sv
    go_wp2_with fail
    refine WD.out.mono ?_
    rintro e w2 ⟨A', q', rfl, hr, hb2⟩
    have hb12 : Below w.heap.size w w2 := hb1.trans (hb2.mono hb1.size)
    clear hr WD LO
    have CN := Lib.hid (contains_any (cs.map fun x : Nat => (x : Int)) C qc B ((wordsL y).length : Int) w2 (by rw [hlen]; omega) (HC.out.below (hb12.mono hB)))
    rw [HW1.out, HW2.out, hlen] at CN
    go_wp2_with fail
    refine CN.out.mono ?_
    rintro e w3 ⟨rfl, rfl⟩
    go_wp2_with fail
    refine (NF.out _ hb12).mono ?_
    rintro e w3 ⟨rfl, hb3⟩
    exact ⟨rfl, rfl, hb12.trans (hb3.mono hb12.size)⟩
  · have HW2 := Lib.hid hw1
    have hw3 : (joinL (wordsL y) == y) = false := by rw [hw1] at hw; simpa using hw
    have HW3 := Lib.hid hw3
    clear hw1 hw hw3
    go_enter Tryz.func59, Tryz.ntmps59
    go_wp2_with fail
    refine LO.out.mono ?_
    rintro e w1 ⟨rfl, hb1⟩
    have WD := Lib.hid (words_at ⟨y.toArray⟩ w1 (by simp [ByteArray.size]; omega) (H.out.below hb1).mx)
    unfold sv
    go_wp2_with fail
    refine WD.out.mono ?_
    rintro e w2 ⟨A', q', rfl, hr, hb2⟩
    have hb12 : Below w.heap.size w w2 := hb1.trans (hb2.mono hb1.size)
    have HR := Lib.hid hr
    clear hr WD LO
    have CN := Lib.hid (contains_any (cs.map fun x : Nat => (x : Int)) C qc B ((wordsL y).length : Int) w2 (by rw [hlen]; omega) (HC.out.below (hb12.mono hB)))
    rw [HW1.out, HW2.out, hlen] at CN
    have JN := Lib.hid (join_any (.slice A' (wordsL y).length q') (wordsL y) w2 HR.out.texts (by omega))
    unfold sv at JN
    generalize joinL (wordsL y) = z at *
    go_wp2_with fail
    refine CN.out.mono ?_
    rintro e w3 ⟨rfl, rfl⟩
    go_wp2_with fail
    refine (need_ok _ _).mono ?_
    rintro e w3 ⟨rfl, rfl⟩
    go_wp2_with fail
    refine JN.out.mono ?_
    rintro e w3 ⟨rfl, hb3⟩
    have hb13 : Below w.heap.size w w3 := hb12.trans (hb3.mono hb12.size)
    go_wp2_with fail
    rw [HW3.out]
    refine (NF.out _ hb13).mono ?_
    rintro e w4 ⟨rfl, hb4⟩
    exact ⟨rfl, rfl, hb13.trans (hb4.mono hb13.size)⟩
end Go.Proofs.YtckdlbfndmmjjaaGreatDoor.Aag
