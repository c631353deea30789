/- What the laws of layer 11 ask of the program's own functions; the page's example over them. Condition (add): of at most N clauses together. FormulaUnits, from what it asks of the program; condition: as there. FormulaBrute, from what it asks of the program; condition: as there. FormulaMore, from what it asks of the program; condition: as there. -/
import Derived.Test.YtefbknpoehmfaaaPt32
import Derived.Test.YtefbknpoehmfaaaPt07
namespace Go.Proofs.Ytefbknpoehmfaaa.For
open Go.ChangeShapes Go.WideShapes Go.ChangeAt Go.RowKit Go.Maps Circ Cw Cla Rep

/-- the least model, whether there is one, the error -/
def bruteM (vars : Int) (L : List (List Int)) : ByteArray × Bool × Int :=
  if formM vars L ≠ 0 then (⟨#[]⟩, false, 9) else if 14 < vars then (⟨#[]⟩, false, 5) else match modelsM vars L [] with
    | [] => (⟨#[]⟩, false, 0)
    | m :: _ => (m, true, 0)
/-- the program's own Check, True, Units, Add, Brute answer as the pages say -/
structure Prog11 (N : Nat) : Prop where
  check : ∀ (vars : Int) (L : List Clz) (A : Option Addr) (q : Nat) (w : World), I64 vars → ALies w w.heap.size A L →
    Calls Try.prog 11 #[forV vars A L.length q] w fun e w' => e = .returned (.int .i64 (formM vars (L.map Clz.l))) ∧ Below w.heap.size w w'
  true_ : ∀ (vars : Int) (L : List Clz) (A : Option Addr) (q : Nat) (m : ByteArray) (w : World), I64 vars → ALies w w.heap.size A L → m.size ≤ 9223372036854775807 →
    Calls Try.prog 13 #[forV vars A L.length q, .string m] w fun e w' => e = .returned (.bool (trueM vars (L.map Clz.l) m)) ∧ Below w.heap.size w w'
  units : ∀ (vars : Int) (L : List Clz) (A : Option Addr) (q : Nat) (l : List Int) (B : Option Addr) (r : Nat) (w : World), I64 vars → ALies w w.heap.size A L → Caps L → ILies w w.heap.size B l →
    Calls Try.prog 7 #[forV vars A L.length q, .slice B l.length r] w fun e w' => (∃ A' q', e = .returned (.tuple #[.slice A' (unitsM vars (L.map Clz.l) l).1.length q', .bool (unitsM vars (L.map Clz.l) l).2.1, .int .i64 (unitsM vars (L.map Clz.l) l).2.2]) ∧ ILies w' w'.heap.size A' (unitsM vars (L.map Clz.l) l).1) ∧ Below w.heap.size w w'
  add : ∀ (vars : Int) (L : List Clz) (A : Option Addr) (q : Nat) (M : List Clz) (B : Option Addr) (r : Nat) (w : World), I64 vars → ALies w w.heap.size A L → ALies w w.heap.size B M → L.length + M.length ≤ N →
    Calls Try.prog 15 #[forV vars A L.length q, .slice B M.length r] w fun e w' =>
      ((formM vars (L.map Clz.l ++ M.map Clz.l) = 0 → ∃ K A' q', e = .returned (.tuple #[forV vars A' K.length q', .int .i64 0]) ∧ ALies w' w'.heap.size A' K ∧ K.map Clz.l = L.map Clz.l ++ M.map Clz.l) ∧
        (formM vars (L.map Clz.l ++ M.map Clz.l) ≠ 0 → ∃ v' A' q', e = .returned (.tuple #[forV v' A' 0 q', .int .i64 9]))) ∧ Below w.heap.size w w'
/-- and its Brute -/
structure Brute11 : Prop where
  brute : ∀ (vars : Int) (L : List Clz) (A : Option Addr) (q : Nat) (w : World), I64 vars → ALies w w.heap.size A L →
    Calls Try.prog 18 #[forV vars A L.length q] w fun e w' => e = .returned (.tuple #[.string (bruteM vars (L.map Clz.l)).1, .bool (bruteM vars (L.map Clz.l)).2.1, .int .i64 (bruteM vars (L.map Clz.l)).2.2]) ∧ Below w.heap.size w w'
theorem num_any (x : Int) (w : World) : Calls Try.prog 10 #[.int .i64 x] w fun e w' => e = .returned (.int .i64 x) ∧ w = w' := by
  go_enter Try.func10, Try.ntmps10
  go_wp2
  go_ret
  exact ⟨rfl, rfl⟩
/-- a list of numbers that the call lays -/
theorem lit_row (w : World) (l : List Int) (cs : Array Value) (h : cs.toList = l.map (Value.int .i64)) : LRow (w.alloc (.cells cs 3)) (w.heap.size + 1) 1 (some ⟨w.heap.size, 0, none⟩) (ints l) := .inr ⟨w.heap.size, 0, rfl, Nat.lt_succ_self _, fun i ys hi j u hj => by
  unfold ints at hi
  rw [List.getElem?_map] at hi
  cases hl : l[i]? with
  | none => rw [hl] at hi; cases hi
  | some x =>
    rw [hl] at hi
    obtain rfl : [Value.int .i64 x] = ys := by simpa using hi
    match j, hj with
    | 0, hj =>
      obtain rfl : Value.int .i64 x = u := by simpa using hj
      rw [World.cell?_alloc_new, ← Array.getElem?_toList, h, List.getElem?_map]
      simp [hl]⟩
theorem alive_units : unitsM 2 [[1], [-1, 2]] [] = ([1, 2], true, 0) := by decide +kernel
set_option maxHeartbeats 16000000 in
set_option maxRecDepth 100000 in
theorem alive_any {N : Nat} (P : Prog11 N) (w : World) : Calls Try.prog 16 #[] w fun e w' => e = .returned (.bool true) ∧ Below w.heap.size w w' := by
  obtain ⟨W1, hW1⟩ : ∃ x, w.alloc (.cells #[.int .i64 1] 3) = x := ⟨_, rfl⟩
  have s1 : W1.heap.size = w.heap.size + 1 := by rw [← hW1]; simp
  have b1 : Below w.heap.size w W1 := by rw [← hW1]; exact (Below.refl _ _).alloc (Nat.le_refl _) _
  have r1 : LRow W1 (w.heap.size + 1) 1 (some ⟨w.heap.size, 0, none⟩) (ints [1]) := by rw [← hW1]; exact lit_row w [1] _ rfl
  obtain ⟨W2, hW2⟩ : ∃ x, W1.alloc (.cells #[.int .i64 (-1), .int .i64 2] 3) = x := ⟨_, rfl⟩
  have s2 : W2.heap.size = w.heap.size + 2 := by rw [← hW2]; simp [s1]
  have b2 : Below W1.heap.size W1 W2 := by rw [← hW2]; exact (Below.refl _ _).alloc (Nat.le_refl _) _
  have r2 : LRow W2 (w.heap.size + 2) 1 (some ⟨w.heap.size + 1, 0, none⟩) (ints [-1, 2]) := by have h := lit_row W1 [-1, 2] #[.int .i64 (-1), .int .i64 2] rfl; rw [hW2, s1] at h; exact h
  obtain ⟨W3, hW3⟩ : ∃ x, W2.alloc (.cells #[.slice (some ⟨w.heap.size, 0, none⟩) 1 1, .slice (some ⟨w.heap.size + 1, 0, none⟩) 2 2] 25) = x := ⟨_, rfl⟩
  have s3 : W3.heap.size = w.heap.size + 3 := by rw [← hW3]; simp [s2]
  have b3 : Below W2.heap.size W2 W3 := by rw [← hW3]; exact (Below.refl _ _).alloc (Nat.le_refl _) _
  have BX : Hid (Below w.heap.size w W3) := (b1.trans (b2.mono (by omega))).trans (b3.mono (by omega))
  have HA : Hid (ALies W3 W3.heap.size (some ⟨w.heap.size + 2, 0, none⟩) [⟨[1], some ⟨w.heap.size, 0, none⟩, 1⟩, ⟨[-1, 2], some ⟨w.heap.size + 1, 0, none⟩, 2⟩]) := by
    refine ⟨.inr ⟨w.heap.size + 2, 0, rfl, by omega, fun i ys hi j u hj => ?_⟩, fun z hz => ?_, by simp⟩
    · have hc : W3.heap[w.heap.size + 2]? = some (.cells #[.slice (some ⟨w.heap.size, 0, none⟩) 1 1, .slice (some ⟨w.heap.size + 1, 0, none⟩) 2 2] 25 (0, 0)) := by rw [← hW3, ← s2]; exact Array.getElem?_push_size
      match i, hi with
      | 0, hi =>
        obtain rfl : [Value.slice (some ⟨w.heap.size, 0, none⟩) 1 1] = ys := by simpa [Clz.cells] using hi
        match j, hj with
        | 0, hj =>
          obtain rfl : Value.slice (some ⟨w.heap.size, 0, none⟩) 1 1 = u := by simpa using hj
          rw [Lib.cell_of_heap hc]; rfl
      | 1, hi =>
        obtain rfl : [Value.slice (some ⟨w.heap.size + 1, 0, none⟩) 2 2] = ys := by simpa [Clz.cells] using hi
        match j, hj with
        | 0, hj =>
          obtain rfl : Value.slice (some ⟨w.heap.size + 1, 0, none⟩) 2 2 = u := by simpa using hj
          rw [Lib.cell_of_heap hc]; rfl
    · rcases List.mem_cons.1 hz with rfl | hz
      · exact ⟨((r1.below (b2.mono (by omega))).below (b3.mono (by omega))).more (by omega), by simp [I64], by simp⟩
      · rw [List.mem_singleton.1 hz]
        exact ⟨(r2.below (b3.mono (by omega))).more (by omega), by simp [I64], by simp⟩
  have UN := Lib.hid (P.units 2 _ _ 2 [] none 0 W3 (by unfold I64; decide) HA.out (fun z hz => by rcases List.mem_cons.1 hz with rfl | hz; exact Nat.le_refl _; rw [List.mem_singleton.1 hz]; exact Nat.le_refl _) (ILies.nil _ _ _))
  rw [show (List.map Clz.l [⟨[1], some ⟨w.heap.size, 0, none⟩, 1⟩, ⟨[-1, 2], some ⟨w.heap.size + 1, 0, none⟩, 2⟩]) = [[1], [-1, 2]] from rfl, alive_units] at UN
  unfold forV at UN
  simp only [List.length_cons, List.length_nil] at UN
  clear b1 b2 b3 r1 r2 HA
  go_enter Try.func16, Try.ntmps16
  go_wp2_with fail
  refine UN.out.mono ?_
  rintro e w5 ⟨⟨A5, q5, rfl, h5⟩, hb5⟩
  have H5 := Lib.hid h5
  have B5 : Hid (Below w.heap.size w w5) := BX.out.trans (hb5.mono BX.out.size)
  clear h5 hb5 UN hW1 hW2 hW3 s1 s2 s3
  obtain ⟨W6, hW6⟩ : ∃ x, w5.alloc (.cells #[.int .i64 1, .int .i64 2] 3) = x := ⟨_, rfl⟩
  have s6 : W6.heap.size = w5.heap.size + 1 := by rw [← hW6]; simp
  have b6 : Below w5.heap.size w5 W6 := by rw [← hW6]; exact (Below.refl _ _).alloc (Nat.le_refl _) _
  have r6 : LRow W6 (w5.heap.size + 1) 1 (some ⟨w5.heap.size, 0, none⟩) (ints [1, 2]) := by rw [← hW6]; exact lit_row w5 [1, 2] _ rfl
  have HI : Hid (ILies W6 W6.heap.size (some ⟨w5.heap.size, 0, none⟩) [1, 2]) := ⟨r6.more (by omega), by simp [I64], by simp⟩
  have B6 : Hid (Below w.heap.size w W6) := B5.out.trans (b6.mono B5.out.size)
  have KI := Lib.hid (ints_any [1, 2] [1, 2] A5 _ q5 2 W6 ((H5.out.below b6).more b6.size) HI.out)
  rw [decide_eq_true (show [(1 : Int), 2] = [1, 2] from rfl)] at KI
  simp only [List.length_cons, List.length_nil] at KI
  clear b6 r6 s6
  go_wp2_with (go_at_call 10; refine (num_any _ _).mono ?_; rintro e w' ⟨rfl, rfl⟩)
  refine KI.out.mono ?_
  rintro e w7 ⟨rfl, hb7⟩
  have BF : Hid (Below w.heap.size w w7) := B6.out.trans (hb7.mono B6.out.size)
  clear hb7 KI hW6
  go_wp2
  go_ret
  exact ⟨rfl, BF.out⟩
theorem units_err {vars : Int} {L : List (List Int)} {l : List Int} (h : (unitsM vars L l).2.2 ≠ 0) : (unitsM vars L l).1 = [] := by
  unfold unitsM at h ⊢
  split
  · rfl
  · rename_i h1
    rw [if_neg h1] at h
    split
    · rename_i h2
      rw [if_pos h2] at h
      cases hf : followM vars L l with
      | none => rfl
      | some s => rw [hf] at h; exact absurd rfl h
    · rfl
theorem units_no {vars : Int} {L : List (List Int)} {l : List Int} (h : (unitsM vars L l).2.1 = false) : (unitsM vars L l).1 = [] := by
  unfold unitsM at h ⊢
  split
  · rfl
  · rename_i h1
    rw [if_neg h1] at h
    split
    · rename_i h2
      rw [if_pos h2] at h
      cases hf : followM vars L l with
      | none => rfl
      | some s => rw [hf] at h; cases h
    · rfl
theorem units_form {vars : Int} {L : List (List Int)} {l : List Int} (h : (unitsM vars L l).2.2 = 0) : formM vars L = 0 := by
  unfold unitsM at h
  split at h
  · cases h
  · rename_i h1
    exact Decidable.not_not.1 h1
theorem lits_full {vars : Int} {L : List Clz} {w : World} {B : Nat} {A : Option Addr} (hA : ALies w B A L) (hf : formM vars (L.map Clz.l) = 0) : ∀ l ∈ L.map Clz.l, ∀ y ∈ l, I64 y ∧ y ≠ 0 := fun l hl y hy => by
  obtain ⟨z, hz, rfl⟩ := List.mem_map.1 hl
  refine ⟨(hA.each z hz).fits y hy, fun e => ?_⟩
  have := (lit_iff vars y).1 (chk_lit ((form_ok hf).2.2.2 _ hl) y hy)
  rw [e] at this
  exact absurd this.1 (by decide)
end Go.Proofs.Ytefbknpoehmfaaa.For
namespace Go.Proofs.Ytefbknpoehmfaaa.For
open Go.ChangeShapes Go.WideShapes Go.ChangeAt Go.RowKit Go.Maps Circ Cw Cla Rep

set_option maxHeartbeats 16000000 in
set_option maxRecDepth 100000 in
theorem lawU_walk {N : Nat} (P : Prog11 N) (vars : Int) (L : List Clz) (A : Option Addr) (q : Nat) (l : List Int) (B : Option Addr) (r : Nat) (w : World) (hvars : I64 vars) (hA : ALies w w.heap.size A L) (hcap : Caps L) (hl : ILies w w.heap.size B l) :
    Calls Try.prog 5 #[forV vars A L.length q, .slice B l.length r] w fun e w' => e = .returned (.bool true) ∧ Below w.heap.size w w' := by
  obtain ⟨WA, hWA⟩ : ∃ x, w.alloc (.cells #[.int .i64 vars, .slice A L.length q] 24) = x := ⟨_, rfl⟩
  have bA : Hid (Below w.heap.size w WA) := by unfold Hid; rw [← hWA]; exact (Below.refl _ _).alloc (Nat.le_refl _) _
  have GA : Hid (WA.heap[w.heap.size]? = some (.cells #[.int .i64 vars, .slice A L.length q] 24 (0, 0))) := by unfold Hid; rw [← hWA]; exact Array.getElem?_push_size
  have GW : Hid (∀ x, Below WA.heap.size WA x → x.heap[w.heap.size]? = some (.cells #[.int .i64 vars, .slice A L.length q] 24 (0, 0))) := fun x hx => (hx.block _ (lt_of_block GA.out)).trans GA.out
  have AW : Hid (∀ x, Below WA.heap.size WA x → ALies x x.heap.size A L) := fun x hx => by
    have h := bA.out.trans (hx.mono bA.out.size)
    exact (hA.below h).more h.size
  have LW : Hid (∀ x, Below WA.heap.size WA x → ILies x x.heap.size B l) := fun x hx => by
    have h := bA.out.trans (hx.mono bA.out.size)
    exact (hl.below h).more h.size
  have AL := Lib.hid (alive_any P WA)
  have HSD : Hid (formM vars (L.map Clz.l) = 0 → (unitsM vars (L.map Clz.l) l).2.2 = 0 → ∀ m, m ∈ modelsM vars (L.map Clz.l) l → (unitsM vars (L.map Clz.l) l).2.1 = true ∧ ∀ z ∈ (unitsM vars (L.map Clz.l) l).1, isM m z = true) := fun hf he m hm => units_sound (lits_full hA hf) hl.fits he hm
  have HV := Lib.hid hvars
  clear hA hl hvars
  unfold forV
  go_enter Try.func5, Try.ntmps5
  go_wp2_with fail
  refine AL.out.mono ?_
  rintro e w1 ⟨rfl, hb1⟩
  have B1 := Lib.hid hb1
  clear hb1 AL hWA
  obtain ⟨e0, e1⟩ := cells2 (GW.out _ B1.out)
  have UN := Lib.hid (P.units vars L A q l B r w1 HV.out (AW.out _ B1.out) hcap (LW.out _ B1.out))
  have HER := Lib.hid (units_err (vars := vars) (L := L.map Clz.l) (l := l))
  have HNO := Lib.hid (units_no (vars := vars) (L := L.map Clz.l) (l := l))
  have HFO := Lib.hid (units_form (vars := vars) (L := L.map Clz.l) (l := l))
  obtain ⟨ul, ub, ue, hU⟩ : ∃ a b c, unitsM vars (L.map Clz.l) l = (a, b, c) := ⟨_, _, _, rfl⟩
  rw [hU] at UN HER HNO HFO HSD
  clear hU
  unfold forV at UN
  go_wp2_with fail
  refine UN.out.mono ?_
  rintro e w2 ⟨⟨A2, q2, rfl, h2⟩, hb2⟩
  have H2 := Lib.hid h2
  have B2 : Hid (Below WA.heap.size WA w2) := B1.out.trans (hb2.mono B1.out.size)
  have BF : Hid (Below w.heap.size w w2) := bA.out.trans (B2.out.mono bA.out.size)
  clear h2 hb2 UN e0 e1
  simp only at H2 HER HNO HFO HSD ⊢
  obtain ⟨e0, e1⟩ := cells2 (GW.out _ B2.out)
  by_cases hz : ue = 0
  · have hzb : (ue != 0) = false := by rw [bne_eq_false_iff_eq]; exact hz
    have hzc : (ue == 0) = true := beq_iff_eq.2 hz
    have HZ := Lib.hid hz
    clear hz
    by_cases h8 : 8 < vars
    · have hd8 : decide (8 < vars) = true := decide_eq_true h8
      go_wp2_with (go_at_call 10; refine (num_any _ _).mono ?_; rintro e w' ⟨rfl, rfl⟩)
      go_ret
      exact ⟨rfl, BF.out⟩
    · have hd8 : decide (8 < vars) = false := decide_eq_false h8
      have HF0 := Lib.hid (HFO.out HZ.out)
      obtain ⟨v0, -, -, -⟩ := form_ok HF0.out
      have MO := Lib.hid (models_any vars L A q l B r w2 (AW.out _ B2.out) (LW.out _ B2.out) v0 (by omega))
      have HSZ := Lib.hid (fun m hm => HSD.out HF0.out HZ.out m hm)
      obtain ⟨ml, hml⟩ : ∃ y, modelsM vars (L.map Clz.l) l = y := ⟨_, rfl⟩
      rw [hml] at MO HSZ
      have HMZ : Hid (∀ m ∈ ml, m.size ≤ 9223372036854775807) := fun m hm => by
        rw [← hml] at hm
        have := (mem_models hm).1
        unfold trueM at this
        simp only [Bool.and_eq_true, decide_eq_true_eq] at this
        omega
      have HML : Hid (ml.length ≤ 16384) := by
        unfold Hid
        rw [← hml]
        unfold modelsM
        refine Nat.le_trans (List.length_filter_le _ _) ?_
        rw [← allS_bits]
        exact allS_few (by omega)
      clear hml
      unfold forV at MO
      go_wp2_with (first | (go_at_call 10; refine (num_any _ _).mono ?_; rintro e w' ⟨rfl, rfl⟩) | (fail))
      refine MO.out.mono ?_
      rintro e w3 ⟨⟨A3, q3, rfl, h3⟩, hb3⟩
      have H3 := Lib.hid h3
      have B3 : Hid (Below w.heap.size w w3) := BF.out.trans (hb3.mono BF.out.size)
      have HI := Lib.hid ((H2.out.below hb3).more hb3.size)
      clear h3 hb3 MO e0 e1
      cases ub with
      | false =>
        have HM0 : ml = [] := by
          cases ml with
          | nil => rfl
          | cons m r => exact absurd (HSZ.out m List.mem_cons_self).1 (by decide)
        have HU0 : ul = [] := HNO.out rfl
        subst HM0
        subst HU0
        go_wp2
        go_ret
        exact ⟨rfl, B3.out⟩
      | true =>
        have HIS : Hid (∀ m ∈ ml, ∀ z ∈ ul, isM m z = true) := fun m hm => (HSZ.out m hm).2
        have hul := HI.out.len
        clear HSZ HNO HER HSD
        have hmlen : ml.length ≤ 9223372036854775807 := by
          have := HML.out
          omega
        go_wp2
        go_loopw [9] (fun i wr => ∃ k : Nat, k ≤ ml.length ∧ i = .int .i64 k ∧ Below w3.heap.size w3 wr) (fun i _ => ml.length - (intOf i).toNat)
        case atStart => exact ⟨0, Nat.zero_le _, rfl, Below.refl _ _⟩
        case round =>
          obtain ⟨k, hk, rfl, hb4⟩ := hrel
          obtain ⟨wo, rfl⟩ : ∃ y, y = wr := ⟨_, rfl⟩
          have B4 := Lib.hid hb4
          clear hb4
          by_cases hlt : k < ml.length
          · go_wp2
            go_loopw [10] (fun i wr => ∃ j : Nat, j ≤ ul.length ∧ i = .int .i64 j ∧ Below w3.heap.size w3 wr) (fun i _ => ul.length - (intOf i).toNat)
            case atStart => exact ⟨0, Nat.zero_le _, rfl, B4.out⟩
            case round =>
              obtain ⟨j, hj, rfl, hb5⟩ := hrel
              have B5 := Lib.hid hb5
              clear hb5
              by_cases hlj : j < ul.length
              · obtain ⟨b, o, hAB, -, hc⟩ := txs_at (H3.out.below B5.out) hlt
                obtain ⟨b2, o2, hAB2, -, hc2⟩ := LRow.int (HI.out.row.below B5.out) hlj
                have KI := Lib.hid (fun (u : Wd wr.heap.size wr) => Calls.in_wd u ((is_any ml[k] ul[j] u.w (HMZ.out _ (List.getElem_mem hlt)) (HI.out.fits _ (List.getElem_mem hlj))).mono fun e w' ⟨h1, h2⟩ => ⟨h1, h2 ▸ Below.refl _ _⟩) (Nat.le_refl _))
                rw [HIS.out _ (List.getElem_mem hlt) _ (List.getElem_mem hlj)] at KI
                have k0 : (0 : Int) ≤ (k : Int) := by omega
                have k1 : (k : Int) < (ml.length : Int) := by omega
                have j0 : (0 : Int) ≤ (j : Int) := by omega
                have j1 : (j : Int) < (ul.length : Int) := by omega
                subst hAB
                subst hAB2
                have ut0 := Wd.cell hc
                have ut1 := Wd.cell hc2
                clear hc hc2
                generalize ml[k] = m at *
                generalize ul[j] = x at *
                go_wp2
                refine wp_region_wd (by kernel_rfl) (by kernel_rfl) ?_
                repeat (first | go_big_quiet_skip | (go_big_quiet_want; go_big_quiet_op; first | go_big_quiet_on | (apply Exists.intro; refine ⟨fun u => ?_, ?_⟩; (first | (go_at_call 20; with_reducible exact KI.out u)); go_big_quiet_on)))
                refine wpQuiet_nil ?_
                intro w6 hw'
                obtain ⟨⟨_, hb9⟩, hw''⟩ := hw'
                subst hw''
                have B6 : Hid (Below w3.heap.size w3 w6) := B5.out.trans (hb9.mono B5.out.size)
                clear hb9 KI ut0 ut1
                go_wp2
                go_roundw
                case rel => exact ⟨j + 1, by omega, by go_num, B6.out⟩
                case measure => simp [intOf]; omega
              · obtain rfl : j = ul.length := by omega
                go_wp2
                go_roundw
                case rel => exact ⟨k + 1, by omega, by go_num, B5.out⟩
                case measure => simp [intOf]; omega
          · obtain rfl : k = ml.length := by omega
            have BE : Hid (Below w.heap.size w wo) := B3.out.trans (B4.out.mono B3.out.size)
            go_wp2
            go_ret
            exact ⟨rfl, BE.out⟩
  · have hzb : (ue != 0) = true := bne_iff_ne.2 hz
    have hzc : (ue == 0) = false := beq_eq_false_iff_ne.2 hz
    have HU0 : ul = [] := HER.out hz
    subst HU0
    clear hz
    go_wp2_with (go_at_call 10; refine (num_any _ _).mono ?_; rintro e w' ⟨rfl, rfl⟩)
    go_ret
    exact ⟨rfl, BF.out⟩
end Go.Proofs.Ytefbknpoehmfaaa.For
namespace Go.Proofs.Ytefbknpoehmfaaa.For
open Go.ChangeShapes Go.WideShapes Go.ChangeAt Go.RowKit Go.Maps Circ Cw Cla Rep

end Go.Proofs.Ytefbknpoehmfaaa.For
namespace Go.Proofs.Ytefbknpoehmfaaa.For
open Go.ChangeShapes Go.WideShapes Go.ChangeAt Go.RowKit Go.Maps Circ Cw Cla Rep

set_option maxHeartbeats 16000000 in
set_option maxRecDepth 100000 in
theorem lawM_walk {N : Nat} (P : Prog11 N) (vars : Int) (L : List Clz) (A : Option Addr) (q : Nat) (M : List Clz) (B : Option Addr) (r : Nat) (md : ByteArray) (w : World) (hvars : I64 vars) (hA : ALies w w.heap.size A L) (hM : ALies w w.heap.size B M) (hmd : md.size ≤ 9223372036854775807) (hN : L.length + M.length ≤ N) :
    Calls Try.prog 6 #[forV vars A L.length q, .slice B M.length r, .string md] w fun e w' => e = .returned (.bool true) ∧ Below w.heap.size w w' := by
  obtain ⟨WA, hWA⟩ : ∃ x, w.alloc (.cells #[.int .i64 vars, .slice A L.length q] 24) = x := ⟨_, rfl⟩
  have bA : Hid (Below w.heap.size w WA) := by unfold Hid; rw [← hWA]; exact (Below.refl _ _).alloc (Nat.le_refl _) _
  have GA : Hid (WA.heap[w.heap.size]? = some (.cells #[.int .i64 vars, .slice A L.length q] 24 (0, 0))) := by unfold Hid; rw [← hWA]; exact Array.getElem?_push_size
  have GW : Hid (∀ x, Below WA.heap.size WA x → x.heap[w.heap.size]? = some (.cells #[.int .i64 vars, .slice A L.length q] 24 (0, 0))) := fun x hx => (hx.block _ (lt_of_block GA.out)).trans GA.out
  have AW : Hid (∀ x, Below WA.heap.size WA x → ALies x x.heap.size A L) := fun x hx => by
    have h := bA.out.trans (hx.mono bA.out.size)
    exact (hA.below h).more h.size
  have MW : Hid (∀ x, Below WA.heap.size WA x → ALies x x.heap.size B M) := fun x hx => by
    have h := bA.out.trans (hx.mono bA.out.size)
    exact (hM.below h).more h.size
  have AL := Lib.hid (alive_any P WA)
  have HV := Lib.hid hvars
  have HLM := Lib.hid hM.len
  have hml := hM.len
  clear hA hM hvars
  unfold forV
  go_enter Try.func6, Try.ntmps6
  go_wp2_with fail
  refine AL.out.mono ?_
  rintro e w1 ⟨rfl, hb1⟩
  have B1 := Lib.hid hb1
  clear hb1 AL hWA
  obtain ⟨e0, e1⟩ := cells2 (GW.out _ B1.out)
  have AD := Lib.hid (P.add vars L A q M B r w1 HV.out (AW.out _ B1.out) (MW.out _ B1.out) hN)
  by_cases hf : formM vars (L.map Clz.l ++ M.map Clz.l) = 0
  · have AD1 : Hid (Calls Try.prog 15 #[forV vars A L.length q, .slice B M.length r] w1 fun e w' => (∃ K A' q', e = .returned (.tuple #[forV vars A' K.length q', .int .i64 0]) ∧ ALies w' w'.heap.size A' K ∧ K.map Clz.l = L.map Clz.l ++ M.map Clz.l) ∧ Below w1.heap.size w1 w') := AD.out.mono fun e w' h => ⟨h.1.1 hf, h.2⟩
    unfold forV at AD1
    clear AD hf
    go_wp2_with fail
    refine AD1.out.mono ?_
    rintro e w2 ⟨⟨K, A2, q2, rfl, hK, hKM⟩, hb2⟩
    have HK := Lib.hid hK
    have HKM := Lib.hid hKM
    have B2 : Hid (Below WA.heap.size WA w2) := B1.out.trans (hb2.mono B1.out.size)
    clear hK hKM hb2 AD1 e0 e1
    obtain ⟨W3, hW3⟩ : ∃ y, w2.alloc (.cells #[.int .i64 vars, .slice A2 K.length q2] 24) = y := ⟨_, rfl⟩
    have b3 : Below w2.heap.size w2 W3 := by rw [← hW3]; exact (Below.refl _ _).alloc (Nat.le_refl _) _
    have G3 : Hid (W3.heap[w2.heap.size]? = some (.cells #[.int .i64 vars, .slice A2 K.length q2] 24 (0, 0))) := by unfold Hid; rw [← hW3]; exact Array.getElem?_push_size
    have B3 : Hid (Below WA.heap.size WA W3) := B2.out.trans (b3.mono B2.out.size)
    have HK3 : Hid (∀ x, Below W3.heap.size W3 x → ALies x x.heap.size A2 K) := fun x hx => by
      have h := b3.trans (hx.mono b3.size)
      exact (HK.out.below h).more h.size
    clear b3
    obtain ⟨e0, e1⟩ := cells2 (GW.out _ B3.out)
    have TR := Lib.hid (P.true_ vars L A q md W3 HV.out (AW.out _ B3.out) hmd)
    unfold forV at TR
    go_wp2_with (first | (go_at_call 10; refine (num_any _ _).mono ?_; rintro e w' ⟨rfl, rfl⟩) | (fail))
    refine TR.out.mono ?_
    rintro e w4 ⟨rfl, hb4⟩
    have B4 : Hid (Below WA.heap.size WA w4) := B3.out.trans (hb4.mono B3.out.size)
    have G4 : Hid (∀ x, Below W3.heap.size W3 x → x.heap[w2.heap.size]? = some (.cells #[.int .i64 vars, .slice A2 K.length q2] 24 (0, 0))) := fun x hx => (hx.block _ (lt_of_block G3.out)).trans G3.out
    have B34 : Hid (Below W3.heap.size W3 w4) := hb4
    clear hb4 TR e0 e1 hW3
    obtain ⟨tl, htl⟩ : ∃ y, trueM vars (L.map Clz.l) md = y := ⟨_, rfl⟩
    have HTL := Lib.hid htl
    rw [htl]
    clear htl
    go_wp2
    go_loopw [10, 9] (fun i v wr => ∃ k : Nat, k ≤ M.length ∧ i = .int .i64 k ∧ v = .bool (tl && (M.take k).all (fun z => oneM md z.l)) ∧ Below W3.heap.size W3 wr) (fun i _ _ => M.length - (intOf i).toNat)
    case atStart => exact ⟨0, Nat.zero_le _, rfl, by simp, B34.out⟩
    case round =>
      obtain ⟨k, hk, rfl, rfl, hb5⟩ := hrel
      have B5 := Lib.hid hb5
      have BW5 : Hid (Below WA.heap.size WA wr) := B3.out.trans (hb5.mono B3.out.size)
      clear hb5
      by_cases hlt : k < M.length
      · obtain ⟨b, o, hAB, -, hc⟩ := (MW.out _ BW5.out).at hlt
        have HZ := Lib.hid (clz_lies ((MW.out _ BW5.out).each _ (List.getElem_mem hlt)))
        have HT := Lib.hid (all_take M (fun z => oneM md z.l) k hlt)
        have ON := Lib.hid (one_any md M[k].l M[k].A M[k].q wr hmd HZ.out)
        have k0 : (0 : Int) ≤ (k : Int) := by omega
        have k1 : (k : Int) < (M.length : Int) := by omega
        subst hAB
        generalize M[k] = z at *
        generalize oneM md z.l = oz at *
        generalize (M.take k).all (fun z => oneM md z.l) = al at *
        have HNB : Hid ((tl && (M.take (k + 1)).all (fun z => oneM md z.l)) = ((tl && al) && oz)) := by unfold Hid; rw [HT.out, Bool.and_assoc]
        clear HT
        generalize (tl && al) = ta at *
        cases ta with
        | true =>
          go_wp2_with fail
          refine ON.out.mono ?_
          rintro e w' ⟨rfl, rfl⟩
          go_wp2
          go_roundw
          case rel => exact ⟨k + 1, by omega, by go_num, by rw [HNB.out, Bool.true_and], B5.out⟩
          case measure => simp [intOf]; omega
        | false =>
          go_wp2
          go_roundw
          case rel => exact ⟨k + 1, by omega, by go_num, by rw [HNB.out, Bool.false_and], B5.out⟩
          case measure => simp [intOf]; omega
      · obtain rfl : k = M.length := by omega
        rw [List.take_length]
        have HTM : Hid (trueM vars (K.map Clz.l) md = (tl && M.all (fun z => oneM md z.l))) := by
          unfold Hid
          rw [HKM.out, true_more, HTL.out, List.all_map]; rfl
        have TR := Lib.hid (P.true_ vars K A2 q2 md wr HV.out (HK3.out _ B5.out) hmd)
        rw [HTM.out] at TR
        unfold forV at TR
        obtain ⟨f0, f1⟩ := cells2 (G4.out _ B5.out)
        generalize (tl && M.all (fun z => oneM md z.l)) = tt at *
        go_wp2_with fail
        refine TR.out.mono ?_
        rintro e w6 ⟨rfl, hb6⟩
        have BF : Hid (Below w.heap.size w w6) := bA.out.trans ((BW5.out.trans (hb6.mono BW5.out.size)).mono bA.out.size)
        clear hb6 TR f0 f1
        go_wp2
        go_ret
        exact ⟨by simp, BF.out⟩
  · have AD1 : Hid (Calls Try.prog 15 #[forV vars A L.length q, .slice B M.length r] w1 fun e w' => (∃ v' A' q', e = .returned (.tuple #[forV v' A' 0 q', .int .i64 9])) ∧ Below w1.heap.size w1 w') := AD.out.mono fun e w' h => ⟨h.1.2 hf, h.2⟩
    unfold forV at AD1
    clear AD hf
    go_wp2_with fail
    refine AD1.out.mono ?_
    rintro e w2 ⟨⟨v2, A2, q2, rfl⟩, hb2⟩
    have B2 : Hid (Below WA.heap.size WA w2) := B1.out.trans (hb2.mono B1.out.size)
    clear hb2 AD1 e0 e1
    obtain ⟨W3, hW3⟩ : ∃ y, w2.alloc (.cells #[.int .i64 v2, .slice A2 0 q2] 24) = y := ⟨_, rfl⟩
    have b3 : Below w2.heap.size w2 W3 := by rw [← hW3]; exact (Below.refl _ _).alloc (Nat.le_refl _) _
    have G3 : Hid (W3.heap[w2.heap.size]? = some (.cells #[.int .i64 v2, .slice A2 0 q2] 24 (0, 0))) := by unfold Hid; rw [← hW3]; exact Array.getElem?_push_size
    have BF : Hid (Below w.heap.size w W3) := bA.out.trans ((B2.out.trans (b3.mono B2.out.size)).mono bA.out.size)
    obtain ⟨f0, f1⟩ := cells2 G3.out
    clear b3
    go_wp2_with (go_at_call 10; refine (num_any _ _).mono ?_; rintro e w' ⟨rfl, rfl⟩)
    go_ret
    exact ⟨rfl, BF.out⟩
end Go.Proofs.Ytefbknpoehmfaaa.For
