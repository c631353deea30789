/- What the laws of layer 11 ask of the program's own functions; the page's example over them. Condition (add): of at most N clauses together. FormulaUnits, from what it asks of the program; condition: as there. FormulaBrute, from what it asks of the program; condition: as there. FormulaMore, from what it asks of the program; condition: as there. FormulaTells, from what it asks of the program; condition: as there; of at most 1048576 clauses together. Arguments that are formulas, opened; the cores of the four laws of layer 11. Condition of the ..U forms: bulk at most 1048576. -/
import Derived.Test.YtefbknpoehmfaaaPb30
import Derived.Test.YtefbknpoehmfaaaPb07
import Derived.Test.YtefbknpoehmfaaaPb06
import Derived.Test.YtefbknpoehmfaaaPb08
namespace Go.Proofs.Ytefbknpoehmfaaa.For
open Go.ChangeShapes Go.WideShapes Go.ChangeAt Go.RowKit Go.Maps Circ Cw Cla Rep

/-- the least model, whether there is one, the error -/
def bruteM (vars : Int) (L : List (List Int)) : ByteArray × Bool × Int :=
  if formM vars L ≠ 0 then (⟨#[]⟩, false, 9) else if 14 < vars then (⟨#[]⟩, false, 5) else match modelsM vars L [] with
    | [] => (⟨#[]⟩, false, 0)
    | m :: _ => (m, true, 0)
/-- the program's own Check, True, Units, Add, Brute answer as the pages say -/
structure Prog11 (N : Nat) : Prop where
  check : ∀ (vars : Int) (L : List Clz) (A : Option Addr) (q : Nat) (w : World), I64 vars → ALies w w.heap.size A L →
    Calls Try.prog 11 #[forV vars A L.length q] w fun e w' => e = .returned (.int .i64 (formM vars (L.map Clz.l))) ∧ Below w.heap.size w w'
  true_ : ∀ (vars : Int) (L : List Clz) (A : Option Addr) (q : Nat) (m : ByteArray) (w : World), I64 vars → ALies w w.heap.size A L → m.size ≤ 9223372036854775807 →
    Calls Try.prog 13 #[forV vars A L.length q, .string m] w fun e w' => e = .returned (.bool (trueM vars (L.map Clz.l) m)) ∧ Below w.heap.size w w'
  units : ∀ (vars : Int) (L : List Clz) (A : Option Addr) (q : Nat) (l : List Int) (B : Option Addr) (r : Nat) (w : World), I64 vars → ALies w w.heap.size A L → Caps L → ILies w w.heap.size B l →
    Calls Try.prog 7 #[forV vars A L.length q, .slice B l.length r] w fun e w' => (∃ A' q', e = .returned (.tuple #[.slice A' (unitsM vars (L.map Clz.l) l).1.length q', .bool (unitsM vars (L.map Clz.l) l).2.1, .int .i64 (unitsM vars (L.map Clz.l) l).2.2]) ∧ ILies w' w'.heap.size A' (unitsM vars (L.map Clz.l) l).1) ∧ Below w.heap.size w w'
  add : ∀ (vars : Int) (L : List Clz) (A : Option Addr) (q : Nat) (M : List Clz) (B : Option Addr) (r : Nat) (w : World), I64 vars → ALies w w.heap.size A L → ALies w w.heap.size B M → L.length + M.length ≤ N →
    Calls Try.prog 15 #[forV vars A L.length q, .slice B M.length r] w fun e w' =>
      ((formM vars (L.map Clz.l ++ M.map Clz.l) = 0 → ∃ K A' q', e = .returned (.tuple #[forV vars A' K.length q', .int .i64 0]) ∧ ALies w' w'.heap.size A' K ∧ K.map Clz.l = L.map Clz.l ++ M.map Clz.l) ∧
        (formM vars (L.map Clz.l ++ M.map Clz.l) ≠ 0 → ∃ v' A' q', e = .returned (.tuple #[forV v' A' 0 q', .int .i64 9]))) ∧ Below w.heap.size w w'
/-- and its Brute -/
structure Brute11 : Prop where
  brute : ∀ (vars : Int) (L : List Clz) (A : Option Addr) (q : Nat) (w : World), I64 vars → ALies w w.heap.size A L →
    Calls Try.prog 18 #[forV vars A L.length q] w fun e w' => e = .returned (.tuple #[.string (bruteM vars (L.map Clz.l)).1, .bool (bruteM vars (L.map Clz.l)).2.1, .int .i64 (bruteM vars (L.map Clz.l)).2.2]) ∧ Below w.heap.size w w'
theorem num_any (x : Int) (w : World) : Calls Try.prog 10 #[.int .i64 x] w fun e w' => e = .returned (.int .i64 x) ∧ w = w' := by
  go_enter Try.func10, Try.ntmps10
  go_wp2
  go_ret
  exact ⟨rfl, rfl⟩
/-- a list of numbers that the call lays -/
theorem lit_row (w : World) (l : List Int) (cs : Array Value) (h : cs.toList = l.map (Value.int .i64)) : LRow (w.alloc (.cells cs 3)) (w.heap.size + 1) 1 (some ⟨w.heap.size, 0, none⟩) (ints l) := .inr ⟨w.heap.size, 0, rfl, Nat.lt_succ_self _, fun i ys hi j u hj => by
  unfold ints at hi
  rw [List.getElem?_map] at hi
  cases hl : l[i]? with
  | none => rw [hl] at hi; cases hi
  | some x =>
    rw [hl] at hi
    obtain rfl : [Value.int .i64 x] = ys := by simpa using hi
    match j, hj with
    | 0, hj =>
      obtain rfl : Value.int .i64 x = u := by simpa using hj
      rw [World.cell?_alloc_new, ← Array.getElem?_toList, h, List.getElem?_map]
      simp [hl]⟩
theorem alive_units : unitsM 2 [[1], [-1, 2]] [] = ([1, 2], true, 0) := by decide +kernel
set_option maxHeartbeats 16000000 in
set_option maxRecDepth 100000 in
theorem alive_any {N : Nat} (P : Prog11 N) (w : World) : Calls Try.prog 16 #[] w fun e w' => e = .returned (.bool true) ∧ Below w.heap.size w w' := by
  obtain ⟨W1, hW1⟩ : ∃ x, w.alloc (.cells #[.int .i64 1] 3) = x := ⟨_, rfl⟩
  have s1 : W1.heap.size = w.heap.size + 1 := by rw [← hW1]; simp
  have b1 : Below w.heap.size w W1 := by rw [← hW1]; exact (Below.refl _ _).alloc (Nat.le_refl _) _
  have r1 : LRow W1 (w.heap.size + 1) 1 (some ⟨w.heap.size, 0, none⟩) (ints [1]) := by rw [← hW1]; exact lit_row w [1] _ rfl
  obtain ⟨W2, hW2⟩ : ∃ x, W1.alloc (.cells #[.int .i64 (-1), .int .i64 2] 3) = x := ⟨_, rfl⟩
  have s2 : W2.heap.size = w.heap.size + 2 := by rw [← hW2]; simp [s1]
  have b2 : Below W1.heap.size W1 W2 := by rw [← hW2]; exact (Below.refl _ _).alloc (Nat.le_refl _) _
  have r2 : LRow W2 (w.heap.size + 2) 1 (some ⟨w.heap.size + 1, 0, none⟩) (ints [-1, 2]) := by have h := lit_row W1 [-1, 2] #[.int .i64 (-1), .int .i64 2] rfl; rw [hW2, s1] at h; exact h
  obtain ⟨W3, hW3⟩ : ∃ x, W2.alloc (.cells #[.slice (some ⟨w.heap.size, 0, none⟩) 1 1, .slice (some ⟨w.heap.size + 1, 0, none⟩) 2 2] 25) = x := ⟨_, rfl⟩
  have s3 : W3.heap.size = w.heap.size + 3 := by rw [← hW3]; simp [s2]
  have b3 : Below W2.heap.size W2 W3 := by rw [← hW3]; exact (Below.refl _ _).alloc (Nat.le_refl _) _
  have BX : Hid (Below w.heap.size w W3) := (b1.trans (b2.mono (by omega))).trans (b3.mono (by omega))
  have HA : Hid (ALies W3 W3.heap.size (some ⟨w.heap.size + 2, 0, none⟩) [⟨[1], some ⟨w.heap.size, 0, none⟩, 1⟩, ⟨[-1, 2], some ⟨w.heap.size + 1, 0, none⟩, 2⟩]) := by
    refine ⟨.inr ⟨w.heap.size + 2, 0, rfl, by omega, fun i ys hi j u hj => ?_⟩, fun z hz => ?_, by simp⟩
    · have hc : W3.heap[w.heap.size + 2]? = some (.cells #[.slice (some ⟨w.heap.size, 0, none⟩) 1 1, .slice (some ⟨w.heap.size + 1, 0, none⟩) 2 2] 25 (0, 0)) := by rw [← hW3, ← s2]; exact Array.getElem?_push_size
      match i, hi with
      | 0, hi =>
        obtain rfl : [Value.slice (some ⟨w.heap.size, 0, none⟩) 1 1] = ys := by simpa [Clz.cells] using hi
        match j, hj with
        | 0, hj =>
          obtain rfl : Value.slice (some ⟨w.heap.size, 0, none⟩) 1 1 = u := by simpa using hj
          rw [Lib.cell_of_heap hc]; rfl
      | 1, hi =>
        obtain rfl : [Value.slice (some ⟨w.heap.size + 1, 0, none⟩) 2 2] = ys := by simpa [Clz.cells] using hi
        match j, hj with
        | 0, hj =>
          obtain rfl : Value.slice (some ⟨w.heap.size + 1, 0, none⟩) 2 2 = u := by simpa using hj
          rw [Lib.cell_of_heap hc]; rfl
    · rcases List.mem_cons.1 hz with rfl | hz
      · exact ⟨((r1.below (b2.mono (by omega))).below (b3.mono (by omega))).more (by omega), by simp [I64], by simp⟩
      · rw [List.mem_singleton.1 hz]
        exact ⟨(r2.below (b3.mono (by omega))).more (by omega), by simp [I64], by simp⟩
  have UN := Lib.hid (P.units 2 _ _ 2 [] none 0 W3 (by unfold I64; decide) HA.out (fun z hz => by rcases List.mem_cons.1 hz with rfl | hz; exact Nat.le_refl _; rw [List.mem_singleton.1 hz]; exact Nat.le_refl _) (ILies.nil _ _ _))
  rw [show (List.map Clz.l [⟨[1], some ⟨w.heap.size, 0, none⟩, 1⟩, ⟨[-1, 2], some ⟨w.heap.size + 1, 0, none⟩, 2⟩]) = [[1], [-1, 2]] from rfl, alive_units] at UN
  unfold forV at UN
  simp only [List.length_cons, List.length_nil] at UN
  clear b1 b2 b3 r1 r2 HA
  go_enter Try.func16, Try.ntmps16
  go_wp2_with fail
  refine UN.out.mono ?_
  rintro e w5 ⟨⟨A5, q5, rfl, h5⟩, hb5⟩
  have H5 := Lib.hid h5
  have B5 : Hid (Below w.heap.size w w5) := BX.out.trans (hb5.mono BX.out.size)
  clear h5 hb5 UN hW1 hW2 hW3 s1 s2 s3
  obtain ⟨W6, hW6⟩ : ∃ x, w5.alloc (.cells #[.int .i64 1, .int .i64 2] 3) = x := ⟨_, rfl⟩
  have s6 : W6.heap.size = w5.heap.size + 1 := by rw [← hW6]; simp
  have b6 : Below w5.heap.size w5 W6 := by rw [← hW6]; exact (Below.refl _ _).alloc (Nat.le_refl _) _
  have r6 : LRow W6 (w5.heap.size + 1) 1 (some ⟨w5.heap.size, 0, none⟩) (ints [1, 2]) := by rw [← hW6]; exact lit_row w5 [1, 2] _ rfl
  have HI : Hid (ILies W6 W6.heap.size (some ⟨w5.heap.size, 0, none⟩) [1, 2]) := ⟨r6.more (by omega), by simp [I64], by simp⟩
  have B6 : Hid (Below w.heap.size w W6) := B5.out.trans (b6.mono B5.out.size)
  have KI := Lib.hid (ints_any [1, 2] [1, 2] A5 _ q5 2 W6 ((H5.out.below b6).more b6.size) HI.out)
  rw [decide_eq_true (show [(1 : Int), 2] = [1, 2] from rfl)] at KI
  simp only [List.length_cons, List.length_nil] at KI
  clear b6 r6 s6
  go_wp2_with (go_at_call 10; refine (num_any _ _).mono ?_; rintro e w' ⟨rfl, rfl⟩)
  refine KI.out.mono ?_
  rintro e w7 ⟨rfl, hb7⟩
  have BF : Hid (Below w.heap.size w w7) := B6.out.trans (hb7.mono B6.out.size)
  clear hb7 KI hW6
  go_wp2
  go_ret
  exact ⟨rfl, BF.out⟩
end Go.Proofs.Ytefbknpoehmfaaa.For
namespace Go.Proofs.Ytefbknpoehmfaaa.For
open Go.ChangeShapes Go.WideShapes Go.ChangeAt Go.RowKit Go.Maps Circ Cw Cla Rep

end Go.Proofs.Ytefbknpoehmfaaa.For
namespace Go.Proofs.Ytefbknpoehmfaaa.For
open Go.ChangeShapes Go.WideShapes Go.ChangeAt Go.RowKit Go.Maps Circ Cw Cla Rep

theorem brute_err {vars : Int} {L : List (List Int)} (h : formM vars L ≠ 0) : bruteM vars L = (⟨#[]⟩, false, 9) := by unfold bruteM; rw [if_pos h]
theorem brute_long {vars : Int} {L : List (List Int)} (h : formM vars L = 0) (h2 : 14 < vars) : bruteM vars L = (⟨#[]⟩, false, 5) := by unfold bruteM; rw [if_neg (by rw [h]; decide), if_pos h2]
theorem brute_is {vars : Int} {L : List (List Int)} (h : formM vars L = 0) (h2 : ¬ 14 < vars) : bruteM vars L = match modelsM vars L [] with | [] => (⟨#[]⟩, false, 0) | m :: _ => (m, true, 0) := by
  unfold bruteM
  first
    | (rw [if_neg (by rw [h]; decide), if_neg h2]; done)
    | (rw [if_neg (by rw [h]; decide), if_neg h2]; cases modelsM vars L [] <;> rfl)
set_option maxHeartbeats 16000000 in
set_option maxRecDepth 100000 in
theorem lawB_walk {N : Nat} (P : Prog11 N) (Q : Brute11) (vars : Int) (L : List Clz) (A : Option Addr) (q : Nat) (w : World) (hvars : I64 vars) (hA : ALies w w.heap.size A L) :
    Calls Try.prog 4 #[forV vars A L.length q] w fun e w' => e = .returned (.bool true) ∧ Below w.heap.size w w' := by
  obtain ⟨WA, hWA⟩ : ∃ x, w.alloc (.cells #[.int .i64 vars, .slice A L.length q] 24) = x := ⟨_, rfl⟩
  have bA : Hid (Below w.heap.size w WA) := by unfold Hid; rw [← hWA]; exact (Below.refl _ _).alloc (Nat.le_refl _) _
  have GA : Hid (WA.heap[w.heap.size]? = some (.cells #[.int .i64 vars, .slice A L.length q] 24 (0, 0))) := by unfold Hid; rw [← hWA]; exact Array.getElem?_push_size
  have GW : Hid (∀ x, Below WA.heap.size WA x → x.heap[w.heap.size]? = some (.cells #[.int .i64 vars, .slice A L.length q] 24 (0, 0))) := fun x hx => (hx.block _ (lt_of_block GA.out)).trans GA.out
  have AW : Hid (∀ x, Below WA.heap.size WA x → ALies x x.heap.size A L) := fun x hx => by
    have h := bA.out.trans (hx.mono bA.out.size)
    exact (hA.below h).more h.size
  have AL := Lib.hid (alive_any P WA)
  have HV := Lib.hid hvars
  clear hA hvars
  unfold forV
  go_enter Try.func4, Try.ntmps4
  go_wp2_with fail
  refine AL.out.mono ?_
  rintro e w1 ⟨rfl, hb1⟩
  have B1 := Lib.hid hb1
  clear hb1 AL hWA
  obtain ⟨e0, e1⟩ := cells2 (GW.out _ B1.out)
  have BR := Lib.hid (Q.brute vars L A q w1 HV.out (AW.out _ B1.out))
  unfold forV at BR
  by_cases hf : formM vars (L.map Clz.l) = 0
  · have HF := Lib.hid hf
    obtain ⟨v0, -, -, -⟩ := form_ok hf
    have FO : Hid (∀ x, Below WA.heap.size WA x → Calls Try.prog 12 #[forV vars A L.length q] x fun e w' => e = .returned (.int .i64 0) ∧ Below x.heap.size x w') := fun x hx => by
      have := form_any vars L A q x (AW.out x hx)
      rw [hf] at this; exact this
    unfold forV at FO
    clear hf
    by_cases h14 : 14 < vars
    · rw [brute_long HF.out h14] at BR
      have hd : decide (14 < vars) = true := decide_eq_true h14
      go_wp2_with fail
      refine BR.out.mono ?_
      rintro e w2 ⟨rfl, hb2⟩
      have B2 : Hid (Below WA.heap.size WA w2) := B1.out.trans (hb2.mono B1.out.size)
      clear hb2 BR e0 e1
      obtain ⟨e0, e1⟩ := cells2 (GW.out _ B2.out)
      go_wp2_with fail
      refine (FO.out w2 B2.out).mono ?_
      rintro e w3 ⟨rfl, hb3⟩
      have B3 : Hid (Below WA.heap.size WA w3) := B2.out.trans (hb3.mono B2.out.size)
      have BF : Hid (Below w.heap.size w w3) := bA.out.trans (B3.out.mono bA.out.size)
      clear hb3 FO e0 e1
      obtain ⟨e0, e1⟩ := cells2 (GW.out _ B3.out)
      go_wp2_with (go_at_call 10; refine (num_any _ _).mono ?_; rintro e w' ⟨rfl, rfl⟩)
      go_ret
      exact ⟨rfl, BF.out⟩
    · rw [brute_is HF.out h14] at BR
      have hd : decide (14 < vars) = false := decide_eq_false h14
      have MO : Hid (∀ x, Below WA.heap.size WA x → Calls Try.prog 19 #[forV vars A L.length q, .slice none 0 0] x fun e w' => (∃ A' q', e = .returned (.slice A' (modelsM vars (L.map Clz.l) []).length q') ∧ LRow w' w'.heap.size 1 A' (txs (modelsM vars (L.map Clz.l) []))) ∧ Below x.heap.size x w') := fun x hx => models_any vars L A q [] none 0 x (AW.out x hx) (ILies.nil _ _ _) v0 (by omega)
      have HMM : Hid (∀ m ∈ modelsM vars (L.map Clz.l) [], trueM vars (L.map Clz.l) m = true) := fun m hm => (mem_models hm).1
      obtain ⟨ml, hml⟩ : ∃ y, modelsM vars (L.map Clz.l) [] = y := ⟨_, rfl⟩
      rw [hml] at BR MO HMM
      unfold forV at MO
      clear hml
      cases ml with
      | nil =>
        simp only at BR
        go_wp2_with fail
        refine BR.out.mono ?_
        rintro e w2 ⟨rfl, hb2⟩
        have B2 : Hid (Below WA.heap.size WA w2) := B1.out.trans (hb2.mono B1.out.size)
        clear hb2 BR e0 e1
        obtain ⟨e0, e1⟩ := cells2 (GW.out _ B2.out)
        go_wp2_with fail
        refine (FO.out w2 B2.out).mono ?_
        rintro e w3 ⟨rfl, hb3⟩
        have B3 : Hid (Below WA.heap.size WA w3) := B2.out.trans (hb3.mono B2.out.size)
        have BF : Hid (Below w.heap.size w w3) := bA.out.trans (B3.out.mono bA.out.size)
        clear hb3 FO e0 e1
        obtain ⟨e0, e1⟩ := cells2 (GW.out _ B3.out)
        by_cases h10 : 10 < vars
        · have hd2 : decide (10 < vars) = true := decide_eq_true h10
          go_wp2_with (go_at_call 10; refine (num_any _ _).mono ?_; rintro e w' ⟨rfl, rfl⟩)
          go_ret
          exact ⟨rfl, BF.out⟩
        · have hd2 : decide (10 < vars) = false := decide_eq_false h10
          go_wp2_with fail
          refine (MO.out w3 B3.out).mono ?_
          rintro e w4 ⟨⟨A4, q4, rfl, h4⟩, hb4⟩
          have B4 : Hid (Below w.heap.size w w4) := BF.out.trans (hb4.mono BF.out.size)
          clear h4 hb4 MO e0 e1
          go_wp2_with (go_at_call 10; refine (num_any _ _).mono ?_; rintro e w' ⟨rfl, rfl⟩)
          go_ret
          exact ⟨rfl, B4.out⟩
      | cons m rest =>
        simp only at BR
        have HTM := Lib.hid (HMM.out m List.mem_cons_self)
        have hmz : m.size ≤ 9223372036854775807 := by
          have := HTM.out
          unfold trueM at this
          simp only [Bool.and_eq_true, decide_eq_true_eq] at this
          omega
        go_wp2_with fail
        refine BR.out.mono ?_
        rintro e w2 ⟨rfl, hb2⟩
        have B2 : Hid (Below WA.heap.size WA w2) := B1.out.trans (hb2.mono B1.out.size)
        clear hb2 BR e0 e1
        obtain ⟨e0, e1⟩ := cells2 (GW.out _ B2.out)
        go_wp2_with fail
        refine (FO.out w2 B2.out).mono ?_
        rintro e w3 ⟨rfl, hb3⟩
        have B3 : Hid (Below WA.heap.size WA w3) := B2.out.trans (hb3.mono B2.out.size)
        have BF : Hid (Below w.heap.size w w3) := bA.out.trans (B3.out.mono bA.out.size)
        clear hb3 FO e0 e1
        obtain ⟨e0, e1⟩ := cells2 (GW.out _ B3.out)
        by_cases h10 : 10 < vars
        · have hd2 : decide (10 < vars) = true := decide_eq_true h10
          have TR := Lib.hid (true_any vars L A q m w3 (AW.out _ B3.out) hmz)
          rw [HTM.out] at TR
          unfold forV at TR
          go_wp2_with (go_at_call 10; refine (num_any _ _).mono ?_; rintro e w' ⟨rfl, rfl⟩)
          refine TR.out.mono ?_
          rintro e w4 ⟨rfl, hb4⟩
          have B4 : Hid (Below w.heap.size w w4) := BF.out.trans (hb4.mono BF.out.size)
          clear hb4 TR e0 e1
          go_wp2
          go_ret
          exact ⟨rfl, B4.out⟩
        · have hd2 : decide (10 < vars) = false := decide_eq_false h10
          go_wp2_with fail
          refine (MO.out w3 B3.out).mono ?_
          rintro e w4 ⟨⟨A4, q4, rfl, h4⟩, hb4⟩
          have B4 : Hid (Below w.heap.size w w4) := BF.out.trans (hb4.mono BF.out.size)
          obtain ⟨b, o, hAB, -, hc⟩ := txs_at h4 (k := 0) (by simp)
          subst hAB
          simp only [List.getElem_cons_zero, Nat.add_zero] at hc
          have hlz : (((m :: rest).length : Int) == 0) = false := by rw [beq_eq_false_iff_ne]; simp only [List.length_cons]; omega
          have hl0 : (0 : Int) < ((m :: rest).length : Int) := by simp only [List.length_cons]; omega
          generalize (m :: rest).length = ln at *
          clear h4 hb4 MO e0 e1
          go_wp2_with (go_at_call 10; refine (num_any _ _).mono ?_; rintro e w' ⟨rfl, rfl⟩)
          go_ret
          exact ⟨rfl, B4.out⟩
  · have FO := Lib.hid (fun x hx => form_any vars L A q x (AW.out x hx))
    rw [brute_err hf] at BR
    have hfb : (formM vars (L.map Clz.l) != 0) = true := bne_iff_ne.2 hf
    clear hf
    generalize formM vars (L.map Clz.l) = fv at *
    unfold forV at FO
    go_wp2_with fail
    refine BR.out.mono ?_
    rintro e w2 ⟨rfl, hb2⟩
    have B2 : Hid (Below WA.heap.size WA w2) := B1.out.trans (hb2.mono B1.out.size)
    clear hb2 BR e0 e1
    obtain ⟨e0, e1⟩ := cells2 (GW.out _ B2.out)
    go_wp2_with fail
    refine (FO.out w2 B2.out).mono ?_
    rintro e w3 ⟨rfl, hb3⟩
    have BF : Hid (Below w.heap.size w w3) := bA.out.trans ((B2.out.trans (hb3.mono B2.out.size)).mono bA.out.size)
    clear hb3 FO e0 e1
    go_wp2_with (go_at_call 10; refine (num_any _ _).mono ?_; rintro e w' ⟨rfl, rfl⟩)
    go_ret
    exact ⟨rfl, BF.out⟩
end Go.Proofs.Ytefbknpoehmfaaa.For
namespace Go.Proofs.Ytefbknpoehmfaaa.For
open Go.ChangeShapes Go.WideShapes Go.ChangeAt Go.RowKit Go.Maps Circ Cw Cla Rep

end Go.Proofs.Ytefbknpoehmfaaa.For
namespace Go.Proofs.Ytefbknpoehmfaaa.For
open Go.ChangeShapes Go.WideShapes Go.ChangeAt Go.RowKit Go.Maps Circ Cw Cla Rep

end Go.Proofs.Ytefbknpoehmfaaa.For
namespace Go.Proofs.Ytefbknpoehmfaaa.For
open Go.ChangeShapes Go.WideShapes Go.ChangeAt Go.RowKit Go.Maps Go.Deep Circ Cw Cla Rep

section
variable {H : Type} {enc : TypeId × Value → H} {w : World}
theorem two_of {α : Type} (l : List α) (h : l.length = 2) : ∃ a b, l = [a, b] := by
  match l, h with
  | [a, b], _ => exact ⟨a, b, rfl⟩
set_option maxRecDepth 100000 in
/-- an argument that is a formula -/
theorem open_form {r : Reach} {b0 : Nat} {v : Value} {d : DataW H} {p : List MemPlace} (hv : Value.okWide Try.prog w r b0 24 v) (h : DataW.Trod enc Try.prog w 0 (fun _ => true) true 24 v d p)
    (hw : ∀ n ∈ DataW.weights Try.prog 24 d, n ≤ reachBytes) : ∃ (vars : Int) (L : List Clz) (A : Option Addr) (q : Nat), v = forV vars A L.length q ∧ I64 vars ∧ (ALies w w.heap.size A L ∧ Caps L) ∧ L.length * 24 ≤ 140737488355328 ∧ (L = [] ∨ ∃ (y : DataW H) (es sp : List (DataW H)), d = .agg [y, .slice es sp] ∧ es.length = L.length) := by
  obtain ⟨cs, rfl, hsz⟩ := okWide_struct Try.underlying24 hv
  have c3w : Try.prog.cellsOf 24 = 2 := by kernel_rfl
  rw [c3w] at hsz
  obtain ⟨l⟩ := cs
  obtain ⟨u0, u1, rfl⟩ := two_of l hsz
  obtain ⟨fuel, hf⟩ := h
  obtain ⟨xs, n, _, hx, _, hlen, hg⟩ := DataW.trod_struct Try.underlying24 hf
  obtain ⟨y0, y1, rfl⟩ := two_of xs hlen
  have cS : Try.prog.cellsOf 22 = 1 := by kernel_rfl
  have g0 := hg 0 _ rfl
  have g1 := hg 1 _ rfl
  simp [Value.cells, c3, cS] at g0 g1
  have hd : d = .agg [y0.1, y1.1] := by
    simp only [Prod.mk.injEq] at hx
    simpa using hx.1
  subst hd
  have hm : ∀ (j : Nat) (t : TypeId) (x : DataW H), ([3, 22] : List TypeId)[j]? = some t → ([y0.1, y1.1] : List (DataW H))[j]? = some x → ∀ n ∈ DataW.weights Try.prog t x, n ≤ reachBytes := fun j t x ht hx n hn => by
    refine hw n ?_
    simp only [DataW.weights, Try.underlying24]
    exact DataW.weights_mem_each (ts := [3, 22]) ht hx n hn
  obtain ⟨x0, e0, f0⟩ := el_int g0
  obtain ⟨A1, L, q1, e1, r1, f1, k1, z1⟩ := open_rowsW 1 (by decide) Clz.cells (fun z => z.Lies w w.heap.size ∧ z.l.length ≤ z.q) (fun _ => rfl) Try.underlying22 (by kernel_rfl) (fun n cs' y h hk => el_intsC h hk) g1 (hm 1 22 _ rfl rfl)
  have hbl : L.length * 24 ≤ 140737488355328 := row_bytes (l := L) 24 (by kernel_rfl) Try.underlying22 z1 (hm 1 22 _ rfl rfl)
  have hlen : L.length ≤ 9223372036854775807 := by omega
  simp at e0 e1
  subst e0; subst e1
  refine ⟨x0, L, A1, q1, rfl, f0, ⟨⟨r1, fun z hz => (f1 z hz).1, hlen⟩, fun z hz => (f1 z hz).2⟩, hbl, ?_⟩
  rcases z1 with h | ⟨es, sp, he, hl⟩
  · exact .inl h
  · exact .inr ⟨y0.1, es, sp, by rw [he], hl⟩
end
set_option maxRecDepth 100000 in
theorem brute_core {N : Nat} (P : Prog11 N) (Q : Brute11) {H : Type} {enc : TypeId × Value → H} (W : World)
    (v0 : Value) (d0 : DataW H) (p0 : List MemPlace) {r0 : Reach} {b0 : Nat} (hv0 : Value.okWide Try.prog W r0 b0 24 v0) (h0 : DataW.Trod enc Try.prog W 0 (fun _ => true) true 24 v0 d0 p0)
    {ts : List TypeId} {ds : List (DataW H)} (hsz : (DataW.weightsEach Try.prog (24 :: ts) (d0 :: ds)).all (· ≤ reachBytes) = true) :
    Calls Try.prog 4 #[v0] W fun e W' => e = .returned (.bool true) ∧ Below W.heap.size W W' := by
  obtain ⟨x0, L0, A0, q0, rfl, f0, ⟨a0, cp0⟩, z0, y0⟩ := open_form hv0 h0 (of_weights hsz 0 rfl rfl)
  exact lawB_walk P Q x0 L0 A0 q0 W f0 a0
end Go.Proofs.Ytefbknpoehmfaaa.For
