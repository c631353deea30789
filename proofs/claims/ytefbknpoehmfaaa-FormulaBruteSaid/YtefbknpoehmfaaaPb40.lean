/- The program's Brute: the least model. No condition. -/
import Derived.Test.YtefbknpoehmfaaaPb37
import Derived.Test.YtefbknpoehmfaaaPb39
import Derived.Test.YtefbknpoehmfaaaPb31
import Derived.Test.YtefbknpoehmfaaaPb16
namespace Go.Proofs.Ytefbknpoehmfaaa.For
open Go.ChangeShapes Go.WideShapes Go.ChangeAt Go.RowKit Go.Maps Circ Cw Cla Rep

theorem range_two {β : Type} (f : Nat → β) : ∀ n, (List.range (2 * n)).map f = (List.range n).flatMap fun m => [f (2 * m), f (2 * m + 1)]
  | 0 => rfl
  | n + 1 => by
    rw [show 2 * (n + 1) = 2 * n + 1 + 1 by omega, List.range_succ, List.range_succ, List.map_append, List.map_append, range_two f n, List.range_succ, List.flatMap_append]
    simp
theorem txt_even (n m : Nat) : txtL (n + 1) (2 * m) (n + 1) = txtL n m n ++ [48] ∧ txtL (n + 1) (2 * m + 1) (n + 1) = txtL n m n ++ [49] := by
  have key : ∀ c : Nat, c < 2 → (List.range n).map (fun i => bitC ((2 * m + c).testBit (n + 1 - 1 - i))) = txtL n m n := fun c hc => by
    unfold txtL
    apply List.map_congr_left
    intro i hi
    have hi := List.mem_range.1 hi
    rw [show n + 1 - 1 - i = (n - 1 - i) + 1 by omega, Nat.testBit_add_one, show (2 * m + c) / 2 = m by omega]
  constructor
  · rw [txt_snoc]
    have := key 0 (by decide)
    rw [Nat.add_zero] at this
    unfold txtL at this ⊢
    rw [this, show n + 1 - 1 - n = 0 by omega, Nat.testBit_zero]
    simp [bitC]
  · rw [txt_snoc]
    have := key 1 (by decide)
    unfold txtL at this ⊢
    rw [this, show n + 1 - 1 - n = 0 by omega, Nat.testBit_zero]
    have h : (2 * m + 1) % 2 = 1 := by omega
    simp [bitC, h]
theorem bits_all : ∀ n, bitsM n = (List.range (2 ^ n)).map fun m => txtL n m n
  | 0 => rfl
  | n + 1 => by
    unfold bitsM
    rw [bits_all n, Nat.pow_succ, Nat.mul_comm, range_two, List.flatMap_map]
    congr 1
    funext m
    obtain ⟨h1, h2⟩ := txt_even n m
    rw [h1, h2]
def textM (V m : Nat) : ByteArray := ⟨(txtL V m V).toArray⟩
theorem text_size (V m : Nat) : (textM V m).size = V := by
  show (txtL V m V).toArray.size = V
  simp [txt_len]
theorem isM_text {V m : Nat} (hV : V ≤ 14) {x : Int} (hx : litN V x) : isM (textM V m) x = (m.testBit (V - x.natAbs) == decide (0 < x)) := by
  unfold litN at hx
  have ha : absW x = (x.natAbs : Int) := by
    have hn : negW x = -x := by unfold negW; rw [if_neg (by omega)]
    unfold absW
    rw [hn]
    split <;> omega
  unfold isM
  rw [ha, text_size, decide_eq_true (by omega), decide_eq_true (by omega), Bool.true_and, Bool.true_and]
  have e : ((textM V m).data.toList.getD ((x.natAbs : Int) - 1).toNat 0) = bitC (m.testBit (V - x.natAbs)) := by
    show ((txtL V m V).toArray.toList.getD _ _) = _
    rw [List.getD_eq_getElem?_getD]
    unfold txtL
    simp only [List.getElem?_map]
    rw [List.getElem?_range (by omega)]
    simp only [Option.map_some, Option.getD_some]
    congr 2
    omega
  rw [e]
  cases m.testBit (V - x.natAbs) <;> simp [bitC]
theorem true_text {V m : Nat} (hV : V ≤ 14) {L : List (List Int)} (hl : ∀ l ∈ L, ∀ x ∈ l, litN V x) : trueM V L (textM V m) = !(L.any fun l => harmB V l m) := by
  have h1 : (textM V m).data.toList.all isB = true := by
    rw [List.all_eq_true]
    intro c hc
    have hc : c ∈ txtL V m V := by simpa [textM] using hc
    unfold txtL at hc
    obtain ⟨i, _, rfl⟩ := List.mem_map.1 hc
    cases m.testBit (V - 1 - i) <;> simp [bitC, isB]
  have h2 : ∀ l ∈ L, oneM (textM V m) l = !harmB V l m := fun l hL => by
    unfold oneM harmB
    rw [Bool.eq_iff_iff, List.any_eq_true, Bool.not_eq_true', ← Bool.not_eq_true, List.all_eq_true]
    constructor
    · rintro ⟨x, hx, h⟩ hall
      have := hall x hx
      rw [isM_text hV (hl l hL x hx)] at h
      have hn := hl l hL x hx
      unfold litN at hn
      rw [beq_iff_eq] at h this
      rw [h] at this
      by_cases h0 : 0 < x
      · rw [decide_eq_true h0, decide_eq_false (by omega)] at this; cases this
      · rw [decide_eq_false h0, decide_eq_true (by omega)] at this; cases this
    · intro hall
      apply Classical.byContradiction
      intro hno
      refine hall fun x hx => ?_
      have hn := hl l hL x hx
      have : isM (textM V m) x = false := by
        cases h : isM (textM V m) x with
        | false => rfl
        | true => exact absurd ⟨x, hx, h⟩ hno
      rw [isM_text hV hn] at this
      unfold litN at hn
      by_cases h0 : 0 < x
      · rw [decide_eq_true h0] at this
        rw [decide_eq_false (by omega)]
        simpa using this
      · rw [decide_eq_false h0] at this
        rw [decide_eq_true (by omega)]
        simpa using this
  have h3 : L.all (oneM (textM V m)) = !(L.any fun l => harmB V l m) := by
    rw [Bool.eq_iff_iff, List.all_eq_true, Bool.not_eq_true', ← Bool.not_eq_true, List.any_eq_true]
    constructor
    · rintro h ⟨l, hL, hh⟩
      have := h l hL
      rw [h2 l hL, hh] at this
      cases this
    · intro h l hL
      rw [h2 l hL]
      cases hh : harmB V l m with
      | false => rfl
      | true => exact absurd ⟨l, hL, hh⟩ h
  unfold trueM
  rw [h1, h3, text_size]
  simp
theorem filt_first {β : Type} (T : Nat → β) (p : β → Bool) (F : Nat → Bool) : ∀ n k, (∀ i, k ≤ i → i < k + n → p (T i) = !F i) →
    (firstN F n k = none → ((List.range' k n).map T).filter p = []) ∧ ∀ i, firstN F n k = some i → k ≤ i ∧ i < k + n ∧ ∃ r, ((List.range' k n).map T).filter p = T i :: r
  | 0, k, _ => ⟨fun _ => rfl, fun i h => by cases h⟩
  | n + 1, k, hp => by
    obtain ⟨i1, i2⟩ := filt_first T p F n (k + 1) fun i h1 h2 => hp i (by omega) (by omega)
    have hk := hp k (Nat.le_refl _) (by omega)
    rw [List.range'_succ, List.map_cons]
    unfold firstN
    cases hF : F k with
    | true =>
      rw [hF] at hk
      rw [List.filter_cons_of_neg (by rw [hk]; decide), if_pos rfl]
      refine ⟨i1, fun i h => ?_⟩
      obtain ⟨a, b, c⟩ := i2 i h
      exact ⟨by omega, by omega, c⟩
    | false =>
      rw [hF] at hk
      rw [List.filter_cons_of_pos (by rw [hk]; decide), if_neg (by decide)]
      refine ⟨(fun h => by cases h), fun i h => ?_⟩
      obtain rfl := Option.some.inj h
      exact ⟨Nat.le_refl _, by omega, _, rfl⟩
/-- what the first model that is not harmed has to do with the least model -/
theorem brute_first {V : Nat} (hV : V ≤ 14) {L : List (List Int)} (hf : formM V L = 0) (hl : ∀ l ∈ L, ∀ x ∈ l, litN V x) {F : Nat → Bool} (hF : ∀ m, m < 2 ^ V → F m = L.any fun l => harmB V l m) :
    (firstN F (2 ^ V) 0 = none → bruteM V L = (⟨#[]⟩, false, 0)) ∧ ∀ i, firstN F (2 ^ V) 0 = some i → i < 2 ^ V ∧ bruteM V L = (textM V i, true, 0) := by
  obtain ⟨h1, h2⟩ := filt_first (textM V) (fun s => trueM V L s && ([] : List Int).all (isM s)) F (2 ^ V) 0 fun i _ hi => by
    show (trueM V L (textM V i) && true) = _
    rw [Bool.and_true, true_text hV hl, hF i (by omega)]
  have e : modelsM V L [] = ((List.range' 0 (2 ^ V)).map (textM V)).filter (fun s => trueM V L s && ([] : List Int).all (isM s)) := by
    unfold modelsM
    rw [Int.toNat_natCast, bits_all, List.map_map, ← List.range_eq_range']
    rfl
  unfold bruteM
  rw [hf, if_neg (by decide), if_neg (by omega), e]
  refine ⟨fun h => ?_, fun i h => ?_⟩
  · rw [h1 h]
  · obtain ⟨_, b, r, c⟩ := h2 i h
    exact ⟨by omega, by rw [c]⟩
theorem lits_of {vars : Int} {V : Nat} (hv : vars = (V : Int)) {L : List (List Int)} (hf : formM vars L = 0) : ∀ l ∈ L, ∀ x ∈ l, litN V x := fun l hl x hx => by
  obtain ⟨_, h2, _, h⟩ := form_ok hf
  have := (lit_iff vars x).1 (chk_lit (h l hl) x hx)
  by_cases h0 : x = -9223372036854775808
  · subst h0
    exfalso
    revert this
    unfold absW negW
    simp
    try omega
  · have hn : negW x = -x := by unfold negW; rw [if_neg h0]
    unfold absW at this
    rw [hn] at this
    unfold litN
    split at this <;> omega
theorem form_two (vars : Int) (K : List (List Int)) : formM vars K = 0 ∨ formM vars K = 9 := by
  unfold formM
  split
  · exact .inr rfl
  · split
    · exact .inr rfl
    · split
      · exact .inr rfl
      · split
        · exact .inl rfl
        · exact .inr rfl
set_option maxHeartbeats 4000000 in
set_option maxRecDepth 100000 in
theorem brute_any (vars : Int) (L : List Clz) (A : Option Addr) (q : Nat) (w : World) (hvars : I64 vars) (hA : ALies w w.heap.size A L) :
    Calls Try.prog 18 #[forV vars A L.length q] w fun e w' => e = .returned (.tuple #[.string (bruteM vars (L.map Clz.l)).1, .bool (bruteM vars (L.map Clz.l)).2.1, .int .i64 (bruteM vars (L.map Clz.l)).2.2]) ∧ Below w.heap.size w w' := by
  obtain ⟨WA, hWA⟩ : ∃ x, w.alloc (.cells #[.int .i64 vars, .slice A L.length q] 24) = x := ⟨_, rfl⟩
  have bA : Below w.heap.size w WA := by rw [← hWA]; exact (Below.refl _ _).alloc (Nat.le_refl _) _
  have gA : WA.heap[w.heap.size]? = some (.cells #[.int .i64 vars, .slice A L.length q] 24 (0, 0)) := by rw [← hWA]; exact Array.getElem?_push_size
  have AW : Hid (∀ x, Below w.heap.size w x → ALies x x.heap.size A L) := fun x hx => (hA.below hx).more hx.size
  have FC := Lib.hid (fcheck_any vars L A q WA (AW.out _ bA))
  have BA := Lib.hid bA
  obtain ⟨e0, e1⟩ := cells2 gA
  have GA := Lib.hid gA
  clear hA bA gA
  by_cases hf : formM vars (L.map Clz.l) = 0
  · rw [hf] at FC
    obtain ⟨v0, v1, v2, -⟩ := form_ok hf
    obtain ⟨V, rfl⟩ : ∃ V : Nat, vars = (V : Int) := ⟨vars.toNat, by omega⟩
    have HLI := Lib.hid (lits_of rfl hf)
    have HFO := Lib.hid hf
    clear hf
    unfold forV at FC ⊢
    by_cases h14 : 14 < (V : Int)
    · have hb : bruteM (V : Int) (L.map Clz.l) = (⟨#[]⟩, false, 5) := by
        unfold bruteM
        rw [HFO.out, if_neg (by decide), if_pos h14]
      rw [hb]
      clear hb
      go_enter Try.func18, Try.ntmps18
      go_wp2_with fail
      refine FC.out.mono ?_
      rintro e w1 ⟨rfl, hb1⟩
      have B1 : Hid (Below w.heap.size w w1) := BA.out.trans (hb1.mono BA.out.size)
      obtain ⟨e0, e1⟩ := cells2 ((hb1.block _ (lt_of_block GA.out)).trans GA.out)
      clear hb1
      go_wp2
      refine bodyPost_ret (results_tmp3 rfl _ _ _) rfl ?_
      exact ⟨rfl, B1.out⟩
    · have hV : V ≤ 14 := by omega
      have HLC : Hid (∀ z ∈ L, ∀ x ∈ z.l, litN V x) := fun z hz x hx => HLI.out z.l (List.mem_map.2 ⟨z, hz, rfl⟩) x hx
      have HLN : Hid (L.length ≤ 1048576) := by rw [List.length_map] at v2; exact v2
      have hp : 2 ^ V ≤ 16384 := Nat.le_trans (Nat.pow_le_pow_right (by decide) hV) (by decide)
      clear v0 v1 v2
      go_enter Try.func18, Try.ntmps18
      go_wp2_with fail
      refine FC.out.mono ?_
      rintro e w1 ⟨rfl, hb1⟩
      have B1 : Hid (Below w.heap.size w w1) := BA.out.trans (hb1.mono BA.out.size)
      have G1 := Lib.hid ((hb1.block _ (lt_of_block GA.out)).trans GA.out)
      obtain ⟨e0, e1⟩ := cells2 G1.out
      have RU := Lib.hid (ruled_any V L A q w1 hV (AW.out _ B1.out) HLC.out HLN.out)
      unfold forV at RU
      clear hb1
      go_wp2_with fail
      refine RU.out.mono ?_
      rintro e w2 ⟨⟨g, F, rfl, hF, hFm⟩, hb2⟩
      have B2 : Hid (Below w.heap.size w w2) := B1.out.trans (hb2.mono B1.out.size)
      obtain ⟨f1, f2⟩ := brute_first hV HFO.out HLI.out (F := F) fun m hm => by rw [hFm m hm, List.any_map]; rfl
      have IX := Lib.hid (bindex_any g (2 ^ V) (2 ^ V) F w2 hF (by omega))
      obtain ⟨e2, e3⟩ := cells2 ((hb2.block _ (lt_of_block G1.out)).trans G1.out)
      clear hb2 hF hFm e0 e1
      go_wp2_with fail
      refine IX.out.mono ?_
      rintro e w3 ⟨rfl, rfl⟩
      clear IX RU
      cases hfn : firstN F (2 ^ V) 0 with
      | none =>
        have HB := Lib.hid (f1 hfn)
        have hi : ioM none = -1 := rfl
        clear hfn f1 f2
        go_wp2
        refine bodyPost_ret (results_tmp3 rfl _ _ _) rfl ?_
        exact ⟨by rw [HB.out]; rfl, B2.out⟩
      | some i =>
        obtain ⟨hi, hb⟩ := f2 i hfn
        have HB := Lib.hid hb
        have hio : ioM (some i) = (i : Int) := rfl
        have TX := Lib.hid (text_any V i w2 hV hi)
        have hi0 : ¬ (i : Int) < 0 := by omega
        clear hfn f1 f2 hb
        go_wp2_with fail
        refine TX.out.mono ?_
        rintro e w4 ⟨rfl, hb4⟩
        have B4 : Hid (Below w.heap.size w w4) := B2.out.trans (hb4.mono B2.out.size)
        clear hb4
        go_wp2
        refine bodyPost_ret (results_tmp3 rfl _ _ _) rfl ?_
        exact ⟨by rw [HB.out]; rfl, B4.out⟩
  · have hb : bruteM vars (L.map Clz.l) = (⟨#[]⟩, false, 9) := by
      unfold bruteM
      rw [if_pos hf]
    have h9 : formM vars (L.map Clz.l) = 9 := (form_two vars (L.map Clz.l)).resolve_left hf
    rw [hb]
    rw [h9] at FC
    clear hb h9 hf
    unfold forV at FC ⊢
    go_enter Try.func18, Try.ntmps18
    go_wp2_with fail
    refine FC.out.mono ?_
    rintro e w1 ⟨rfl, hb1⟩
    have B1 : Hid (Below w.heap.size w w1) := BA.out.trans (hb1.mono BA.out.size)
    clear hb1
    go_wp2
    refine bodyPost_ret (results_tmp3 rfl _ _ _) rfl ?_
    exact ⟨rfl, B1.out⟩
theorem brute11 : Brute11 := ⟨fun vars L A q w hv hA => brute_any vars L A q w hv hA⟩
end Go.Proofs.Ytefbknpoehmfaaa.For
