/- A circuit as clauses; no program is named here; condition: the circuit may be. interlockref07.Allowed, Initial, Path; condition: what they are handed lies in memory. What the laws of layer 12 ask of the program's own functions; the page's example over them. Condition (force): of at most N clauses of at most N literals. -/
import Derived.Test.YtjlnffkieocihaaPt35
import Derived.Test.YtjlnffkieocihaaPt37
import Derived.Test.YtjlnffkieocihaaPt00
import Derived.Test.YtjlnffkieocihaaPt06
namespace Go.Proofs.Ytjlnffkieocihaa.Tse
open Circ Cw Str Sim Rep Cla

/-- a base, a literal, as they count -/
def baseT (b : Int) : Int := if b < 0 then 0 else if 262144 < b then 0 else b
def capT (l : Int) : Int := if l < 0 then 0 else if 4097 < l then 4097 else l
/-- a circuit's literal from a base, as a clause's -/
def litT (b l : Int) : Int := if capT l % 2 = 1 then -(baseT b + capT l / 2 + 1) else baseT b + capT l / 2 + 1
/-- is a variable 0, or nothing? -/
def freeT (c : Cir) (v : Int) : Bool := decide (v = 0) || (kindOf c v).toList.isEmpty
def andT (b : Int) (t : Tri) : List (List Int) := [[-litT b t.a, litT b t.b], [-litT b t.a, litT b t.c], [litT b t.a, -litT b t.b, -litT b t.c]]
/-- a circuit's clauses -/
def gatesT (c : Cir) (b : Int) : List (List Int) := (((List.range (c.max + 1).toNat).filter fun (v : Nat) => freeT c (v : Int)).map fun (v : Nat) => [-(b + (v : Int) + 1)]) ++ c.ands.flatMap (andT b)
/-- what is forced -/
def forceT (c : Cir) (L : List (List Int)) (b : Int) : List (List Int) := (c.invs.map fun l => [litT b l]) ++ L.map fun l => l.map (litT b)
theorem base_zero : baseT 0 = 0 := rfl
theorem cap_is {l : Int} (h0 : 0 ≤ l) (h1 : l / 2 ≤ 2048) : capT l = l := by
  unfold capT
  rw [if_neg (by omega), if_neg (by omega)]
theorem is_pos {w : ByteArray} {n : Nat} (hn : n < w.size) (_hz : w.size ≤ 4096) : isM w ((n : Int) + 1) = decide (w.data.toList[n]? = some 49) := by
  have a1 : absW ((n : Int) + 1) = (n : Int) + 1 := by unfold absW negW; split <;> split <;> omega
  have hl : n < w.data.toList.length := by simpa using hn
  unfold isM
  rw [a1, decide_eq_true (by omega), decide_eq_true (show (n : Int) + 1 ≤ (w.size : Int) by omega), decide_eq_true (show (0 : Int) < (n : Int) + 1 by omega), Bool.true_and, Bool.true_and]
  rw [show ((n : Int) + 1 - 1).toNat = n by omega, List.getD_eq_getElem?_getD, List.getElem?_eq_getElem hl]
  rw [Bool.eq_iff_iff, beq_iff_eq, decide_eq_true_eq, decide_eq_true_eq]
  show (w.data.toList[n]).toNat = 49 ↔ _
  rw [Option.some.injEq]
  constructor
  · intro h; exact UInt8.toNat_inj.1 h
  · intro h; rw [h]; rfl
theorem is_neg {w : ByteArray} {n : Nat} (hn : n < w.size) (hz : w.size ≤ 4096) : isM w (-((n : Int) + 1)) = !decide (w.data.toList[n]? = some 49) := by
  rw [is_both (by omega) (by omega) (by omega), is_pos hn hz]
theorem true_at {v : List UInt8} {l : Int} (h : 0 ≤ l) : trueM v l = (decide (v[(l / 2).toNat]? = some 49) != decide (l % 2 = 1)) := by
  unfold trueM
  rw [cnt_pos l h]
theorem lit_true {w : ByteArray} {l : Int} (h0 : 0 ≤ l) (h1 : l / 2 < (w.size : Int)) (hz : w.size ≤ 2049) : isM w (litT 0 l) = trueM w.data.toList l := by
  obtain ⟨n, hn⟩ : ∃ n : Nat, l / 2 = (n : Int) := ⟨(l / 2).toNat, by omega⟩
  unfold litT
  rw [base_zero, cap_is h0 (by omega), true_at h0, hn, Int.toNat_natCast]
  by_cases hp : l % 2 = 1
  · rw [if_pos hp, decide_eq_true hp, show -(0 + (n : Int) + 1) = -((n : Int) + 1) by omega, is_neg (by omega) (by omega)]
    cases decide (w.data.toList[n]? = some 49) <;> rfl
  · rw [if_neg hp, decide_eq_false hp, show (0 + (n : Int) + 1) = (n : Int) + 1 by omega, is_pos (by omega) (by omega)]
    cases decide (w.data.toList[n]? = some 49) <;> rfl
theorem lit_not {w : ByteArray} {l : Int} (h0 : 0 ≤ l) (h1 : l / 2 < (w.size : Int)) (hz : w.size ≤ 2049) : isM w (-litT 0 l) = !trueM w.data.toList l := by
  obtain ⟨n, hn⟩ : ∃ n : Nat, l / 2 = (n : Int) := ⟨(l / 2).toNat, by omega⟩
  unfold litT
  rw [base_zero, cap_is h0 (by omega), true_at h0, hn, Int.toNat_natCast]
  by_cases hp : l % 2 = 1
  · rw [if_pos hp, decide_eq_true hp, show - -(0 + (n : Int) + 1) = (n : Int) + 1 by omega, is_pos (by omega) (by omega)]
    cases decide (w.data.toList[n]? = some 49) <;> rfl
  · rw [if_neg hp, decide_eq_false hp, show -(0 + (n : Int) + 1) = -((n : Int) + 1) by omega, is_neg (by omega) (by omega)]
    cases decide (w.data.toList[n]? = some 49) <;> rfl
section
variable {c : Cir}
theorem known_max (hr : refOk c = true) {l : Int} (h : knownL c l = true) : 0 ≤ l ∧ l / 2 ≤ c.max := by
  have := lit_bound hr h
  omega
theorem and_facts (hr : refOk c = true) {t : Tri} (ht : t ∈ c.ands) : (0 ≤ t.b ∧ t.b < t.a) ∧ (0 ≤ t.c ∧ t.c < t.a) ∧ 2 ≤ t.a ∧ t.a % 2 = 0 ∧ t.a / 2 ≤ c.max := by
  obtain ⟨k, hk, rfl⟩ := List.getElem_of_mem ht
  obtain ⟨h1, h2, h3, h4⟩ := and_at hr k hk
  have h5 := (own_facts hr).2 c.ands[k].a (List.mem_append.2 (.inr (List.mem_append.2 (.inr (List.mem_map_of_mem ht)))))
  have h6 := known_max hr h3
  have h7 := known_max hr h4
  omega
/-- what the clauses of a gate ask -/
theorem and_all {w : ByteArray} {t : Tri} (hz : w.size ≤ 2049) (ha : 0 ≤ t.a ∧ t.a / 2 < (w.size : Int)) (hb : 0 ≤ t.b ∧ t.b / 2 < (w.size : Int)) (hc : 0 ≤ t.c ∧ t.c / 2 < (w.size : Int)) : (andT 0 t).all (oneM w) = (trueM w.data.toList t.a == (trueM w.data.toList t.b && trueM w.data.toList t.c)) := by
  unfold andT oneM
  simp only [List.all_cons, List.all_nil, List.any_cons, List.any_nil, Bool.or_false, Bool.and_true]
  rw [lit_not ha.1 ha.2 hz, lit_true hb.1 hb.2 hz, lit_true hc.1 hc.2 hz, lit_true ha.1 ha.2 hz, lit_not hb.1 hb.2 hz, lit_not hc.1 hc.2 hz]
  cases trueM w.data.toList t.a <;> cases trueM w.data.toList t.b <;> cases trueM w.data.toList t.c <;> rfl
theorem free_off (st inp : ByteArray) (hr : refOk c = true) {n : Nat} (hf : freeT c (n : Int) = true) : bitV (valsM c st inp) (n : Int) = false := by
  unfold freeT at hf
  rw [Bool.or_eq_true, decide_eq_true_eq] at hf
  rcases hf with h | h
  · have := vals_zero (c := c) st inp hr
    rw [true_bit _ (Int.le_refl 0)] at this
    have h0 : n = 0 := by omega
    subst h0
    unfold bitM at this
    have e : (0 : Int) / 2 = 0 := by decide
    simpa [bitM] using this
  · rw [kind_known, Bool.not_eq_true'] at h
    unfold knownV at h
    simp only [Bool.or_eq_false_iff, decide_eq_false_iff_not] at h
    have hin : ∀ x ∈ own c, x / 2 ≠ (n : Int) := fun x hx e => by
      have h0 := (own_facts hr).2 x hx
      have hv : ∀ (L : List Int), x ∈ L → hasVar L (n : Int) = true := fun L hL => by
        unfold hasVar; rw [List.any_eq_true]; exact ⟨x, hL, by simp [e]; omega⟩
      rcases List.mem_append.1 hx with hx | hx
      · have := hv _ hx; simp_all
      · rcases List.mem_append.1 hx with hx | hx
        · have := hv _ hx; unfold hasTri at h; simp_all
        · have := hv _ hx; unfold hasTri at h; simp_all
    rw [vals_eval st inp hr n (by omega), eval_other _ _ _ (fun u hu => hin _ (List.mem_append.2 (.inr (List.mem_append.2 (.inr (List.mem_map_of_mem hu)))))), base_bit st inp hr n (by omega) (fun x hx => hin x (List.mem_append.2 (.inl hx))) (fun x hx => hin x (List.mem_append.2 (.inr (List.mem_append.2 (.inl hx)))))]
/-- a literal beyond a list of octets makes no clause true: what is below does -/
theorem vals_small (st inp : ByteArray) (hr : refOk c = true) : ((valsM c st inp).length : Int) = c.max + 1 ∧ (valsM c st inp).length ≤ 2049 := by
  obtain ⟨m, hm, hm1⟩ := max_nat hr
  rw [vals_len, hm]
  simp
  omega
/-- WHAT MAKES A CIRCUIT'S CLAUSES TRUE, with its inputs and latches as they are, is its values, and these do -/
theorem gates_iff (st inp : ByteArray) (hr : refOk c = true) (hs : bitsM st (c.lats.length : Int) = true) (hi : bitsM inp (c.ins.length : Int) = true) (w : ByteArray) (hl : w.size = (valsM c st inp).length) (hb : ∀ x ∈ w.data.toList, isB x)
    (hk : ∀ n : Nat, n < w.size → freeT c (n : Int) = false → (∀ t ∈ c.ands, t.a / 2 ≠ (n : Int)) → w.data.toList[n]? = (valsM c st inp)[n]?) : (gatesT c 0).all (oneM w) = decide (w.data.toList = valsM c st inp) := by
  obtain ⟨hm, hm2⟩ := vals_small st inp hr
  have hz : w.size ≤ 2049 := by omega
  have hwl : w.data.toList.length = w.size := by simp
  have ge : (gatesT c 0).all (oneM w) = ((((List.range (c.max + 1).toNat).filter fun (v : Nat) => freeT c (v : Int)).all fun (v : Nat) => oneM w [-((v : Int) + 1)]) && c.ands.all fun t => (andT 0 t).all (oneM w)) := by
    unfold gatesT
    rw [List.all_append, List.all_map, List.all_flatMap]
    congr 1
    congr 1
    funext v
    show oneM w [-(0 + (v : Int) + 1)] = _
    rw [show (0 + (v : Int) + 1) = (v : Int) + 1 by omega]
  rw [ge, Bool.eq_iff_iff, Bool.and_eq_true, List.all_eq_true, List.all_eq_true, decide_eq_true_eq]
  have one_neg : ∀ v : Nat, v < w.size → oneM w [-((v : Int) + 1)] = !decide (w.data.toList[v]? = some 49) := fun v hv => by
    unfold oneM
    simp only [List.any_cons, List.any_nil, Bool.or_false]
    exact is_neg hv (by omega)
  have in_len : ∀ {x : Int}, 0 ≤ x ∧ x / 2 ≤ c.max → 0 ≤ x ∧ x / 2 < (w.size : Int) := fun h => by omega
  have andE : ∀ t ∈ c.ands, (andT 0 t).all (oneM w) = (trueM w.data.toList t.a == (trueM w.data.toList t.b && trueM w.data.toList t.c)) := fun t ht => by
    obtain ⟨h1, h2, h3, h4, h5⟩ := and_facts hr ht
    exact and_all hz (in_len (by omega)) (in_len (by omega)) (in_len (by omega))
  constructor
  · rintro ⟨h1, h2⟩
    have key : ∀ n : Nat, n < w.size → w.data.toList[n]? = (valsM c st inp)[n]? := by
      intro n
      induction n using Nat.strongRecOn with
      | _ n ih =>
        intro hn
        have vb : ∀ {x : UInt8}, (valsM c st inp)[n]? = some x → isB x := fun hx => vals_bits hs hi _ (List.mem_of_getElem? hx)
        obtain ⟨x, hx⟩ : ∃ x, w.data.toList[n]? = some x := ⟨w.data.toList[n]'(by omega), List.getElem?_eq_getElem (by omega)⟩
        obtain ⟨y, hy⟩ : ∃ y, (valsM c st inp)[n]? = some y := ⟨(valsM c st inp)[n]'(by omega), List.getElem?_eq_getElem (by omega)⟩
        have xb := hb x (List.mem_of_getElem? hx)
        have yb := vb hy
        -- two bits are one where they are 49 alike
        have fin : (w.data.toList[n]? = some 49 ↔ (valsM c st inp)[n]? = some 49) → w.data.toList[n]? = (valsM c st inp)[n]? := fun h => by
          rw [hx, hy] at h ⊢
          rcases xb with rfl | rfl <;> rcases yb with rfl | rfl
          · rfl
          · exact absurd (h.2 rfl) (by decide)
          · exact absurd (h.1 rfl) (by decide)
          · rfl
        cases hf : freeT c (n : Int) with
        | true =>
          have hw := h1 n (List.mem_filter.2 ⟨List.mem_range.2 (by omega), hf⟩)
          rw [one_neg n hn, Bool.not_eq_true', decide_eq_false_iff_not] at hw
          have hv := free_off st inp hr hf
          unfold bitV at hv
          rw [Int.toNat_natCast, decide_eq_false_iff_not] at hv
          exact fin ⟨fun h => absurd h hw, fun h => absurd h hv⟩
        | false =>
          by_cases ha : ∃ t ∈ c.ands, t.a / 2 = (n : Int)
          · obtain ⟨t, ht, hn2⟩ := ha
            obtain ⟨f1, f2, f3, f4, f5⟩ := and_facts hr ht
            have hw := h2 t ht
            rw [andE t ht, beq_iff_eq] at hw
            have hv := vals_and st inp hr ht
            have low : ∀ x : Int, 0 ≤ x → x < t.a → trueM w.data.toList x = trueM (valsM c st inp) x := fun x h0 hx => by
              rw [true_at h0, true_at h0, ih (x / 2).toNat (by omega) (by omega)]
            rw [low _ f1.1 f1.2, low _ f2.1 f2.2, ← hv] at hw
            rw [true_at (by omega), true_at (by omega), hn2, Int.toNat_natCast, decide_eq_false (show ¬ t.a % 2 = 1 by omega)] at hw
            refine fin ?_
            have hw' : decide (w.data.toList[n]? = some 49) = decide ((valsM c st inp)[n]? = some 49) := by simpa using hw
            constructor
            · intro h; rw [decide_eq_true h] at hw'; exact of_decide_eq_true hw'.symm
            · intro h; rw [decide_eq_true h] at hw'; exact of_decide_eq_true hw'
          · exact hk n hn hf (fun t ht e => ha ⟨t, ht, e⟩)
    apply List.ext_getElem?
    intro i
    by_cases h : i < w.size
    · exact key i h
    · rw [List.getElem?_eq_none (by omega), List.getElem?_eq_none (by omega)]
  · intro he
    refine ⟨fun v hv => ?_, fun t ht => ?_⟩
    · obtain ⟨hv1, hv2⟩ := List.mem_filter.1 hv
      have hvs : v < w.size := by have := List.mem_range.1 hv1; omega
      rw [one_neg v hvs, he]
      have := free_off st inp hr hv2
      unfold bitV at this
      rw [Int.toNat_natCast] at this
      rw [this]; rfl
    · rw [andE t ht, he, vals_and st inp hr ht]
      simp
/-- what is forced is true of values just if the step is allowed -/
theorem force_iff (st inp : ByteArray) (hr : refOk c = true) (L : List (List Int)) (hL : ∀ l ∈ L, ∀ x ∈ l, 0 ≤ x ∧ x / 2 ≤ c.max) (v : ByteArray) (hv : v.data.toList = valsM c st inp) : (forceT c L 0).all (oneM v) = allowedM c L (valsM c st inp) := by
  obtain ⟨hm, hm2⟩ := vals_small st inp hr
  have hz : v.size = (valsM c st inp).length := by rw [← hv]; simp
  have h1 : ∀ x : Int, 0 ≤ x ∧ x / 2 ≤ c.max → isM v (litT 0 x) = trueM (valsM c st inp) x := fun x h => by
    rw [lit_true h.1 (by omega) (by omega), hv]
  have hinv : ∀ x ∈ c.invs, 0 ≤ x ∧ x / 2 ≤ c.max := fun x hx => by
    have := (ref_parts hr).2.2.2.2.2.2
    unfold allKnown at this
    rw [Bool.and_eq_true] at this
    exact known_max hr (List.all_eq_true.1 this.1 x hx)
  unfold forceT allowedM
  rw [List.all_append, List.all_map, List.all_map]
  have e1 : c.invs.all (oneM v ∘ fun l => [litT 0 l]) = c.invs.all (trueM (valsM c st inp)) := by
    rw [Bool.eq_iff_iff, List.all_eq_true, List.all_eq_true]
    have p : ∀ x ∈ c.invs, (oneM v ∘ fun l => [litT 0 l]) x = trueM (valsM c st inp) x := fun x hx => by
      show oneM v [litT 0 x] = _
      unfold oneM
      simp only [List.any_cons, List.any_nil, Bool.or_false]
      exact h1 x (hinv x hx)
    exact ⟨fun h x hx => by rw [← p x hx]; exact h x hx, fun h x hx => by rw [p x hx]; exact h x hx⟩
  have e2 : L.all (oneM v ∘ fun l => l.map (litT 0)) = L.all (holdsM (valsM c st inp)) := by
    rw [Bool.eq_iff_iff, List.all_eq_true, List.all_eq_true]
    have p : ∀ l ∈ L, (oneM v ∘ fun l => l.map (litT 0)) l = holdsM (valsM c st inp) l := fun l hl => by
      show oneM v (l.map (litT 0)) = _
      unfold oneM holdsM
      rw [List.any_map, Bool.eq_iff_iff, List.any_eq_true, List.any_eq_true]
      constructor
      · rintro ⟨x, hx, h⟩; exact ⟨x, hx, by rw [← h1 x (hL l hl x hx)]; exact h⟩
      · rintro ⟨x, hx, h⟩; exact ⟨x, hx, by show isM v (litT 0 x) = true; rw [h1 x (hL l hl x hx)]; exact h⟩
    exact ⟨fun h x hx => by rw [← p x hx]; exact h x hx, fun h x hx => by rw [p x hx]; exact h x hx⟩
  rw [e1, e2]
/-- as much greater -/
def mvT (b x : Int) : Int := if x < 0 then x - b else x + b
theorem lit_moves {b : Int} (h0 : 0 ≤ b) (h1 : b ≤ 262144) (l : Int) : litT b l = mvT b (litT 0 l) ∧ -litT b l = mvT b (-litT 0 l) := by
  have hc : 0 ≤ capT l := by unfold capT; split <;> (try split) <;> omega
  have hb : baseT b = b := by unfold baseT; rw [if_neg (by omega), if_neg (by omega)]
  unfold litT mvT
  rw [base_zero, hb]
  split <;> split <;> split <;> omega
/-- from another base the clauses are those from 0, each variable as much greater -/
theorem gates_move (c : Cir) {b : Int} (h0 : 0 ≤ b) (h1 : b ≤ 262144) : gatesT c b = (gatesT c 0).map fun l => l.map (mvT b) := by
  unfold gatesT
  rw [List.map_append, List.map_map, List.map_flatMap]
  congr 1
  · apply List.map_congr_left
    intro v _
    show [-(b + (v : Int) + 1)] = [mvT b (-(0 + (v : Int) + 1))]
    unfold mvT
    rw [if_pos (by omega)]
    congr 1
    omega
  · congr 1
    funext t
    unfold andT
    simp only [List.map_cons, List.map_nil]
    rw [← (lit_moves h0 h1 t.a).1, ← (lit_moves h0 h1 t.a).2, ← (lit_moves h0 h1 t.b).1, ← (lit_moves h0 h1 t.b).2, ← (lit_moves h0 h1 t.c).1, ← (lit_moves h0 h1 t.c).2]
theorem force_move (c : Cir) (L : List (List Int)) {b : Int} (h0 : 0 ≤ b) (h1 : b ≤ 262144) : forceT c L b = (forceT c L 0).map fun l => l.map (mvT b) := by
  unfold forceT
  rw [List.map_append, List.map_map, List.map_map]
  congr 1
  · apply List.map_congr_left
    intro l _
    show [litT b l] = [mvT b (litT 0 l)]
    rw [(lit_moves h0 h1 l).1]
  · apply List.map_congr_left
    intro l _
    show l.map (litT b) = (l.map (litT 0)).map (mvT b)
    rw [List.map_map]
    apply List.map_congr_left
    intro x _
    exact (lit_moves h0 h1 x).1
end
end Go.Proofs.Ytjlnffkieocihaa.Tse
namespace Go.Proofs.Ytjlnffkieocihaa.Rep
open Go.ChangeShapes Go.WideShapes Go.ChangeAt Go.RowKit Go.Maps Circ Cw
open Str Sim

theorem all_take {α : Type} (l : List α) (p : α → Bool) (k : Nat) (hk : k < l.length) : (l.take (k + 1)).all p = ((l.take k).all p && p l[k]) := by
  rw [List.take_succ_eq_append_getElem hk, List.all_append]; simp
theorem all_not {α : Type} {l : List α} {p : α → Bool} {k : Nat} (hk : k < l.length) (h : p l[k] = false) : l.all p = false := by
  rw [List.all_eq_false]
  exact ⟨l[k], List.getElem_mem hk, by rw [h]; decide⟩
set_option maxHeartbeats 16000000 in
set_option maxRecDepth 100000 in
theorem refallowed_any (c : Cir) (s : Places) (L : List Clz) (A : Option Addr) (q : Nat) (v : ByteArray) (w : World) (h : CLies w w.heap.size c s) (hf : CFits c s) (hz : v.size ≤ 9223372036854775807) (hn : c.invs.length ≤ 9223372036854775807) (hA : ALies w w.heap.size A L) :
    Calls Try.prog 41 #[cirV c s, .slice A L.length q, .string v] w fun e w' => e = .returned (.bool (allowedM c (L.map Clz.l) v.data.toList)) ∧ Below w.heap.size w w' := by
  obtain ⟨WA, hWA⟩ : ∃ x, w.alloc (.cells #[.int .i64 c.max, .slice s.ai c.ins.length s.ki, .slice s.al c.lats.length s.kl, .slice s.ao c.outs.length s.ko, .slice s.ab c.bads.length s.kb, .slice s.ac c.invs.length s.kc, .slice s.aa c.ands.length s.ka, .slice s.an c.names.length s.kn] 27) = x := ⟨_, rfl⟩
  have bA : Hid (Below w.heap.size w WA) := by unfold Hid; rw [← hWA]; exact (Below.refl _ _).alloc (Nat.le_refl _) _
  have GA : Hid (WA.heap[w.heap.size]? = some (.cells (cirC c s) 27 (0, 0))) := by unfold Hid; rw [← hWA]; exact Array.getElem?_push_size
  obtain ⟨e0, e1, e2, e3, e4, e5, e6, e7⟩ := cells8 GA.out
  have LW : Hid (∀ x, Below w.heap.size w x → CLies x x.heap.size c s) := fun x hx => (h.below hx).more hx.size
  have AW : Hid (ALies WA WA.heap.size A L) := (hA.below bA.out).more bA.out.size
  have HF := Lib.hid hf
  have HN := Lib.hid hn
  have HL := Lib.hid hA.len
  clear h hf hA hn
  unfold cirV
  rw [show cirC c s = #[.int .i64 c.max, .slice s.ai c.ins.length s.ki, .slice s.al c.lats.length s.kl, .slice s.ao c.outs.length s.ko, .slice s.ab c.bads.length s.kb, .slice s.ac c.invs.length s.kc, .slice s.aa c.ands.length s.ka, .slice s.an c.names.length s.kn] from rfl]
  go_enter Try.func41, Try.ntmps41
  go_wp2
  clear e0 e1 e2 e3 e4 e5 e6 e7 hWA
  go_loop [7] (fun i => ∃ k : Nat, k ≤ c.invs.length ∧ i = .int .i64 k ∧ (c.invs.take k).all (trueM v.data.toList) = true) (fun i => c.invs.length - (intOf i).toNat)
  case atStart => exact ⟨0, Nat.zero_le _, rfl, rfl⟩
  case round =>
    obtain ⟨k, hk, rfl, ha⟩ := hrel
    have HA := Lib.hid ha
    have hn := HN.out
    clear ha
    obtain ⟨e0, e1, e2, e3, e4, e5, e6, e7⟩ := cells8 GA.out
    by_cases hlt : k < c.invs.length
    · obtain ⟨b, o, hA2, -, hc⟩ := LRow.int (LW.out WA bA.out).invs hlt
      rw [hA2] at e5
      have TJ := Lib.hid (reftrue_any v c.invs[k] WA hz (HF.out.invs _ (List.getElem_mem hlt)).2)
      have HT := Lib.hid (all_take c.invs (trueM v.data.toList) k hlt)
      rw [HA.out, Bool.true_and] at HT
      have HNo := Lib.hid (fun h => all_not (p := trueM v.data.toList) hlt h)
      clear hA2
      generalize c.invs[k] = x at *
      cases hq : trueM v.data.toList x with
      | true =>
        rw [hq] at TJ HT
        clear hq HNo
        go_wp2_with fail
        refine TJ.out.mono ?_
        rintro e w' ⟨rfl, rfl⟩
        go_wp2
        go_round
        case rel => exact ⟨k + 1, by omega, by go_num, HT.out⟩
        case measure => simp [intOf]; omega
      | false =>
        rw [hq] at TJ
        have HF9 : Hid (allowedM c (L.map Clz.l) v.data.toList = false) := by unfold Hid allowedM; rw [HNo.out hq]; rfl
        clear hq HNo HT
        go_wp2_with fail
        refine TJ.out.mono ?_
        rintro e w' ⟨rfl, rfl⟩
        go_wp2
        go_ret
        exact ⟨by rw [HF9.out]; rfl, bA.out⟩
    · obtain rfl : k = c.invs.length := by omega
      rw [List.take_length] at HA
      go_wp2
      clear e0 e1 e2 e3 e4 e5 e6 e7
      go_loop [8] (fun i => ∃ k : Nat, k ≤ L.length ∧ i = .int .i64 k ∧ (L.take k).all (fun z => holdsM v.data.toList z.l) = true) (fun i => L.length - (intOf i).toNat)
      case atStart => exact ⟨0, Nat.zero_le _, rfl, rfl⟩
      case round =>
        obtain ⟨j, hj, rfl, hb⟩ := hrel
        have HB := Lib.hid hb
        have hl := HL.out
        clear hb
        by_cases hlt2 : j < L.length
        · obtain ⟨b, o, hA2, -, hc⟩ := AW.out.at hlt2
          have ZL := AW.out.each L[j] (List.getElem_mem hlt2)
          have HJ := Lib.hid (refholds_any v L[j].l L[j].A L[j].q WA hz ZL.fits ZL.len ZL.row)
          have HT := Lib.hid (all_take L (fun z => holdsM v.data.toList z.l) j hlt2)
          rw [HB.out, Bool.true_and] at HT
          have HNo := Lib.hid (fun h => all_not (p := fun z : Clz => holdsM v.data.toList z.l) hlt2 h)
          have hjz : (j : Int) < (L.length : Int) := by omega
          subst hA2
          clear ZL
          generalize L[j] = z at *
          cases hq : holdsM v.data.toList z.l with
          | true =>
            rw [hq] at HJ HT
            clear hq HNo
            go_wp2_with fail
            refine HJ.out.mono ?_
            rintro e w' ⟨rfl, rfl⟩
            go_wp2
            go_round
            case rel => exact ⟨j + 1, by omega, by go_num, HT.out⟩
            case measure => simp [intOf]; omega
          | false =>
            rw [hq] at HJ
            have HF9 : Hid (allowedM c (L.map Clz.l) v.data.toList = false) := by
              have := HNo.out hq
              unfold Hid allowedM
              rw [List.all_map, show (holdsM v.data.toList ∘ Clz.l) = (fun z : Clz => holdsM v.data.toList z.l) from rfl, this, Bool.and_false]
            clear hq HNo HT
            go_wp2_with fail
            refine HJ.out.mono ?_
            rintro e w' ⟨rfl, rfl⟩
            go_wp2
            go_ret
            exact ⟨by rw [HF9.out]; rfl, bA.out⟩
        · obtain rfl : j = L.length := by omega
          have HF9 : Hid (allowedM c (L.map Clz.l) v.data.toList = true) := by
            have := HB.out
            rw [List.take_length] at this
            unfold Hid allowedM
            rw [HA.out, List.all_map, show (holdsM v.data.toList ∘ Clz.l) = (fun z : Clz => holdsM v.data.toList z.l) from rfl, this]; rfl
          go_wp2
          go_ret
          exact ⟨by rw [HF9.out]; rfl, bA.out⟩
end Go.Proofs.Ytjlnffkieocihaa.Rep
namespace Go.Proofs.Ytjlnffkieocihaa.Tse
open Go.ChangeShapes Go.WideShapes Go.ChangeAt Go.RowKit Go.Maps Circ Cw Str Sim Rep Cla

/-- the error of a circuit and a base -/
def errT (c : Cir) (b : Int) : Int := if refOk c = false then 9 else if b < 0 then 4 else if 262144 < b then 4 else 0
def gListT (c : Cir) (b : Int) : List (List Int) := if errT c b = 0 then gatesT c b else []
def fListT (c : Cir) (L : List (List Int)) (b : Int) : List (List Int) := if errT c b = 0 then forceT c L b else []
theorem clz_lies {w : World} {B : Nat} {z : Clz} (h : z.Lies w B) : ILies w B z.A z.l := ⟨h.row, h.fits, h.len⟩
/-- the program's own Lit, Gates, Force answer as the pages say -/
structure Prog12 (N : Nat) : Prop where
  lit : ∀ (b l : Int) (w : World), I64 b → I64 l → Calls Try.prog 73 #[.int .i64 b, .int .i64 l] w fun e w' => e = .returned (.int .i64 (litT b l)) ∧ Below w.heap.size w w'
  gates : ∀ (c : Cir) (s : Places) (b : Int) (w : World), CLies w w.heap.size c s → CFits c s → I64 b →
    Calls Try.prog 35 #[cirV c s, .int .i64 b] w fun e w' => (∃ K A' q', e = .returned (.tuple #[.slice A' K.length q', .int .i64 (errT c b)]) ∧ ALies w' w'.heap.size A' K ∧ K.map Clz.l = gListT c b) ∧ Below w.heap.size w w'
  force : ∀ (c : Cir) (s : Places) (L : List Clz) (A : Option Addr) (q : Nat) (b : Int) (w : World), CLies w w.heap.size c s → CFits c s → ALies w w.heap.size A L → I64 b → L.length * 3 ≤ N → (∀ z ∈ L, z.l.length ≤ N) →
    Calls Try.prog 40 #[cirV c s, .slice A L.length q, .int .i64 b] w fun e w' => (∃ K A' q', e = .returned (.tuple #[.slice A' K.length q', .int .i64 (errT c b)]) ∧ ALies w' w'.heap.size A' K ∧ K.map Clz.l = fListT c (L.map Clz.l) b) ∧ Below w.heap.size w w'
theorem num_any (x : Int) (w : World) : Calls Try.prog 36 #[.int .i64 x] w fun e w' => e = .returned (.int .i64 x) ∧ w = w' := by
  go_enter Try.func36, Try.ntmps36
  go_wp2
  go_ret
  exact ⟨rfl, rfl⟩
theorem alive_any {N : Nat} (P : Prog12 N) (w : World) : Calls Try.prog 34 #[] w fun e w' => e = .returned (.bool true) ∧ Below w.heap.size w w' := by
  have L := Lib.hid (P.lit 10 5 w (by unfold I64; decide) (by unfold I64; decide))
  rw [show litT 10 5 = -13 by decide] at L
  go_enter Try.func34, Try.ntmps34
  go_wp2_with fail
  refine L.out.mono ?_
  rintro e w' ⟨rfl, hb⟩
  go_wp2
  go_ret
  exact ⟨rfl, hb⟩
theorem all_take {α : Type} (l : List α) (p : α → Bool) (k : Nat) (hk : k < l.length) : (l.take (k + 1)).all p = ((l.take k).all p && p l[k]) := by
  rw [List.take_succ_eq_append_getElem hk, List.all_append]; simp
end Go.Proofs.Ytjlnffkieocihaa.Tse
