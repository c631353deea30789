/- The mathematics of the program's own Norm: a list without zeros, sorted by the program's comparison, each number once, is the pages' list in order; of neighbours one is the other's opposite just where the clause is always true. No condition but that numbers fit. -/
import Derived.Test.YtoifogbfhlnlaaaPt05
import Derived.Lib.SlicesCompact
import Derived.Lib.Small
import Derived.Sort.Statements
namespace Go.Proofs.Ytoifogbfhlnlaaa.Cla
open Go.ChangeShapes Go.WideShapes Go.ChangeAt Go.RowKit Go.Maps Circ Cw
open Go.Lib (compareInt compact compactUpTo keeps compactUpTo_succ)

/-- a literal's variable, as the program's own function answers it -/
def varW (x : Int) : Int := if x < 0 then wrap64 (-x) else x
theorem varW_abs {x : Int} (h : I64 x) : varW x = absW x := by
  obtain ⟨h0, h1⟩ := h
  unfold varW absW negW wrap64
  split <;> split <;> (try split) <;> omega
theorem neg_wrap {x : Int} (h : I64 x) : wrap64 (-x) = negW x := by
  obtain ⟨h0, h1⟩ := h
  unfold negW wrap64
  split <;> omega
/-- the program's comparison of two numbers -/
def cfM (x y : Int) : Int := if compareInt (varW x) (varW y) = 0 then compareInt x y else compareInt (varW x) (varW y)
def lt2 (x y : Int) : Prop := varW x < varW y ∨ (varW x = varW y ∧ x < y)
theorem cf_lt (x y : Int) : decide (cfM x y < 0) = true ↔ lt2 x y := by
  rw [decide_eq_true_eq]
  unfold cfM lt2 compareInt
  generalize varW x = a
  generalize varW y = b
  by_cases h1 : a < b
  · simp [h1]
  · by_cases h2 : b < a
    · have : ¬ a = b := by omega
      simp [h1, h2, this]
    · have h3 : a = b := by omega
      subst h3
      by_cases h4 : x < y
      · simp [h4]
      · by_cases h5 : y < x <;> simp [h4, h5]
theorem cf_not (x y : Int) : decide (cfM x y < 0) = false ↔ ¬ lt2 x y := by
  rw [← cf_lt]; simp
theorem lt2_irrefl (x : Int) : ¬ lt2 x x := by unfold lt2; omega
theorem lt2_trans {x y z : Int} (h : lt2 x y) (k : lt2 y z) : lt2 x z := by unfold lt2 at *; omega
theorem lt2_ntrans {x y z : Int} (h : ¬ lt2 x y) (k : ¬ lt2 y z) : ¬ lt2 x z := by unfold lt2 at *; omega
theorem lt2_total {x y : Int} (h : ¬ lt2 x y) (k : ¬ lt2 y x) : x = y := by unfold lt2 at *; omega
theorem lt2_iff {x y : Int} (hx : I64 x) (hy : I64 y) : lt2 x y ↔ lt x y := by
  unfold lt2 lt; rw [varW_abs hx, varW_abs hy]
/-- what is kept of a sorted list, each once, is strictly in order and has the same members -/
theorem compact_facts (s : List Int) (hs : s.Pairwise fun x y => ¬ lt2 y x) : (Go.Lib.compact s).Pairwise lt2 ∧ ∀ z, z ∈ Go.Lib.compact s ↔ z ∈ s := by
  have key : ∀ m, m ≤ s.length → (compactUpTo s.toArray m).Pairwise lt2 ∧ (∀ z, z ∈ compactUpTo s.toArray m ↔ z ∈ s.take m) ∧ ∀ (h : 0 < m) (hm : m - 1 < s.length), ∀ e ∈ compactUpTo s.toArray m, e = s[m - 1] ∨ lt2 e s[m - 1] := by
    intro m
    induction m with
    | zero => intro _; refine ⟨by simp [compactUpTo], by simp [compactUpTo], fun h => absurd h (by omega)⟩
    | succ m ih =>
      intro hm
      obtain ⟨h1, h2, h3⟩ := ih (by omega)
      have hlt : m < s.length := by omega
      have hg : s.toArray[m]! = s[m] := by simp [hlt]
      rw [compactUpTo_succ, hg]
      have hst : s.take (m + 1) = s.take m ++ [s[m]] := List.take_succ_eq_append_getElem hlt
      by_cases hz : m = 0
      · subst hz
        have hk : keeps s.toArray 0 = true := by simp [keeps]
        have h0 : compactUpTo s.toArray 0 = [] := by simp [compactUpTo]
        rw [if_pos hk, h0, hst]
        simp
      · have hp : m - 1 < s.length := by omega
        have hle : ¬ lt2 s[m] s[m - 1] := List.pairwise_iff_getElem.1 hs (m - 1) m hp hlt (by omega)
        have hkk : keeps s.toArray m = decide (s[m] ≠ s[m - 1]) := by
          have e1 : s.toArray[m]! = s[m] := by simp [hlt]
          have e2 : s.toArray[m - 1]! = s[m - 1] := by simp [hp]
          unfold keeps
          rw [e1, e2]
          simp [hz]
        have h3' := h3 (by omega) hp
        by_cases he : s[m] = s[m - 1]
        · have hk : keeps s.toArray m = false := by rw [hkk, decide_eq_false]; simpa using he
          rw [if_neg (by simp [hk]), List.append_nil]
          refine ⟨h1, fun z => ?_, fun _ _ e hem => ?_⟩
          · rw [h2 z, hst, List.mem_append, List.mem_singleton]
            refine ⟨.inl, fun h => h.elim id fun h => ?_⟩
            rw [h, he]
            exact List.mem_take_iff_getElem.2 ⟨m - 1, by omega, rfl⟩
          · have := h3' e hem
            simp only [Nat.add_sub_cancel]
            rw [he]; exact this
        · have hk : keeps s.toArray m = true := by rw [hkk, decide_eq_true]; exact he
          rw [if_pos hk]
          have hlt2 : ∀ e ∈ compactUpTo s.toArray m, lt2 e s[m] := fun e hem => by
            have hpm : lt2 s[m - 1] s[m] := by
              by_cases h : lt2 s[m - 1] s[m]
              · exact h
              · exact absurd (lt2_total hle h) he
            rcases h3' e hem with h | h
            · rw [h]; exact hpm
            · exact lt2_trans h hpm
          refine ⟨?_, fun z => ?_, fun _ _ e hem => ?_⟩
          · rw [List.pairwise_append]
            exact ⟨h1, by simp, fun a ha b hb => by rw [List.mem_singleton.1 hb]; exact hlt2 a ha⟩
          · rw [List.mem_append, h2 z, hst, List.mem_append]
          · simp only [Nat.add_sub_cancel]
            rcases List.mem_append.1 hem with h | h
            · exact .inr (hlt2 e h)
            · exact .inl (List.mem_singleton.1 h)
  obtain ⟨h1, h2, -⟩ := key s.length (Nat.le_refl _)
  refine ⟨h1, fun z => ?_⟩
  have := h2 z
  rw [List.take_length] at this
  exact this
/-- sorted by the program's comparison, each once, without zeros: the pages' list in order -/
theorem sorted_norm_eq (a : List Int) (ha : ∀ x ∈ a, I64 x) : Go.Lib.compact ((a.filter fun x => decide (x ≠ 0)).mergeSort fun x y => !decide (cfM y x < 0)) = normM a := by
  have hp : ((a.filter fun x => decide (x ≠ 0)).mergeSort fun x y => !decide (cfM y x < 0)).Perm (a.filter fun x => decide (x ≠ 0)) := List.mergeSort_perm _ _
  have hs : ((a.filter fun x => decide (x ≠ 0)).mergeSort fun x y => !decide (cfM y x < 0)).Pairwise fun x y => ¬ lt2 y x := by
    have := List.pairwise_mergeSort (le := fun x y => !decide (cfM y x < 0)) (fun x y z h1 h2 => by
      simp only [Bool.not_eq_true', cf_not] at *
      exact lt2_ntrans h2 h1) (fun x y => by
      simp only [Bool.or_eq_true, Bool.not_eq_true', cf_not]
      by_cases h : lt2 y x
      · right; intro h2; exact lt2_irrefl _ (lt2_trans h h2)
      · exact .inl h) (a.filter fun x => decide (x ≠ 0))
    refine this.imp fun {x y} h => ?_
    simpa only [Bool.not_eq_true', cf_not] using h
  obtain ⟨h1, h2⟩ := compact_facts _ hs
  have hm : ∀ z, z ∈ Go.Lib.compact ((a.filter fun x => decide (x ≠ 0)).mergeSort fun x y => !decide (cfM y x < 0)) ↔ z ∈ a ∧ z ≠ 0 := fun z => by
    rw [h2 z, hp.mem_iff, List.mem_filter, decide_eq_true_eq]
  refine sorted_unique _ _ ?_ (sorted_norm a) (fun z => by rw [hm, mem_norm])
  refine List.Pairwise.imp_of_mem (R := lt2) (fun {x y} hx hy h => ?_) h1
  exact (lt2_iff (ha x ((hm x).1 hx).1) (ha y ((hm y).1 hy).1)).1 h
theorem norm_fits {a : List Int} (ha : ∀ x ∈ a, I64 x) : ∀ x ∈ normM a, I64 x := fun x hx => ha x ((mem_norm a x).1 hx).1
/-- two neighbours that are opposites: always true -/
theorem always_yes {a : List Int} (ha : ∀ x ∈ a, I64 x) (k : Nat) (h : k + 1 < (normM a).length) (he : (normM a)[k] = wrap64 (-(normM a)[k + 1])) : alwaysM a = true := by
  have h1 : (normM a)[k] ∈ normM a := List.getElem_mem _
  have h2 : (normM a)[k + 1] ∈ normM a := List.getElem_mem _
  have hlt : lt (normM a)[k] (normM a)[k + 1] := List.pairwise_iff_getElem.1 (sorted_norm a) k (k + 1) (by omega) h (by omega)
  have hf := norm_fits ha _ h2
  rw [neg_wrap hf] at he
  have hb := hf.1
  have hb2 := hf.2
  have hne : (normM a)[k + 1] ≠ -9223372036854775808 := fun e => by
    rw [e] at he hlt
    rw [he] at hlt
    exact lt_irrefl _ (by simpa [negW] using hlt)
  have hz : (normM a)[k + 1] ≠ 0 := ((mem_norm a _).1 h2).2
  have he2 : (normM a)[k] = -(normM a)[k + 1] := by rw [he]; unfold negW; rw [if_neg hne]
  rw [always_iff]
  rw [he2] at h1 hlt
  refine ⟨(normM a)[k + 1], ((mem_norm a _).1 h2).1, ?_, ((mem_norm a _).1 h1).1⟩
  revert hlt hz hb hb2 hne
  generalize (normM a)[k + 1] = x
  intro hlt hz hb hb2 hne
  unfold lt absW negW at hlt
  by_cases hx : 0 < x
  · exact hx
  · exfalso
    revert hlt
    split <;> split <;> (try split) <;> (try split) <;> omega
/-- no two neighbours that are opposites: not always true -/
theorem always_no {a : List Int} (ha : ∀ x ∈ a, I64 x) (h : ∀ (k : Nat) (hk : k + 1 < (normM a).length), (normM a)[k] ≠ wrap64 (-(normM a)[k + 1])) : alwaysM a = false := by
  rw [← Bool.not_eq_true, ← always_norm, always_iff]
  rintro ⟨x, hx, h0, hn⟩
  obtain ⟨j, hj, ej⟩ := List.getElem_of_mem hx
  obtain ⟨i, hi, ei⟩ := List.getElem_of_mem hn
  have hS := List.pairwise_iff_getElem.1 (sorted_norm a)
  have hfx := norm_fits ha x hx
  have hlt : lt (-x) x := by
    obtain ⟨-, hb⟩ := hfx
    unfold lt absW negW
    split <;> split <;> (try split) <;> (try split) <;> omega
  have hij : i < j := by
    rcases Nat.lt_trichotomy i j with h1 | h1 | h1
    · exact h1
    · subst h1; rw [ei] at ej; omega
    · have := hS j i hj hi h1
      rw [ej, ei] at this
      exact absurd (lt_trans hlt this) (lt_irrefl _)
  have hnext : i + 1 = j := by
    by_cases hne : i + 1 = j
    · exact hne
    · exfalso
      have hij' : i + 1 < j := by omega
      have a1 := hS i (i + 1) hi (by omega) (by omega)
      have a2 := hS (i + 1) j (by omega) hj hij'
      rw [ei] at a1
      rw [ej] at a2
      have hfz := norm_fits ha _ (List.getElem_mem (l := normM a) (n := i + 1) (by omega))
      revert a1 a2 hfz
      generalize (normM a)[i + 1] = z
      intro a1 a2 hfz
      obtain ⟨hz0, hz1⟩ := hfz
      obtain ⟨-, hb⟩ := hfx
      unfold lt absW negW at a1 a2
      revert a1 a2
      repeat' split
      all_goals omega
  subst hnext
  refine h i hj ?_
  rw [ei, ej]
  obtain ⟨-, hb⟩ := hfx
  unfold wrap64
  omega
end Go.Proofs.Ytoifogbfhlnlaaa.Cla
