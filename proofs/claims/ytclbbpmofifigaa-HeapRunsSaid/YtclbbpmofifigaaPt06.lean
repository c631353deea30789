/- The landed heap's order and places, as lists: order with a number at place 0 that is none; what swapping, putting in, taking out and raising leave; no program is named here; no condition. -/
import Derived.Test.YtclbbpmofifigaaPt04
import Derived.Test.YtclbbpmofifigaaPt05
namespace Go.Proofs.Ytclbbpmofifigaa.Hep
open Circ Cw Cla

theorem at0_set (h : List Int) (i : Nat) (v : Int) (k : Nat) : at0 (h.set i v) k = if i = k ∧ i < h.length then v else at0 h k := by
  unfold at0
  rw [List.getD_eq_getElem?_getD, List.getElem?_set, List.getD_eq_getElem?_getD]
  by_cases h1 : i = k
  · subst h1
    by_cases h2 : i < h.length
    · rw [if_pos rfl, if_pos h2, if_pos ⟨rfl, h2⟩]; rfl
    · rw [if_pos rfl, if_neg h2, if_neg (fun e => h2 e.2), List.getElem?_eq_none (by omega)]
  · rw [if_neg h1, if_neg (fun e => h1 e.1)]
theorem at0_app (h t : List Int) (k : Nat) : at0 (h ++ t) k = if k < h.length then at0 h k else at0 t (k - h.length) := by
  unfold at0
  rw [List.getD_eq_getElem?_getD]
  by_cases h1 : k < h.length
  · rw [if_pos h1, List.getElem?_append_left h1, List.getD_eq_getElem?_getD]
  · rw [if_neg h1, List.getElem?_append_right (by omega), List.getD_eq_getElem?_getD]
theorem at0_take (h : List Int) (n k : Nat) : at0 (h.take n) k = if k < n then at0 h k else 0 := by
  unfold at0
  rw [List.getD_eq_getElem?_getD, List.getElem?_take]
  by_cases h1 : k < n
  · rw [if_pos h1, if_pos h1, List.getD_eq_getElem?_getD]
  · rw [if_neg h1, if_neg h1]; rfl
theorem at0_zeros (n k : Nat) : at0 (List.replicate n 0) k = 0 := by
  unfold at0
  rw [List.getD_eq_getElem?_getD, List.getElem?_replicate]
  split <;> rfl
/-- order and places agree: what is in has its place, what has a place is there -/
structure Good (n : Nat) (pl od : List Int) : Prop where
  z : ∃ h, od = 0 :: h
  len : pl.length = n
  num : ∀ i, 0 < i → i < od.length → 0 ≤ at0 od i ∧ at0 od i < (n : Int) ∧ at0 pl (at0 od i).toNat = (i : Int)
  plc : ∀ x, x < n → 0 ≤ at0 pl x ∧ (0 < at0 pl x → at0 pl x < (od.length : Int) ∧ at0 od (at0 pl x).toNat = (x : Int))
section
variable {n : Nat} {pl od : List Int}
theorem Good.one (g : Good n pl od) {i j : Nat} (hi : 0 < i) (il : i < od.length) (hj : 0 < j) (jl : j < od.length) (e : at0 od i = at0 od j) : i = j := by
  have h1 := (g.num i hi il).2.2
  have h2 := (g.num j hj jl).2.2
  rw [e] at h1
  omega
theorem Good.swap (g : Good n pl od) {a b : Nat} (ha : 0 < a) (al : a < od.length) (hb : 0 < b) (bl : b < od.length) : Good n ((pl.set (at0 od b).toNat a).set (at0 od a).toNat b) (swapL od a b) := by
  obtain ⟨x0, x1, x2⟩ := g.num a ha al
  obtain ⟨y0, y1, y2⟩ := g.num b hb bl
  have at' := fun k => swap_at (h := od) al bl k
  have hl := g.len
  have pl' : ∀ z : Nat, z < n → at0 ((pl.set (at0 od b).toNat a).set (at0 od a).toNat b) z = if (z : Int) = at0 od a then (b : Int) else if (z : Int) = at0 od b then (a : Int) else at0 pl z := fun z hz => by
    rw [at0_set, at0_set, List.length_set]
    by_cases e1 : (z : Int) = at0 od a
    · rw [if_pos (by omega), if_pos e1]
    · rw [if_neg (by omega), if_neg e1]
      by_cases e2 : (z : Int) = at0 od b
      · rw [if_pos (by omega), if_pos e2]
      · rw [if_neg (by omega), if_neg e2]
  refine ⟨?_, by rw [List.length_set, List.length_set]; exact g.len, fun i hi il => ?_, fun z hz => ?_⟩
  · obtain ⟨h, rfl⟩ := g.z
    obtain ⟨a, rfl⟩ : ∃ k, a = k + 1 := ⟨a - 1, by omega⟩
    obtain ⟨b, rfl⟩ : ∃ k, b = k + 1 := ⟨b - 1, by omega⟩
    exact ⟨_, rfl⟩
  · rw [swap_len] at il
    rw [at' i]
    by_cases e1 : i = b
    · rw [if_pos e1, pl' _ (by omega), if_pos (by omega)]
      exact ⟨x0, x1, by omega⟩
    · rw [if_neg e1]
      by_cases e2 : i = a
      · rw [if_pos e2, pl' _ (by omega), if_neg (fun e => e1 (by
          have := g.one hb bl ha al (by omega)
          omega)), if_pos (by omega)]
        exact ⟨y0, y1, by omega⟩
      · rw [if_neg e2]
        obtain ⟨z0, z1, z2⟩ := g.num i hi il
        rw [pl' _ (by omega), if_neg (fun e => e2 (g.one hi il ha al (by omega))), if_neg (fun e => e1 (g.one hi il hb bl (by omega)))]
        exact ⟨z0, z1, z2⟩
  · rw [pl' z hz, swap_len]
    by_cases e1 : (z : Int) = at0 od a
    · rw [if_pos e1]
      refine ⟨by omega, fun _ => ⟨by omega, ?_⟩⟩
      rw [Int.toNat_natCast, at' b, if_pos rfl, e1]
    · rw [if_neg e1]
      by_cases e2 : (z : Int) = at0 od b
      · rw [if_pos e2]
        refine ⟨by omega, fun _ => ⟨by omega, ?_⟩⟩
        rw [Int.toNat_natCast, at' a, if_neg (fun e => e1 (by rw [e2, e])), if_pos rfl, e2]
      · rw [if_neg e2]
        obtain ⟨q0, q1⟩ := g.plc z hz
        refine ⟨q0, fun hp => ?_⟩
        obtain ⟨q2, q3⟩ := q1 hp
        refine ⟨q2, ?_⟩
        rw [at' _, if_neg (fun e => e2 (by rw [← q3, e])), if_neg (fun e => e1 (by rw [← q3, e]))]
        exact q3
theorem Good.push (g : Good n pl od) {x : Nat} (hx : x < n) (h0 : at0 pl x = 0) : Good n (pl.set x (od.length : Int)) (od ++ [(x : Int)]) := by
  have hl := g.len
  have hz : 0 < od.length := by obtain ⟨h, e⟩ := g.z; rw [e]; simp
  refine ⟨by obtain ⟨h, rfl⟩ := g.z; exact ⟨h ++ [(x : Int)], rfl⟩, by rw [List.length_set]; exact hl, fun i hi il => ?_, fun z hzn => ?_⟩
  · rw [List.length_append, List.length_singleton] at il
    rw [at0_app]
    by_cases e : i < od.length
    · rw [if_pos e]
      obtain ⟨q0, q1, q2⟩ := g.num i hi e
      refine ⟨q0, q1, ?_⟩
      rw [at0_set, if_neg (fun e2 => by rw [← e2.1, h0] at q2; omega)]
      exact q2
    · rw [if_neg e, show i - od.length = 0 by omega]
      show 0 ≤ (x : Int) ∧ (x : Int) < n ∧ at0 _ (x : Int).toNat = _
      rw [Int.toNat_natCast, at0_set, if_pos ⟨rfl, by omega⟩]
      exact ⟨by omega, by omega, by omega⟩
  · rw [at0_set, List.length_append, List.length_singleton]
    by_cases e : x = z
    · rw [if_pos ⟨e, by omega⟩]
      refine ⟨by omega, fun _ => ⟨by omega, ?_⟩⟩
      rw [Int.toNat_natCast, at0_app, if_neg (by omega), show od.length - od.length = 0 by omega, ← e]
      rfl
    · rw [if_neg (fun e2 => e e2.1)]
      obtain ⟨q0, q1⟩ := g.plc z hzn
      refine ⟨q0, fun hp => ?_⟩
      obtain ⟨q2, q3⟩ := q1 hp
      refine ⟨by omega, ?_⟩
      rw [at0_app, if_pos (by omega)]
      exact q3
/-- the last one taken off -/
theorem Good.cut (g : Good n pl od) {m : Nat} (hm : od.length = m + 1) (h1 : 0 < m) : Good n (pl.set (at0 od m).toNat 0) (od.take m) := by
  have hl := g.len
  obtain ⟨x0, x1, x2⟩ := g.num m h1 (by omega)
  have tl : (od.take m).length = m := by rw [List.length_take]; omega
  refine ⟨?_, by rw [List.length_set]; exact hl, fun i hi il => ?_, fun z hzn => ?_⟩
  · obtain ⟨h, rfl⟩ := g.z
    obtain ⟨k, rfl⟩ : ∃ k, m = k + 1 := ⟨m - 1, by omega⟩
    exact ⟨h.take k, rfl⟩
  · rw [tl] at il
    rw [at0_take, if_pos il]
    obtain ⟨q0, q1, q2⟩ := g.num i hi (by omega)
    refine ⟨q0, q1, ?_⟩
    rw [at0_set, if_neg (fun e => by
      have := g.one hi (by omega) h1 (by omega) (show at0 od i = at0 od m by omega)
      omega)]
    exact q2
  · rw [at0_set, tl]
    by_cases e : (at0 od m).toNat = z
    · rw [if_pos ⟨e, by omega⟩]
      exact ⟨by omega, fun h => by omega⟩
    · rw [if_neg (fun e2 => e e2.1)]
      obtain ⟨q0, q1⟩ := g.plc z hzn
      refine ⟨q0, fun hp => ?_⟩
      obtain ⟨q2, q3⟩ := q1 hp
      have hne : (at0 pl z).toNat ≠ m := fun e2 => e (by rw [← e2, q3]; omega)
      refine ⟨by omega, ?_⟩
      rw [at0_take, if_pos (by omega)]
      exact q3
theorem Good.grow (g : Good n pl od) (k : Nat) : Good (n + k) (pl ++ List.replicate k 0) od := by
  have hl := g.len
  refine ⟨g.z, by rw [List.length_append, List.length_replicate, hl], fun i hi il => ?_, fun z hzn => ?_⟩
  · obtain ⟨q0, q1, q2⟩ := g.num i hi il
    rw [at0_app, if_pos (by omega)]
    exact ⟨q0, by omega, q2⟩
  · rw [at0_app]
    by_cases e : z < pl.length
    · rw [if_pos e]
      exact g.plc z (by omega)
    · rw [if_neg e, at0_zeros]
      exact ⟨by decide, fun h => by omega⟩
theorem Good.start (n : Nat) : Good n (List.replicate n 0) [0] := ⟨⟨[], rfl⟩, List.length_replicate, fun i hi il => by simp at il; omega, fun x _ => by rw [at0_zeros]; exact ⟨by decide, fun h => by omega⟩⟩
theorem pigeons : ∀ (n : Nat) (l : List Int), l.Nodup → (∀ x ∈ l, 0 ≤ x ∧ x < (n : Int)) → l.length ≤ n
  | 0, l, _, h => by
    rcases l with _ | ⟨x, l⟩
    · exact Nat.le_refl _
    · have := h x List.mem_cons_self
      omega
  | n + 1, l, d, h => by
    by_cases hm : (n : Int) ∈ l
    · have h1 := List.length_erase_of_mem hm
      have h2 := pigeons n (l.erase (n : Int)) (d.erase _) fun x hx => by
        have hx2 := (d.mem_erase_iff).1 hx
        have := h x hx2.2
        have := hx2.1
        omega
      omega
    · have := pigeons n l d fun x hx => by
        have h3 := h x hx
        have h4 : x ≠ (n : Int) := fun e => hm (e ▸ hx)
        omega
      omega
theorem Good.nodup {h : List Int} (g : Good n pl (0 :: h)) : h.Nodup := by
  unfold List.Nodup
  rw [List.pairwise_iff_getElem]
  intro i j hi hj hij e2
  have := g.one (i := i + 1) (j := j + 1) (by omega) (by simp; omega) (by omega) (by simp; omega) (by
    show at0 h i = at0 h j
    rw [at0_get hi, at0_get hj, e2])
  omega
theorem Good.range {h : List Int} (g : Good n pl (0 :: h)) : ∀ x ∈ h, 0 ≤ x ∧ x < (n : Int) := fun x hx => by
  obtain ⟨i, hi, rfl⟩ := List.getElem_of_mem hx
  have := g.num (i + 1) (by omega) (by simp; omega)
  rw [show at0 (0 :: h) (i + 1) = at0 h i from rfl, at0_get hi] at this
  exact ⟨this.1, this.2.1⟩
theorem Good.few (g : Good n pl od) : od.length ≤ n + 1 := by
  obtain ⟨h, rfl⟩ := g.z
  have := pigeons n h g.nodup g.range
  simp; omega
theorem Good.has {h : List Int} (g : Good n pl (0 :: h)) {x : Nat} (hx : x < n) : decide (0 < at0 pl x) = hasM h (x : Int) := by
  obtain ⟨q0, q1⟩ := g.plc x hx
  unfold hasM
  rw [Bool.eq_iff_iff, List.any_eq_true]
  simp only [decide_eq_true_eq, beq_iff_eq]
  constructor
  · intro hp
    obtain ⟨q2, q3⟩ := q1 hp
    obtain ⟨k, hk⟩ : ∃ k, (at0 pl x).toNat = k + 1 := ⟨(at0 pl x).toNat - 1, by omega⟩
    rw [hk] at q3
    have hkl : k < h.length := by simp at q2; omega
    exact ⟨(x : Int), by rw [← q3, show at0 (0 :: h) (k + 1) = at0 h k from rfl, at0_get hkl]; exact List.getElem_mem hkl, rfl⟩
  · rintro ⟨y, hy, rfl⟩
    obtain ⟨i, hi, e⟩ := List.getElem_of_mem hy
    have := (g.num (i + 1) (by omega) (by simp; omega)).2.2
    rw [show at0 (0 :: h) (i + 1) = at0 h i from rfl, at0_get hi, e, Int.toNat_natCast] at this
    omega
end
/-- the place above with which a place must be swapped; 0: none -/
def upM (sc od : List Int) (a : Nat) : Nat := if 0 < a / 2 ∧ bet sc (at0 od a) (at0 od (a / 2)) then a / 2 else 0
/-- the better one of a place and one below it -/
def belM (sc od : List Int) (b best : Nat) : Nat := if b < od.length ∧ bet sc (at0 od b) (at0 od best) then b else best
def down2 (sc od : List Int) (a : Nat) : Nat := belM sc od (2 * a + 1) (belM sc od (2 * a) a)
/-- the place below with which a place must be swapped; 0: none -/
def downM (sc od : List Int) (a : Nat) : Nat := if down2 sc od a = a then 0 else down2 sc od a
theorem up_step {sc h : List Int} {a : Nat} (ha : 0 < a) (al : a < h.length + 1) (u : Up sc h (a - 1)) (hs : upM sc (0 :: h) a ≠ 0) :
    upM sc (0 :: h) a = a / 2 ∧ 0 < a / 2 ∧ Up sc (swapL h (a - 1) (a / 2 - 1)) (a / 2 - 1) := by
  unfold upM at *
  by_cases c : 0 < a / 2 ∧ bet sc (at0 (0 :: h) a) (at0 (0 :: h) (a / 2))
  · rw [if_pos c]
    obtain ⟨c0, c1⟩ := c
    refine ⟨rfl, c0, ?_⟩
    have e : par (a - 1) = a / 2 - 1 := by unfold par; omega
    rw [← e]
    refine u.swap (by omega) (by omega) ?_
    rw [e]
    obtain ⟨k, rfl⟩ : ∃ k, a = k + 1 := ⟨a - 1, by omega⟩
    obtain ⟨j, hj⟩ : ∃ j, (k + 1) / 2 = j + 1 := ⟨(k + 1) / 2 - 1, by omega⟩
    rw [hj] at c1 ⊢
    exact c1
  · rw [if_neg c] at hs
    exact absurd rfl hs
theorem up_end {sc h : List Int} {a : Nat} (ha : 0 < a) (u : Up sc h (a - 1)) (hs : upM sc (0 :: h) a = 0) : Ord sc h := by
  unfold upM at hs
  by_cases c : 0 < a / 2 ∧ bet sc (at0 (0 :: h) a) (at0 (0 :: h) (a / 2))
  · rw [if_pos c] at hs
    omega
  · refine u.done ?_
    by_cases c0 : 0 < a / 2
    · refine .inr fun hb => c ⟨c0, ?_⟩
      rw [show par (a - 1) = a / 2 - 1 by unfold par; omega] at hb
      obtain ⟨k, rfl⟩ : ∃ k, a = k + 1 := ⟨a - 1, by omega⟩
      obtain ⟨j, hj⟩ : ∃ j, (k + 1) / 2 = j + 1 := ⟨(k + 1) / 2 - 1, by omega⟩
      rw [hj] at hb ⊢
      exact hb
    · exact .inl (by omega)
theorem bel_cases (sc od : List Int) (b best : Nat) : (belM sc od b best = b ∧ b < od.length ∧ bet sc (at0 od b) (at0 od best)) ∨ (belM sc od b best = best ∧ (b < od.length → ¬ bet sc (at0 od b) (at0 od best))) := by
  unfold belM
  by_cases c : b < od.length ∧ bet sc (at0 od b) (at0 od best)
  · exact .inl ⟨if_pos c, c.1, c.2⟩
  · exact .inr ⟨if_neg c, fun h1 h2 => c ⟨h1, h2⟩⟩
theorem bet_not_self (sc : List Int) (x : Int) : ¬ bet sc x x := by unfold bet; omega
/-- of a place and the two below it the best -/
theorem down2_is (sc od : List Int) (a : Nat) : (down2 sc od a = a ∨ ((down2 sc od a = 2 * a ∨ down2 sc od a = 2 * a + 1) ∧ down2 sc od a < od.length ∧ bet sc (at0 od (down2 sc od a)) (at0 od a))) ∧ (2 * a < od.length → ¬ bet sc (at0 od (2 * a)) (at0 od (down2 sc od a))) ∧ (2 * a + 1 < od.length → ¬ bet sc (at0 od (2 * a + 1)) (at0 od (down2 sc od a))) := by
  unfold down2
  rcases bel_cases sc od (2 * a) a with ⟨e1, l1, b1⟩ | ⟨e1, n1⟩
  · rw [e1]
    rcases bel_cases sc od (2 * a + 1) (2 * a) with ⟨e2, l2, b2⟩ | ⟨e2, n2⟩
    · rw [e2]
      refine ⟨.inr ⟨.inr rfl, l2, ?_⟩, fun _ => bet_asym b2, fun _ => bet_not_self _ _⟩
      unfold bet at *
      omega
    · rw [e2]
      exact ⟨.inr ⟨.inl rfl, l1, b1⟩, fun _ => bet_not_self _ _, n2⟩
  · rw [e1]
    rcases bel_cases sc od (2 * a + 1) a with ⟨e2, l2, b2⟩ | ⟨e2, n2⟩
    · rw [e2]
      refine ⟨.inr ⟨.inr rfl, l2, b2⟩, fun h hb => ?_, fun _ => bet_not_self _ _⟩
      have := n1 h
      unfold bet at *
      omega
    · rw [e2]
      exact ⟨.inl rfl, n1, n2⟩
theorem down_step {sc h : List Int} {a : Nat} (ha : 0 < a) (d : Down sc h (a - 1)) (hs : downM sc (0 :: h) a ≠ 0) :
    downM sc (0 :: h) a = down2 sc (0 :: h) a ∧ a < down2 sc (0 :: h) a ∧ down2 sc (0 :: h) a < h.length + 1 ∧ Down sc (swapL h (a - 1) (down2 sc (0 :: h) a - 1)) (down2 sc (0 :: h) a - 1) := by
  unfold downM at *
  obtain ⟨h1, h2, h3⟩ := down2_is sc (0 :: h) a
  generalize down2 sc (0 :: h) a = c at *
  rcases h1 with h1 | ⟨h1, hl, hb⟩
  · rw [if_pos h1] at hs
    exact absurd rfl hs
  · rw [List.length_cons] at hl h2 h3
    rw [if_neg (by omega)]
    obtain ⟨k, rfl⟩ : ∃ k, a = k + 1 := ⟨a - 1, by omega⟩
    obtain ⟨e, rfl⟩ : ∃ e, c = e + 1 := ⟨c - 1, by omega⟩
    refine ⟨rfl, by omega, hl, ?_⟩
    show Down sc (swapL h k e) e
    refine d.swap (by omega) (by omega) (by unfold par; omega) (fun j j0 jl jp => ?_) hb
    have jp' : par j = k := jp
    unfold par at jp'
    rcases (show j + 1 = 2 * (k + 1) ∨ j + 1 = 2 * (k + 1) + 1 by omega) with e2 | e2
    · have := h2 (by omega)
      rw [← e2] at this
      exact this
    · have := h3 (by omega)
      rw [← e2] at this
      exact this
theorem down_end {sc h : List Int} {a : Nat} (ha : 0 < a) (d : Down sc h (a - 1)) (hs : downM sc (0 :: h) a = 0) : Ord sc h := by
  unfold downM at hs
  obtain ⟨h1, h2, h3⟩ := down2_is sc (0 :: h) a
  generalize down2 sc (0 :: h) a = c at *
  by_cases e : c = a
  · subst e
    refine d.done fun j j0 jl jp => ?_
    obtain ⟨k, rfl⟩ : ∃ k, c = k + 1 := ⟨c - 1, by omega⟩
    have jp' : par j = k := jp
    unfold par at jp'
    rw [List.length_cons] at h2 h3
    show ¬ bet sc (at0 h j) (at0 h k)
    rcases (show j + 1 = 2 * (k + 1) ∨ j + 1 = 2 * (k + 1) + 1 by omega) with e2 | e2
    · have := h2 (by omega)
      rw [← e2] at this
      exact this
    · have := h3 (by omega)
      rw [← e2] at this
      exact this
  · rw [if_neg e] at hs
    omega
theorem swap_cons (z : Int) (h : List Int) (i j : Nat) : swapL (z :: h) (i + 1) (j + 1) = z :: swapL h i j := rfl
/-- order is told by scores of what is in alone -/
theorem Ord.same {sc sc' h : List Int} (o : Ord sc h) (hs : ∀ j, j < h.length → scoreM sc' (at0 h j) = scoreM sc (at0 h j)) : Ord sc' h := fun j j0 jl => by
  have h1 := o j j0 jl
  have h2 := hs j jl
  have h3 := hs (par j) (by have := par_lt j0; omega)
  unfold bet at *
  omega
theorem score_set {sc : List Int} {x : Nat} {v : Int} (hx : x < sc.length) (y : Int) (hy : 0 ≤ y) : scoreM (sc.set x v) y = if y = (x : Int) then v else scoreM sc y := by
  show at0 (sc.set x v) y.toNat = _
  rw [at0_set]
  by_cases e : y = (x : Int)
  · rw [if_pos ⟨by omega, hx⟩, if_pos e]
  · rw [if_neg (fun e2 => e (by omega)), if_neg e]; rfl
end Go.Proofs.Ytclbbpmofifigaa.Hep
