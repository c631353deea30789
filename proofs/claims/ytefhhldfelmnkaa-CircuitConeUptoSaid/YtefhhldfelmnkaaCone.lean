/- What literals hang on within one step, purely: which variables there are, and that a rising list of them is one. No program is named here. -/
import Derived.Test.YtefhhldfelmnkaaLits
namespace Go.Proofs.Ytefhhldfelmnkaa.Cw
open Circ

/-- the first gate of a variable -/
def andOf (ands : List Tri) (v : Int) : Option Tri := ands.find? fun t => decide (cnt t.a / 2 = v)
theorem andOf_mem {ands : List Tri} {v : Int} {t : Tri} (h : andOf ands v = some t) : t ∈ ands := List.mem_of_find?_eq_some h
theorem andOf_snoc (ands : List Tri) (k : Nat) (hk : k < ands.length) (v : Int) :
    andOf (ands.take (k + 1)) v = (andOf (ands.take k) v).or (if cnt ands[k].a / 2 = v then some ands[k] else none) := by
  unfold andOf
  rw [List.take_succ_eq_append_getElem hk, List.find?_append]
  congr 1
  by_cases e : cnt ands[k].a / 2 = v
  · simp [e]
  · simp [e]

/-- the variables that the literals hang on -/
inductive Hangs (ands : List Tri) (l : List Int) : Int → Prop
  | start (x : Int) : x ∈ l → cnt x / 2 ≠ 0 → Hangs ands l (cnt x / 2)
  | left (v : Int) (t : Tri) : Hangs ands l v → andOf ands v = some t → cnt t.b / 2 ≠ 0 → Hangs ands l (cnt t.b / 2)
  | right (v : Int) (t : Tri) : Hangs ands l v → andOf ands v = some t → cnt t.c / 2 ≠ 0 → Hangs ands l (cnt t.c / 2)

/-- one more variable, if it is not there -/
def put (T : List Int) (x : Int) : List Int := if T.contains (cnt x / 2) || decide (cnt x / 2 = 0) then T else T ++ [cnt x / 2]
theorem mem_put (T : List Int) (x v : Int) : v ∈ put T x ↔ v ∈ T ∨ (v = cnt x / 2 ∧ v ≠ 0) := by
  unfold put
  split
  · rename_i h
    simp only [Bool.or_eq_true, List.contains_iff_mem, decide_eq_true_eq] at h
    constructor
    · exact .inl
    · rintro (h1 | ⟨rfl, h2⟩)
      · exact h1
      · rcases h with h | h
        · exact h
        · exact absurd h h2
  · rename_i h
    simp only [Bool.or_eq_true, List.contains_iff_mem, decide_eq_true_eq, not_or] at h
    simp only [List.mem_append, List.mem_singleton]
    constructor
    · rintro (h1 | rfl)
      · exact .inl h1
      · exact .inr ⟨rfl, h.2⟩
    · rintro (h1 | ⟨rfl, _⟩)
      · exact .inl h1
      · exact .inr rfl
theorem put_nodup (T : List Int) (x : Int) (h : T.Nodup) : (put T x).Nodup := by
  unfold put
  split
  · exact h
  · rename_i h2
    simp only [Bool.or_eq_true, List.contains_iff_mem, decide_eq_true_eq, not_or] at h2
    rw [List.nodup_append]
    refine ⟨h, by simp, ?_⟩
    intro a ha b hb
    simp at hb
    subst hb
    rintro rfl
    exact h2.1 ha
theorem put_get (T : List Int) (x : Int) (k : Nat) (hk : k < T.length) : ∃ h : k < (put T x).length, (put T x)[k] = T[k] := by
  unfold put
  split
  · exact ⟨hk, rfl⟩
  · exact ⟨by simp; omega, by rw [List.getElem_append_left hk]⟩
theorem put_len (T : List Int) (x : Int) : T.length ≤ (put T x).length := by
  unfold put; split
  · exact Nat.le_refl _
  · simp

theorem nodup_len : ∀ (a b : List Int), a.Nodup → (∀ x ∈ a, x ∈ b) → a.length ≤ b.length
  | [], _, _, _ => Nat.zero_le _
  | x :: a, b, h, hs => by
    rw [List.nodup_cons] at h
    have hx : x ∈ b := hs x (List.mem_cons_self)
    have := nodup_len a (b.erase x) h.2 (fun y hy => by
      have hne : y ≠ x := by rintro rfl; exact h.1 hy
      exact (List.mem_erase_of_ne hne).2 (hs y (List.mem_cons_of_mem _ hy)))
    rw [List.length_erase_of_mem hx] at this
    have hp : 0 < b.length := List.length_pos_of_mem hx
    simp only [List.length_cons]
    omega

def pool (ands : List Tri) (l : List Int) : List Int := l.map (fun x => cnt x / 2) ++ (ands.map (fun t => cnt t.b / 2) ++ ands.map (fun t => cnt t.c / 2))
theorem pool_len (ands : List Tri) (l : List Int) : (pool ands l).length = l.length + 2 * ands.length := by simp [pool]; omega
theorem hangs_pool {ands : List Tri} {l : List Int} {v : Int} (h : Hangs ands l v) : v ∈ pool ands l := by
  unfold pool
  cases h with
  | start x hx _ => exact List.mem_append_left _ (List.mem_map.2 ⟨x, hx, rfl⟩)
  | left u t _ ht _ => exact List.mem_append_right _ (List.mem_append_left _ (List.mem_map.2 ⟨t, andOf_mem ht, rfl⟩))
  | right u t _ ht _ => exact List.mem_append_right _ (List.mem_append_right _ (List.mem_map.2 ⟨t, andOf_mem ht, rfl⟩))
theorem hangs_len {ands : List Tri} {l T : List Int} (hn : T.Nodup) (h : ∀ v ∈ T, Hangs ands l v) : T.length ≤ l.length + 2 * ands.length := by
  rw [← pool_len ands l]
  exact nodup_len _ _ hn fun x hx => hangs_pool (h x hx)
theorem hangs_bd {ands : List Tri} {l : List Int} (hl : ∀ x ∈ l, I64 x) (ha : ∀ t ∈ ands, t.fits) {v : Int} (h : Hangs ands l v) : 0 < v ∧ v ≤ 4611686018427387903 := by
  have key : ∀ x : Int, I64 x → cnt x / 2 ≠ 0 → 0 < cnt x / 2 ∧ cnt x / 2 ≤ 4611686018427387903 := fun x hx h0 => by
    obtain ⟨b0, b1⟩ := cnt_bd x hx.2
    omega
  cases h with
  | start x hx h0 => exact key x (hl x hx) h0
  | left u t _ ht h0 => exact key _ (ha t (andOf_mem ht)).2.1 h0
  | right u t _ ht h0 => exact key _ (ha t (andOf_mem ht)).2.2 h0

/-- what is hung on twice is what is hung on -/
theorem hangs_again {ands : List Tri} {l R : List Int} (hR : ∀ v, v ∈ R ↔ Hangs ands l v) (hp : ∀ v ∈ R, 0 < v) (v : Int) : Hangs ands (R.map fun x => 2 * x) v ↔ v ∈ R := by
  have e : ∀ x ∈ R, cnt (2 * x) / 2 = x := fun x hx => by
    have := hp x hx
    rw [cnt_pos _ (by omega)]; omega
  constructor
  · intro h
    induction h with
    | start y hy h0 =>
      obtain ⟨x, hx, rfl⟩ := List.mem_map.1 hy
      rw [e x hx]; exact hx
    | left u t _ ht h0 ih => exact (hR _).2 (.left u t ((hR u).1 ih) ht h0)
    | right u t _ ht h0 ih => exact (hR _).2 (.right u t ((hR u).1 ih) ht h0)
  · intro h
    have := Hangs.start (ands := ands) (l := R.map fun x => 2 * x) (2 * v) (List.mem_map.2 ⟨v, h, rfl⟩) (by rw [e v h]; have := hp v h; omega)
    rwa [e v h] at this

/-- rising lists of the same numbers are one -/
theorem rising_one : ∀ (a b : List Int), a.Pairwise (· < ·) → b.Pairwise (· < ·) → (∀ x, x ∈ a ↔ x ∈ b) → a = b
  | [], [], _, _, _ => rfl
  | [], y :: b, _, _, h => by have := (h y).2 List.mem_cons_self; cases this
  | x :: a, [], _, _, h => by have := (h x).1 List.mem_cons_self; cases this
  | x :: a, y :: b, ha, hb, h => by
    rw [List.pairwise_cons] at ha hb
    have hxy : x = y := by
      have h1 := (h x).1 List.mem_cons_self
      have h2 := (h y).2 List.mem_cons_self
      rcases List.mem_cons.1 h1 with h1 | h1
      · exact h1
      rcases List.mem_cons.1 h2 with h2 | h2
      · exact h2.symm
      have := ha.1 y h2
      have := hb.1 x h1
      omega
    subst hxy
    rw [rising_one a b ha.2 hb.2 fun z => ?_]
    constructor
    · intro hz
      rcases List.mem_cons.1 ((h z).1 (List.mem_cons_of_mem _ hz)) with rfl | hz'
      · have := ha.1 z hz; omega
      · exact hz'
    · intro hz
      rcases List.mem_cons.1 ((h z).2 (List.mem_cons_of_mem _ hz)) with rfl | hz'
      · have := hb.1 z hz; omega
      · exact hz'
end Go.Proofs.Ytefhhldfelmnkaa.Cw
