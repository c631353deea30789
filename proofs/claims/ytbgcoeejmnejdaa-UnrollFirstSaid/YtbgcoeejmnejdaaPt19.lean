/- circuit.Check asks just what the pages ask: the plain mathematics; condition: the numbers fit. What the pages ask of a circuit, taken apart; hashed it may be, too; no program is named here, no condition. Hashed, a circuit may be, does what it did, and hashed again it stays; no program is named here, no condition. A region that draws its order, by what each operation's own slot holds behind it; no condition. -/
import Derived.Test.YtbgcoeejmnejdaaPt11
import Derived.Test.YtbgcoeejmnejdaaPt03
import Derived.Test.YtbgcoeejmnejdaaPt12
namespace Go.Proofs.Ytbgcoeejmnejdaa.Cw
open Go.RowKit Circ

/-! variables that stand for what they are -/
def goodAt (m : Int) (p : List Int) (x : Int) : Bool := !decide (x < 2) && (!decide (x % 2 = 1) && (!decide (2 * m < x) && !p.any (· == x)))
def goodAll (m : Int) : List Int → List Int → Bool
  | _, [] => true
  | p, x :: l => goodAt m p x && goodAll m (p ++ [x]) l
def setP (p : List Int) : List Int := (p.map fun x => cnt x / 2).reverse ++ [0]

theorem setP_snoc (p : List Int) (x : Int) : setP (p ++ [x]) = (cnt x / 2) :: setP p := by simp [setP]
theorem setP_mem (p : List Int) (v : Int) : (setP p).contains v = (decide (v = 0) || p.any fun x => decide (cnt x / 2 = v)) := by
  rw [Bool.eq_iff_iff]
  simp [setP]
  constructor
  · rintro (⟨x, h1, h2⟩ | h)
    · exact .inr ⟨x, h1, h2⟩
    · exact .inl h
  · rintro (h | ⟨x, h1, h2⟩)
    · exact .inr h
    · exact .inl ⟨x, h1, h2⟩

theorem def_good (m : Int) (p : List Int) (x : Int) (m0 : 0 ≤ m) (m1 : m ≤ 2048) (hp : ∀ y ∈ p, 2 ≤ y ∧ y % 2 = 0) : defOk m (setP p) x = goodAt m p x := by
  have hg : great m = 2 * m + 1 := by unfold great; rw [if_neg (by omega)]
  unfold defOk goodAt outside
  rw [hg, setP_mem]
  by_cases h0 : x < 0
  · rw [decide_eq_true h0, decide_eq_true (show x < 2 by omega)]; rfl
  rw [cnt_pos x (by omega), decide_eq_false h0]
  by_cases h1 : x % 2 = 1
  · rw [decide_eq_true h1]; simp
  rw [decide_eq_false h1]
  by_cases h2 : x < 2
  · rw [decide_eq_true (show x / 2 = 0 by omega), decide_eq_true h2]; simp
  rw [decide_eq_false h2, decide_eq_false (show ¬ x / 2 = 0 by omega)]
  have e1 : decide (2 * m + 1 < x) = decide (2 * m < x) := decide_eq_decide.2 (by omega)
  have e2 : (p.any fun y => decide (cnt y / 2 = x / 2)) = p.any (· == x) := by
    rw [Bool.eq_iff_iff, List.any_eq_true, List.any_eq_true]
    constructor
    · rintro ⟨y, hy, he⟩
      obtain ⟨a, b⟩ := hp y hy
      rw [cnt_pos y (by omega)] at he
      exact ⟨y, hy, by have := of_decide_eq_true he; simp; omega⟩
    · rintro ⟨y, hy, he⟩
      obtain ⟨a, b⟩ := hp y hy
      have : y = x := by simpa using he
      subst this
      exact ⟨y, hy, by rw [cnt_pos y (by omega)]; simp⟩
  rw [e1, e2]; simp
theorem goodAt_of (m : Int) (p : List Int) (x : Int) (h : goodAt m p x = true) : 2 ≤ x ∧ x % 2 = 0 := by
  unfold goodAt at h; simp at h; omega

theorem defAll_good (m : Int) (m0 : 0 ≤ m) (m1 : m ≤ 2048) : ∀ (l p : List Int), (∀ y ∈ p, 2 ≤ y ∧ y % 2 = 0) → defAll m (setP p) l = cond (goodAll m p l) (some (setP (p ++ l))) none
  | [], p, _ => by simp [defAll, goodAll]
  | x :: l, p, hp => by
    have hd := def_good m p x m0 m1 hp
    simp only [defAll, goodAll]
    cases hg : goodAt m p x
    · rw [hg] at hd
      rw [if_neg (by rw [hd]; simp)]; rfl
    · rw [hg] at hd
      have hx := goodAt_of m p x hg
      rw [if_pos hd, ← setP_snoc, defAll_good m m0 m1 l (p ++ [x]) (by
        intro y hy
        rcases List.mem_append.1 hy with h | h
        · exact hp y h
        · rw [List.mem_singleton.1 h]; exact hx)]
      simp

theorem range_cons (f : Nat → Bool) (n : Nat) : (List.range (n + 1)).all f = (f 0 && (List.range n).all fun i => f (i + 1)) := by
  rw [List.range_succ_eq_map, List.all_cons, List.all_map]; rfl
theorem goodAll_range (m : Int) : ∀ (l p : List Int), goodAll m p l = (List.range l.length).all fun i => match l[i]? with
    | some x => goodAt m (p ++ l.take i) x
    | none => true
  | [], p => by simp [goodAll]
  | x :: l, p => by
    rw [List.length_cons, range_cons]
    simp only [goodAll, List.getElem?_cons_zero, List.take_zero, List.append_nil, List.getElem?_cons_succ, List.take_succ_cons]
    rw [goodAll_range m l (p ++ [x])]
    simp
theorem own_good (m : Int) (l : List Int) : (List.range l.length).all (ownAt m l) = goodAll m [] l := by
  rw [goodAll_range]
  congr 1
theorem defAll_own (m : Int) (l : List Int) (m0 : 0 ≤ m) (m1 : m ≤ 2048) : defAll m [0] l = if (List.range l.length).all (ownAt m l) = true then some (setP l) else none := by
  have := defAll_good m m0 m1 l [] (by simp)
  rw [own_good]
  cases hq : goodAll m [] l
  · rw [hq] at this; simpa [setP] using this
  · rw [hq] at this; simpa [setP] using this
theorem goodAll_mem (m : Int) : ∀ (l p : List Int), goodAll m p l = true → ∀ x ∈ l, 2 ≤ x ∧ x % 2 = 0 ∧ x ≤ 2 * m
  | [], _, _, x, hx => by cases hx
  | y :: l, p, h, x, hx => by
    simp only [goodAll, Bool.and_eq_true] at h
    rcases List.mem_cons.1 hx with e | e
    · subst e
      have h1 := h.1
      unfold goodAt at h1; simp at h1; omega
    · exact goodAll_mem m l _ h.2 x e

/-! literals that are known -/
theorem set_known (c : Cir) (v : Int) (hp : ∀ x ∈ own c, 2 ≤ x) : (setP (own c)).contains v = knownV c v := by
  rw [setP_mem]
  unfold knownV
  rw [Bool.or_assoc, Bool.or_assoc]
  congr 1
  have e : ∀ l : List Int, (∀ x ∈ l, 2 ≤ x) → (l.any fun x => decide (cnt x / 2 = v)) = hasVar l v := fun l hl => by
    unfold hasVar
    rw [Bool.eq_iff_iff, List.any_eq_true, List.any_eq_true]
    constructor
    · rintro ⟨x, hx, he⟩
      have := hl x hx
      rw [cnt_pos x (by omega)] at he
      exact ⟨x, hx, by rw [he, decide_eq_true (show 0 ≤ x by omega)]; rfl⟩
    · rintro ⟨x, hx, he⟩
      have := hl x hx
      simp at he
      exact ⟨x, hx, by rw [cnt_pos x (by omega)]; simp [he.2]⟩
  unfold hasTri
  rw [← e c.ins (fun x hx => hp x (by simp [own, hx])), ← e (c.lats.map Tri.a) (fun x hx => hp x (by unfold own; simp only [List.mem_append]; exact .inr (.inl hx))), ← e (c.ands.map Tri.a) (fun x hx => hp x (by unfold own; simp only [List.mem_append]; exact .inr (.inr hx)))]
  unfold own
  rw [List.any_append, List.any_append]
theorem named_known (c : Cir) (l : Int) (hp : ∀ x ∈ own c, 2 ≤ x) : namedOk (setP (own c)) l = knownL c l := by
  unfold namedOk knownL
  by_cases h : 0 ≤ l
  · rw [cnt_pos l h, set_known c _ hp, decide_eq_true h]; simp
  · rw [decide_eq_false h]; simp

/-! ands -/
def condT (c : Cir) (t : Tri) : Bool := decide (t.b < t.a) && (decide (t.c < t.a) && (knownL c t.b && knownL c t.c))
def chainT (c : Cir) : Int → List Tri → Bool
  | _, [] => true
  | p, t :: l => decide (p < t.a) && condT c t && chainT c t.a l
theorem through_chain (c : Cir) (S : List Int) (hS : ∀ l, namedOk S l = knownL c l) : ∀ (l : List Tri) (p : Int), (through (andStep S) p l).isSome = chainT c p l
  | [], _ => rfl
  | t :: l, p => by
    simp only [through, chainT, andStep]
    rw [hS, hS]
    unfold condT
    by_cases h : (decide (p < t.a) && decide (t.b < t.a) && decide (t.c < t.a) && knownL c t.b && knownL c t.c) = true
    · rw [if_pos h]
      simp only [Option.bind_some]
      rw [through_chain c S hS l t.a]
      simp only [Bool.and_eq_true] at h
      obtain ⟨⟨⟨⟨h1, h2⟩, h3⟩, h4⟩, h5⟩ := h
      rw [h1, h2, h3, h4, h5]; rfl
    · rw [if_neg h]
      simp only [Option.bind_none, Option.isSome_none]
      symm
      have h' : (decide (p < t.a) && (decide (t.b < t.a) && (decide (t.c < t.a) && (knownL c t.b && knownL c t.c)))) = false := by
        cases hq : (decide (p < t.a) && (decide (t.b < t.a) && (decide (t.c < t.a) && (knownL c t.b && knownL c t.c))))
        · rfl
        · exfalso; apply h; simp only [Bool.and_eq_true] at hq ⊢; exact ⟨⟨⟨⟨hq.1, hq.2.1⟩, hq.2.2.1⟩, hq.2.2.2.1⟩, hq.2.2.2.2⟩
      rw [h']; rfl
/-- the same, element by element -/
def linkAt (c : Cir) (l : List Tri) (k : Nat) : Bool := match l[k]? with
  | some t => (match k with
    | 0 => true
    | j + 1 => match l[j]? with
      | some p => decide (p.a < t.a)
      | none => false) && condT c t
  | none => true
theorem chain_range (c : Cir) : ∀ (l : List Tri) (t : Tri), (List.range (t :: l).length).all (linkAt c (t :: l)) = (condT c t && chainT c t.a l)
  | [], t => by simp [linkAt, chainT, List.range_succ]
  | s :: l, t => by
    rw [List.length_cons, range_cons]
    have e0 : linkAt c (t :: s :: l) 0 = condT c t := by simp [linkAt]
    rw [e0]
    congr 1
    rw [List.length_cons, range_cons]
    have ih := chain_range c l s
    rw [List.length_cons, range_cons] at ih
    have e1 : linkAt c (s :: l) 0 = condT c s := by simp [linkAt]
    rw [e1] at ih
    have e2 : linkAt c (t :: s :: l) (0 + 1) = (decide (t.a < s.a) && condT c s) := by simp [linkAt]
    rw [e2]
    simp only [chainT]
    have e3 : ((List.range l.length).all fun i => linkAt c (t :: s :: l) (i + 1 + 1)) = (List.range l.length).all fun i => linkAt c (s :: l) (i + 1) := by
      congr 1
    rw [e3]
    cases hc : condT c s
    · simp
    · rw [hc] at ih
      simp only [Bool.true_and, Bool.and_true] at ih ⊢
      rw [ih]
theorem ands_same (c : Cir) (S : List Int) (hS : ∀ l, namedOk S l = knownL c l) (hp : ∀ t ∈ c.ands, 0 < t.a) : andsOk S c.ands = (List.range c.ands.length).all (andAt c) := by
  unfold andsOk
  rw [through_chain c S hS]
  have e : andAt c = linkAt c c.ands := by funext k; rfl
  rw [e]
  cases hl : c.ands with
  | nil => simp [chainT]
  | cons t l =>
    rw [chain_range]
    simp only [chainT]
    rw [decide_eq_true (hp t (by rw [hl]; exact List.mem_cons_self ..)), Bool.true_and]

/-! names -/
theorem kind_cases (t : ByteArray) : (t.toList = [105] ∧ rankV t = 0) ∨ (t.toList = [108] ∧ rankV t = 1) ∨ (t.toList = [111] ∧ rankV t = 2) ∨ (t.toList = [98] ∧ rankV t = 3) ∨ (t.toList = [99] ∧ rankV t = 4) ∨
    (t.toList ≠ [105] ∧ t.toList ≠ [108] ∧ t.toList ≠ [111] ∧ t.toList ≠ [98] ∧ t.toList ≠ [99] ∧ rankV t = -1) := by
  have k0 : (⟨#[105]⟩ : ByteArray).toList = [105] := ByteArray.toList_eq _
  have k1 : (⟨#[108]⟩ : ByteArray).toList = [108] := ByteArray.toList_eq _
  have k2 : (⟨#[111]⟩ : ByteArray).toList = [111] := ByteArray.toList_eq _
  have k3 : (⟨#[98]⟩ : ByteArray).toList = [98] := ByteArray.toList_eq _
  have k4 : (⟨#[99]⟩ : ByteArray).toList = [99] := ByteArray.toList_eq _
  unfold rankV kinds
  simp only [List.findIdx?_cons, k0, k1, k2, k3, k4, List.findIdx?_nil]
  by_cases h0 : t.toList = [105]
  · left; simp [h0]
  by_cases h1 : t.toList = [108]
  · right; left; simp [h1]
  by_cases h2 : t.toList = [111]
  · right; right; left; simp [h2]
  by_cases h3 : t.toList = [98]
  · right; right; right; left; simp [h3]
  by_cases h4 : t.toList = [99]
  · right; right; right; right; left; simp [h4]
  · right; right; right; right; right
    have e : ∀ l : List UInt8, t.toList ≠ l → (l == t.toList) = false := fun l h => by
      rw [beq_eq_false_iff_ne]; exact fun e => h e.symm
    refine ⟨h0, h1, h2, h3, h4, ?_⟩
    simp [e _ h0, e _ h1, e _ h2, e _ h3, e _ h4]
theorem rank_kind (s t : ByteArray) (hs : rankV s ≠ -1) : (rankV s = rankV t) ↔ s.toList = t.toList := by
  rcases kind_cases s with ⟨a, b⟩ | ⟨a, b⟩ | ⟨a, b⟩ | ⟨a, b⟩ | ⟨a, b⟩ | ⟨_, _, _, _, _, b⟩ <;> rcases kind_cases t with ⟨a', b'⟩ | ⟨a', b'⟩ | ⟨a', b'⟩ | ⟨a', b'⟩ | ⟨a', b'⟩ | ⟨h0, h1, h2, h3, h4, b'⟩ <;> rw [b, b'] <;> simp_all
  · exact fun e => h0 e.symm
  · exact fun e => h1 e.symm
  · exact fun e => h2 e.symm
  · exact fun e => h3 e.symm
  · exact fun e => h4 e.symm
theorem count_rank (c : Cir) (t : ByteArray) : (rankV t = -1 ∧ countV c t = -1) ∨ (0 ≤ rankV t ∧ countV c t = (kindLits c t).length) := by
  unfold countV kindLits
  rcases kind_cases t with ⟨a, b⟩ | ⟨a, b⟩ | ⟨a, b⟩ | ⟨a, b⟩ | ⟨a, b⟩ | ⟨h0, h1, h2, h3, h4, b⟩
  · right; rw [b]; simp [a]
  · right; rw [b]; simp [a]
  · right; rw [b]; simp [a]
  · right; rw [b]; simp [a]
  · right; rw [b]; simp [a]
  · left; simp [h0, h1, h2, h3, h4, b]
theorem text_same (s : ByteArray) : textOk s = (!s.toList.isEmpty && !decide (32 < s.size) && s.data.toList.all octetOk) := by
  unfold textOk
  have e : s.toList.isEmpty = !decide (0 < s.size) := by
    have hs : s.size = s.data.toList.length := by simp
    rw [ByteArray.toList_eq, hs]
    cases s.data.toList <;> simp
  rw [e, Bool.not_not]
  congr 2
  rw [Bool.eq_iff_iff]; simp

theorem if_iff {p q : Prop} [Decidable p] [Decidable q] {α : Type} {a b : α} (h : p ↔ q) : (if p then a else b) = if q then a else b := by
  by_cases hp : p
  · rw [if_pos hp, if_pos (h.1 hp)]
  · rw [if_neg hp, if_neg (fun hq => hp (h.2 hq))]

/-- a name that may stand behind a state of the look -/
theorem step_first (c : Cir) (x : Nam) : nameStep c (0, -1) x = if refName c x = true then some (rankV x.kind, x.num) else none := by
  unfold nameStep refName
  rw [text_same]
  refine if_iff ?_
  rcases count_rank c x.kind with ⟨h1, h2⟩ | ⟨h1, h2⟩
  · rw [h1, h2]; simp; omega
  · rw [h2]
    simp only [Bool.and_eq_true, Bool.or_eq_true, decide_eq_true_eq, Bool.not_eq_true', decide_eq_false_iff_not]
    constructor
    · rintro ⟨⟨ha, hb, hc⟩, hd⟩
      exact ⟨⟨⟨⟨by omega, by omega⟩, hd.1.1⟩, hd.1.2⟩, hd.2⟩
    · rintro ⟨⟨⟨⟨ha, hb⟩, hc⟩, hd⟩, he⟩
      exact ⟨⟨by omega, by omega, by omega⟩, ⟨hc, hd⟩, he⟩
theorem step_next (c : Cir) (y x : Nam) (hy : refName c y = true) : nameStep c (rankV y.kind, y.num) x = if (refName c x && refPair y x) = true then some (rankV x.kind, x.num) else none := by
  have ry : rankV y.kind ≠ -1 ∧ 0 ≤ rankV y.kind := by
    rcases count_rank c y.kind with ⟨h1, h2⟩ | ⟨h1, h2⟩
    · exfalso
      unfold refName at hy
      rw [h2] at hy
      simp at hy
      omega
    · omega
  unfold nameStep refName refPair
  rw [text_same]
  refine if_iff ?_
  have hk := rank_kind y.kind x.kind ry.1
  have e : (y.kind.toList == x.kind.toList) = decide (rankV y.kind = rankV x.kind) := by
    rw [Bool.eq_iff_iff, beq_iff_eq, decide_eq_true_eq, hk]
  rw [e]
  rcases count_rank c x.kind with ⟨h1, h2⟩ | ⟨h1, h2⟩
  · rw [h1, h2]; simp; omega
  · rw [h2]
    simp only [Bool.and_eq_true, Bool.or_eq_true, decide_eq_true_eq, Bool.not_eq_true', decide_eq_false_iff_not, Bool.and_eq_false_iff]
    constructor
    · rintro ⟨⟨ha, hb, hc⟩, hd⟩
      exact ⟨⟨⟨⟨⟨by omega, by omega⟩, hd.1.1⟩, hd.1.2⟩, hd.2⟩, by omega, by omega⟩
    · rintro ⟨⟨⟨⟨⟨ha, hb⟩, hc⟩, hd⟩, he⟩, hf, hg⟩
      exact ⟨⟨by omega, by omega, by omega⟩, ⟨hc, hd⟩, he⟩
def chainN (c : Cir) : Nam → List Nam → Bool
  | _, [] => true
  | y, x :: l => refName c x && refPair y x && chainN c x l
theorem through_names (c : Cir) : ∀ (l : List Nam) (y : Nam), refName c y = true → (through (nameStep c) (rankV y.kind, y.num) l).isSome = chainN c y l
  | [], _, _ => rfl
  | x :: l, y, hy => by
    simp only [through, chainN]
    rw [step_next c y x hy]
    by_cases h : (refName c x && refPair y x) = true
    · rw [if_pos h, h, Bool.true_and]
      simp only [Option.bind_some]
      rw [Bool.and_eq_true] at h
      exact through_names c l x h.1
    · rw [if_neg h]
      have h' : (refName c x && refPair y x) = false := by simpa using h
      rw [h']; rfl
def linkN (c : Cir) (l : List Nam) (k : Nat) : Bool := match l[k]? with
  | some x => refName c x && (match k with
    | 0 => true
    | j + 1 => match l[j]? with
      | some y => refPair y x
      | none => false)
  | none => true
theorem names_range (c : Cir) : ∀ (l : List Nam) (y : Nam), (List.range (y :: l).length).all (linkN c (y :: l)) = (refName c y && chainN c y l)
  | [], y => by simp [linkN, chainN, List.range_succ]
  | x :: l, y => by
    rw [List.length_cons, range_cons]
    have e0 : linkN c (y :: x :: l) 0 = refName c y := by simp [linkN]
    rw [e0]
    congr 1
    rw [List.length_cons, range_cons]
    have ih := names_range c l x
    rw [List.length_cons, range_cons] at ih
    have e1 : linkN c (x :: l) 0 = refName c x := by simp [linkN]
    rw [e1] at ih
    have e2 : linkN c (y :: x :: l) (0 + 1) = (refName c x && refPair y x) := by simp [linkN]
    rw [e2]
    simp only [chainN]
    have e3 : ((List.range l.length).all fun i => linkN c (y :: x :: l) (i + 1 + 1)) = (List.range l.length).all fun i => linkN c (x :: l) (i + 1) := by
      congr 1
    rw [e3]
    cases hc : refName c x
    · simp
    · rw [hc] at ih
      simp only [Bool.true_and] at ih ⊢
      rw [ih]
theorem names_same (c : Cir) : namesOk c = refNames c := by
  unfold namesOk refNames
  have e : refAt c = linkN c c.names := by funext k; rfl
  rw [e]
  cases c.names with
  | nil => rfl
  | cons x l =>
    rw [names_range]
    simp only [through]
    rw [step_first]
    by_cases h : refName c x = true
    · rw [if_pos h, h, Bool.true_and]
      exact through_names c l x h
    · rw [if_neg h]
      have h' : refName c x = false := by simpa using h
      rw [h']; rfl

theorem chk_same (c : Cir) : chk c = refOk c := by
  unfold chk refOk sizesOk refHead
  rw [← names_same]
  by_cases m0 : 0 ≤ c.max
  case neg => rw [decide_eq_false m0, decide_eq_true (show c.max < 0 by omega)]; simp
  by_cases m1 : c.max ≤ 2048
  case neg => rw [decide_eq_false m1, decide_eq_true (show 2048 < c.max by omega)]; simp
  rw [decide_eq_true m0, decide_eq_true m1, decide_eq_false (show ¬ c.max < 0 by omega), decide_eq_false (show ¬ 2048 < c.max by omega)]
  rw [defAll_own c.max (own c) m0 m1]
  by_cases ho : (List.range (own c).length).all (ownAt c.max (own c)) = true
  case neg =>
    have ho' : (List.range (own c).length).all (ownAt c.max (own c)) = false := by simpa using ho
    rw [if_neg ho, ho']; simp
  rw [if_pos ho, ho]
  have hg := goodAll_mem c.max (own c) [] (by rw [← own_good]; exact ho)
  have hp : ∀ x ∈ own c, 2 ≤ x := fun x hx => (hg x hx).1
  have hS : ∀ l, namedOk (setP (own c)) l = knownL c l := fun l => named_known c l hp
  simp only []
  unfold chkIn
  rw [ands_same c _ hS (fun t ht => by have := hp t.a (by unfold own; simp only [List.mem_append, List.mem_map]; exact .inr (.inr ⟨t, ht, rfl⟩)); omega)]
  have e1 : latOk (setP (own c)) = latR c := by funext t; unfold latOk latR; rw [hS, Bool.and_comm]
  have e2 : namedOk (setP (own c)) = knownL c := funext hS
  rw [e1, e2]
  unfold lens allKnown
  simp only [List.all_cons, List.all_nil, Bool.and_true, Bool.true_and, Bool.not_false]
  have d : ∀ n : Nat, decide ((n : Int) ≤ 64) = decide (n ≤ 64) := fun n => decide_eq_decide.2 (by omega)
  have d2 : ∀ n : Nat, (!decide (64 < n)) = decide (n ≤ 64) := fun n => by rw [Bool.eq_iff_iff]; simp
  simp only [d, d2]
  generalize decide (c.ins.length ≤ 64) = a1
  generalize decide (c.lats.length ≤ 64) = a2
  generalize decide (c.outs.length ≤ 64) = a3
  generalize decide (c.bads.length ≤ 64) = a4
  generalize decide (c.invs.length ≤ 64) = a5
  generalize c.lats.all (latR c) = b1
  generalize (List.range c.ands.length).all (andAt c) = b2
  generalize c.outs.all (knownL c) = b3
  generalize c.bads.all (knownL c) = b4
  generalize c.invs.all (knownL c) = b5
  generalize namesOk c = b6
  cases a1 <;> cases a2 <;> cases a3 <;> cases a4 <;> cases a5 <;> cases b1 <;> cases b2 <;> cases b3 <;> cases b4 <;> cases b5 <;> cases b6 <;> rfl
end Go.Proofs.Ytbgcoeejmnejdaa.Cw
namespace Go.Proofs.Ytbgcoeejmnejdaa.Str
open Circ Cw

theorem good_all (m : Int) : ∀ (l p : List Int), goodAll m p l = true → l.Nodup ∧ ∀ x ∈ l, x ∉ p ∧ 2 ≤ x ∧ x % 2 = 0 ∧ x ≤ 2 * m
  | [], p, _ => ⟨List.nodup_nil, by simp⟩
  | x :: l, p, h => by
    simp only [goodAll, Bool.and_eq_true] at h
    obtain ⟨h1, h2⟩ := h
    obtain ⟨g1, g2⟩ := good_all m l (p ++ [x]) h2
    unfold goodAt at h1
    simp only [Bool.and_eq_true, Bool.not_eq_true', List.any_eq_false, decide_eq_false_iff_not] at h1
    obtain ⟨a1, a2, a3, a4⟩ := h1
    refine ⟨List.nodup_cons.2 ⟨fun hm => (g2 x hm).1 (by simp), g1⟩, fun y hy => ?_⟩
    rcases List.mem_cons.1 hy with rfl | hy
    · exact ⟨fun hm => a4 y hm (by simp), by omega, by omega, by omega⟩
    · obtain ⟨b1, b2⟩ := g2 y hy
      exact ⟨fun hm => b1 (by simp [hm]), b2⟩
section
variable {c : Cir}
theorem ref_parts (h : refOk c = true) : refHead c = true ∧ c.lats.all (latR c) = true ∧ (List.range c.ands.length).all (andAt c) = true ∧ goodAll c.max [] (own c) = true ∧ allKnown c c.outs = true ∧ allKnown c c.bads = true ∧ allKnown c c.invs = true := by
  unfold refOk at h
  simp only [Bool.and_eq_true] at h
  rw [← own_good]
  exact ⟨h.1, h.2.1, h.2.2.1, h.2.2.2.1, h.2.2.2.2.1, h.2.2.2.2.2.1, h.2.2.2.2.2.2⟩
theorem known_own (v : Int) : knownV c v = true ↔ v = 0 ∨ ∃ x ∈ own c, 0 ≤ x ∧ x / 2 = v := by
  have hv : ∀ l : List Int, hasVar l v = true ↔ ∃ x ∈ l, 0 ≤ x ∧ x / 2 = v := fun l => by unfold hasVar; simp
  unfold knownV own hasTri
  simp only [Bool.or_eq_true, decide_eq_true_eq, hv, List.mem_append]
  constructor
  · rintro (((h | ⟨x, h, r⟩) | ⟨x, h, r⟩) | ⟨x, h, r⟩)
    · exact .inl h
    · exact .inr ⟨x, .inl h, r⟩
    · exact .inr ⟨x, .inr (.inl h), r⟩
    · exact .inr ⟨x, .inr (.inr h), r⟩
  · rintro (h | ⟨x, (h | h | h), r⟩)
    · exact .inl (.inl (.inl h))
    · exact .inl (.inl (.inr ⟨x, h, r⟩))
    · exact .inl (.inr ⟨x, h, r⟩)
    · exact .inr ⟨x, h, r⟩
theorem ands_rise (h : refOk c = true) : ∀ (j k : Nat) (hj : j < c.ands.length) (hk : k ≤ j), (c.ands[k]'(by omega)).a ≤ c.ands[j].a := by
  obtain ⟨-, -, ha, -⟩ := ref_parts h
  intro j
  induction j with
  | zero => intro k hj hk; obtain rfl : k = 0 := (by omega); exact Int.le_refl _
  | succ j ih =>
    intro k hj hk
    by_cases e : k = j + 1
    · subst e; exact Int.le_refl _
    · have h1 := ih k (by omega) (by omega)
      have h2 := List.all_eq_true.1 ha (j + 1) (List.mem_range.2 hj)
      rw [andAt_pos c (j + 1) hj (by omega)] at h2
      simp only [Bool.and_eq_true, decide_eq_true_eq, Nat.add_sub_cancel] at h2
      omega
theorem and_at (h : refOk c = true) (k : Nat) (hk : k < c.ands.length) : c.ands[k].b < c.ands[k].a ∧ c.ands[k].c < c.ands[k].a ∧ knownL c c.ands[k].b = true ∧ knownL c c.ands[k].c = true := by
  obtain ⟨-, -, ha, -⟩ := ref_parts h
  have := List.all_eq_true.1 ha k (List.mem_range.2 hk)
  unfold andAt at this
  rw [List.getElem?_eq_getElem hk] at this
  simp only [Bool.and_eq_true, decide_eq_true_eq] at this
  exact this.2
/-- what is known ahead of all ands -/
def baseV (c : Cir) (v : Int) : Prop := v = 0 ∨ 2 * v ∈ c.ins ∨ 2 * v ∈ c.lats.map Tri.a
theorem own_facts (h : refOk c = true) : (own c).Nodup ∧ ∀ x ∈ own c, 2 ≤ x ∧ x % 2 = 0 ∧ x ≤ 2 * c.max := by
  obtain ⟨hn, hg⟩ := good_all c.max (own c) [] (ref_parts h).2.2.2.1
  exact ⟨hn, fun x hx => (hg x hx).2⟩
theorem seen_of (h : refOk c = true) {x : Int} (hx : knownL c x = true) : 0 ≤ x ∧ Seen (baseV c) c.ands (x / 2) := by
  unfold knownL at hx
  simp only [Bool.and_eq_true, decide_eq_true_eq] at hx
  refine ⟨hx.1, ?_⟩
  rcases (known_own _).1 hx.2 with h0 | ⟨y, hy, y0, e⟩
  · exact .inl (.inl h0)
  · obtain ⟨_, he, _⟩ := (own_facts h).2 y hy
    have e2 : y = 2 * (x / 2) := by omega
    unfold own at hy
    rcases List.mem_append.1 hy with hy | hy
    · exact .inl (.inr (.inl (by rw [← e2]; exact hy)))
    · rcases List.mem_append.1 hy with hy | hy
      · exact .inl (.inr (.inr (by rw [← e2]; exact hy)))
      · obtain ⟨u, hu, eu⟩ := List.mem_map.1 hy
        exact .inr ⟨u, hu, by omega⟩
theorem ands_own (h : refOk c = true) {t : Tri} (ht : t ∈ c.ands) : 2 ≤ t.a ∧ t.a % 2 = 0 ∧ t.a ≤ 2 * c.max ∧ ¬ baseV c (t.a / 2) := by
  obtain ⟨hn, hg⟩ := own_facts h
  have hm : t.a ∈ own c := by unfold own; exact List.mem_append_right _ (List.mem_append_right _ (List.mem_map.2 ⟨t, ht, rfl⟩))
  obtain ⟨a1, a2, a3⟩ := hg _ hm
  refine ⟨a1, a2, a3, ?_⟩
  have e : 2 * (t.a / 2) = t.a := by omega
  unfold own at hn
  rw [List.nodup_append] at hn
  obtain ⟨_, n2, n3⟩ := hn
  rw [List.nodup_append] at n2
  rintro (h0 | h1 | h1)
  · omega
  · rw [e] at h1
    exact n3 _ h1 _ (List.mem_append_right _ (List.mem_map.2 ⟨t, ht, rfl⟩)) rfl
  · rw [e] at h1
    exact n2.2.2 _ h1 _ (List.mem_map.2 ⟨t, ht, rfl⟩) rfl
theorem ands_less (h : refOk c = true) {j k : Nat} (hjk : j < k) (hk : k < c.ands.length) : (c.ands[j]'(by omega)).a < c.ands[k].a := by
  have h1 := ands_rise h k j hk (by omega)
  rcases Int.lt_or_eq_of_le h1 with h2 | h2
  · exact h2
  · exfalso
    obtain ⟨hn, _⟩ := own_facts h
    unfold own at hn
    rw [List.nodup_append] at hn
    obtain ⟨_, n2, _⟩ := hn
    rw [List.nodup_append] at n2
    have := List.pairwise_iff_getElem.1 n2.2.1 j k (by simp; omega) (by simpa using hk) hjk
    simp at this
    exact this h2
theorem good_take (h : refOk c = true) : ∀ k, k ≤ c.ands.length → Good (baseV c) (c.ands.take k)
  | 0, _ => by rw [List.take_zero]; exact .nil
  | k + 1, hk => by
    have hk' : k < c.ands.length := hk
    rw [List.take_succ_eq_append_getElem hk']
    obtain ⟨b1, b2, b3, b4⟩ := and_at h k hk'
    obtain ⟨o1, o2, _, o4⟩ := ands_own h (List.getElem_mem hk')
    obtain ⟨s0, s1⟩ := seen_of h b3
    obtain ⟨r0, r1⟩ := seen_of h b4
    have cut : ∀ x : Int, x < c.ands[k].a → Seen (baseV c) c.ands (x / 2) → Seen (baseV c) (c.ands.take k) (x / 2) := fun x hx hs => by
      rcases hs with hs | ⟨u, hu, e⟩
      · exact .inl hs
      · obtain ⟨j, hj, rfl⟩ := List.getElem_of_mem hu
        have hjk : j < k := by
          rcases Nat.lt_or_ge j k with h1 | h1
          · exact h1
          · have := ands_rise h j k hj h1
            omega
        exact .inr ⟨c.ands[j], by rw [List.mem_take_iff_getElem]; exact ⟨j, by omega, rfl⟩, e⟩
    refine .snoc _ _ (good_take h k (by omega)) o1 o2 (fun u hu => ?_) s0 b1 r0 b2 (cut _ b1 s1) (cut _ b2 r1) o4
    rw [List.mem_take_iff_getElem] at hu
    obtain ⟨j, hj, rfl⟩ := hu
    exact ands_less h (by omega) hk'
theorem good_ands (h : refOk c = true) : Good (baseV c) c.ands := by
  have := good_take h c.ands.length (Nat.le_refl _)
  rwa [List.take_length] at this
end

end Go.Proofs.Ytbgcoeejmnejdaa.Str
namespace Go.Proofs.Ytbgcoeejmnejdaa.Str
open Circ Cw

section
variable {c : Cir}
end
end Go.Proofs.Ytbgcoeejmnejdaa.Str
namespace Go.Proofs.Ytbgcoeejmnejdaa.Cpy
open Go.ChangeShapes Go.WideShapes Go.ChangeAt Go.RowKit Circ Cw

/-- a' is a but for the slots of the region's operations -/
structure Kept (ops : Array Oper) (a a' : Act) : Prop where
  d : a'.defers = a.defers
  n : a'.tmps.size = a.tmps.size
  t : ∀ t, (∀ o ∈ ops, o.dst ≠ some t) → a'.tmps.getD t undef = a.tmps.getD t undef
def upward (ops : Array Oper) : Bool := (List.range ops.size).all fun i => match ops[i]? with
  | some o => o.after.all (fun e => decide (e.on < i)) && o.guard.isNone
  | none => true

theorem put_slot {o : Oper} {a : Act} (v : Value) {t : Tmp} (h : o.dst = some t) (ht : t < a.tmps.size) : (a.put o.dst v).tmps.getD t undef = v := by
  rw [h]; simp [Act.put, ht]
theorem put_other {o : Oper} {a : Act} (v : Value) {t : Tmp} (h : o.dst ≠ some t) : (a.put o.dst v).tmps.getD t undef = a.tmps.getD t undef := by
  cases hd : o.dst with
  | none => rfl
  | some s =>
    have : s ≠ t := fun e => h (by rw [hd, e])
    simp [Act.put, this]
theorem Kept.put {ops : Array Oper} {a a' : Act} (h : Kept ops a a') {o : Oper} (ho : o ∈ ops) (v : Value) : Kept ops a (a'.put o.dst v) := by
  refine ⟨?_, ?_, fun t ht => (put_other v (ht o ho)).trans (h.t t ht)⟩
  · cases hd : o.dst <;> simp [Act.put, h.d]
  · cases hd : o.dst <;> simp [Act.put, h.n]

theorem all_listed {md : Region.Mode} {ops : Array Oper} {listed : Array Bool} (hu : upward ops = true) (hs : listed.size = ops.size) (hr : Region.ready md ops listed = []) : ∀ j, j < ops.size → listed[j]? = some true := by
  intro j
  induction j using Nat.strongRecOn with
  | _ j ih =>
    intro hj
    obtain ⟨o, ho⟩ : ∃ o, ops[j]? = some o := ⟨ops[j], by simp [hj]⟩
    cases hl : listed[j]? with
    | none => rw [Array.getElem?_eq_none_iff] at hl; omega
    | some b =>
      cases b with
      | true => rfl
      | false =>
        exfalso
        have : j ∈ Region.ready md ops listed := by
          unfold Region.ready
          rw [List.mem_filter, List.mem_range]
          refine ⟨hj, ?_⟩
          rw [Array.getD_eq_getD_getElem?, hl, ho]
          simp only [Option.getD_some, Bool.not_false, Option.map_some, Bool.true_and, Array.all_eq_true_iff_forall_mem]
          intro e he
          have h1 := List.all_eq_true.1 hu j (List.mem_range.2 hj)
          rw [ho] at h1
          simp only [Bool.and_eq_true, Array.all_eq_true_iff_forall_mem, decide_eq_true_eq] at h1
          have h2 := h1.1 e he
          have h3 := ih e.on h2 (by omega)
          rw [Array.getD_eq_getD_getElem?, h3]
          simp
        rw [hr] at this
        cases this

theorem wp_region_rel {P : Program} {id : Nat} {ops : Array Oper} {Q : Exit → Act → World → Prop} {a : Act} {w : World} (hm : P.follows .mixedOrders = true) (hu : upward ops = true)
    (Ok : World → Prop) (R : Nat → Act → World → Prop) (h0 : Ok w.drew)
    (hstep : ∀ (i : Nat) (o : Oper) (a' : Act) (w' : World), ops[i]? = some o → Kept ops a a' → Ok w' → (∀ e ∈ o.after, Region.binds .any e = true → R e.on a' w') →
      o.wp P a' w' (fun a'' w'' => ∃ v, a'' = a'.put o.dst v ∧ Ok w'' ∧ R i a'' w'' ∧ ∀ j, j ≠ i → (∀ oj : Oper, ops[j]? = some oj → ∀ e ∈ oj.after, Region.binds .any e = true → e.on ≠ i) → R j a' w' → R j a'' w'') Q)
    (hend : ∀ (a' : Act) (w' : World), Kept ops a a' → Ok w' → (∀ j, j < ops.size → R j a' w') → Q .normal a' w') : (Code.region id ops true).wp P Q a w := by
  refine wp_region_inv hm (fun listed a' w' => listed.size = ops.size ∧ Kept ops a a' ∧ Ok w' ∧ (∀ j : Nat, listed[j]? = some true → R j a' w') ∧ ∀ (j : Nat) (oj : Oper), ops[j]? = some oj → listed[j]? = some true → ∀ e ∈ oj.after, Region.binds .any e = true → listed[e.on]? = some true) ?_ ?_ ?_
  · refine ⟨by simp, ⟨rfl, rfl, fun _ _ => rfl⟩, h0, fun j hj => ?_, fun j oj _ hj => ?_⟩ <;> simp [Array.getElem?_replicate] at hj
  · rintro listed a' w' i ⟨hs, hk, hok, hR, hC⟩ hi
    obtain ⟨hl, hio, hd⟩ := ready_open hi
    have hl' : listed[i]? = some false := by rw [← Array.getElem?_toList]; exact hl
    obtain ⟨o, ho⟩ : ∃ o, ops[i]? = some o := ⟨ops[i], by simp [hio]⟩
    have hmem : o ∈ ops := Array.mem_of_getElem? ho
    have hg : o.guard.isNone = true := by
      have h1 := List.all_eq_true.1 hu i (List.mem_range.2 hio)
      rw [ho] at h1
      simp only [Bool.and_eq_true] at h1
      exact h1.2
    have hw : Region.wanted o (yielded ops a'.tmps) = true := by
      unfold Region.wanted
      cases hgg : o.guard with
      | none => rfl
      | some x => rw [hgg] at hg; cases hg
    have hdep : ∀ e ∈ o.after, Region.binds .any e = true → listed[e.on]? = some true := fun e he hb => by
      have h2 := hd o ho e he hb
      rw [Array.getD_eq_getD_getElem?] at h2
      cases hq : listed[e.on]? with
      | none => rw [hq] at h2; simp at h2
      | some b => rw [hq] at h2; simp at h2; rw [h2]
    unfold wpOp
    rw [ho]
    simp only [hw, if_true]
    refine .inl (Oper.wp_mono ?_ (hstep i o a' w' ho hk hok fun e he hb => hR e.on (hdep e he hb)))
    rintro a'' w'' ⟨v, rfl, hok', hRi, hst⟩
    have hback : ∀ j, j ≠ i → (listed.setIfInBounds i true)[j]? = some true → listed[j]? = some true := fun j hji hj => by
      rw [Array.getElem?_setIfInBounds, if_neg (Ne.symm hji)] at hj
      exact hj
    have hfwd : ∀ j : Nat, listed[j]? = some true → (listed.setIfInBounds i true)[j]? = some true := fun j hj => by
      have : i ≠ j := by rintro rfl; rw [hl'] at hj; cases hj
      rw [Array.getElem?_setIfInBounds, if_neg this]; exact hj
    refine ⟨by simpa using hs, hk.put hmem v, hok', fun j hj => ?_, fun j oj hoj hj e he hb => ?_⟩
    · by_cases hji : j = i
      · subst hji; exact hRi
      · have hj' := hback j hji hj
        exact hst j hji (fun oj hoj e he hb hei => by
          have := hC j oj hoj hj' e he hb
          rw [hei, hl'] at this; cases this) (hR j hj')
    · by_cases hji : j = i
      · subst hji
        rw [ho] at hoj
        obtain rfl := Option.some.inj hoj
        exact hfwd _ (hdep e he hb)
      · exact hfwd _ (hC j oj hoj (hback j hji hj) e he hb)
  · rintro listed a' w' ⟨hs, hk, hok, hR, -⟩ hr
    exact hend a' w' hk hok fun j hj => hR j (all_listed hu hs hr j hj)
theorem wp_region_relO {P : Program} {id : Nat} {ops : Array Oper} {Q : Exit → Act → World → Prop} {a : Act} {w : World} (hm : P.follows .mixedOrders = true) (hu : upward ops = true)
    (Ok : Act → World → Prop) (R : Nat → Act → World → Prop) (h0 : Ok a w.drew)
    (hstep : ∀ (i : Nat) (o : Oper) (a' : Act) (w' : World), ops[i]? = some o → Kept ops a a' → Ok a' w' → (∀ e ∈ o.after, Region.binds .any e = true → R e.on a' w') →
      o.wp P a' w' (fun a'' w'' => ∃ v, a'' = a'.put o.dst v ∧ Ok a'' w'' ∧ R i a'' w'' ∧ ∀ j, j ≠ i → (∀ oj : Oper, ops[j]? = some oj → ∀ e ∈ oj.after, Region.binds .any e = true → e.on ≠ i) → R j a' w' → R j a'' w'') Q)
    (hend : ∀ (a' : Act) (w' : World), Kept ops a a' → Ok a' w' → (∀ j, j < ops.size → R j a' w') → Q .normal a' w') : (Code.region id ops true).wp P Q a w := by
  refine wp_region_inv hm (fun listed a' w' => listed.size = ops.size ∧ Kept ops a a' ∧ Ok a' w' ∧ (∀ j : Nat, listed[j]? = some true → R j a' w') ∧ ∀ (j : Nat) (oj : Oper), ops[j]? = some oj → listed[j]? = some true → ∀ e ∈ oj.after, Region.binds .any e = true → listed[e.on]? = some true) ?_ ?_ ?_
  · refine ⟨by simp, ⟨rfl, rfl, fun _ _ => rfl⟩, h0, fun j hj => ?_, fun j oj _ hj => ?_⟩ <;> simp [Array.getElem?_replicate] at hj
  · rintro listed a' w' i ⟨hs, hk, hok, hR, hC⟩ hi
    obtain ⟨hl, hio, hd⟩ := ready_open hi
    have hl' : listed[i]? = some false := by rw [← Array.getElem?_toList]; exact hl
    obtain ⟨o, ho⟩ : ∃ o, ops[i]? = some o := ⟨ops[i], by simp [hio]⟩
    have hmem : o ∈ ops := Array.mem_of_getElem? ho
    have hg : o.guard.isNone = true := by
      have h1 := List.all_eq_true.1 hu i (List.mem_range.2 hio)
      rw [ho] at h1
      simp only [Bool.and_eq_true] at h1
      exact h1.2
    have hw : Region.wanted o (yielded ops a'.tmps) = true := by
      unfold Region.wanted
      cases hgg : o.guard with
      | none => rfl
      | some x => rw [hgg] at hg; cases hg
    have hdep : ∀ e ∈ o.after, Region.binds .any e = true → listed[e.on]? = some true := fun e he hb => by
      have h2 := hd o ho e he hb
      rw [Array.getD_eq_getD_getElem?] at h2
      cases hq : listed[e.on]? with
      | none => rw [hq] at h2; simp at h2
      | some b => rw [hq] at h2; simp at h2; rw [h2]
    unfold wpOp
    rw [ho]
    simp only [hw, if_true]
    refine .inl (Oper.wp_mono ?_ (hstep i o a' w' ho hk hok fun e he hb => hR e.on (hdep e he hb)))
    rintro a'' w'' ⟨v, rfl, hok', hRi, hst⟩
    have hback : ∀ j, j ≠ i → (listed.setIfInBounds i true)[j]? = some true → listed[j]? = some true := fun j hji hj => by
      rw [Array.getElem?_setIfInBounds, if_neg (Ne.symm hji)] at hj
      exact hj
    have hfwd : ∀ j : Nat, listed[j]? = some true → (listed.setIfInBounds i true)[j]? = some true := fun j hj => by
      have : i ≠ j := by rintro rfl; rw [hl'] at hj; cases hj
      rw [Array.getElem?_setIfInBounds, if_neg this]; exact hj
    refine ⟨by simpa using hs, hk.put hmem v, hok', fun j hj => ?_, fun j oj hoj hj e he hb => ?_⟩
    · by_cases hji : j = i
      · subst hji; exact hRi
      · have hj' := hback j hji hj
        exact hst j hji (fun oj hoj e he hb hei => by
          have := hC j oj hoj hj' e he hb
          rw [hei, hl'] at this; cases this) (hR j hj')
    · by_cases hji : j = i
      · subst hji
        rw [ho] at hoj
        obtain rfl := Option.some.inj hoj
        exact hfwd _ (hdep e he hb)
      · exact hfwd _ (hC j oj hoj (hback j hji hj) e he hb)
  · rintro listed a' w' ⟨hs, hk, hok, hR, -⟩ hr
    exact hend a' w' hk hok fun j hj => hR j (all_listed hu hs hr j hj)
end Go.Proofs.Ytbgcoeejmnejdaa.Cpy
