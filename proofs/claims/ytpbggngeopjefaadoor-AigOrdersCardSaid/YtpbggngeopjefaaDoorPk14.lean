/- What circuit.Check asks makes a circuit's text readable: numbers, texts and counts within bounds; no condition. -/
import Derived.Test.YtpbggngeopjefaaDoorPk13
import Derived.Test.YtpbggngeopjefaaDoorPk06
namespace Go.Proofs.YtpbggngeopjefaaDoor.Aag
open Go.Lib Dig Circ Cw

theorem def_within (m : Int) (hm : 0 ≤ m ∧ m ≤ 2048) : ∀ (l S T : List Int), defAll m S l = some T → (∀ y ∈ S, 0 ≤ y ∧ y ≤ 2049) → (∀ x ∈ l, 0 ≤ x ∧ x ≤ 4097) ∧ ∀ y ∈ T, 0 ≤ y ∧ y ≤ 2049
  | [], S, T, h, hS => by
    simp only [defAll, Option.some.injEq] at h
    subst h
    exact ⟨by simp, hS⟩
  | x :: l, S, T, h, hS => by
    simp only [defAll] at h
    split at h
    · rename_i hd
      unfold defOk outside great at hd
      simp only [Bool.and_eq_true, Bool.not_eq_true', Bool.or_eq_false_iff, decide_eq_false_iff_not] at hd
      obtain ⟨⟨⟨h1, h2⟩, _⟩, _⟩ := hd
      have hx : 0 ≤ x ∧ x ≤ 4097 := by
        refine ⟨by omega, ?_⟩
        first | omega | (split at h2 <;> omega)
      have hc : cnt x = x := by unfold cnt; rw [if_neg (by omega)]
      obtain ⟨g1, g2⟩ := def_within m hm l (cnt x / 2 :: S) T h (fun y hy => by
        rcases List.mem_cons.1 hy with rfl | hy
        · rw [hc]; omega
        · exact hS y hy)
      exact ⟨fun y hy => by
        rcases List.mem_cons.1 hy with rfl | hy
        · exact hx
        · exact g1 y hy, g2⟩
    · cases h
theorem named_within (S : List Int) (hS : ∀ y ∈ S, 0 ≤ y ∧ y ≤ 2049) (x : Int) (h : namedOk S x = true) : OkN x := by
  unfold namedOk at h
  simp only [Bool.and_eq_true, decide_eq_true_eq] at h
  have hc : cnt x = x := by unfold cnt; rw [if_neg (by omega)]
  rw [hc] at h
  have := hS (x / 2) (by simpa using h.1)
  exact ⟨h.2, by omega⟩
theorem ands_step (S : List Int) (hS : ∀ y ∈ S, 0 ≤ y ∧ y ≤ 2049) : ∀ (l : List Tri) (p q : Int), 0 ≤ p → through (andStep S) p l = some q → p + l.length ≤ q ∧ (∀ t ∈ l, 0 ≤ t.a ∧ OkN t.b ∧ OkN t.c) ∧ (q = p ∨ ∃ t ∈ l, q = t.a)
  | [], p, q, _, h => by
    simp only [through, Option.some.injEq] at h
    subst h
    exact ⟨by simp, by simp, .inl rfl⟩
  | t :: l, p, q, hp, h => by
    simp only [through, andStep] at h
    split at h
    · rename_i hc
      simp only [Bool.and_eq_true, decide_eq_true_eq] at hc
      obtain ⟨⟨⟨⟨h1, h2⟩, h3⟩, h4⟩, h5⟩ := hc
      obtain ⟨g1, g2, g3⟩ := ands_step S hS l t.a q (by omega) h
      refine ⟨by rw [List.length_cons]; omega, fun u hu => ?_, ?_⟩
      · rcases List.mem_cons.1 hu with rfl | hu
        · exact ⟨by omega, named_within S hS _ h4, named_within S hS _ h5⟩
        · exact g2 u hu
      · rcases g3 with g3 | ⟨u, hu, g3⟩
        · exact .inr ⟨t, List.mem_cons_self, g3⟩
        · exact .inr ⟨u, List.mem_cons_of_mem _ hu, g3⟩
    · cases h
theorem rank_kind (t : ByteArray) (h : 0 ≤ rankV t) : (∃ k ∈ kindsL, t.data.toList = [k]) ∧ rankV t ≤ 4 := by
  unfold rankV at h ⊢
  cases hq : kinds.findIdx? (fun x => x.toList == t.toList) with
  | none => rw [hq] at h; simp at h
  | some k =>
    rw [List.findIdx?_eq_some_iff_getElem] at hq
    obtain ⟨hk, he, _⟩ := hq
    have he' : kinds[k].toList = t.toList := beq_iff_eq.1 he
    have e : t.toList = t.data.toList := toList_data t
    rw [e] at he'
    clear he e h
    simp only
    match k, hk, he' with
    | 0, _, he' => exact ⟨⟨105, by decide, he'.symm.trans (toList_data _)⟩, by omega⟩
    | 1, _, he' => exact ⟨⟨108, by decide, he'.symm.trans (toList_data _)⟩, by omega⟩
    | 2, _, he' => exact ⟨⟨111, by decide, he'.symm.trans (toList_data _)⟩, by omega⟩
    | 3, _, he' => exact ⟨⟨98, by decide, he'.symm.trans (toList_data _)⟩, by omega⟩
    | 4, _, he' => exact ⟨⟨99, by decide, he'.symm.trans (toList_data _)⟩, by omega⟩
    | k + 5, hk, _ => exact absurd hk (by unfold kinds; simp)
theorem text_word (s : ByteArray) (h : textOk s = true) : Word s.data.toList ∧ s.data.toList.length ≤ 32 := by
  unfold textOk at h
  simp only [Bool.and_eq_true, decide_eq_true_eq] at h
  obtain ⟨⟨h1, h2⟩, h3⟩ := h
  have hl : s.data.toList.length = s.size := by simp
  have no : ∀ c : UInt8, octetOk c = false → c ∉ s.data.toList := fun c hc hm => by
    have := List.all_eq_true.1 h3 c hm
    rw [hc] at this; cases this
  refine ⟨⟨fun e => ?_, no 32 (by decide), no 10 (by decide)⟩, by omega⟩
  rw [e] at hl
  simp at hl
  omega
theorem names_step (c : Cir) (hk : ∀ t, (kindLits c t).length ≤ 64) : ∀ (l : List Nam) (p q : Int × Int), 0 ≤ p.1 → -1 ≤ p.2 → p.2 ≤ 63 → p.1 ≤ 4 → through (nameStep c) p l = some q → 64 * p.1 + p.2 + l.length ≤ 64 * q.1 + q.2 ∧ q.1 ≤ 4 ∧ q.2 ≤ 63 ∧ ∀ n ∈ l, NamFine n ∧ n.text.data.toList.length ≤ 32 ∧ n.num ≤ 64
  | [], p, q, h0, h1, h2, h3, h => by
    simp only [through, Option.some.injEq] at h
    subst h
    exact ⟨by simp, h3, h2, by simp⟩
  | n :: l, p, q, h0, h1, h2, h3, h => by
    simp only [through, nameStep] at h
    split at h
    · rename_i hc
      simp only [Bool.and_eq_true, Bool.or_eq_true, decide_eq_true_eq] at hc
      obtain ⟨⟨c1, c2, c3⟩, c4⟩ := hc
      have hr0 : 0 ≤ rankV n.kind := by rcases c1 with c1 | c1 <;> omega
      obtain ⟨hk1, hk2⟩ := rank_kind n.kind hr0
      have hn := hk n.kind
      obtain ⟨g1, g2, g3, g4⟩ := names_step c hk l (rankV n.kind, n.num) q hr0 (by simp only; omega) (by simp only; omega) hk2 h
      simp only at g1
      obtain ⟨t1, t2⟩ := text_word n.text c4
      refine ⟨by rw [List.length_cons]; rcases c1 with c1 | c1 <;> omega, g2, g3, fun m hm => ?_⟩
      rcases List.mem_cons.1 hm with rfl | hm
      · exact ⟨⟨hk1, ⟨c2, by omega⟩, t1⟩, t2, by omega⟩
      · exact g4 m hm
    · cases h
theorem chk_fine (c : Cir) (h : chk c = true) : Fine c ∧ c.ins.length ≤ 64 ∧ c.lats.length ≤ 64 ∧ c.outs.length ≤ 64 ∧ c.bads.length ≤ 64 ∧ c.invs.length ≤ 64 ∧ c.ands.length ≤ 4097 ∧ c.names.length ≤ 320 ∧ ∀ n ∈ c.names, n.text.data.toList.length ≤ 32 := by
  unfold chk at h
  simp only [Bool.and_eq_true] at h
  obtain ⟨hs, h⟩ := h
  unfold sizesOk lens at hs
  simp only [Bool.and_eq_true, decide_eq_true_eq, List.all_cons, List.all_nil] at hs
  obtain ⟨⟨m0, m1⟩, s1, s2, s3, s4, s5, _⟩ := hs
  cases hd : defAll c.max [0] (own c) with
  | none => rw [hd] at h; cases h
  | some S =>
    rw [hd] at h
    simp only at h
    unfold chkIn at h
    simp only [Bool.and_eq_true, List.all_cons, List.all_nil] at h
    obtain ⟨⟨⟨hl, ha⟩, ho, hb, hv, _⟩, hn⟩ := h
    obtain ⟨hown, hS⟩ := def_within c.max ⟨m0, m1⟩ (own c) [0] S hd (fun y hy => by simp only [List.mem_singleton] at hy; subst hy; omega)
    have oin : ∀ x ∈ c.ins, OkN x := fun x hx => by have := hown x (by unfold own; simp [hx]); exact ⟨this.1, by omega⟩
    have olat : ∀ t ∈ c.lats, OkN t.a := fun t ht => by
      have := hown t.a (by unfold own; simp only [List.mem_append, List.mem_map]; exact .inr (.inl ⟨t, ht, rfl⟩))
      exact ⟨this.1, by omega⟩
    have oand : ∀ t ∈ c.ands, 0 ≤ t.a ∧ t.a ≤ 4097 := fun t ht => hown t.a (by unfold own; simp only [List.mem_append, List.mem_map]; exact .inr (.inr ⟨t, ht, rfl⟩))
    unfold andsOk at ha
    obtain ⟨qa, hqa⟩ := Option.isSome_iff_exists.1 ha
    obtain ⟨a1, a2, a3⟩ := ands_step S hS c.ands 0 qa (by omega) hqa
    unfold namesOk at hn
    obtain ⟨qn, hqn⟩ := Option.isSome_iff_exists.1 hn
    have hkl : ∀ t, (kindLits c t).length ≤ 64 := fun t => by
      unfold kindLits
      split
      · omega
      split
      · rw [List.length_map]; omega
      split
      · omega
      split <;> omega
    obtain ⟨n1, n2, n3, n4⟩ := names_step c hkl c.names (0, -1) qn (by simp) (by simp) (by simp) (by simp) hqn
    simp only at n1
    have hna : (c.ands.length : Int) ≤ 4097 := by
      rcases a3 with a3 | ⟨t, ht, a3⟩
      · omega
      · have := oand t ht; omega
    have lit : ∀ (l : List Int), l.all (namedOk S) = true → ∀ x ∈ l, OkN x := fun l hl x hx => named_within S hS x (List.all_eq_true.1 hl x hx)
    refine ⟨⟨⟨m0, by omega⟩, oin, fun t ht => ?_, lit _ ho, lit _ hb, lit _ hv, fun t ht => ?_, fun n hn => (n4 n hn).1, by omega, by omega, by omega, by omega, by omega, by omega⟩, by omega, by omega, by omega, by omega, by omega, by omega, by omega, fun n hn => (n4 n hn).2.1⟩
    · have h1 := List.all_eq_true.1 hl t ht
      unfold latOk at h1
      simp only [Bool.and_eq_true, Bool.or_eq_true, decide_eq_true_eq] at h1
      have h2 := olat t ht
      refine ⟨h2, named_within S hS _ h1.1, ?_⟩
      rcases h1.2 with (h | h) | h <;> rw [h]
      · exact ⟨by omega, by omega⟩
      · exact ⟨by omega, by omega⟩
      · exact h2
    · have h1 := oand t ht
      obtain ⟨_, b1, b2⟩ := a2 t ht
      exact ⟨⟨h1.1, by omega⟩, b1, b2⟩
end Go.Proofs.YtpbggngeopjefaaDoor.Aag
