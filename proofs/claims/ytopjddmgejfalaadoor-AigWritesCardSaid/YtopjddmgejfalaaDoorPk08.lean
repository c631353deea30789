/- Circuits put in order, on plain lists: what is in order, and that it may be; no program is named here, no condition. -/
import Derived.Test.YtopjddmgejfalaaDoorPk06
import Derived.Test.YtopjddmgejfalaaDoorPk07
namespace Go.Proofs.YtopjddmgejfalaaDoor.Aig
open Go.RowKit Circ Cw Aag

/-- the number of a variable: one more than as many as were told ahead of it; the last one told stands first -/
def numAt : List Int → Int → Int
  | [], _ => 0
  | x :: l, v => if cnt x / 2 = v then (l.length : Int) + 1 else numAt l v
def renV (c : Cir) (v : Int) : Int := numAt (own c).reverse v
def ren (c : Cir) (l : Int) : Int := 2 * renV c (cnt l / 2) + cnt l % 2
def renLat (c : Cir) (t : Tri) : Tri := ⟨ren c t.a, ren c t.b, ren c t.c⟩
def renAnd (c : Cir) (t : Tri) : Tri := ⟨ren c t.a, max (ren c t.b) (ren c t.c), min (ren c t.b) (ren c t.c)⟩
def orderM (c : Cir) : Cir := ⟨(c.ins.length : Int) + c.lats.length + c.ands.length, c.ins.map (ren c), c.lats.map (renLat c), c.outs.map (ren c), c.bads.map (ren c), c.invs.map (ren c), c.ands.map (renAnd c), c.names⟩
/-- is it in order, as the page says? -/
def ordB (c : Cir) : Bool := decide (own c = evens (own c).length) && (c.ands.all (fun t => decide (t.c ≤ t.b)) && decide (c.max = (own c).length))
def triC (t : Tri) : Int × Int × Int := (cnt t.a, cnt t.b, cnt t.c)
def eqI (l m : List Int) : Bool := l.map cnt == m.map cnt
def eqT (l m : List Tri) : Bool := l.map triC == m.map triC
def sameV (a b : Cir) : Bool := decide (a.max = b.max) && (eqI a.ins b.ins && (eqT a.lats b.lats && (eqI a.outs b.outs && (eqI a.bads b.bads && (eqI a.invs b.invs && eqT a.ands b.ands)))))

theorem good_all (m : Int) : ∀ (l p : List Int), goodAll m p l = true → l.Nodup ∧ ∀ x ∈ l, x ∉ p ∧ 2 ≤ x ∧ x % 2 = 0 ∧ x ≤ 2 * m
  | [], p, _ => ⟨List.nodup_nil, by simp⟩
  | x :: l, p, h => by
    simp only [goodAll, Bool.and_eq_true] at h
    obtain ⟨h1, h2⟩ := h
    obtain ⟨g1, g2⟩ := good_all m l (p ++ [x]) h2
    unfold goodAt at h1
    simp only [Bool.and_eq_true, Bool.not_eq_true', List.any_eq_false, decide_eq_false_iff_not] at h1
    obtain ⟨a1, a2, a3, a4⟩ := h1
    refine ⟨List.nodup_cons.2 ⟨fun hm => (g2 x hm).1 (by simp), g1⟩, fun y hy => ?_⟩
    rcases List.mem_cons.1 hy with rfl | hy
    · exact ⟨fun hm => a4 y hm (by simp), by omega, by omega, by omega⟩
    · obtain ⟨b1, b2⟩ := g2 y hy
      exact ⟨fun hm => b1 (by simp [hm]), b2⟩
theorem numAt_none (v : Int) : ∀ (R : List Int), (∀ x ∈ R, cnt x / 2 ≠ v) → numAt R v = 0
  | [], _ => rfl
  | x :: R, h => by rw [numAt, if_neg (h x List.mem_cons_self), numAt_none v R (fun y hy => h y (List.mem_cons_of_mem _ hy))]
theorem numAt_found (v x : Int) (B : List Int) (hx : cnt x / 2 = v) : ∀ (A : List Int), (∀ a ∈ A, cnt a / 2 ≠ v) → numAt (A ++ x :: B) v = (B.length : Int) + 1
  | [], _ => by rw [List.nil_append, numAt, if_pos hx]
  | a :: A, h => by rw [List.cons_append, numAt, if_neg (h a List.mem_cons_self), numAt_found v x B hx A (fun y hy => h y (List.mem_cons_of_mem _ hy))]
theorem few_of (m : Nat) : ∀ (l : List Int), l.Nodup → (∀ x ∈ l, 2 ≤ x ∧ x % 2 = 0 ∧ x ≤ 2 * m) → l.length ≤ m := by
  induction m with
  | zero =>
    intro l _ h
    cases l with
    | nil => exact Nat.le_refl _
    | cons x l => have := h x List.mem_cons_self; omega
  | succ m ih =>
    intro l hn h
    have h1 : (l.filter (fun x => decide (x ≠ 2 * ((m : Int) + 1)))).length ≤ m := by
      refine ih _ (hn.filter _) (fun x hx => ?_)
      rw [List.mem_filter] at hx
      have := h x hx.1
      have h2 := of_decide_eq_true hx.2
      omega
    have h2 : ∀ (l : List Int) (y : Int), l.Nodup → l.length ≤ (l.filter (fun x => decide (x ≠ y))).length + 1 := by
      intro l y
      induction l with
      | nil => intro _; simp
      | cons x l ih =>
        intro hn
        obtain ⟨n1, n2⟩ := List.nodup_cons.1 hn
        by_cases hx : x = y
        · subst hx
          rw [List.filter_cons_of_neg (by simp), List.filter_eq_self.2 (fun a ha => decide_eq_true (show a ≠ x from fun e => n1 (by rw [← e]; exact ha)))]
          simp
        · rw [List.filter_cons_of_pos (by simpa using hx)]
          have := ih n2
          simp only [List.length_cons]; omega
    have := h2 l (2 * ((m : Int) + 1)) hn
    omega

section
variable {c : Cir}
theorem ref_parts (h : refOk c = true) : refHead c = true ∧ c.lats.all (latR c) = true ∧ (List.range c.ands.length).all (andAt c) = true ∧ goodAll c.max [] (own c) = true ∧ allKnown c c.outs = true ∧ allKnown c c.bads = true ∧ allKnown c c.invs = true := by
  unfold refOk at h
  simp only [Bool.and_eq_true] at h
  rw [← own_good]
  exact ⟨h.1, h.2.1, h.2.2.1, h.2.2.2.1, h.2.2.2.2.1, h.2.2.2.2.2.1, h.2.2.2.2.2.2⟩
theorem ren_own (h : refOk c = true) (k : Nat) (hk : k < (own c).length) : renV c ((own c)[k] / 2) = (k : Int) + 1 ∧ ren c (own c)[k] = lit k := by
  obtain ⟨hn, hg⟩ := good_all c.max (own c) [] (ref_parts h).2.2.2.1
  have hx := hg _ (List.getElem_mem hk)
  have hc : cnt (own c)[k] = (own c)[k] := cnt_pos _ (by omega)
  have e : renV c ((own c)[k] / 2) = (k : Int) + 1 := by
    unfold renV
    have hs : own c = (own c).take k ++ (own c)[k] :: (own c).drop (k + 1) := by simp
    have hr : (own c).reverse = ((own c).drop (k + 1)).reverse ++ (own c)[k] :: ((own c).take k).reverse := by
      conv => lhs; rw [hs]
      simp
    rw [hr, numAt_found _ _ _ (by rw [hc]) _ (fun a ha he => by
      have ha' : a ∈ (own c).drop (k + 1) := by simpa using ha
      have h1 := hg a (List.mem_of_mem_drop ha')
      rw [cnt_pos a (by omega)] at he
      have ea : a = (own c)[k] := by omega
      rw [hs, List.nodup_append] at hn
      exact (List.nodup_cons.1 hn.2.1).1 (ea ▸ ha'))]
    simp
    omega
  refine ⟨e, ?_⟩
  unfold ren lit
  rw [hc, e]; omega
theorem renV_zero (h : refOk c = true) : renV c 0 = 0 := by
  obtain ⟨hn, hg⟩ := good_all c.max (own c) [] (ref_parts h).2.2.2.1
  refine numAt_none 0 _ fun x hx => ?_
  have := hg x (by simpa using hx)
  rw [cnt_pos x (by omega)]; omega
theorem known_own (v : Int) : knownV c v = true ↔ v = 0 ∨ ∃ x ∈ own c, 0 ≤ x ∧ x / 2 = v := by
  have hv : ∀ l : List Int, hasVar l v = true ↔ ∃ x ∈ l, 0 ≤ x ∧ x / 2 = v := fun l => by unfold hasVar; simp
  unfold knownV own hasTri
  simp only [Bool.or_eq_true, decide_eq_true_eq, hv, List.mem_append]
  constructor
  · rintro (((h | ⟨x, h, r⟩) | ⟨x, h, r⟩) | ⟨x, h, r⟩)
    · exact .inl h
    · exact .inr ⟨x, .inl h, r⟩
    · exact .inr ⟨x, .inr (.inl h), r⟩
    · exact .inr ⟨x, .inr (.inr h), r⟩
  · rintro (h | ⟨x, (h | h | h), r⟩)
    · exact .inl (.inl (.inl h))
    · exact .inl (.inl (.inr ⟨x, h, r⟩))
    · exact .inl (.inr ⟨x, h, r⟩)
    · exact .inr ⟨x, h, r⟩
/-- a literal that is named is of 0, or of one of the circuit's own variables -/
theorem known_cases (h : refOk c = true) (x : Int) (hx : knownL c x = true) : 0 ≤ x ∧ ((x / 2 = 0 ∧ ren c x = x % 2) ∨ ∃ k, ∃ hk : k < (own c).length, x / 2 = (own c)[k] / 2 ∧ ren c x = lit k + x % 2) := by
  unfold knownL at hx
  simp only [Bool.and_eq_true, decide_eq_true_eq] at hx
  obtain ⟨h0, hv⟩ := hx
  have hc : cnt x = x := cnt_pos _ h0
  refine ⟨h0, ?_⟩
  rcases (known_own _).1 hv with hz | ⟨y, hy, y0, hy2⟩
  · refine .inl ⟨hz, ?_⟩
    unfold ren
    rw [hc, hz, renV_zero h]; omega
  · obtain ⟨k, hk, e⟩ := List.getElem_of_mem hy
    refine .inr ⟨k, hk, by rw [e]; exact hy2.symm, ?_⟩
    unfold ren
    rw [hc, ← hy2, ← e, (ren_own h k hk).1]
    unfold lit; omega
theorem own_count (h : refOk c = true) : (own c).length ≤ 2048 ∧ ((own c).length : Int) ≤ c.max := by
  obtain ⟨hh, -, -, hg, -⟩ := ref_parts h
  obtain ⟨hn, hg⟩ := good_all c.max (own c) [] hg
  unfold refHead at hh
  simp only [Bool.and_eq_true, Bool.not_eq_true', decide_eq_false_iff_not] at hh
  have := few_of c.max.toNat (own c) hn (fun x hx => by have := hg x hx; omega)
  omega
theorem own_len (c : Cir) : (own c).length = c.ins.length + c.lats.length + c.ands.length := by unfold own; simp; omega
theorem own_order (h : refOk c = true) : own (orderM c) = evens (own c).length := by
  have e : own (orderM c) = (own c).map (ren c) := by
    unfold own orderM
    simp only [List.map_append, List.map_map]
    rfl
  rw [e]
  apply List.ext_getElem
  · simp [evens_len]
  · intro k h1 h2
    rw [List.getElem_map, (ren_own h k (by simpa using h1)).2]
    simp [evens]
theorem evens_mem (n : Nat) (k : Nat) (hk : k < n) : lit k ∈ evens n := by unfold evens; exact List.mem_map.2 ⟨k, List.mem_range.2 hk, rfl⟩
theorem known_order (h : refOk c = true) (x : Int) (hx : knownL c x = true) : knownL (orderM c) (ren c x) = true := by
  obtain ⟨h0, hc⟩ := known_cases h x hx
  unfold knownL
  rcases hc with ⟨hz, e⟩ | ⟨k, hk, he, e⟩
  · rw [e, Bool.and_eq_true, decide_eq_true_eq]
    exact ⟨by omega, (known_own _).2 (.inl (by omega))⟩
  · rw [e, Bool.and_eq_true, decide_eq_true_eq]
    refine ⟨by unfold lit; omega, (known_own _).2 (.inr ⟨lit k, ?_, by unfold lit; omega, by unfold lit; omega⟩)⟩
    rw [own_order h]
    exact evens_mem _ k hk
theorem ands_rise (h : refOk c = true) : ∀ (j k : Nat) (hj : j < c.ands.length) (hk : k ≤ j), (c.ands[k]'(by omega)).a ≤ c.ands[j].a := by
  obtain ⟨-, -, ha, -⟩ := ref_parts h
  intro j
  induction j with
  | zero => intro k hj hk; obtain rfl : k = 0 := (by omega); exact Int.le_refl _
  | succ j ih =>
    intro k hj hk
    by_cases e : k = j + 1
    · subst e; exact Int.le_refl _
    · have h1 := ih k (by omega) (by omega)
      have h2 := List.all_eq_true.1 ha (j + 1) (List.mem_range.2 hj)
      rw [andAt_pos c (j + 1) hj (by omega)] at h2
      simp only [Bool.and_eq_true, decide_eq_true_eq, Nat.add_sub_cancel] at h2
      omega
theorem and_at (h : refOk c = true) (k : Nat) (hk : k < c.ands.length) : c.ands[k].b < c.ands[k].a ∧ c.ands[k].c < c.ands[k].a ∧ knownL c c.ands[k].b = true ∧ knownL c c.ands[k].c = true := by
  obtain ⟨-, -, ha, -⟩ := ref_parts h
  have := List.all_eq_true.1 ha k (List.mem_range.2 hk)
  unfold andAt at this
  rw [List.getElem?_eq_getElem hk] at this
  simp only [Bool.and_eq_true, decide_eq_true_eq] at this
  exact this.2
theorem own_ands (c : Cir) (k : Nat) (hk : k < c.ands.length) : ∃ h' : c.ins.length + c.lats.length + k < (own c).length, (own c)[c.ins.length + c.lats.length + k] = c.ands[k].a := by
  refine ⟨by rw [own_len]; omega, ?_⟩
  unfold own
  rw [List.getElem_append_right (by omega), List.getElem_append_right (by simp; omega)]
  simp only [List.getElem_map, List.length_map]
  congr 2
  omega
theorem own_lats (c : Cir) (k : Nat) (hk : k < c.lats.length) : ∃ h' : c.ins.length + k < (own c).length, (own c)[c.ins.length + k] = c.lats[k].a := by
  refine ⟨by rw [own_len]; omega, ?_⟩
  unfold own
  rw [List.getElem_append_right (by omega), List.getElem_append_left (by simp; omega)]
  simp only [List.getElem_map]
  congr 2
  omega
theorem own_ins (c : Cir) (k : Nat) (hk : k < c.ins.length) : ∃ h' : k < (own c).length, (own c)[k] = c.ins[k] := by
  refine ⟨by rw [own_len]; omega, ?_⟩
  unfold own
  rw [List.getElem_append_left hk]
/-- what an and names comes out below it -/
theorem and_below (h : refOk c = true) (k : Nat) (hk : k < c.ands.length) (x : Int) (hx : knownL c x = true) (hl : x < c.ands[k].a) : 0 ≤ ren c x ∧ ren c x < lit (c.ins.length + c.lats.length + k) := by
  obtain ⟨h0, hc⟩ := known_cases h x hx
  rcases hc with ⟨hz, e⟩ | ⟨j, hj, he, e⟩
  · rw [e]; unfold lit; omega
  · rw [e]
    by_cases hjk : j < c.ins.length + c.lats.length + k
    · unfold lit; omega
    · exfalso
      obtain ⟨i, rfl⟩ : ∃ i, j = c.ins.length + c.lats.length + i := ⟨j - (c.ins.length + c.lats.length), by omega⟩
      have hi : i < c.ands.length := by rw [own_len] at hj; omega
      obtain ⟨_, e1⟩ := own_ands c i hi
      have h2 := ands_rise h i k hi (by omega)
      rw [e1] at he
      obtain ⟨_, hg⟩ := good_all c.max (own c) [] (ref_parts h).2.2.2.1
      have h3 := hg _ (List.getElem_mem hj)
      rw [e1] at h3
      omega
theorem ren_and (h : refOk c = true) (k : Nat) (hk : k < c.ands.length) : ren c c.ands[k].a = lit (c.ins.length + c.lats.length + k) := by
  obtain ⟨h', e⟩ := own_ands c k hk
  rw [← e]; exact (ren_own h _ h').2
/-- A CIRCUIT THAT IS PUT IN ORDER MAY BE -/
theorem order_may (h : refOk c = true) : refOk (orderM c) = true := by
  obtain ⟨hh, hl, ha, hg, ho, hb, hi⟩ := ref_parts h
  have hcnt : ∀ t, countV (orderM c) t = countV c t := fun t => by unfold countV orderM; simp
  have hn : refNames (orderM c) = refNames c := by
    unfold refNames
    congr 1
    funext k
    unfold refAt refName
    simp only [hcnt]
    rfl
  have hkn : ∀ l : List Int, allKnown c l = true → allKnown (orderM c) (l.map (ren c)) = true := fun l hl => by
    unfold allKnown at hl ⊢
    simp only [Bool.and_eq_true, decide_eq_true_eq, List.all_eq_true, List.length_map] at hl ⊢
    exact ⟨fun x hx => by obtain ⟨y, hy, rfl⟩ := List.mem_map.1 hx; exact known_order h y (hl.1 y hy), hl.2⟩
  have hoc := own_count h
  have hlen := own_len c
  have hown := own_order h
  have z0 : ren c 0 = 0 := by unfold ren; rw [show cnt 0 / 2 = 0 from rfl, renV_zero h]; rfl
  have z1 : ren c 1 = 1 := by unfold ren; rw [show cnt 1 / 2 = 0 from rfl, renV_zero h]; rfl
  unfold refOk
  simp only [Bool.and_eq_true]
  refine ⟨?_, ?_, ?_, ?_, hkn _ ho, hkn _ hb, hkn _ hi⟩
  · unfold refHead at hh ⊢
    rw [hn]
    simp only [Bool.and_eq_true, Bool.not_eq_true', decide_eq_false_iff_not] at hh ⊢
    refine ⟨?_, ?_, ?_, ?_, hh.2.2.2.2⟩
    · unfold orderM; simp only; omega
    · unfold orderM; simp only; omega
    · unfold orderM; simp only [List.length_map]; exact hh.2.2.1
    · unfold orderM; simp only [List.length_map]; exact hh.2.2.2.1
  · rw [List.all_eq_true]
    intro t ht
    obtain ⟨u, hu, rfl⟩ := List.mem_map.1 ht
    have h1 := List.all_eq_true.1 hl u hu
    unfold latR at h1 ⊢
    simp only [Bool.and_eq_true, Bool.or_eq_true, decide_eq_true_eq] at h1 ⊢
    refine ⟨?_, known_order h _ h1.2⟩
    unfold renLat
    simp only
    rcases h1.1 with (e | e) | e <;> rw [e]
    · exact .inl (.inl z0)
    · exact .inl (.inr z1)
    · exact .inr rfl
  · rw [List.all_eq_true]
    intro k hk
    have hk' : k < c.ands.length := by have := List.mem_range.1 hk; unfold orderM at this; simpa using this
    obtain ⟨b1, b2, b3, b4⟩ := and_at h k hk'
    obtain ⟨q1, q2⟩ := and_below h k hk' _ b3 b1
    obtain ⟨r1, r2⟩ := and_below h k hk' _ b4 b2
    have e1 := ren_and h k hk'
    have eget : ∀ j (hj : j < c.ands.length), (orderM c).ands[j]? = some (renAnd c c.ands[j]) := fun j hj => by unfold orderM; simp [hj]
    have k1 := known_order h _ b3
    have k2 := known_order h _ b4
    have kmax : knownL (orderM c) (max (ren c c.ands[k].b) (ren c c.ands[k].c)) = true := by
      rw [Int.max_def]; split
      · exact k2
      · exact k1
    have kmin : knownL (orderM c) (min (ren c c.ands[k].b) (ren c c.ands[k].c)) = true := by
      rw [Int.min_def]; split
      · exact k1
      · exact k2
    unfold andAt
    rw [eget k hk']
    simp only [Bool.and_eq_true, decide_eq_true_eq]
    refine ⟨?_, ?_, ?_, kmax, kmin⟩
    · cases k with
      | zero => rfl
      | succ j =>
        simp only
        rw [eget j (by omega)]
        simp only [decide_eq_true_eq]
        unfold renAnd
        simp only
        rw [ren_and h j (by omega), e1]
        unfold lit; omega
    · unfold renAnd; simp only; rw [e1]; omega
    · unfold renAnd; simp only; rw [e1]; omega
  · rw [own_good, hown]
    have hm : (orderM c).max = ((own c).length : Int) := by unfold orderM; simp only; omega
    rw [hm, ← own_good, evens_len, List.all_eq_true]
    intro k hk
    have hk := List.mem_range.1 hk
    have hkl : k < (evens (own c).length).length := by rw [evens_len]; exact hk
    rw [ownAt_is _ _ k hkl]
    have e : (evens (own c).length)[k] = lit k := by simp [evens]
    rw [e]
    simp only [Bool.and_eq_true, Bool.not_eq_true', decide_eq_false_iff_not, List.any_eq_false]
    refine ⟨by unfold lit; omega, by unfold lit; omega, by unfold lit; omega, fun x hx => ?_⟩
    obtain ⟨j, hj, ej⟩ := List.getElem_of_mem hx
    rw [List.length_take] at hj
    rw [List.getElem_take] at ej
    have e2 : x = lit j := by rw [← ej]; simp [evens]
    rw [e2]
    simp only [beq_iff_eq]
    unfold lit; omega
/-- .. AND IS IN ORDER -/
theorem order_ord (h : refOk c = true) : ordB (orderM c) = true := by
  have hown := own_order h
  have hlen := own_len c
  unfold ordB
  rw [hown, evens_len]
  simp only [decide_true, Bool.true_and, Bool.and_eq_true, decide_eq_true_eq, List.all_eq_true]
  refine ⟨fun t ht => ?_, ?_⟩
  · obtain ⟨u, hu, rfl⟩ := List.mem_map.1 ht
    unfold renAnd; simp only; omega
  · unfold orderM; simp only; omega
theorem ren_id (h : refOk c = true) (ho : own c = evens (own c).length) (x : Int) (hx : knownL c x = true) : ren c x = x := by
  obtain ⟨h0, hc⟩ := known_cases h x hx
  rcases hc with ⟨hz, e⟩ | ⟨k, hk, he, e⟩
  · rw [e]; omega
  · have e2 : (own c)[k] = lit k := by
      have : (own c)[k]? = (evens (own c).length)[k]? := by rw [← ho]
      rw [List.getElem?_eq_getElem hk] at this
      simp [evens, hk] at this
      exact this
    rw [e2] at he
    rw [e]; unfold lit at he ⊢; omega
theorem map_id_of {α : Type} (f : α → α) : ∀ (l : List α), (∀ x ∈ l, f x = x) → l.map f = l
  | [], _ => rfl
  | x :: l, h => by rw [List.map_cons, h x List.mem_cons_self, map_id_of f l (fun y hy => h y (List.mem_cons_of_mem _ hy))]
theorem own_id (h : refOk c = true) (ho : own c = evens (own c).length) (x : Int) (hx : x ∈ own c) : ren c x = x := by
  obtain ⟨k, hk, e⟩ := List.getElem_of_mem hx
  have e2 : (own c)[k] = lit k := by
    have : (own c)[k]? = (evens (own c).length)[k]? := by rw [← ho]
    rw [List.getElem?_eq_getElem hk] at this
    simp [evens, hk] at this
    exact this
  rw [← e, (ren_own h k hk).2, e2]
/-- A CIRCUIT IN ORDER STAYS AS IT IS -/
theorem ord_id (h : refOk c = true) (ho : ordB c = true) : orderM c = c := by
  obtain ⟨hh, hl, ha, hg, hou, hb, hi⟩ := ref_parts h
  unfold ordB at ho
  simp only [Bool.and_eq_true, decide_eq_true_eq, List.all_eq_true] at ho
  obtain ⟨ho, hbc, hm⟩ := ho
  have hlen := own_len c
  have lk : ∀ l : List Int, allKnown c l = true → l.map (ren c) = l := fun l hl => by
    unfold allKnown at hl
    simp only [Bool.and_eq_true, List.all_eq_true] at hl
    exact map_id_of _ l fun x hx => ren_id h ho x (hl.1 x hx)
  have z0 : ren c 0 = 0 := by unfold ren; rw [show cnt 0 / 2 = 0 from rfl, renV_zero h]; rfl
  have z1 : ren c 1 = 1 := by unfold ren; rw [show cnt 1 / 2 = 0 from rfl, renV_zero h]; rfl
  have e1 : c.ins.map (ren c) = c.ins := map_id_of _ _ fun x hx => own_id h ho x (by unfold own; simp [hx])
  have e2 : c.lats.map (renLat c) = c.lats := map_id_of _ _ fun t ht => by
    have h1 := List.all_eq_true.1 hl t ht
    unfold latR at h1
    simp only [Bool.and_eq_true, Bool.or_eq_true, decide_eq_true_eq] at h1
    have ea : ren c t.a = t.a := own_id h ho _ (by unfold own; simp only [List.mem_append, List.mem_map]; exact .inr (.inl ⟨t, ht, rfl⟩))
    have ec : ren c t.c = t.c := by
      rcases h1.1 with (e | e) | e <;> rw [e]
      · exact z0
      · exact z1
      · exact ea
    unfold renLat
    rw [ea, ren_id h ho _ h1.2, ec]
  have e3 : c.ands.map (renAnd c) = c.ands := map_id_of _ _ fun t ht => by
    obtain ⟨k, hk, rfl⟩ := List.getElem_of_mem ht
    obtain ⟨_, _, b3, b4⟩ := and_at h k hk
    have ea : ren c c.ands[k].a = c.ands[k].a := own_id h ho _ (by unfold own; simp only [List.mem_append, List.mem_map]; exact .inr (.inr ⟨_, ht, rfl⟩))
    have hle := hbc _ ht
    unfold renAnd
    rw [ea, ren_id h ho _ b3, ren_id h ho _ b4, show max c.ands[k].b c.ands[k].c = c.ands[k].b by omega, show min c.ands[k].b c.ands[k].c = c.ands[k].c by omega]
  unfold orderM
  rw [e1, e2, e3, lk _ hou, lk _ hb, lk _ hi, show (c.ins.length : Int) + c.lats.length + c.ands.length = c.max by omega]
theorem sameV_self (c : Cir) : sameV c c = true := by unfold sameV eqI eqT; simp
/-- what comes out as it was is in order -/
theorem same_ord (h : refOk c = true) (hs : sameV (orderM c) c = true) : ordB c = true := by
  have hd := order_ord h
  have hr := order_may h
  have hown := own_order h
  obtain ⟨_, hg⟩ := good_all c.max (own c) [] (ref_parts h).2.2.2.1
  unfold sameV at hs
  simp only [Bool.and_eq_true, decide_eq_true_eq] at hs
  obtain ⟨s0, s1, s2, -, -, -, s6⟩ := hs
  have hlen := own_len c
  unfold eqI at s1
  unfold eqT at s2 s6
  have e1 := beq_iff_eq.1 s1
  have e2 := beq_iff_eq.1 s2
  have e6 := beq_iff_eq.1 s6
  have f2 := congrArg (List.map Prod.fst) e2
  have f6 := congrArg (List.map Prod.fst) e6
  rw [List.map_map, List.map_map] at f2 f6
  have hcm : (own (orderM c)).map cnt = (own c).map cnt := by
    unfold own
    simp only [List.map_append, List.map_map]
    rw [e1]
    have g2 : List.map (cnt ∘ Tri.a) (orderM c).lats = List.map (cnt ∘ Tri.a) c.lats := f2
    have g6 : List.map (cnt ∘ Tri.a) (orderM c).ands = List.map (cnt ∘ Tri.a) c.ands := f6
    rw [g2, g6]
  have he : own c = evens (own c).length := by
    rw [hown, map_id_of cnt (evens _) (fun x hx => by
      unfold evens at hx
      obtain ⟨k, _, rfl⟩ := List.mem_map.1 hx
      exact cnt_pos _ (by unfold lit; omega)), map_id_of cnt (own c) (fun x hx => cnt_pos _ (by have := hg x hx; omega))] at hcm
    exact hcm.symm
  unfold ordB
  simp only [Bool.and_eq_true, decide_eq_true_eq, List.all_eq_true]
  refine ⟨he, fun t ht => ?_, ?_⟩
  · obtain ⟨k, hk, rfl⟩ := List.getElem_of_mem ht
    obtain ⟨_, _, b3, b4⟩ := and_at h k hk
    have n3 := (known_cases h _ b3).1
    have n4 := (known_cases h _ b4).1
    have r3 := (known_cases hr _ (known_order h _ b3)).1
    have r4 := (known_cases hr _ (known_order h _ b4)).1
    have ek := congrArg (fun l : List (Int × Int × Int) => l[k]?) e6
    simp only [List.getElem?_map, List.getElem?_eq_getElem hk, Option.map_some, orderM, Option.some.injEq] at ek
    unfold triC renAnd at ek
    simp only [Prod.mk.injEq] at ek
    rw [cnt_pos _ (show 0 ≤ max (ren c c.ands[k].b) (ren c c.ands[k].c) by omega), cnt_pos _ (show 0 ≤ min (ren c c.ands[k].b) (ren c c.ands[k].c) by omega), cnt_pos _ n3, cnt_pos _ n4] at ek
    omega
  · have : (orderM c).max = c.max := s0
    unfold orderM at this
    simp only at this
    omega
theorem same_iff (h : refOk c = true) : sameV (orderM c) c = ordB c := by
  cases hb : ordB c with
  | true => rw [ord_id h hb]; exact sameV_self c
  | false =>
    cases hs : sameV (orderM c) c with
    | false => rfl
    | true => rw [same_ord h hs] at hb; cases hb
end
end Go.Proofs.YtopjddmgejfalaaDoor.Aig
