/- What the pages ask of a circuit, taken apart; hashed it may be, too; no program is named here, no condition. Hashed, a circuit may be, does what it did, and hashed again it stays; no program is named here, no condition. The walk of the closure that writes a variable down once; no condition. -/
import Derived.Test.YtpaneggajjgdlaaPk13
import Derived.Test.YtpaneggajjgdlaaPk03
import Derived.Test.YtpaneggajjgdlaaPk08
namespace Go.Proofs.Ytpaneggajjgdlaa.Str
open Circ Cw

theorem good_all (m : Int) : ∀ (l p : List Int), goodAll m p l = true → l.Nodup ∧ ∀ x ∈ l, x ∉ p ∧ 2 ≤ x ∧ x % 2 = 0 ∧ x ≤ 2 * m
  | [], p, _ => ⟨List.nodup_nil, by simp⟩
  | x :: l, p, h => by
    simp only [goodAll, Bool.and_eq_true] at h
    obtain ⟨h1, h2⟩ := h
    obtain ⟨g1, g2⟩ := good_all m l (p ++ [x]) h2
    unfold goodAt at h1
    simp only [Bool.and_eq_true, Bool.not_eq_true', List.any_eq_false, decide_eq_false_iff_not] at h1
    obtain ⟨a1, a2, a3, a4⟩ := h1
    refine ⟨List.nodup_cons.2 ⟨fun hm => (g2 x hm).1 (by simp), g1⟩, fun y hy => ?_⟩
    rcases List.mem_cons.1 hy with rfl | hy
    · exact ⟨fun hm => a4 y hm (by simp), by omega, by omega, by omega⟩
    · obtain ⟨b1, b2⟩ := g2 y hy
      exact ⟨fun hm => b1 (by simp [hm]), b2⟩
section
variable {c : Cir}
theorem ref_parts (h : refOk c = true) : refHead c = true ∧ c.lats.all (latR c) = true ∧ (List.range c.ands.length).all (andAt c) = true ∧ goodAll c.max [] (own c) = true ∧ allKnown c c.outs = true ∧ allKnown c c.bads = true ∧ allKnown c c.invs = true := by
  unfold refOk at h
  simp only [Bool.and_eq_true] at h
  rw [← own_good]
  exact ⟨h.1, h.2.1, h.2.2.1, h.2.2.2.1, h.2.2.2.2.1, h.2.2.2.2.2.1, h.2.2.2.2.2.2⟩
theorem known_own (v : Int) : knownV c v = true ↔ v = 0 ∨ ∃ x ∈ own c, 0 ≤ x ∧ x / 2 = v := by
  have hv : ∀ l : List Int, hasVar l v = true ↔ ∃ x ∈ l, 0 ≤ x ∧ x / 2 = v := fun l => by unfold hasVar; simp
  unfold knownV own hasTri
  simp only [Bool.or_eq_true, decide_eq_true_eq, hv, List.mem_append]
  constructor
  · rintro (((h | ⟨x, h, r⟩) | ⟨x, h, r⟩) | ⟨x, h, r⟩)
    · exact .inl h
    · exact .inr ⟨x, .inl h, r⟩
    · exact .inr ⟨x, .inr (.inl h), r⟩
    · exact .inr ⟨x, .inr (.inr h), r⟩
  · rintro (h | ⟨x, (h | h | h), r⟩)
    · exact .inl (.inl (.inl h))
    · exact .inl (.inl (.inr ⟨x, h, r⟩))
    · exact .inl (.inr ⟨x, h, r⟩)
    · exact .inr ⟨x, h, r⟩
theorem ands_rise (h : refOk c = true) : ∀ (j k : Nat) (hj : j < c.ands.length) (hk : k ≤ j), (c.ands[k]'(by omega)).a ≤ c.ands[j].a := by
  obtain ⟨-, -, ha, -⟩ := ref_parts h
  intro j
  induction j with
  | zero => intro k hj hk; obtain rfl : k = 0 := (by omega); exact Int.le_refl _
  | succ j ih =>
    intro k hj hk
    by_cases e : k = j + 1
    · subst e; exact Int.le_refl _
    · have h1 := ih k (by omega) (by omega)
      have h2 := List.all_eq_true.1 ha (j + 1) (List.mem_range.2 hj)
      rw [andAt_pos c (j + 1) hj (by omega)] at h2
      simp only [Bool.and_eq_true, decide_eq_true_eq, Nat.add_sub_cancel] at h2
      omega
theorem and_at (h : refOk c = true) (k : Nat) (hk : k < c.ands.length) : c.ands[k].b < c.ands[k].a ∧ c.ands[k].c < c.ands[k].a ∧ knownL c c.ands[k].b = true ∧ knownL c c.ands[k].c = true := by
  obtain ⟨-, -, ha, -⟩ := ref_parts h
  have := List.all_eq_true.1 ha k (List.mem_range.2 hk)
  unfold andAt at this
  rw [List.getElem?_eq_getElem hk] at this
  simp only [Bool.and_eq_true, decide_eq_true_eq] at this
  exact this.2
theorem good_of (m : Int) : ∀ (l p : List Int), l.Nodup → (∀ x ∈ l, x ∉ p ∧ 2 ≤ x ∧ x % 2 = 0 ∧ x ≤ 2 * m) → goodAll m p l = true
  | [], _, _, _ => rfl
  | x :: l, p, hn, h => by
    obtain ⟨n1, n2⟩ := List.nodup_cons.1 hn
    obtain ⟨a1, a2, a3, a4⟩ := h x List.mem_cons_self
    simp only [goodAll, Bool.and_eq_true]
    refine ⟨?_, good_of m l (p ++ [x]) n2 fun y hy => ?_⟩
    · unfold goodAt
      simp only [Bool.and_eq_true, Bool.not_eq_true', List.any_eq_false, decide_eq_false_iff_not]
      exact ⟨by omega, by omega, by omega, fun y hy e => a1 (by simp at e; rw [← e]; exact hy)⟩
    · obtain ⟨b1, b2⟩ := h y (List.mem_cons_of_mem _ hy)
      refine ⟨fun hm => ?_, b2⟩
      rcases List.mem_append.1 hm with hm | hm
      · exact b1 hm
      · rw [List.mem_singleton.1 hm] at hy; exact n1 hy
/-- what is known ahead of all ands -/
def baseV (c : Cir) (v : Int) : Prop := v = 0 ∨ 2 * v ∈ c.ins ∨ 2 * v ∈ c.lats.map Tri.a
theorem own_facts (h : refOk c = true) : (own c).Nodup ∧ ∀ x ∈ own c, 2 ≤ x ∧ x % 2 = 0 ∧ x ≤ 2 * c.max := by
  obtain ⟨hn, hg⟩ := good_all c.max (own c) [] (ref_parts h).2.2.2.1
  exact ⟨hn, fun x hx => (hg x hx).2⟩
theorem seen_of (h : refOk c = true) {x : Int} (hx : knownL c x = true) : 0 ≤ x ∧ Seen (baseV c) c.ands (x / 2) := by
  unfold knownL at hx
  simp only [Bool.and_eq_true, decide_eq_true_eq] at hx
  refine ⟨hx.1, ?_⟩
  rcases (known_own _).1 hx.2 with h0 | ⟨y, hy, y0, e⟩
  · exact .inl (.inl h0)
  · obtain ⟨_, he, _⟩ := (own_facts h).2 y hy
    have e2 : y = 2 * (x / 2) := by omega
    unfold own at hy
    rcases List.mem_append.1 hy with hy | hy
    · exact .inl (.inr (.inl (by rw [← e2]; exact hy)))
    · rcases List.mem_append.1 hy with hy | hy
      · exact .inl (.inr (.inr (by rw [← e2]; exact hy)))
      · obtain ⟨u, hu, eu⟩ := List.mem_map.1 hy
        exact .inr ⟨u, hu, by omega⟩
theorem of_seen_known {x : Int} (hx : 0 ≤ x) (hs : Seen (baseV c) c.ands (x / 2)) : knownL c x = true := by
  unfold knownL
  simp only [Bool.and_eq_true, decide_eq_true_eq]
  refine ⟨hx, (known_own _).2 ?_⟩
  have two : ∀ y : Int, y = 2 * (x / 2) → 0 ≤ y ∧ y / 2 = x / 2 := fun y e => by omega
  rcases hs with (h0 | h1 | h1) | ⟨u, hu, e⟩
  · exact .inl h0
  · exact .inr ⟨_, by unfold own; exact List.mem_append_left _ h1, two _ rfl⟩
  · exact .inr ⟨_, by unfold own; exact List.mem_append_right _ (List.mem_append_left _ h1), two _ rfl⟩
  · exact .inr ⟨u.a, by unfold own; exact List.mem_append_right _ (List.mem_append_right _ (List.mem_map.2 ⟨u, hu, rfl⟩)), two _ e⟩
theorem ands_own (h : refOk c = true) {t : Tri} (ht : t ∈ c.ands) : 2 ≤ t.a ∧ t.a % 2 = 0 ∧ t.a ≤ 2 * c.max ∧ ¬ baseV c (t.a / 2) := by
  obtain ⟨hn, hg⟩ := own_facts h
  have hm : t.a ∈ own c := by unfold own; exact List.mem_append_right _ (List.mem_append_right _ (List.mem_map.2 ⟨t, ht, rfl⟩))
  obtain ⟨a1, a2, a3⟩ := hg _ hm
  refine ⟨a1, a2, a3, ?_⟩
  have e : 2 * (t.a / 2) = t.a := by omega
  unfold own at hn
  rw [List.nodup_append] at hn
  obtain ⟨_, n2, n3⟩ := hn
  rw [List.nodup_append] at n2
  rintro (h0 | h1 | h1)
  · omega
  · rw [e] at h1
    exact n3 _ h1 _ (List.mem_append_right _ (List.mem_map.2 ⟨t, ht, rfl⟩)) rfl
  · rw [e] at h1
    exact n2.2.2 _ h1 _ (List.mem_map.2 ⟨t, ht, rfl⟩) rfl
theorem ands_less (h : refOk c = true) {j k : Nat} (hjk : j < k) (hk : k < c.ands.length) : (c.ands[j]'(by omega)).a < c.ands[k].a := by
  have h1 := ands_rise h k j hk (by omega)
  rcases Int.lt_or_eq_of_le h1 with h2 | h2
  · exact h2
  · exfalso
    obtain ⟨hn, _⟩ := own_facts h
    unfold own at hn
    rw [List.nodup_append] at hn
    obtain ⟨_, n2, _⟩ := hn
    rw [List.nodup_append] at n2
    have := List.pairwise_iff_getElem.1 n2.2.1 j k (by simp; omega) (by simpa using hk) hjk
    simp at this
    exact this h2
theorem good_take (h : refOk c = true) : ∀ k, k ≤ c.ands.length → Good (baseV c) (c.ands.take k)
  | 0, _ => by rw [List.take_zero]; exact .nil
  | k + 1, hk => by
    have hk' : k < c.ands.length := hk
    rw [List.take_succ_eq_append_getElem hk']
    obtain ⟨b1, b2, b3, b4⟩ := and_at h k hk'
    obtain ⟨o1, o2, _, o4⟩ := ands_own h (List.getElem_mem hk')
    obtain ⟨s0, s1⟩ := seen_of h b3
    obtain ⟨r0, r1⟩ := seen_of h b4
    have cut : ∀ x : Int, x < c.ands[k].a → Seen (baseV c) c.ands (x / 2) → Seen (baseV c) (c.ands.take k) (x / 2) := fun x hx hs => by
      rcases hs with hs | ⟨u, hu, e⟩
      · exact .inl hs
      · obtain ⟨j, hj, rfl⟩ := List.getElem_of_mem hu
        have hjk : j < k := by
          rcases Nat.lt_or_ge j k with h1 | h1
          · exact h1
          · have := ands_rise h j k hj h1
            omega
        exact .inr ⟨c.ands[j], by rw [List.mem_take_iff_getElem]; exact ⟨j, by omega, rfl⟩, e⟩
    refine .snoc _ _ (good_take h k (by omega)) o1 o2 (fun u hu => ?_) s0 b1 r0 b2 (cut _ b1 s1) (cut _ b2 r1) o4
    rw [List.mem_take_iff_getElem] at hu
    obtain ⟨j, hj, rfl⟩ := hu
    exact ands_less h (by omega) hk'
theorem good_ands (h : refOk c = true) : Good (baseV c) c.ands := by
  have := good_take h c.ands.length (Nat.le_refl _)
  rwa [List.take_length] at this
end

/-- what is told of a circuit -/
def toldL (c : Cir) : List Int := c.outs ++ (c.bads ++ (c.invs ++ c.lats.map Tri.b))
/-- each literal what stands for it, the ands those that stay -/
def swapM (c : Cir) : Cir := { c with outs := c.outs.map (ofM (runM c.ands).F), bads := c.bads.map (ofM (runM c.ands).F), invs := c.invs.map (ofM (runM c.ands).F), lats := c.lats.map (fun t => ⟨t.a, ofM (runM c.ands).F t.b, t.c⟩), ands := (runM c.ands).st }
open Classical in
noncomputable def hashM (c : Cir) : Cir := { swapM c with ands := those (Hangs (swapM c).ands (toldL (swapM c))) (swapM c).ands }
end Go.Proofs.Ytpaneggajjgdlaa.Str
namespace Go.Proofs.Ytpaneggajjgdlaa.Str
open Circ Cw

theorem Good.less {B : Int → Prop} {l : List Tri} (hg : Good B l) : l.Pairwise fun s t => s.a < t.a := by
  induction hg with
  | nil => exact List.Pairwise.nil
  | snoc l t h1 h2 h3 h4 h5 h6 h7 h8 h9 h10 h11 ih =>
    rw [List.pairwise_append]
    exact ⟨ih, List.pairwise_singleton _ _, fun u hu w hw => by rw [List.mem_singleton.1 hw]; exact h4 u hu⟩
section
variable {c : Cir}
theorem inv_of (h : refOk c = true) : Inv (baseV c) c.ands (runM c.ands) := inv_run (.inl rfl) (good_ands h)
theorem base_hash : baseV (hashM c) = baseV c := by
  funext v
  unfold baseV hashM swapM
  simp [List.map_map, Function.comp_def]
open Classical in
theorem hash_ands : (hashM c).ands = those (Hangs (runM c.ands).st (toldL (swapM c))) (runM c.ands).st := rfl
open Classical in
theorem hash_good (h : refOk c = true) : Good (baseV c) (hashM c).ands := by
  rw [hash_ands]
  exact those_good (.inl rfl) (inv_of h).good (hangs_closed (inv_of h).good _)
open Classical in
theorem hash_sub (h : refOk c = true) : ((hashM c).ands.map Tri.a).Sublist (c.ands.map Tri.a) := by
  rw [hash_ands]
  exact ((those_sub _ _).map _).trans (inv_of h).sub
/-- a literal that is told, by what stands for it -/
def Told (c : Cir) (y : Int) : Prop := y ∈ c.outs ∨ y ∈ c.bads ∨ y ∈ c.invs ∨ ∃ t ∈ c.lats, t.b = y
theorem told_swap {y : Int} (hy : Told c y) : ofM (runM c.ands).F y ∈ toldL (swapM c) := by
  unfold toldL swapM
  simp only [List.mem_append, List.mem_map]
  rcases hy with hy | hy | hy | ⟨t, ht, e⟩
  · exact .inl ⟨y, hy, rfl⟩
  · exact .inr (.inl ⟨y, hy, rfl⟩)
  · exact .inr (.inr (.inl ⟨y, hy, rfl⟩))
  · exact .inr (.inr (.inr ⟨_, ⟨t, ht, rfl⟩, by rw [e]⟩))
theorem told_known (h : refOk c = true) {y : Int} (hy : Told c y) : knownL c y = true := by
  obtain ⟨-, hl, -, -, ho, hb, hi⟩ := ref_parts h
  unfold allKnown at ho hb hi
  simp only [Bool.and_eq_true, List.all_eq_true] at ho hb hi hl
  rcases hy with hy | hy | hy | ⟨t, ht, e⟩
  · exact ho.1 y hy
  · exact hb.1 y hy
  · exact hi.1 y hy
  · have := hl t ht
    unfold latR at this
    simp only [Bool.and_eq_true] at this
    rw [← e]; exact this.2
theorem hangs_told {l : List Tri} {T : List Int} {x : Int} (hx : x ∈ T) (h0 : 0 ≤ x) : x / 2 = 0 ∨ Hangs l T (x / 2) := by
  by_cases h : x / 2 = 0
  · exact .inl h
  · have := Hangs.start (ands := l) x hx (by rw [cnt_pos x h0]; exact h)
    rw [cnt_pos x h0] at this
    exact .inr this
open Classical in
theorem told_hash (h : refOk c = true) {y : Int} (hy : Told c y) : knownL (hashM c) (ofM (runM c.ands).F y) = true := by
  obtain ⟨y0, ys⟩ := seen_of h (told_known h hy)
  obtain ⟨x0, _, xs⟩ := of_seen (inv_of h) y0 ys
  refine of_seen_known x0 ?_
  rw [base_hash, hash_ands]
  exact those_seen (.inl rfl) (fun t ht => by have := ((inv_of h).good.mem t ht).1; omega) xs (hangs_told (told_swap hy) x0)
open Classical in
/-- HASHED, WHAT IS TOLD IS THE SAME -/
theorem told_same (h : refOk c = true) (V : Int → Bool) (h0 : V 0 = false) {y : Int} (hy : Told c y) : bitM (evalM V c.ands) y = bitM (evalM V (hashM c).ands) (ofM (runM c.ands).F y) := by
  obtain ⟨y0, ys⟩ := seen_of h (told_known h hy)
  obtain ⟨x0, _, _⟩ := of_seen (inv_of h) y0 ys
  rw [eval_run (.inl rfl) V h0 (good_ands h) y y0 ys, hash_ands]
  have e := eval_those (.inl rfl) V (inv_of h).good (hangs_closed (inv_of h).good (toldL (swapM c))) _ (hangs_told (told_swap hy) x0)
  unfold bitM
  rw [e]
theorem own_hash (h : refOk c = true) : (own (hashM c)).Sublist (own c) := by
  have e : own (hashM c) = c.ins ++ (c.lats.map Tri.a ++ (hashM c).ands.map Tri.a) := by
    unfold own hashM swapM
    simp [List.map_map, Function.comp_def]
  rw [e]
  unfold own
  exact (List.Sublist.refl _).append ((List.Sublist.refl _).append (hash_sub h))
/-- HASHED, A CIRCUIT MAY BE -/
theorem hash_may (h : refOk c = true) : refOk (hashM c) = true := by
  obtain ⟨hh, hl, ha, hg, ho, hb, hi⟩ := ref_parts h
  have hcnt : ∀ t, countV (hashM c) t = countV c t := fun t => by unfold countV hashM swapM; simp
  have hn : refNames (hashM c) = refNames c := by
    unfold refNames
    congr 1
    funext k
    unfold refAt refName
    simp only [hcnt]
    rfl
  have hkn : ∀ l : List Int, (∀ y ∈ l, Told c y) → l.length ≤ 64 → allKnown (hashM c) (l.map (ofM (runM c.ands).F)) = true := fun l hl h64 => by
    unfold allKnown
    simp only [Bool.and_eq_true, decide_eq_true_eq, List.all_eq_true, List.length_map]
    exact ⟨fun x hx => by obtain ⟨y, hy, rfl⟩ := List.mem_map.1 hx; exact told_hash h (hl y hy), h64⟩
  have h64 : c.outs.length ≤ 64 ∧ c.bads.length ≤ 64 ∧ c.invs.length ≤ 64 := by
    unfold allKnown at ho hb hi
    simp only [Bool.and_eq_true, decide_eq_true_eq] at ho hb hi
    exact ⟨ho.2, hb.2, hi.2⟩
  have hgd := hash_good h
  unfold refOk
  simp only [Bool.and_eq_true]
  refine ⟨?_, ?_, ?_, ?_, hkn _ (fun y hy => .inl hy) h64.1, hkn _ (fun y hy => .inr (.inl hy)) h64.2.1, hkn _ (fun y hy => .inr (.inr (.inl hy))) h64.2.2⟩
  · unfold refHead at hh ⊢
    rw [hn]
    unfold hashM swapM
    simpa using hh
  · rw [List.all_eq_true]
    intro t ht
    obtain ⟨u, hu, rfl⟩ := List.mem_map.1 (show t ∈ c.lats.map (fun t => (⟨t.a, ofM (runM c.ands).F t.b, t.c⟩ : Tri)) from ht)
    have h1 := List.all_eq_true.1 hl u hu
    unfold latR at h1 ⊢
    simp only [Bool.and_eq_true] at h1 ⊢
    exact ⟨h1.1, told_hash h (.inr (.inr (.inr ⟨u, hu, rfl⟩)))⟩
  · rw [List.all_eq_true]
    intro k hk
    have hk' := List.mem_range.1 hk
    obtain ⟨m1, m2, m3, m4, m5, m6, m7, m8, -⟩ := hgd.mem _ (List.getElem_mem hk')
    rw [← base_hash] at m7 m8
    unfold andAt
    rw [List.getElem?_eq_getElem hk']
    simp only [Bool.and_eq_true, decide_eq_true_eq]
    refine ⟨?_, m4, m6, of_seen_known m3 m7, of_seen_known m5 m8⟩
    cases k with
    | zero => rfl
    | succ j =>
      simp only
      rw [List.getElem?_eq_getElem (show j < (hashM c).ands.length by omega)]
      simp only [decide_eq_true_eq]
      exact List.pairwise_iff_getElem.1 hgd.less j (j + 1) (by omega) hk' (by omega)
  · rw [own_good]
    obtain ⟨n1, n2⟩ := own_facts h
    exact good_of _ _ _ ((own_hash h).nodup n1) fun x hx => ⟨by simp, n2 x ((own_hash h).subset hx)⟩
end
end Go.Proofs.Ytpaneggajjgdlaa.Str
namespace Go.Proofs.Ytpaneggajjgdlaa.Cw
open Go.ChangeShapes Go.WideShapes Go.ChangeAt Go.RowKit Go.Maps Circ

theorem OwnI.keep_at {w w' : World} {base : Nat} {v : Value} {xs : List Int} (h : OwnI w base v xs) (hb : ∀ g, base ≤ g → v.ownBlock = some g → w'.heap[g]? = w.heap[g]?) : OwnI w' base v xs := by
  obtain ⟨h0, h⟩ := h
  refine ⟨h0, ?_⟩
  rcases h with h | ⟨g, cap, cur, hv, hg, hh, r⟩
  · exact .inl h
  · exact .inr ⟨g, cap, cur, hv, hg, (hb g hg (by rw [hv]; rfl)).trans hh, r⟩

/-- what is written down in T: the set in block M, named by the cell in block M + 1, and the list that the cell in block M + 2 names -/
structure Down (M Ba N : Nat) (ands : List Tri) (v : Value) (T : List Int) (w : World) : Prop where
  cm : w.cell? ⟨M + 1, 0, none⟩ = some (.map (some M))
  hv : w.heap[M + 2]? = some (.cells #[v] 22 (0, 0))
  own : OwnI w (M + 3) v T
  set : IsSet w M T.reverse
  gates : IsAnds w Ba (andOf ands) N
  lt : Ba < M
  sz : M + 3 ≤ w.heap.size

theorem one_block {w : World} {b : Nat} {v : Value} (h : w.heap[b]? = some (.cells #[v] 22 (0, 0))) : w.cell? ⟨b, 0, none⟩ = some v ∧ w.frozen? ⟨b, 0, none⟩ = false := by
  simp [World.cell?, World.frozen?, h]
theorem set_block {w : World} {b : Nat} {v : Value} (u : Value) (h : w.heap[b]? = some (.cells #[v] 22 (0, 0))) : (w.setCell ⟨b, 0, none⟩ u).heap[b]? = some (.cells #[u] 22 (0, 0)) := by
  simp [World.setCell, Array.getElem?_modify, h]
theorem set_other {w : World} {b : Nat} (u : Value) {k : Nat} (h : k ≠ b) : (w.setCell ⟨b, 0, none⟩ u).heap[k]? = w.heap[k]? := by
  simp [World.setCell, Array.getElem?_modify, Ne.symm h]
theorem Down.cv {M Ba N : Nat} {ands : List Tri} {v : Value} {T : List Int} {w : World} (h : Down M Ba N ands v T w) : w.cell? ⟨M + 2, 0, none⟩ = some v := (one_block h.hv).1
theorem Down.alloc {M Ba N : Nat} {ands : List Tri} {v : Value} {T : List Int} {w : World} (h : Down M Ba N ands v T w) (o : Obj) : Down M Ba N ands v T (w.alloc o) :=
  have hb : Below w.heap.size w (w.alloc o) := (Below.refl _ _).alloc (Nat.le_refl _) o
  ⟨cell_later hb h.cm, (hb.block _ (by have := h.sz; omega)).trans h.hv, h.own.keep hb, h.set.alloc o, h.gates.alloc o, h.lt, Nat.le_trans h.sz hb.size⟩

def ReachP (M Ba N : Nat) (ands : List Tri) (v : Value) (T : List Int) (x : Int) (w : World) (e : Ending) (w' : World) : Prop :=
  e = .returned (.tuple #[]) ∧ (∃ v', Down M Ba N ands v' (put T x) w') ∧ Below M w w' ∧ ∀ p u, w.cell? p = some u → M + 3 ≤ p.block → v.ownBlock ≠ some p.block → w'.cell? p = some u

set_option maxHeartbeats 2000000 in
set_option maxRecDepth 100000 in
theorem reach_any (M Ba N : Nat) (ands : List Tri) (v : Value) (T : List Int) (x : Int) (w : World) (h : Down M Ba N ands v T w) (hx : I64 x) (hT : T.length * 8 + 8 ≤ 140737488355328) :
    Calls Try.prog 99 #[.int .i64 x, .pointer (some ⟨M + 1, 0, none⟩), .pointer (some ⟨M + 2, 0, none⟩)] w (ReachP M Ba N ands v T x w) := by
  obtain ⟨x0, x1⟩ := hx
  have hk : I64 (cnt x / 2) := by obtain ⟨b0, b1⟩ := cnt_bd x x1; unfold I64; omega
  have V := Lib.hid (fun w => var_any x w x1)
  have hl := h.set.look hk
  have hcon : T.reverse.contains (cnt x / 2) = T.contains (cnt x / 2) := by simp
  rw [hcon] at hl
  have cm := h.cm
  have HW := Lib.hid (h.alloc (.cells #[] 121))
  have HBw : Hid (Below M w (w.alloc (.cells #[] 121))) := (Below.refl M w).alloc (by have := h.sz; omega) _
  have HAl : Hid (∀ p u, w.cell? p = some u → (w.alloc (.cells #[] 121)).cell? p = some u) := fun p u hc => cell_later ((Below.refl _ _).alloc (Nat.le_refl _) _) hc
  have H := Lib.hid h
  clear h hcon
  cases hq : T.contains (cnt x / 2)
  case true =>
    have HP : Hid (put T x = T) := by unfold Hid put; rw [hq]; rfl
    rw [hq] at hl
    clear hq
    generalize cnt x / 2 = r at *
    go_enter Try.func99, Try.ntmps99
    go_wp2_with (go_at_call 46; refine (V.out _).mono ?_; rintro e w' ⟨rfl, rfl⟩)
    go_end0
    exact ⟨rfl, ⟨v, by rw [HP.out]; exact HW.out⟩, HBw.out, fun p u hc _ _ => HAl.out p u hc⟩
  case false =>
  by_cases h0 : cnt x / 2 = 0
  · have HP : Hid (put T x = T) := by unfold Hid put; rw [hq, h0]; rfl
    rw [hq] at hl
    rw [h0] at hl V
    clear hq h0
    go_enter Try.func99, Try.ntmps99
    go_wp2_with (go_at_call 46; refine (V.out _).mono ?_; rintro e w' ⟨rfl, rfl⟩)
    go_end0
    exact ⟨rfl, ⟨v, by rw [HP.out]; exact HW.out⟩, HBw.out, fun p u hc _ _ => HAl.out p u hc⟩
  · have HP : Hid (put T x = T ++ [cnt x / 2]) := by unfold Hid put; rw [hq]; simp [h0]
    rw [hq] at hl
    have h0' : (cnt x / 2 == 0) = false := by simpa using h0
    clear hq
    generalize cnt x / 2 = r at *
    obtain ⟨w2, hst, hS2, hg2⟩ := HW.out.set.store hk (by simp; omega)
    have n1 : M + 1 ≠ M := by omega
    have n2 : M + 2 ≠ M := by omega
    have cm2 := grow_cell hg2 HW.out.cm n1
    have hv2 := (hg2.block (M + 2) (by have := HW.out.sz; omega) (fun e => n2 (Option.some.inj e))).trans HW.out.hv
    have cv2 := (one_block hv2).1
    have hsz := H.out.sz
    have HO2 : Hid (OwnI w2 (M + 3) v T) := HW.out.own.keep_at fun g hg hv => hg2.block g (by have := (HW.out.own.block_lt g hv).2; exact this) (fun e => by have := Option.some.inj e; omega)
    have HB2 : Hid (Below M w w2) := HBw.out.trans (grown_below hg2 (Nat.le_refl _) (by have := HBw.out.size; omega))
    have cm1 := HW.out.cm
    have hone := one_row w2 r 3
    have hbo : Below w2.heap.size w2 (w2.alloc (.cells #[.int .i64 r] 3)) := (Below.refl _ _).alloc (Nat.le_refl _) _
    have hv3 := (hbo.block (M + 2) (by have := hg2.size; have := HBw.out.size; omega)).trans hv2
    have cv3 := (one_block hv3).1
    have HBO := Lib.hid hbo
    have hz2 : M + 3 ≤ (w2.alloc (.cells #[.int .i64 r] 3)).heap.size := by have := hg2.size; have := hbo.size; have := HBw.out.size; omega
    have HG2 := Lib.hid hg2
    have HS2 := Lib.hid hS2
    clear hbo hg2 hS2
    go_enter Try.func99, Try.ntmps99
    go_wp2_with (first | (go_at_call 46; refine (V.out _).mono ?_; rintro e w' ⟨rfl, rfl⟩) | (at_builtin; refine wpList_app _ rfl (.tmp 23) (.tmp 25) rfl (M + 3) _ v T [r] rfl (HO2.out.keep HBO.out) _ 1 1 rfl rfl hone ?_ hz2 ?_))
    · simp; omega
    intro v' w3 hown3 hg3 hloc3
    have HOW3 := Lib.hid hown3
    have HG3 := Lib.hid hg3
    have hv4 := (hg3.block (M + 2) (by omega) (fun e => by have := (HO2.out.keep HBO.out).block_lt _ e.symm; omega)).trans hv3
    obtain ⟨cv4, fz4⟩ := one_block hv4
    have HV4 := Lib.hid hv4
    obtain ⟨A', q', rfl, _⟩ := HOW3.out.row
    clear hown3 hg3 hloc3
    go_wp2
    go_end0
    have hsz3 : (w2.alloc (.cells #[.int .i64 r] 3)).heap.size ≤ w3.heap.size := HG3.out.size
    have hoth : ∀ k, k < w2.heap.size → v.ownBlock ≠ some k → k ≠ M + 2 → (w3.setCell ⟨M + 2, 0, none⟩ (.slice A' (T.length + 1) q')).heap[k]? = w2.heap[k]? := fun k hk1 hk2 hk3 => by
      rw [set_other _ hk3, HG3.out.block k (by have := HBO.out.size; omega) (fun e => hk2 e.symm)]
      exact HBO.out.block k hk1
    have hlow : ∀ k, k < M + 3 → v.ownBlock ≠ some k := fun k hk e => by have := HO2.out.block_lt k e; omega
    have hs2 : M + 3 ≤ w2.heap.size := by have := HG2.out.size; have := HBw.out.size; omega
    have hS4 : w3.setCell ⟨M + 2, 0, none⟩ (.slice A' (T.length + 1) q') = w3.setCell ⟨M + 2, 0, none⟩ (.slice A' (T.length + 1) q') := rfl
    refine ⟨rfl, ⟨.slice A' (T.length + 1) q', ?_⟩, ?_, ?_⟩
    · rw [HP.out]
      refine ⟨?_, set_block _ HV4.out, ?_, ?_, ?_, HW.out.lt, ?_⟩
      · rw [World.cell?_of_block (hoth (M + 1) (by omega) (hlow _ (by omega)) (by omega))]; exact cm2
      · refine OwnI.keep_at (by simpa using HOW3.out) fun g hg _ => set_other _ (by omega)
      · rw [List.reverse_append]
        exact HS2.out.keep (hoth M (by omega) (hlow _ (by omega)) (by omega))
      · have hlt := HW.out.lt
        exact HW.out.gates.keep ((hoth Ba (by omega) (hlow _ (by omega)) (by omega)).trans (HG2.out.block Ba (by have := HW.out.sz; omega) (fun e => by have := Option.some.inj e; omega)))
      · simp; omega
    · refine ⟨?_, ?_, ?_, ?_, fun k hk => (hoth k (by omega) (hlow _ (by omega)) (by omega)).trans (HB2.out.block k hk)⟩
      · exact HG3.out.os.trans (HBO.out.os.trans HB2.out.os)
      · exact HG3.out.tape.trans (HBO.out.tape.trans HB2.out.tape)
      · exact HG3.out.output.trans (HBO.out.output.trans HB2.out.output)
      · simp; have := HB2.out.size; have := HBO.out.size; omega
    · intro p u hc hp hv
      have hpl := World.block_lt_of_cell? _ _ hc
      have hsw := HBw.out.size
      have hsg := HG2.out.size
      rw [World.cell?_of_block (hoth p.block (by omega) hv (by omega)), World.cell?_of_block (HG2.out.block p.block (by omega) (fun e => by have := Option.some.inj e; omega))]
      exact HAl.out p u hc
end Go.Proofs.Ytpaneggajjgdlaa.Cw
