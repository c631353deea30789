/- An and like one ahead of it is gone at once; no program is named here, no condition. -/
import Derived.Test.YtpaneggajjgdlaaPk14
namespace Go.Proofs.Ytpaneggajjgdlaa.Str
open Circ Cw

theorem opp_swap {x y : Int} (_hx : 0 ≤ x) (_hy : 0 ≤ y) : x = opp y ↔ y = opp x := by
  unfold opp
  constructor <;> intro h <;> split at h <;> split <;> omega
theorem cnt_ge (x : Int) : 0 ≤ cnt x := by unfold cnt; split <;> omega
theorem plain_swap (a b : Int) : plainM a b = plainM b a := by
  have ha := cnt_ge a
  have hb := cnt_ge b
  have ho := opp_swap ha hb
  unfold plainM
  generalize cnt a = x at *
  generalize cnt b = y at *
  by_cases h1 : x = 0 ∨ y = 0 ∨ x = opp y
  · have h2 : y = 0 ∨ x = 0 ∨ y = opp x := by
      rcases h1 with h | h | h
      · exact .inr (.inl h)
      · exact .inl h
      · exact .inr (.inr (ho.1 h))
    rw [if_pos h1, if_pos h2]
  · have h2 : ¬ (y = 0 ∨ x = 0 ∨ y = opp x) := fun h => h1 (by
      rcases h with h | h | h
      · exact .inr (.inl h)
      · exact .inl h
      · exact .inr (.inr (ho.2 h)))
    rw [if_neg h1, if_neg h2]
    clear h1 h2 ho
    by_cases hxy : x = y
    · rw [hxy]
    · by_cases hx : x = 1
      · have hy : ¬ y = 1 := fun e => hxy (hx.trans e.symm)
        rw [if_pos (.inl hx), if_neg (by rintro (h | h); exact hy h; exact hxy h.symm), if_pos hx]
      · by_cases hy : y = 1
        · rw [if_neg (by rintro (h | h); exact hx h; exact hxy h), if_pos hy, if_pos (.inl hy)]
        · rw [if_neg (by rintro (h | h); exact hx h; exact hxy h), if_neg hy, if_neg (by rintro (h | h); exact hy h; exact hxy h.symm), if_neg hx]
theorem gone_swap (h : Hs) (a b : Int) : goneM h a b = goneM h b a := by
  unfold goneM pairM
  rw [plain_swap a b, Int.min_comm a b, Int.max_comm a b]
theorem of_upd {F : Int → Option Int} {v s x : Int} (hx : cnt x / 2 ≠ v) : ofM (fun w => if w = v then some s else F w) x = ofM F x := by
  have e : (fun w => if w = v then some s else F w) (cnt x / 2) = F (cnt x / 2) := if_neg hx
  unfold ofM
  rw [e]
theorem gone_run {B : Int → Prop} (hB : B 0) {l : List Tri} (hg : Good B l) : ∀ t ∈ l, goneM (runM l) (ofM (runM l).F t.b) (ofM (runM l).F t.c) = some (ofM (runM l).F t.a) := by
  induction hg with
  | nil => intro t ht; cases ht
  | snoc l u g h2 h3 h4 h5 h6 h7 h8 h9 h10 h11 ih =>
    have hI := inv_run hB g
    have hm := g.mem
    rw [runM_snoc]
    generalize runM l = h at *
    have lt : ∀ x : Int, 0 ≤ x → x < u.a → cnt x / 2 ≠ cnt u.a / 2 := fun x h0 h1 => by
      unfold cnt; rw [if_neg (by omega), if_neg (by omega)]; omega
    have hua : cnt u.a = u.a := by unfold cnt; rw [if_neg (by omega)]
    cases e : goneM h (ofM h.F u.b) (ofM h.F u.c) with
    | some s =>
      rw [step_some e]
      intro t ht
      rcases List.mem_append.1 ht with ht | ht
      · obtain ⟨a1, a2, a3, a4, a5, a6, -⟩ := hm t ht
        have hta := h4 t ht
        show goneM h (ofM _ t.b) (ofM _ t.c) = some (ofM _ t.a)
        rw [of_upd (lt t.b a3 (by omega)), of_upd (lt t.c a5 (by omega)), of_upd (lt t.a (by omega) hta)]
        exact ih t ht
      · obtain rfl := List.mem_singleton.1 ht
        show goneM h (ofM _ t.b) (ofM _ t.c) = some (ofM _ t.a)
        rw [of_upd (lt t.b h5 h6), of_upd (lt t.c h7 h8), e, of_some (s := s) (if_pos rfl), hua, if_neg (by omega)]
    | none =>
      rw [step_none e]
      intro t ht
      have e2 := e
      unfold goneM at e2
      rw [Option.or_eq_none_iff] at e2
      rcases List.mem_append.1 ht with ht | ht
      · have hi := ih t ht
        show (plainM _ _).or (if pairM (ofM h.F t.b) (ofM h.F t.c) = pairM (ofM h.F u.b) (ofM h.F u.c) then some u.a else h.G (pairM (ofM h.F t.b) (ofM h.F t.c))) = some (ofM h.F t.a)
        unfold goneM at hi
        by_cases hp : pairM (ofM h.F t.b) (ofM h.F t.c) = pairM (ofM h.F u.b) (ofM h.F u.c)
        · rw [hp, e2.2, Option.or_none] at hi
          rw [hi]; rfl
        · rw [if_neg hp]; exact hi
      · obtain rfl := List.mem_singleton.1 ht
        show (plainM _ _).or (if pairM (ofM h.F t.b) (ofM h.F t.c) = pairM (ofM h.F t.b) (ofM h.F t.c) then some t.a else _) = some (ofM h.F t.a)
        rw [e2.1, if_pos rfl, of_none]
        · rfl
        · rw [hua]
          cases q : h.F (t.a / 2) with
          | none => rfl
          | some s =>
            obtain ⟨-, -, ⟨v, hv, e3⟩, -⟩ := hI.dom _ _ q
            have := h4 v hv
            omega
/-- hashed, an and with the literals of one that is there is what stands for that one -/
theorem twice_run {B : Int → Prop} (hB : B 0) {l : List Tri} (hg : Good B l) (a : Tri) (ha : a ∈ l) (M : Int) : runM (l ++ [⟨M, a.c, a.b⟩]) = ⟨fun v => if v = cnt M / 2 then some (ofM (runM l).F a.a) else (runM l).F v, (runM l).G, (runM l).st⟩ := by
  rw [runM_snoc]
  exact step_some (by rw [gone_swap]; exact gone_run hB hg a ha)
/-- one and more, of the literals of one that is there; x is told, too -/
def moreM (c : Cir) (a : Tri) (x : Int) : Cir := { c with max := c.max + 1, ands := c.ands ++ [⟨2 * (c.max + 1), a.c, a.b⟩], outs := c.outs ++ [x] }
section
variable {c : Cir}
theorem more_own (c : Cir) (a : Tri) (x : Int) : own (moreM c a x) = own c ++ [2 * (c.max + 1)] := by
  unfold own moreM
  simp [List.append_assoc]
theorem more_known {a : Tri} {x y : Int} (h : knownL c y = true) : knownL (moreM c a x) y = true := by
  unfold knownL at h ⊢
  simp only [Bool.and_eq_true, decide_eq_true_eq] at h ⊢
  refine ⟨h.1, (known_own _).2 ?_⟩
  rcases (known_own _).1 h.2 with h0 | ⟨z, hz, e⟩
  · exact .inl h0
  · exact .inr ⟨z, by rw [more_own]; exact List.mem_append_left _ hz, e⟩
theorem more_new (h : 0 ≤ c.max) (a : Tri) (x : Int) : knownL (moreM c a x) (2 * (c.max + 1)) = true := by
  unfold knownL
  simp only [Bool.and_eq_true, decide_eq_true_eq]
  exact ⟨by omega, (known_own _).2 (.inr ⟨2 * (c.max + 1), by rw [more_own]; simp, by omega, rfl⟩)⟩
theorem more_names (a : Tri) (x : Int) (h : refNames c = true) : refNames (moreM c a x) = true := by
  have hc : ∀ t, countV c t ≤ countV (moreM c a x) t := fun t => by
    unfold countV moreM
    simp only [List.length_append, List.length_singleton]
    repeat' split
    all_goals omega
  have hn : ∀ y, refName c y = true → refName (moreM c a x) y = true := fun y hy => by
    have := hc y.kind
    unfold refName at hy ⊢
    simp only [Bool.and_eq_true, Bool.not_eq_true', decide_eq_false_iff_not] at hy ⊢
    exact ⟨⟨⟨⟨hy.1.1.1.1, by omega⟩, hy.1.1.2⟩, hy.1.2⟩, hy.2⟩
  unfold refNames at h ⊢
  rw [List.all_eq_true] at h ⊢
  intro k hk
  have h1 := h k hk
  have hk' := List.mem_range.1 hk
  unfold refAt at h1 ⊢
  have e : (moreM c a x).names = c.names := rfl
  rw [e]
  rw [List.getElem?_eq_getElem (show k < c.names.length from hk')] at h1 ⊢
  simp only [Bool.and_eq_true] at h1 ⊢
  exact ⟨hn _ h1.1, h1.2⟩
theorem twice_may (h : refOk c = true) {a : Tri} (ha : a ∈ c.ands) (hm : c.max ≤ 1000) (ho : c.outs.length < 64) {x : Int} (hx : x = a.a ∨ x = 2 * (c.max + 1)) : refOk (moreM c a x) = true := by
  obtain ⟨hh, hl, -, -, hko, hkb, hki⟩ := ref_parts h
  obtain ⟨n1, n2⟩ := own_facts h
  have hh' := hh
  unfold refHead at hh'
  simp only [Bool.and_eq_true, Bool.not_eq_true', decide_eq_false_iff_not] at hh'
  obtain ⟨b1, b2, b3, b4, b5⟩ := hh'
  have hown : ∀ t ∈ c.ands, t.a ≤ 2 * c.max := fun t ht => (n2 t.a (List.mem_append.2 (.inr (List.mem_append.2 (.inr (List.mem_map_of_mem ht)))))).2.2
  obtain ⟨ka, hka, rfl⟩ := List.mem_iff_getElem.1 ha
  obtain ⟨a1, a2, a3, a4⟩ := and_at h ka hka
  have a5 := hown _ (List.getElem_mem hka)
  unfold refOk
  simp only [Bool.and_eq_true]
  refine ⟨?_, ?_, ?_, ?_, ?_, ?_, ?_⟩
  · unfold refHead
    simp only [Bool.and_eq_true, Bool.not_eq_true', decide_eq_false_iff_not]
    exact ⟨by show ¬ c.max + 1 < 0; omega, by show ¬ 2048 < c.max + 1; omega, b3, b4, more_names _ _ b5⟩
  · rw [List.all_eq_true]
    intro t ht
    have h1 := List.all_eq_true.1 hl t ht
    unfold latR at h1 ⊢
    simp only [Bool.and_eq_true] at h1 ⊢
    exact ⟨h1.1, more_known h1.2⟩
  · rw [List.all_eq_true]
    intro k hk
    have hk' := List.mem_range.1 hk
    have hlen : (moreM c c.ands[ka] x).ands.length = c.ands.length + 1 := by unfold moreM; simp
    have hold : ∀ i (hi : i < c.ands.length), (moreM c c.ands[ka] x).ands[i]? = some c.ands[i] := fun i hi => by
      show (c.ands ++ _)[i]? = _
      rw [List.getElem?_append_left hi, List.getElem?_eq_getElem hi]
    unfold andAt
    by_cases hkl : k < c.ands.length
    · obtain ⟨c1, c2, c3, c4⟩ := and_at h k hkl
      rw [hold k hkl]
      simp only [Bool.and_eq_true, decide_eq_true_eq]
      refine ⟨?_, c1, c2, more_known c3, more_known c4⟩
      cases k with
      | zero => rfl
      | succ j =>
        simp only
        rw [hold j (by omega)]
        simp only [decide_eq_true_eq]
        exact ands_less h (Nat.lt_succ_self j) hkl
    · obtain rfl : k = c.ands.length := by omega
      have e : (moreM c c.ands[ka] x).ands[c.ands.length]? = some ⟨2 * (c.max + 1), c.ands[ka].c, c.ands[ka].b⟩ := by
        show (c.ands ++ _)[c.ands.length]? = _
        rw [List.getElem?_append_right (Nat.le_refl _), Nat.sub_self]; rfl
      rw [e]
      simp only [Bool.and_eq_true, decide_eq_true_eq]
      refine ⟨?_, by omega, by omega, more_known a4, more_known a3⟩
      cases q : c.ands.length with
      | zero => rfl
      | succ j =>
        simp only
        rw [hold j (by omega)]
        simp only [decide_eq_true_eq]
        have := hown _ (List.getElem_mem (show j < c.ands.length by omega))
        omega
  · rw [own_good, more_own]
    refine good_of _ _ _ ?_ fun y hy => ⟨by simp, ?_⟩
    · rw [List.nodup_append]
      refine ⟨n1, by simp, fun y hy z hz e => ?_⟩
      rw [List.mem_singleton.1 hz] at e
      have := n2 y hy
      omega
    · show 2 ≤ y ∧ y % 2 = 0 ∧ y ≤ 2 * (c.max + 1)
      rcases List.mem_append.1 hy with hy | hy
      · have := n2 y hy; omega
      · rw [List.mem_singleton.1 hy]; omega
  · unfold allKnown at hko ⊢
    simp only [Bool.and_eq_true, decide_eq_true_eq, List.all_eq_true] at hko ⊢
    refine ⟨fun y hy => ?_, by show (c.outs ++ [x]).length ≤ 64; simp; omega⟩
    rcases List.mem_append.1 (show y ∈ c.outs ++ [x] from hy) with hy | hy
    · exact more_known (hko.1 y hy)
    · rw [List.mem_singleton.1 hy]
      rcases hx with e | e
      · rw [e]
        refine more_known ?_
        have hmem : c.ands[ka].a ∈ own c := List.mem_append.2 (.inr (List.mem_append.2 (.inr (List.mem_map_of_mem (List.getElem_mem hka)))))
        have := n2 _ hmem
        unfold knownL
        simp only [Bool.and_eq_true, decide_eq_true_eq]
        exact ⟨by omega, (known_own _).2 (.inr ⟨_, hmem, by omega, rfl⟩)⟩
      · rw [e]; exact more_new (by omega) _ _
  · unfold allKnown at hkb ⊢
    simp only [Bool.and_eq_true, decide_eq_true_eq, List.all_eq_true] at hkb ⊢
    exact ⟨fun y hy => more_known (hkb.1 y hy), hkb.2⟩
  · unfold allKnown at hki ⊢
    simp only [Bool.and_eq_true, decide_eq_true_eq, List.all_eq_true] at hki ⊢
    exact ⟨fun y hy => more_known (hki.1 y hy), hki.2⟩
/-- OF TWO ANDS OF THE SAME LITERALS JUST ONE STAYS: whichever of them is told, the circuit hashed is the same -/
theorem twice_swap (h : refOk c = true) {a : Tri} (ha : a ∈ c.ands) : swapM (moreM c a a.a) = swapM (moreM c a (2 * (c.max + 1))) := by
  have hg := good_ands h
  have hr := twice_run (.inl rfl) hg a ha (2 * (c.max + 1))
  obtain ⟨n1, n2⟩ := own_facts h
  have h1 := n2 a.a (List.mem_append.2 (.inr (List.mem_append.2 (.inr (List.mem_map_of_mem ha)))))
  have c1 : cnt a.a = a.a := by unfold cnt; rw [if_neg (by omega)]
  have c2 : cnt (2 * (c.max + 1)) = 2 * (c.max + 1) := by unfold cnt; rw [if_neg (by omega)]
  have e : ofM (runM (c.ands ++ [⟨2 * (c.max + 1), a.c, a.b⟩])).F a.a = ofM (runM (c.ands ++ [⟨2 * (c.max + 1), a.c, a.b⟩])).F (2 * (c.max + 1)) := by
    rw [hr]
    show ofM (fun v => if v = cnt (2 * (c.max + 1)) / 2 then some (ofM (runM c.ands).F a.a) else (runM c.ands).F v) a.a = ofM (fun v => if v = cnt (2 * (c.max + 1)) / 2 then some (ofM (runM c.ands).F a.a) else (runM c.ands).F v) (2 * (c.max + 1))
    have r : ∀ (F : Int → Option Int) (N s : Int), cnt N % 2 ≠ 1 → ofM (fun v => if v = cnt N / 2 then some s else F v) N = s := fun F N s h => by
      rw [of_some (s := s) (if_pos rfl), if_neg h]
    rw [r _ _ _ (by rw [c2]; omega), of_upd (by rw [c1, c2]; omega)]
  unfold swapM moreM
  simp only [List.map_append, List.map_cons, List.map_nil]
  rw [e]
theorem twice_hash (h : refOk c = true) {a : Tri} (ha : a ∈ c.ands) : hashM (moreM c a a.a) = hashM (moreM c a (2 * (c.max + 1))) := by
  unfold hashM
  rw [twice_swap h ha]
end
end Go.Proofs.Ytpaneggajjgdlaa.Str
