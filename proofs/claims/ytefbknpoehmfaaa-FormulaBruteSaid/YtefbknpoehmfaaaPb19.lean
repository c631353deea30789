/- The program's own way to what follows by units finds just what the pages' way finds. No program is named here; condition: numbers of the formula's variables, at most 2^18 of them. -/
import Derived.Test.YtefbknpoehmfaaaPb18
namespace Go.Proofs.Ytefbknpoehmfaaa.For
open Circ Cla

section
variable {V : Nat} {L : List (List Int)} {l : List Int}
theorem lose_pre {s : St} {done : Int → Prop} {x : Int} {r : List Nat} {i : Nat} (h : Inv V L l s done x (i :: r)) (hi : i < s.ws.length) (hx : -x ∈ s.queue) (hnd : (i :: r).Nodup) :
    ∃ c w, Pre V L l (if (s.ws.getD i default).kept = x then keepP s i else s) done x r i c w := by
  obtain ⟨w, hw⟩ : ∃ w, s.ws[i]? = some w := ⟨s.ws[i], List.getElem?_eq_getElem hi⟩
  obtain ⟨c, hc, g⟩ := h.good i w hw
  have hgd := getD_some (d := default) hw
  rw [hgd]
  have hir := (List.nodup_cons.1 hnd).1
  have hmem : i ∈ i :: r := List.mem_cons_self
  have hother : ∀ j v, j ≠ i → s.ws[j]? = some v → ∃ d, L[j]? = some d ∧ Good s done x r j d v := fun j v hj hv => by
    obtain ⟨d, h1, h2⟩ := h.good j v hv
    refine ⟨d, h1, h2.kc, h2.oc, h2.rc, h2.cov, ?_, fun hp => h2.pen (List.mem_cons_of_mem _ hp)⟩
    rcases h2.live with a | ⟨a, b, c, d, e, f⟩
    · exact .inl a
    · refine .inr ⟨a, b, c, d, e, fun hp => f fun hq => ?_⟩
      rcases List.mem_cons.1 hq with e | e
      · exact hj e
      · exact hp e
  have hxq : x ∉ s.queue := fun hq => h.base.both hq hx
  by_cases hk : w.kept = x
  · rw [if_pos hk]
    have hlive : w.kept ≠ w.other ∧ i ∈ waitsOf s w.kept ∧ i ∈ waitsOf s w.other ∧ ¬ done w.kept ∧ ¬ done w.other := by
      rcases g.live with a | ⟨a, b, c, d, e, _⟩
      · exact absurd (hk ▸ a) hxq
      · exact ⟨a, b, c, d, e⟩
    have hat : (keepP s i).ws[i]? = some ⟨w.other, w.other, w.rest⟩ := by
      unfold keepP
      rw [hgd]
      exact List.getElem?_set_self hi
    have hne : ∀ j, j ≠ i → (keepP s i).ws[j]? = s.ws[j]? := fun j hj => by
      unfold keepP
      exact List.getElem?_set_ne (Ne.symm hj)
    refine ⟨c, ⟨w.other, w.other, w.rest⟩, ⟨h.base.sl, h.base.val, h.base.qu, h.base.nd⟩, h.wl, hat, hc, hir, g.oc, g.rc, fun y hy => ?_, .inr ⟨hlive.2.2.1, hlive.2.2.2.2, fun e => hlive.1 (hk.trans e.symm)⟩, g.oc, fun j v hj hv => ?_, fun m hm j hj => ?_, h.nd⟩
    · rcases g.cov y hy with a | a | a | a
      · exact .inl a
      · exact .inl (by rw [a, hk]; exact hx)
      · exact .inr (.inl a)
      · exact .inr (.inr a)
    · rw [hne j hj] at hv
      obtain ⟨d, h1, h2⟩ := hother j v hj hv
      exact ⟨d, h1, h2.kc, h2.oc, h2.rc, h2.cov, h2.live, h2.pen⟩
    · obtain ⟨v, h1, h2⟩ := h.wait m hm j hj
      by_cases hji : j = i
      · subst hji
        obtain rfl := Option.some.inj (hw.symm.trans h1)
        refine .inl ⟨rfl, ?_⟩
        rcases h2 with a | a | a
        · exact .inr (.inr (a.trans hk))
        · exact .inl a
        · exact .inr a
      · exact .inr ⟨hji, v, by rw [hne j hji]; exact h1, h2⟩
  · rw [if_neg hk]
    have ho : w.other = x := (g.pen hmem).resolve_left hk
    refine ⟨c, w, h.base, h.wl, hw, hc, hir, g.kc, g.rc, fun y hy => ?_, ?_, g.oc, hother, fun m hm j hj => ?_, h.nd⟩
    · rcases g.cov y hy with a | a | a | a
      · exact .inl a
      · exact .inr (.inl a)
      · exact .inl (by rw [a, ho]; exact hx)
      · exact .inr (.inr a)
    · rcases g.live with a | ⟨a, b, c, d, e, _⟩
      · exact .inl a
      · exact .inr ⟨b, d, hk⟩
    · obtain ⟨v, h1, h2⟩ := h.wait m hm j hj
      by_cases hji : j = i
      · subst hji
        obtain rfl := Option.some.inj (hw.symm.trans h1)
        refine .inl ⟨rfl, ?_⟩
        rcases h2 with a | a | a
        · exact .inl a
        · exact .inr (.inr (a.trans ho))
        · exact .inr a
      · exact .inr ⟨hji, v, h1, h2⟩
theorem keep_frame (s : St) (i : Nat) : (keepP s i).queue = s.queue ∧ (keepP s i).waits = s.waits ∧ (keepP s i).set = s.set ∧ (keepP s i).ws.length = s.ws.length := ⟨rfl, rfl, rfl, List.length_set⟩
/-- one round of loses -/
theorem lose_step {s : St} {done : Int → Prop} {x : Int} {r : List Nat} {i : Nat} (hL : ∀ c ∈ L, ∀ y ∈ c, litN V y) (hdone : ∀ m, done m → -m ∈ s.queue) (h : Inv V L l s done x (i :: r)) (hi : i < s.ws.length) (hx : -x ∈ s.queue) (hx0 : x ≠ 0) (hnd : (i :: r).Nodup) :
    match loseP x s i with
    | none => Conf L l
    | some s' => Inv V L l s' done x r ∧ (∃ q, s'.queue = s.queue ++ q) ∧ s'.ws.length = s.ws.length ∧ waitsOf s' x = waitsOf s x := by
  obtain ⟨c, w, hp⟩ := lose_pre h hi hx hnd
  unfold loseP
  have hf : ∀ (b : Prop) [Decidable b], (if b then keepP s i else s).queue = s.queue ∧ (if b then keepP s i else s).waits = s.waits ∧ (if b then keepP s i else s).ws.length = s.ws.length := fun b _ => by
    split
    · exact ⟨rfl, rfl, List.length_set⟩
    · exact ⟨rfl, rfl, rfl⟩
  obtain ⟨f1, f2, f3⟩ := hf ((s.ws.getD i default).kept = x)
  cases e : anotherP (if (s.ws.getD i default).kept = x then keepP s i else s) i with
  | none => exact another_none hL hp e
  | some s' =>
    obtain ⟨a, ⟨q, b⟩, c, d⟩ := another_some hL hp (fun m hm => by rw [f1]; exact hdone m hm) (.inr (by rw [f1]; exact hx)) e
    exact ⟨a, ⟨q, by rw [b, f1]⟩, c.trans f3, (d hx0).trans (by unfold waitsOf; rw [f2])⟩
theorem loses_fold {done : Int → Prop} {x : Int} (hL : ∀ c ∈ L, ∀ y ∈ c, litN V y) (hx0 : x ≠ 0) : ∀ (r : List Nat) (s : St), (∀ m, done m → -m ∈ s.queue) → Inv V L l s done x r → (∀ i ∈ r, i < s.ws.length) → -x ∈ s.queue → r.Nodup →
    match foldO (loseP x) r s with
    | none => Conf L l
    | some s' => Inv V L l s' done x [] ∧ (∃ q, s'.queue = s.queue ++ q) ∧ s'.ws.length = s.ws.length
  | [], s, _, h, _, _, _ => ⟨h, ⟨[], by simp⟩, rfl⟩
  | i :: r, s, hd, h, hi, hx, hnd => by
    have h1 := lose_step hL hd h (hi i List.mem_cons_self) hx hx0 hnd
    unfold foldO
    cases e : loseP x s i with
    | none => rw [e] at h1; exact h1
    | some s1 =>
      rw [e] at h1
      obtain ⟨a, ⟨q, b⟩, c, d⟩ := h1
      have ih := loses_fold hL hx0 r s1 (fun m hm => by rw [b]; exact List.mem_append_left _ (hd m hm)) a (fun j hj => by rw [c]; exact hi j (List.mem_cons_of_mem _ hj)) (by rw [b]; exact List.mem_append_left _ hx) (List.nodup_cons.1 hnd).2
      show match foldO (loseP x) r s1 with | none => _ | some s' => _
      cases e2 : foldO (loseP x) r s1 with
      | none => rw [e2] at ih; exact ih
      | some s2 =>
        rw [e2] at ih
        obtain ⟨a2, ⟨q2, b2⟩, c2⟩ := ih
        exact ⟨a2, ⟨q ++ q2, by rw [b2, b, List.append_assoc]⟩, c2.trans c⟩
theorem Inv.open_ {s : St} {done : Int → Prop} {x : Int} (h : Inv V L l s done 0 []) (hx : litN V x) (hd : ¬ done x) : Inv V L l s done x (waitsOf s x) := by
  refine ⟨h.base, h.wl, fun i w hw => ?_, fun m hm i hi => ?_, h.nd⟩
  · obtain ⟨c, h1, g⟩ := h.good i w hw
    refine ⟨c, h1, g.kc, g.oc, g.rc, g.cov, ?_, fun hp => ?_⟩
    · rcases g.live with a | ⟨a, b, c, d, e, _⟩
      · exact .inl a
      · exact .inr ⟨a, b, c, d, e, fun hn => ⟨fun e => hn (e ▸ b), fun e => hn (e ▸ c)⟩⟩
    · obtain ⟨v, h2, h3⟩ := h.wait x hx i hp
      obtain rfl := Option.some.inj (hw.symm.trans h2)
      rcases h3 with a | a | a | a
      · exact .inl a.symm
      · exact .inr a.symm
      · exact absurd a hd
      · exact absurd a (by unfold litN at hx; omega)
  · obtain ⟨v, h2, h3⟩ := h.wait m hm i hi
    refine ⟨v, h2, ?_⟩
    rcases h3 with a | a | a | a
    · exact .inl a
    · exact .inr (.inl a)
    · exact .inr (.inr (.inl a))
    · exact absurd a (by unfold litN at hm; omega)
theorem Inv.close_ {s : St} {done done' : Int → Prop} {x : Int} (hL : ∀ c ∈ L, ∀ y ∈ c, litN V y) (h : Inv V L l s done x []) (hd : ∀ m, done' m ↔ done m ∨ m = x) : Inv V L l s done' 0 [] := by
  refine ⟨h.base, h.wl, fun i w hw => ?_, fun m hm i hi => ?_, h.nd⟩
  · obtain ⟨c, h1, g⟩ := h.good i w hw
    have hl0 : ∀ y ∈ c, y ≠ 0 := fun y hy => by have := hL c (List.mem_of_getElem? h1) y hy; unfold litN at this; omega
    refine ⟨c, h1, g.kc, g.oc, g.rc, g.cov, ?_, fun hp => absurd hp List.not_mem_nil⟩
    rcases g.live with a | ⟨a, b, c, d, e, f⟩
    · exact .inl a
    · have hf := f List.not_mem_nil
      exact .inr ⟨a, b, c, fun hq => by rcases (hd _).1 hq with q | q; exact d q; exact hf.1 q, fun hq => by rcases (hd _).1 hq with q | q; exact e q; exact hf.2 q, fun _ => ⟨hl0 _ g.kc, hl0 _ g.oc⟩⟩
  · obtain ⟨v, h2, h3⟩ := h.wait m hm i hi
    refine ⟨v, h2, ?_⟩
    rcases h3 with a | a | a | a
    · exact .inl a
    · exact .inr (.inl a)
    · exact .inr (.inr (.inl ((hd _).2 (.inl a))))
    · exact .inr (.inr (.inl ((hd _).2 (.inr a))))
theorem Base.few {s : St} (h : Base V L l s) : s.queue.length ≤ V := by
  have := few_abs V (s.queue.map fun x => (x.natAbs : Int)) (by
    have := h.nd
    rw [List.Nodup, List.pairwise_map] at this ⊢
    exact this.imp fun h e => h (by omega)) (fun y hy => by
    obtain ⟨x, hx, rfl⟩ := List.mem_map.1 hy
    have := (h.qu x hx).1
    unfold litN at this
    omega)
  rwa [List.length_map] at this
/-- what has been lost, up to place k of the queue -/
def doneTo (s : St) (k : Nat) (m : Int) : Prop := -m ∈ s.queue.take k
theorem loses_ok {s : St} {k : Nat} {y : Int} (hL : ∀ c ∈ L, ∀ y ∈ c, litN V y) (h : Inv V L l s (doneTo s k) 0 []) (hy : s.queue[k]? = some y) :
    match losesP s (-y) with
    | none => Conf L l
    | some s' => Inv V L l s' (doneTo s' (k + 1)) 0 [] ∧ (∃ q, s'.queue = s.queue ++ q) ∧ s'.ws.length = s.ws.length := by
  have hk : k < s.queue.length := (List.getElem?_eq_some_iff.1 hy).1
  have hyk : s.queue[k] = y := (List.getElem?_eq_some_iff.1 hy).2
  have hym : y ∈ s.queue := hyk ▸ List.getElem_mem hk
  have hyl := (h.base.qu y hym).1
  have hx : litN V (-y) := by unfold litN at *; rw [Int.natAbs_neg]; exact hyl
  have htk : s.queue.take (k + 1) = s.queue.take k ++ [y] := by rw [List.take_succ_eq_append_getElem hk, hyk]
  have hnd : ¬ doneTo s k (-y) := fun hd => by
    unfold doneTo at hd
    rw [Int.neg_neg] at hd
    have h1 := h.base.nd
    rw [← List.take_append_drop (k + 1) s.queue, htk, List.append_assoc, List.map_append, List.nodup_append] at h1
    exact h1.2.2 _ (List.mem_map.2 ⟨y, hd, rfl⟩) _ (List.mem_map.2 ⟨y, by simp, rfl⟩) rfl
  have h1 := h.open_ hx hnd
  have h2 := loses_fold (l := l) hL (by unfold litN at hx; omega : (-y : Int) ≠ 0) (waitsOf s (-y)) s (fun m hm => List.mem_of_mem_take hm) h1 (fun i hi => by
    obtain ⟨w, hw, _⟩ := h.wait _ hx i hi
    exact (List.getElem?_eq_some_iff.1 hw).1) (by rw [Int.neg_neg]; exact hym) (h.nd _ hx)
  unfold losesP
  cases e : foldO (loseP (-y)) (waitsOf s (-y)) s with
  | none => rw [e] at h2; exact h2
  | some s' =>
    rw [e] at h2
    obtain ⟨a, ⟨q, b⟩, c⟩ := h2
    refine ⟨a.close_ hL fun m => ?_, ⟨q, b⟩, c⟩
    unfold doneTo
    rw [b, List.take_append_of_le_length (by omega), htk, List.mem_append, List.mem_singleton]
    constructor
    · rintro (h | h)
      · exact .inl h
      · exact .inr (by omega)
    · rintro (h | h)
      · exact .inl h
      · exact .inr (by omega)
theorem run_ok (hL : ∀ c ∈ L, ∀ y ∈ c, litN V y) : ∀ (n : Nat) (s : St) (k : Nat), V + 1 ≤ n + k → k ≤ s.queue.length → Inv V L l s (doneTo s k) 0 [] →
    match runP n s k with
    | none => Conf L l
    | some s' => Inv V L l s' (fun m => -m ∈ s'.queue) 0 [] ∧ (∃ q, s'.queue = s.queue ++ q) ∧ s'.ws.length = s.ws.length
  | 0, s, k, hn, hk, h => by have := h.base.few; omega
  | n + 1, s, k, hn, hk, h => by
    unfold runP
    cases hy : s.queue[k]? with
    | none =>
      have : s.queue.length ≤ k := List.getElem?_eq_none_iff.1 hy
      refine ⟨?_, ⟨[], by simp⟩, rfl⟩
      have e : doneTo s k = fun m => -m ∈ s.queue := by
        funext m; unfold doneTo; rw [List.take_of_length_le this]
      rw [← e]; exact h
    | some y =>
      have h1 := loses_ok hL h hy
      have hk2 : k < s.queue.length := (List.getElem?_eq_some_iff.1 hy).1
      simp only
      cases e : losesP s (-y) with
      | none => rw [e] at h1; exact h1
      | some s1 =>
        rw [e] at h1
        obtain ⟨a, ⟨q, b⟩, c⟩ := h1
        have ih := run_ok hL n s1 (k + 1) (by omega) (by rw [b, List.length_append]; omega) a
        show match runP n s1 (k + 1) with | none => _ | some s' => _
        cases e2 : runP n s1 (k + 1) with
        | none => rw [e2] at ih; exact ih
        | some s2 =>
          rw [e2] at ih
          obtain ⟨a2, ⟨q2, b2⟩, c2⟩ := ih
          exact ⟨a2, ⟨q ++ q2, by rw [b2, b, List.append_assoc]⟩, c2.trans c⟩
theorem takes_ok {s : St} {c : List Int} (hL : ∀ c ∈ L, ∀ y ∈ c, litN V y) (h : Inv V L l s (fun _ => False) 0 []) (hc : L[s.ws.length]? = some c) :
    match takesP s c with
    | none => Conf L l
    | some s' => Inv V L l s' (fun _ => False) 0 [] ∧ (∃ q, s'.queue = s.queue ++ q) ∧ s'.ws.length = s.ws.length + 1 := by
  have hcL : c ∈ L := List.mem_of_getElem? hc
  have hl0 : ∀ y ∈ c, y ≠ 0 := fun y hy => by have := hL c hcL y hy; unfold litN at this; omega
  have hgd : (newP s c).ws.getD s.ws.length default = ⟨0, 0, c⟩ := by
    unfold newP
    rw [List.getD_eq_getElem?_getD]
    simp
  have hlt : ∀ m, litN V m → ∀ j ∈ waitsOf s m, j < s.ws.length := fun m hm j hj => by
    obtain ⟨w, hw, _⟩ := h.wait m hm j hj
    exact (List.getElem?_eq_some_iff.1 hw).1
  unfold takesP
  cases e : anotherP (newP s c) s.ws.length with
  | none =>
    refine conf_clause hcL fun y hy => ?_
    unfold anotherP at e
    rw [hgd] at e
    cases hf : findP (newP s c).set 0 c with
    | some p => simp only at e; rw [hf] at e; cases e
    | none =>
      rcases find_none hf y hy with h1 | h1
      · exact (h.base.qu _ ((h.base.lost (hl0 y hy)).1 h1)).2.2
      · exact absurd h1 (hl0 y hy)
  | some s1 =>
    unfold anotherP at e
    rw [hgd] at e
    simp only at e
    cases hf : findP (newP s c).set 0 c with
    | none => rw [hf] at e; simp only [setsP, if_pos] at e; cases e
    | some p =>
      obtain ⟨n, q⟩ := p
      rw [hf] at e
      simp only [Option.some.injEq] at e
      obtain ⟨f1, f2, f3, f4, f5⟩ := find_some hf
      have hn := hL c hcL n f1
      have hnl : -n ∉ s.queue := fun hm => f2 ((h.base.lost f3).2 hm)
      have hpl : plc n < s.waits.length := by rw [h.wl]; exact plc_lt hn
      have hin : s.ws.length ∉ waitsOf s n := fun hi => Nat.lt_irrefl _ (hlt n hn _ hi)
      have hws1 : s1.ws[s.ws.length]? = some ⟨0, n, q⟩ := by
        rw [← e]
        exact List.getElem?_set_self (by unfold newP; simp)
      have hk : keepP s1 s.ws.length = { s with ws := s.ws ++ [⟨n, n, q⟩], waits := s.waits.set (plc n) (waitsOf s n ++ [s.ws.length]) } := by
        unfold keepP
        rw [getD_some hws1, ← e]
        simp only [newP, List.set_set]
        congr 1
        rw [List.set_append_right _ _ (Nat.le_refl _)]
        simp
      show match anotherP (keepP s1 s.ws.length) s.ws.length with | none => _ | some s' => _
      rw [hk]
      generalize hs2 : ({ s with ws := s.ws ++ [⟨n, n, q⟩], waits := s.waits.set (plc n) (waitsOf s n ++ [s.ws.length]) } : St) = s2
      have w1 : waitsOf s2 n = waitsOf s n ++ [s.ws.length] := by rw [← hs2]; exact getD_set_self _ _ hpl
      have w2 : ∀ m, m ≠ n → waitsOf s2 m = waitsOf s m := fun m hm => by rw [← hs2]; exact getD_set_ne _ _ (fun e => hm (plc_inj e).symm)
      have w3 : ∀ m j, j ∈ waitsOf s m → j ∈ waitsOf s2 m := fun m j hj => by
        by_cases hm : m = n
        · subst hm; rw [w1]; exact List.mem_append_left _ hj
        · rw [w2 m hm]; exact hj
      have hq : s2.queue = s.queue := by rw [← hs2]
      have hset : s2.set = s.set := by rw [← hs2]
      have hwl : s2.waits.length = s.waits.length := by rw [← hs2]; exact List.length_set
      have hwn : s2.ws.length = s.ws.length + 1 := by rw [← hs2]; simp
      have e1 : s2.ws[s.ws.length]? = some ⟨n, n, q⟩ := by rw [← hs2]; simp
      have e2 : ∀ j, j ≠ s.ws.length → s2.ws[j]? = s.ws[j]? := fun j hj => by
        rw [← hs2]
        simp only
        by_cases hjl : j < s.ws.length
        · rw [List.getElem?_append_left hjl]
        · rw [List.getElem?_eq_none_iff.2 (by simp; omega), List.getElem?_eq_none_iff.2 (by omega)]
      have hp : Pre V L l s2 (fun _ => False) 0 [] s.ws.length c ⟨n, n, q⟩ := by
        refine ⟨⟨by rw [hset]; exact h.base.sl, fun v => by rw [hset, hq]; exact h.base.val v, fun y hy => ?_, by rw [hq]; exact h.base.nd⟩, by rw [hwl]; exact h.wl, e1, hc, List.not_mem_nil, f1, f4, fun y hy => ?_, .inr ⟨by rw [w1]; simp, fun h => h, f3⟩, f1, fun j v hj hv => ?_, fun m hm j hj => ?_, fun m hm => ?_⟩
        · rw [hq] at hy
          have := h.base.qu y hy
          unfold atS at *
          rw [hset]; exact this
        · rw [hq]
          rcases f5 y hy with a | a | a | a
          · exact .inl ((h.base.lost (hl0 y hy)).1 a)
          · exact absurd a (hl0 y hy)
          · exact .inr (.inl a)
          · exact .inr (.inr a)
        · rw [e2 j hj] at hv
          obtain ⟨d, h1, h2⟩ := h.good j v hv
          exact ⟨d, h1, h2.grows ⟨[], by rw [hq, List.append_nil]⟩ fun m hm => w3 m j hm⟩
        · by_cases hmn : m = n
          · subst hmn
            rw [w1] at hj
            rcases List.mem_append.1 hj with hj | hj
            · have := hlt m hm j hj
              exact .inr ⟨by omega, by rw [e2 j (by omega)]; exact h.wait m hm j hj⟩
            · exact .inl ⟨List.mem_singleton.1 hj, .inl rfl⟩
          · rw [w2 m hmn] at hj
            have := hlt m hm j hj
            exact .inr ⟨by omega, by rw [e2 j (by omega)]; exact h.wait m hm j hj⟩
        · by_cases hmn : m = n
          · subst hmn
            rw [w1, List.nodup_append]
            refine ⟨h.nd m hm, by simp, fun a ha b hb => ?_⟩
            rw [List.mem_singleton] at hb
            subst hb
            intro e
            exact hin (e ▸ ha)
          · rw [w2 m hmn]; exact h.nd m hm
      cases e3 : anotherP s2 s.ws.length with
      | none => exact another_none hL hp e3
      | some s' =>
        obtain ⟨a, ⟨q2, b⟩, c2, _⟩ := another_some hL hp (fun m hm => hm.elim) (.inl rfl) e3
        exact ⟨a, ⟨q2, by rw [b, hq]⟩, c2.trans hwn⟩
theorem takes_fold (hL : ∀ c ∈ L, ∀ y ∈ c, litN V y) : ∀ (M : List (List Int)) (s : St), Inv V L l s (fun _ => False) 0 [] → L.drop s.ws.length = M → s.ws.length ≤ L.length →
    match foldO takesP M s with
    | none => Conf L l
    | some s' => Inv V L l s' (fun _ => False) 0 [] ∧ (∃ q, s'.queue = s.queue ++ q) ∧ s'.ws.length = L.length
  | [], s, h, hd, hl => ⟨h, ⟨[], by simp⟩, by
      have := List.drop_eq_nil_iff.1 hd
      omega⟩
  | c :: M, s, h, hd, hl => by
    have hc : L[s.ws.length]? = some c := by
      have : (L.drop s.ws.length)[0]? = some c := by rw [hd]; rfl
      rw [List.getElem?_drop] at this
      exact this
    have hlt : s.ws.length < L.length := (List.getElem?_eq_some_iff.1 hc).1
    have h1 := takes_ok hL h hc
    unfold foldO
    cases e : takesP s c with
    | none => rw [e] at h1; exact h1
    | some s1 =>
      rw [e] at h1
      obtain ⟨a, ⟨q, b⟩, d⟩ := h1
      have ih := takes_fold hL M s1 a (by rw [d, ← List.drop_drop, hd]; rfl) (by omega)
      show match foldO takesP M s1 with | none => _ | some s' => _
      cases e2 : foldO takesP M s1 with
      | none => rw [e2] at ih; exact ih
      | some s2 =>
        rw [e2] at ih
        obtain ⟨a2, ⟨q2, b2⟩, c2⟩ := ih
        exact ⟨a2, ⟨q ++ q2, by rw [b2, b, List.append_assoc]⟩, c2⟩
theorem sets_fold : ∀ (m : List Int) (s : St), (∀ x ∈ m, litN V x ∧ x ∈ l) → Base V L l s →
    match foldO setsP m s with
    | none => Conf L l
    | some s' => Base V L l s' ∧ (∃ q, s'.queue = s.queue ++ q) ∧ (∀ x ∈ m, x ∈ s'.queue) ∧ s'.waits = s.waits ∧ s'.ws = s.ws
  | [], s, _, h => ⟨h, ⟨[], by simp⟩, fun x hx => absurd hx List.not_mem_nil, rfl, rfl⟩
  | x :: m, s, hm, h => by
    have hx := hm x List.mem_cons_self
    unfold foldO
    cases e : setsP s x with
    | none => exact sets_none h hx.1 (.giv x hx.2) e
    | some s1 =>
      obtain ⟨a, b, ⟨q, c⟩, d, f⟩ := sets_some h hx.1 (.giv x hx.2) e
      have ih := sets_fold m s1 (fun y hy => hm y (List.mem_cons_of_mem _ hy)) a
      show match foldO setsP m s1 with | none => _ | some s' => _
      cases e2 : foldO setsP m s1 with
      | none => rw [e2] at ih; exact ih
      | some s2 =>
        rw [e2] at ih
        obtain ⟨a2, ⟨q2, b2⟩, c2, d2, f2⟩ := ih
        refine ⟨a2, ⟨q ++ q2, by rw [b2, c, List.append_assoc]⟩, fun y hy => ?_, d2.trans d, f2.trans f⟩
        rcases List.mem_cons.1 hy with rfl | hy
        · rw [b2]; exact List.mem_append_left _ b
        · exact c2 y hy
theorem base_start : Base V L l (startP V) := by
  refine ⟨by unfold startP; simp, fun v => .inl ?_, fun x hx => absurd hx List.not_mem_nil, List.Pairwise.nil⟩
  unfold startP
  simp only
  rw [List.getD_eq_getElem?_getD, List.getElem?_replicate]
  split <;> rfl
theorem inv_of {s : St} (h : Base V L l s) (hw : s.waits = List.replicate (nW V) []) (hz : s.ws = []) : Inv V L l s (fun _ => False) 0 [] := by
  have hW : ∀ m, waitsOf s m = [] := fun m => by
    unfold waitsOf
    rw [hw, List.getD_eq_getElem?_getD, List.getElem?_replicate]
    split <;> rfl
  refine ⟨h, by rw [hw]; simp, fun i w hi => ?_, fun m _ i hi => ?_, fun m _ => by rw [hW]; exact List.Pairwise.nil⟩
  · rw [hz] at hi; cases hi
  · rw [hW] at hi; exact absurd hi List.not_mem_nil
theorem up_ok (hL : ∀ c ∈ L, ∀ y ∈ c, litN V y) (hl : ∀ y ∈ l, litN V y) :
    match upP V L l with
    | none => Conf L l
    | some s => Base V L l s ∧ Closed L l (· ∈ s.queue) := by
  have h1 := sets_fold (V := V) (L := L) (l := l) l (startP V) (fun x hx => ⟨hl x hx, hx⟩) base_start
  unfold upP
  cases e1 : foldO setsP l (startP V) with
  | none => rw [e1] at h1; exact h1
  | some s1 =>
    rw [e1] at h1
    obtain ⟨a1, -, b1, c1, d1⟩ := h1
    have h2 := takes_fold hL L s1 (inv_of a1 c1 d1) (by rw [d1]; rfl) (by rw [d1]; exact Nat.zero_le _)
    show match (foldO takesP L s1).bind fun s => runP (V + 1) s 0 with | none => _ | some s => _
    cases e2 : foldO takesP L s1 with
    | none => rw [e2] at h2; exact h2
    | some s2 =>
      rw [e2] at h2
      obtain ⟨a2, ⟨q2, b2⟩, c2⟩ := h2
      have hz : Inv V L l s2 (doneTo s2 0) 0 [] := by
        have : doneTo s2 0 = fun _ => False := by funext m; unfold doneTo; simp
        rw [this]; exact a2
      have h3 := run_ok hL (V + 1) s2 0 (by omega) (Nat.zero_le _) hz
      show match runP (V + 1) s2 0 with | none => _ | some s => _
      cases e3 : runP (V + 1) s2 0 with
      | none => rw [e3] at h3; exact h3
      | some s3 =>
        rw [e3] at h3
        obtain ⟨a3, ⟨q3, b3⟩, c3⟩ := h3
        refine ⟨a3.base, fun x hx => by rw [b3, b2]; exact List.mem_append_left _ (List.mem_append_left _ (b1 x hx)), fun x hx => a3.base.both hx, fun c hc => ?_⟩
        obtain ⟨i, hi, rfl⟩ := List.getElem_of_mem hc
        have hiw : i < s3.ws.length := by rw [c3, c2]; exact hi
        obtain ⟨d, h4, g⟩ := a3.good i s3.ws[i] (List.getElem?_eq_getElem hiw)
        obtain rfl : L[i] = d := Option.some.inj ((List.getElem?_eq_getElem hi).symm.trans h4)
        rcases g.live with h | ⟨h1, -, -, h2, h3, -⟩
        · exact .inl ⟨_, g.kc, h⟩
        · exact .inr ⟨_, g.kc, _, g.oc, h1, h2, h3⟩
theorem list_mem {s : St} (h : Base V L l s) (x : Int) : x ∈ listP V s ↔ x ∈ s.queue := by
  unfold listP
  rw [List.mem_filter, List.mem_map]
  constructor
  · rintro ⟨⟨v, hv, rfl⟩, h0⟩
    rcases h.val (v + 1) with h1 | h1
    · rw [h1] at h0; simp at h0
    · exact h1.2
  · intro hx
    obtain ⟨h1, h2, _⟩ := h.qu x hx
    unfold litN at h1
    unfold atS at h2
    refine ⟨⟨x.natAbs - 1, List.mem_range.2 (by omega), ?_⟩, decide_eq_true (by omega)⟩
    rw [show x.natAbs - 1 + 1 = x.natAbs by omega]; exact h2
theorem abs_small {x : Int} (h : x.natAbs ≤ 262144) : absW x = (x.natAbs : Int) := by
  unfold absW negW
  split <;> (try split) <;> omega
theorem list_sorted {s : St} (h : Base V L l s) (hV : V ≤ 262144) : (listP V s).Pairwise lt := by
  unfold listP
  rw [List.pairwise_filter, List.pairwise_map]
  refine (List.pairwise_lt_range (n := V)).imp_of_mem fun {u v} hu hv hlt h1 h2 => ?_
  have hu := List.mem_range.1 hu
  have hv := List.mem_range.1 hv
  simp only [decide_eq_true_eq] at h1 h2
  rcases h.val (u + 1) with a | a
  · exact absurd a h1
  · rcases h.val (v + 1) with b | b
    · exact absurd b h2
    · left
      rw [abs_small (by omega), abs_small (by omega)]
      omega
end
/-- THE PROGRAM'S WAY IS THE PAGES' WAY -/
theorem up_follow {vars : Int} {L : List (List Int)} {l : List Int} (h0 : 0 ≤ vars) (h1 : vars ≤ 262144) (hL : ∀ c ∈ L, ∀ y ∈ c, I64 y ∧ litOk vars y = true) (hl : ∀ y ∈ l, I64 y ∧ litOk vars y = true) :
    match upP vars.toNat L l with
    | none => followM vars L l = none
    | some s => ∃ t, followM vars L l = some t ∧ normM t = listP vars.toNat s := by
  have hlit : ∀ y, litOk vars y = true → litN vars.toNat y := fun y hy => by
    have := lit_facts hy
    unfold litN; omega
  have h := up_ok (V := vars.toNat) (fun c hc y hy => hlit y (hL c hc y hy).2) (fun y hy => hlit y (hl y hy).2)
  cases e : upP vars.toNat L l with
  | none => rw [e] at h; exact follow_conf hL hl h0 h
  | some s =>
    rw [e] at h
    obtain ⟨hb, hc⟩ := h
    exact follow_closed hL hl h0 hc (fun x hx => (hb.qu x hx).2.2) (list_sorted hb (by omega)) (fun x => list_mem hb x) (fun hz => by have := (hb.qu 0 hz).1; unfold litN at this; omega)
end Go.Proofs.Ytefbknpoehmfaaa.For
