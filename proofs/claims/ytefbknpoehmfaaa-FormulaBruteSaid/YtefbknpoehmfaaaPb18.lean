/- The program's own way to what follows by units, without memory: each clause waits for two of its literals. No program is named here; no condition. -/
import Derived.Test.YtefbknpoehmfaaaPb10
namespace Go.Proofs.Ytefbknpoehmfaaa.For
open Circ Cla

structure Wt where
  kept : Int
  other : Int
  rest : List Int
instance : Inhabited Wt := ⟨⟨0, 0, []⟩⟩
structure St where
  set : List Int
  queue : List Int
  waits : List (List Nat)
  ws : List Wt
def atS (s : St) (x : Int) : Int := s.set.getD x.natAbs 0
/-- a literal's place -/
def plc (x : Int) : Nat := if x < 0 then 2 * x.natAbs + 1 else 2 * x.natAbs
def waitsOf (s : St) (x : Int) : List Nat := s.waits.getD (plc x) []
def setsP (s : St) (x : Int) : Option St :=
  if x = 0 then none else if atS s x = -x then none else if atS s x = 0 then some { s with set := s.set.set x.natAbs x, queue := s.queue ++ [x] } else some s
def findP (set : List Int) (kept : Int) : List Int → Option (Int × List Int)
  | [] => none
  | x :: r => if set.getD x.natAbs 0 = -x then findP set kept r else if x = kept then findP set kept r else some (x, r)
def anotherP (s : St) (i : Nat) : Option St :=
  match findP s.set (s.ws.getD i default).kept (s.ws.getD i default).rest with
  | none => setsP s (s.ws.getD i default).kept
  | some (x, r) => some { s with ws := s.ws.set i ⟨(s.ws.getD i default).kept, x, r⟩, waits := s.waits.set (plc x) (waitsOf s x ++ [i]) }
def keepP (s : St) (i : Nat) : St := { s with ws := s.ws.set i ⟨(s.ws.getD i default).other, (s.ws.getD i default).other, (s.ws.getD i default).rest⟩ }
def newP (s : St) (c : List Int) : St := { s with ws := s.ws ++ [⟨0, 0, c⟩] }
def takesP (s : St) (c : List Int) : Option St := (anotherP (newP s c) s.ws.length).bind fun s1 => anotherP (keepP s1 s.ws.length) s.ws.length
def loseP (x : Int) (s : St) (i : Nat) : Option St := anotherP (if (s.ws.getD i default).kept = x then keepP s i else s) i
def foldO {α : Type} (f : St → α → Option St) : List α → St → Option St
  | [], s => some s
  | a :: r, s => (f s a).bind (foldO f r)
def losesP (s : St) (x : Int) : Option St := foldO (loseP x) (waitsOf s x) s
def runP : Nat → St → Nat → Option St
  | 0, s, _ => some s
  | n + 1, s, k => match s.queue[k]? with
    | none => some s
    | some x => (losesP s (-x)).bind fun s' => runP n s' (k + 1)
/-- how many lists there are -/
def nW (V : Nat) : Nat := if V = 0 then 1 else 2 * V + 2
def startP (V : Nat) : St := ⟨List.replicate (V + 1) 0, [], List.replicate (nW V) [], []⟩
def upP (V : Nat) (L : List (List Int)) (l : List Int) : Option St := (foldO setsP l (startP V)).bind fun s => (foldO takesP L s).bind fun s => runP (V + 1) s 0
/-- what is set, by variables -/
def listP (V : Nat) (s : St) : List Int := ((List.range V).map fun v => s.set.getD (v + 1) 0).filter (· ≠ 0)

theorem getD_set_self {α : Type} {l : List α} {i : Nat} (v d : α) (h : i < l.length) : (l.set i v).getD i d = v := by
  rw [List.getD_eq_getElem?_getD, List.getElem?_set_self h]; rfl
theorem getD_set_ne {α : Type} {l : List α} {i j : Nat} (v d : α) (h : i ≠ j) : (l.set i v).getD j d = l.getD j d := by
  rw [List.getD_eq_getElem?_getD, List.getElem?_set_ne h, List.getD_eq_getElem?_getD]
theorem getD_some {α : Type} {l : List α} {i : Nat} {v d : α} (h : l[i]? = some v) : l.getD i d = v := by
  rw [List.getD_eq_getElem?_getD, h]; rfl
theorem plc_inj {x y : Int} (h : plc x = plc y) : x = y := by
  unfold plc at h
  split at h <;> split at h <;> omega
def litN (V : Nat) (x : Int) : Prop := 1 ≤ x.natAbs ∧ x.natAbs ≤ V
theorem plc_lt {V : Nat} {x : Int} (h : litN V x) : plc x < nW V := by
  unfold litN at h
  unfold plc nW
  split <;> split <;> omega
section
variable {V : Nat} {L : List (List Int)} {l : List Int}
/-- what is set follows, and is known by its variable -/
structure Base (V : Nat) (L : List (List Int)) (l : List Int) (s : St) : Prop where
  sl : s.set.length = V + 1
  val : ∀ v, s.set.getD v 0 = 0 ∨ ((s.set.getD v 0).natAbs = v ∧ s.set.getD v 0 ∈ s.queue)
  qu : ∀ x ∈ s.queue, litN V x ∧ atS s x = x ∧ Der L l x
  nd : (s.queue.map Int.natAbs).Nodup
theorem Base.lost {s : St} (h : Base V L l s) {x : Int} (hx : x ≠ 0) : atS s x = -x ↔ -x ∈ s.queue := by
  constructor
  · intro e
    unfold atS at e
    rcases h.val x.natAbs with h0 | ⟨_, h1⟩
    · rw [h0] at e; omega
    · rwa [e] at h1
  · intro hm
    have := (h.qu _ hm).2.1
    unfold atS at *
    rwa [Int.natAbs_neg] at this
theorem Base.is {s : St} (h : Base V L l s) {x : Int} (hx : x ≠ 0) : atS s x = x ↔ x ∈ s.queue := by
  constructor
  · intro e
    unfold atS at e
    rcases h.val x.natAbs with h0 | ⟨_, h1⟩
    · rw [h0] at e; omega
    · rwa [e] at h1
  · intro hm
    exact (h.qu _ hm).2.1
theorem Base.tri {s : St} (h : Base V L l s) (x : Int) : atS s x = 0 ∨ x ∈ s.queue ∨ -x ∈ s.queue := by
  unfold atS
  rcases h.val x.natAbs with h0 | ⟨h0, h1⟩
  · exact .inl h0
  · rcases Int.natAbs_eq_natAbs_iff.1 h0 with e | e
    · exact .inr (.inl (e ▸ h1))
    · exact .inr (.inr (e ▸ h1))
theorem Base.both {s : St} (h : Base V L l s) {x : Int} (hx : x ∈ s.queue) : -x ∉ s.queue := fun hn => by
  have h0 := (h.qu x hx)
  have h1 := (h.qu _ hn).2.1
  have h2 := h0.2.1
  unfold litN at h0
  unfold atS at *
  rw [Int.natAbs_neg, h2] at h1
  omega
theorem Base.free {s : St} (h : Base V L l s) {x : Int} (hx : x ≠ 0) (e : atS s x = 0) : x ∉ s.queue ∧ -x ∉ s.queue :=
  ⟨fun hm => hx (by rw [← (h.is hx).2 hm]; exact e), fun hm => hx (by have := (h.lost hx).2 hm; omega)⟩
theorem sets_none {s : St} (h : Base V L l s) {x : Int} (hx : litN V x) (hd : Der L l x) (e : setsP s x = none) : Conf L l := by
  have hx0 : x ≠ 0 := by unfold litN at hx; omega
  unfold setsP at e
  rw [if_neg hx0] at e
  split at e
  · rename_i h1
    exact .inl ⟨x, hd, (h.qu _ ((h.lost hx0).1 h1)).2.2⟩
  · split at e <;> cases e
theorem sets_some {s s' : St} (h : Base V L l s) {x : Int} (hx : litN V x) (hd : Der L l x) (e : setsP s x = some s') :
    Base V L l s' ∧ x ∈ s'.queue ∧ (∃ r, s'.queue = s.queue ++ r) ∧ s'.waits = s.waits ∧ s'.ws = s.ws := by
  have hx0 : x ≠ 0 := by unfold litN at hx; omega
  unfold setsP at e
  rw [if_neg hx0] at e
  split at e
  · cases e
  · rename_i h1
    split at e
    · rename_i h2
      obtain rfl := Option.some.inj e
      have hlt : x.natAbs < s.set.length := by rw [h.sl]; unfold litN at hx; omega
      have hf := h.free hx0 h2
      have hat : ∀ y : Int, y.natAbs ≠ x.natAbs → (s.set.set x.natAbs x).getD y.natAbs 0 = s.set.getD y.natAbs 0 := fun y hy => getD_set_ne _ _ (fun e => hy e.symm)
      refine ⟨⟨by rw [List.length_set]; exact h.sl, fun v => ?_, fun y hy => ?_, ?_⟩, List.mem_append_right _ (List.mem_singleton.2 rfl), ⟨[x], rfl⟩, rfl, rfl⟩
      · by_cases hv : x.natAbs = v
        · subst hv
          simp only
          rw [getD_set_self _ _ hlt]
          exact .inr ⟨rfl, List.mem_append_right _ (List.mem_singleton.2 rfl)⟩
        · simp only
          rw [getD_set_ne _ _ hv]
          rcases h.val v with h0 | ⟨h0, h1⟩
          · exact .inl h0
          · exact .inr ⟨h0, List.mem_append_left _ h1⟩
      · rcases List.mem_append.1 hy with hy | hy
        · obtain ⟨a, b, c⟩ := h.qu y hy
          refine ⟨a, ?_, c⟩
          unfold atS at b ⊢
          simp only
          rw [hat y, b]
          intro e
          rcases Int.natAbs_eq_natAbs_iff.1 e with e | e
          · exact hf.1 (e ▸ hy)
          · exact hf.2 (e ▸ hy)
        · obtain rfl := List.mem_singleton.1 hy
          refine ⟨hx, ?_, hd⟩
          unfold atS
          exact getD_set_self _ _ hlt
      · simp only [List.map_append, List.map_cons, List.map_nil]
        rw [List.nodup_append]
        refine ⟨h.nd, by simp, fun a ha b hb => ?_⟩
        obtain ⟨z, hz, rfl⟩ := List.mem_map.1 ha
        rw [List.mem_singleton] at hb
        subst hb
        intro e
        rcases Int.natAbs_eq_natAbs_iff.1 e with e | e
        · exact hf.1 (e ▸ hz)
        · exact hf.2 (e ▸ hz)
    · rename_i h2
      obtain rfl := Option.some.inj e
      refine ⟨h, ?_, ⟨[], by simp⟩, rfl, rfl⟩
      rcases h.tri x with h3 | h3 | h3
      · exact absurd h3 h2
      · exact h3
      · exact absurd ((h.lost hx0).2 h3) h1
theorem find_none {set : List Int} {k : Int} : ∀ {r : List Int}, findP set k r = none → ∀ y ∈ r, set.getD y.natAbs 0 = -y ∨ y = k
  | [], _, y, hy => absurd hy List.not_mem_nil
  | x :: r, h, y, hy => by
    unfold findP at h
    split at h
    · rename_i h1
      rcases List.mem_cons.1 hy with rfl | hy
      · exact .inl h1
      · exact find_none h y hy
    · split at h
      · rename_i h1
        rcases List.mem_cons.1 hy with rfl | hy
        · exact .inr h1
        · exact find_none h y hy
      · cases h
theorem find_some {set : List Int} {k n : Int} {q : List Int} : ∀ {r : List Int}, findP set k r = some (n, q) → n ∈ r ∧ set.getD n.natAbs 0 ≠ -n ∧ n ≠ k ∧ (∀ y ∈ q, y ∈ r) ∧ ∀ y ∈ r, set.getD y.natAbs 0 = -y ∨ y = k ∨ y = n ∨ y ∈ q
  | [], h => by cases h
  | x :: r, h => by
    unfold findP at h
    split at h
    · rename_i h1
      obtain ⟨a, b, c, d, e⟩ := find_some h
      refine ⟨List.mem_cons_of_mem _ a, b, c, fun y hy => List.mem_cons_of_mem _ (d y hy), fun y hy => ?_⟩
      rcases List.mem_cons.1 hy with rfl | hy
      · exact .inl h1
      · exact e y hy
    · rename_i h0
      split at h
      · rename_i h1
        obtain ⟨a, b, c, d, e⟩ := find_some h
        refine ⟨List.mem_cons_of_mem _ a, b, c, fun y hy => List.mem_cons_of_mem _ (d y hy), fun y hy => ?_⟩
        rcases List.mem_cons.1 hy with rfl | hy
        · exact .inr (.inl h1)
        · exact e y hy
      · rename_i h1
        obtain ⟨rfl, rfl⟩ := Prod.mk.inj (Option.some.inj h)
        exact ⟨List.mem_cons_self, h0, h1, fun y hy => List.mem_cons_of_mem _ hy, fun y hy => by
          rcases List.mem_cons.1 hy with rfl | hy
          · exact .inr (.inr (.inl rfl))
          · exact .inr (.inr (.inr hy))⟩
/-- one clause and what it waits for; x: the literal that is being lost; pend: who has not heard of it -/
structure Good (s : St) (done : Int → Prop) (x : Int) (pend : List Nat) (i : Nat) (c : List Int) (w : Wt) : Prop where
  kc : w.kept ∈ c
  oc : w.other ∈ c
  rc : ∀ y ∈ w.rest, y ∈ c
  cov : ∀ y ∈ c, -y ∈ s.queue ∨ y = w.kept ∨ y = w.other ∨ y ∈ w.rest
  live : w.kept ∈ s.queue ∨ (w.kept ≠ w.other ∧ i ∈ waitsOf s w.kept ∧ i ∈ waitsOf s w.other ∧ ¬ done w.kept ∧ ¬ done w.other ∧ (i ∉ pend → w.kept ≠ x ∧ w.other ≠ x))
  pen : i ∈ pend → w.kept = x ∨ w.other = x
structure Inv (V : Nat) (L : List (List Int)) (l : List Int) (s : St) (done : Int → Prop) (x : Int) (pend : List Nat) : Prop where
  base : Base V L l s
  wl : s.waits.length = nW V
  good : ∀ i w, s.ws[i]? = some w → ∃ c, L[i]? = some c ∧ Good s done x pend i c w
  wait : ∀ m, litN V m → ∀ i ∈ waitsOf s m, ∃ w, s.ws[i]? = some w ∧ (m = w.kept ∨ m = w.other ∨ done m ∨ m = x)
  nd : ∀ m, litN V m → (waitsOf s m).Nodup
/-- before another: clause i has no other -/
structure Pre (V : Nat) (L : List (List Int)) (l : List Int) (s : St) (done : Int → Prop) (x : Int) (pend : List Nat) (i : Nat) (c : List Int) (w : Wt) : Prop where
  base : Base V L l s
  wl : s.waits.length = nW V
  at_ : s.ws[i]? = some w
  cl : L[i]? = some c
  fresh : i ∉ pend
  kc : w.kept ∈ c
  rc : ∀ y ∈ w.rest, y ∈ c
  cov : ∀ y ∈ c, -y ∈ s.queue ∨ y = w.kept ∨ y ∈ w.rest
  live : w.kept ∈ s.queue ∨ (i ∈ waitsOf s w.kept ∧ ¬ done w.kept ∧ w.kept ≠ x)
  oc : w.other ∈ c
  good : ∀ j v, j ≠ i → s.ws[j]? = some v → ∃ d, L[j]? = some d ∧ Good s done x pend j d v
  wait : ∀ m, litN V m → ∀ j ∈ waitsOf s m, (j = i ∧ (m = w.kept ∨ done m ∨ m = x)) ∨ (j ≠ i ∧ ∃ v, s.ws[j]? = some v ∧ (m = v.kept ∨ m = v.other ∨ done m ∨ m = x))
  nd : ∀ m, litN V m → (waitsOf s m).Nodup
theorem Good.grows {s s' : St} {done : Int → Prop} {x : Int} {pend : List Nat} {i : Nat} {c : List Int} {w : Wt} (h : Good s done x pend i c w) (hq : ∃ r, s'.queue = s.queue ++ r) (hw : ∀ m, i ∈ waitsOf s m → i ∈ waitsOf s' m) : Good s' done x pend i c w := by
  obtain ⟨r, hq⟩ := hq
  refine ⟨h.kc, h.oc, h.rc, fun y hy => ?_, ?_, h.pen⟩
  · rw [hq]
    rcases h.cov y hy with h | h
    · exact .inl (List.mem_append_left _ h)
    · exact .inr h
  · rw [hq]
    rcases h.live with h | ⟨a, b, d, e⟩
    · exact .inl (List.mem_append_left _ h)
    · exact .inr ⟨a, hw _ b, hw _ d, e⟩
theorem another_none {s : St} {done : Int → Prop} {x : Int} {pend : List Nat} {i : Nat} {c : List Int} {w : Wt} (hL : ∀ c ∈ L, ∀ y ∈ c, litN V y) (h : Pre V L l s done x pend i c w) (e : anotherP s i = none) : Conf L l := by
  have hcL : c ∈ L := List.mem_of_getElem? h.cl
  unfold anotherP at e
  rw [getD_some h.at_] at e
  cases hf : findP s.set w.kept w.rest with
  | some p => rw [hf] at e; cases e
  | none =>
    rw [hf] at e
    have hk := hL c hcL _ h.kc
    refine sets_none h.base hk (.unit c _ hcL h.kc fun y hy hne => ?_) e
    have hy0 : y ≠ 0 := by have := hL c hcL y hy; unfold litN at this; omega
    rcases h.cov y hy with h1 | h1 | h1
    · exact (h.base.qu _ h1).2.2
    · exact absurd h1 hne
    · rcases find_none hf y h1 with h2 | h2
      · exact (h.base.qu _ ((h.base.lost hy0).1 h2)).2.2
      · exact absurd h2 hne
theorem another_some {s s' : St} {done : Int → Prop} {x : Int} {pend : List Nat} {i : Nat} {c : List Int} {w : Wt} (hL : ∀ c ∈ L, ∀ y ∈ c, litN V y) (h : Pre V L l s done x pend i c w)
    (hdone : ∀ m, done m → -m ∈ s.queue) (hx : x = 0 ∨ -x ∈ s.queue) (e : anotherP s i = some s') :
    Inv V L l s' done x pend ∧ (∃ r, s'.queue = s.queue ++ r) ∧ s'.ws.length = s.ws.length ∧ (x ≠ 0 → waitsOf s' x = waitsOf s x) := by
  have hcL : c ∈ L := List.mem_of_getElem? h.cl
  have hk := hL c hcL _ h.kc
  unfold anotherP at e
  rw [getD_some h.at_] at e
  cases hf : findP s.set w.kept w.rest with
  | none =>
    rw [hf] at e
    have hcov : ∀ y ∈ c, y ≠ w.kept → -y ∈ s.queue := fun y hy hne => by
      have hy0 : y ≠ 0 := by have := hL c hcL y hy; unfold litN at this; omega
      rcases h.cov y hy with h1 | h1 | h1
      · exact h1
      · exact absurd h1 hne
      · rcases find_none hf y h1 with h2 | h2
        · exact (h.base.lost hy0).1 h2
        · exact absurd h2 hne
    obtain ⟨b1, b2, ⟨r, b3⟩, b4, b5⟩ := sets_some h.base hk (.unit c _ hcL h.kc fun y hy hne => (h.base.qu _ (hcov y hy hne)).2.2) e
    have hW : ∀ m, waitsOf s' m = waitsOf s m := fun m => by unfold waitsOf; rw [b4]
    refine ⟨⟨b1, by rw [b4]; exact h.wl, fun j v hj => ?_, fun m hm j hj => ?_, fun m hm => by rw [hW]; exact h.nd m hm⟩, ⟨r, b3⟩, by rw [b5], fun _ => hW x⟩
    · rw [b5] at hj
      by_cases hji : j = i
      · subst hji
        obtain rfl := Option.some.inj (h.at_.symm.trans hj)
        refine ⟨c, h.cl, h.kc, h.oc, h.rc, fun y hy => ?_, .inl b2, fun hp => absurd hp h.fresh⟩
        rw [b3]
        by_cases hy1 : y = w.kept
        · exact .inr (.inl hy1)
        · exact .inl (List.mem_append_left _ (hcov y hy hy1))
      · obtain ⟨d, h1, h2⟩ := h.good j v hji hj
        exact ⟨d, h1, h2.grows ⟨r, b3⟩ fun m hm => by rw [hW]; exact hm⟩
    · rw [hW] at hj
      rw [b5]
      rcases h.wait m hm j hj with ⟨rfl, h1⟩ | ⟨_, h1⟩
      · exact ⟨w, h.at_, by rcases h1 with h1 | h1; exact .inl h1; exact .inr (.inr h1)⟩
      · exact h1
  | some p =>
    obtain ⟨n, q⟩ := p
    rw [hf] at e
    obtain rfl := Option.some.inj e
    obtain ⟨f1, f2, f3, f4, f5⟩ := find_some hf
    have hn := hL c hcL n (h.rc n f1)
    have hn0 : n ≠ 0 := by unfold litN at hn; omega
    have hnl : -n ∉ s.queue := fun hm => f2 ((h.base.lost hn0).2 hm)
    have hnx : n ≠ x := fun e => by
      rcases hx with hx | hx
      · exact hn0 (e.trans hx)
      · exact hnl (e ▸ hx)
    have hpl : plc n < s.waits.length := by rw [h.wl]; exact plc_lt hn
    have hil : i < s.ws.length := (List.getElem?_eq_some_iff.1 h.at_).1
    have hWn : ({ s with ws := s.ws.set i ⟨w.kept, n, q⟩, waits := s.waits.set (plc n) (waitsOf s n ++ [i]) } : St) = { s with ws := s.ws.set i ⟨w.kept, n, q⟩, waits := s.waits.set (plc n) (waitsOf s n ++ [i]) } := rfl
    generalize hs' : ({ s with ws := s.ws.set i ⟨w.kept, n, q⟩, waits := s.waits.set (plc n) (waitsOf s n ++ [i]) } : St) = s'
    have w1 : waitsOf s' n = waitsOf s n ++ [i] := by rw [← hs']; exact getD_set_self _ _ hpl
    have w2 : ∀ m, m ≠ n → waitsOf s' m = waitsOf s m := fun m hm => by rw [← hs']; exact getD_set_ne _ _ (fun e => hm (plc_inj e).symm)
    have w3 : ∀ m j, j ∈ waitsOf s m → j ∈ waitsOf s' m := fun m j hj => by
      by_cases hm : m = n
      · subst hm; rw [w1]; exact List.mem_append_left _ hj
      · rw [w2 m hm]; exact hj
    have e1 : s'.ws[i]? = some ⟨w.kept, n, q⟩ := by rw [← hs']; exact List.getElem?_set_self hil
    have e2 : ∀ j, j ≠ i → s'.ws[j]? = s.ws[j]? := fun j hj => by rw [← hs']; exact List.getElem?_set_ne (Ne.symm hj)
    have hq : s'.queue = s.queue := by rw [← hs']
    have hset : s'.set = s.set := by rw [← hs']
    have hlen : s'.ws.length = s.ws.length := by rw [← hs']; exact List.length_set
    have hwl : s'.waits.length = s.waits.length := by rw [← hs']; exact List.length_set
    have hin : i ∉ waitsOf s n := fun hi => by
      rcases h.wait n hn i hi with ⟨_, h1 | h1 | h1⟩ | ⟨h1, _⟩
      · exact f3 h1
      · exact hnl (hdone n h1)
      · exact hnx h1
      · exact h1 rfl
    refine ⟨⟨⟨by rw [hset]; exact h.base.sl, fun v => by rw [hset, hq]; exact h.base.val v, fun y hy => ?_, by rw [hq]; exact h.base.nd⟩, by rw [hwl]; exact h.wl, fun j v hj => ?_, fun m hm j hj => ?_, fun m hm => ?_⟩, ⟨[], by rw [hq, List.append_nil]⟩, hlen, fun _ => w2 x (Ne.symm hnx)⟩
    · rw [hq] at hy
      have := h.base.qu y hy
      unfold atS at *
      rw [hset]; exact this
    · by_cases hji : j = i
      · subst hji
        rw [e1] at hj
        obtain rfl := Option.some.inj hj
        refine ⟨c, h.cl, h.kc, h.rc n f1, fun y hy => h.rc y (f4 y hy), fun y hy => ?_, ?_, fun hp => absurd hp h.fresh⟩
        · rw [hq]
          have hy0 : y ≠ 0 := by have := hL c hcL y hy; unfold litN at this; omega
          rcases h.cov y hy with h1 | h1 | h1
          · exact .inl h1
          · exact .inr (.inl h1)
          · rcases f5 y h1 with h2 | h2 | h2 | h2
            · exact .inl ((h.base.lost hy0).1 h2)
            · exact .inr (.inl h2)
            · exact .inr (.inr (.inl h2))
            · exact .inr (.inr (.inr h2))
        · rw [hq]
          rcases h.live with h1 | ⟨h1, h2, h3⟩
          · exact .inl h1
          · exact .inr ⟨fun e => f3 e.symm, w3 _ _ h1, by show j ∈ waitsOf s' n; rw [w1]; exact List.mem_append_right _ (List.mem_singleton.2 rfl), h2, fun hd => hnl (hdone n hd), fun _ => ⟨h3, hnx⟩⟩
      · rw [e2 j hji] at hj
        obtain ⟨d, h1, h2⟩ := h.good j v hji hj
        exact ⟨d, h1, h2.grows ⟨[], by rw [hq, List.append_nil]⟩ fun m hm => w3 m j hm⟩
    · have key : j ∈ waitsOf s m ∨ (m = n ∧ j = i) := by
        by_cases hmn : m = n
        · subst hmn
          rw [w1] at hj
          rcases List.mem_append.1 hj with hj | hj
          · exact .inl hj
          · exact .inr ⟨rfl, List.mem_singleton.1 hj⟩
        · rw [w2 m hmn] at hj; exact .inl hj
      rcases key with hj | ⟨rfl, rfl⟩
      · rcases h.wait m hm j hj with ⟨rfl, h1⟩ | ⟨hji, h1⟩
        · exact ⟨_, e1, by rcases h1 with h1 | h1; exact .inl h1; exact .inr (.inr h1)⟩
        · rw [e2 j hji]; exact h1
      · exact ⟨_, e1, .inr (.inl rfl)⟩
    · by_cases hmn : m = n
      · subst hmn
        rw [w1, List.nodup_append]
        refine ⟨h.nd m hm, by simp, fun a ha b hb => ?_⟩
        rw [List.mem_singleton] at hb
        subst hb
        intro e
        exact hin (e ▸ ha)
      · rw [w2 m hmn]; exact h.nd m hm
end
end Go.Proofs.Ytefbknpoehmfaaa.For
