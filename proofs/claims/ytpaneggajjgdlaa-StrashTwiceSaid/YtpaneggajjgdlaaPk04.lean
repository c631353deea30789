/- What ands have come to, as two maps hold it: of variables, and of pairs of literals. No condition. Ands hashed on plain lists, and what they do; no program is named here, no condition. The library's contracts at this translation: each is one application of a theorem of the guide's library. No condition beyond what each states. -/
import Derived.Test.YtpaneggajjgdlaaPk03
import Derived.WideKeyArr
import Derived.Test.YtpaneggajjgdlaaPk00
import Derived.Shelf.Strings.Builder1
import Derived.Shelf.Small.Bits
import Derived.Shelf.Small.Wraps
import Derived.Shelf.Strings.BuilderF
import Derived.Shelf.Strings.BuilderK
import Derived.Shelf.Strconv.Itoa0
import Derived.Shelf.LaysM
import Derived.Shelf.Strconv.Clone
import Derived.Shelf.Sort.Plain
import Derived.Shelf.GgClosure.StringsIndexFunc
import Derived.Shelf.Strings.BuilderCap
import Derived.Shelf.Slices.In.SortNone
import Derived.Test.YtpaneggajjgdlaaProg
namespace Go.Proofs.Ytpaneggajjgdlaa.Str
open Go.ChangeShapes Go.WideShapes Go.ChangeAt Go.RowKit Go.Maps Circ Cw

def litD {H : Type} (s : Int) : DataW H := .lit (.int .i64 s)
theorem litD_inj {H : Type} {s t : Int} (h : litD (H := H) s = litD t) : s = t := by unfold litD at h; simpa using h
noncomputable def litE {H : Type} : Value → Option (DataW H × List MemPlace) := plainElem Try.prog 3
theorem litE_mk {H : Type} {s : Int} (hs : I64 s) : litE (H := H) (.int .i64 s) = some (litD s, []) := plainElem_int Try.underlying3 (wf64 hs)
theorem litE_inv {H : Type} {v : Value} {z : DataW H × List MemPlace} (h : litE v = some z) : ∃ s, v = .int .i64 s ∧ z = (litD s, []) := by
  obtain ⟨a, h1, h2, _⟩ := plainElem_int_inv Try.underlying3 h
  exact ⟨a, h1, h2⟩
theorem zero3 (w : World) : (zeroValue 3).run Try.prog w = .ok (.int .i64 0) w := by kernel_rfl

/-- block B is a map of what F tells of variables -/
def IsVars (w : World) (B : Nat) (F : Int → Option Int) (N : Nat) : Prop :=
  ∃ n D, w.ownsMap Try.prog 3 (litE (H := Unit)) B n D ∧ n ≤ N ∧ ∀ x, I64 x → Maps.has D (.int .i64 x) = (F x).isSome ∧ ∀ t, F x = some t → ∀ zd, D.atKey (.int .i64 x) zd = litD t
theorem IsVars.made (w : World) : IsVars (w.alloc (.map #[] 0)) w.heap.size (fun _ => none) 0 :=
  ⟨0, _, World.ownsMap_made w _ _ _, Nat.le_refl _, fun _ _ => ⟨rfl, fun _ h => by cases h⟩⟩
theorem IsVars.lt {w : World} {B N : Nat} {F : Int → Option Int} (h : IsVars w B F N) : B < w.heap.size := by
  obtain ⟨n, D, h1, _⟩ := h; exact h1.lt
theorem IsVars.keep {w w' : World} {B N : Nat} {F : Int → Option Int} (h : IsVars w B F N) (hb : w'.heap[B]? = w.heap[B]?) : IsVars w' B F N := by
  obtain ⟨n, D, ⟨es, cl, h0, r⟩, h2⟩ := h
  exact ⟨n, D, ⟨es, cl, hb.trans h0, r⟩, h2⟩
theorem IsVars.look {w : World} {B N : Nat} {F : Int → Option Int} (h : IsVars w B F N) {x : Int} (hx : I64 x) :
    ∃ u, (Instr.lookup 62 (.map (some B)) (.int .i64 x) true).run Try.prog w = .ok (.tuple #[.int .i64 u, .bool (F x).isSome]) w ∧ ∀ t, F x = some t → u = t := by
  obtain ⟨n, D, h1, _, h3⟩ := h
  obtain ⟨v, ps, hr, hv⟩ := h1.look_ok key3 Try.underlying62 (zero3 w) (litE_mk ⟨by omega, by omega⟩) (key_of hx)
  obtain ⟨u, rfl, hz⟩ := litE_inv hv
  rw [(h3 x hx).1] at hr
  refine ⟨u, hr, fun t ht => ?_⟩
  have e := (h3 x hx).2 t ht
  have e2 := congrArg Prod.fst hz
  simp only [e] at e2
  exact (litD_inj e2).symm
theorem IsVars.store {w : World} {B N : Nat} {F : Int → Option Int} (h : IsVars w B F N) {x : Int} (hx : I64 x) (t : Int) (ht : I64 t) (hn : N < 9223372036854775807) :
    ∃ w', (Instr.mapUpdate 62 (.map (some B)) (.int .i64 x) (.int .i64 t)).run Try.prog w = .ok () w' ∧ IsVars w' B (fun y => if y = x then some t else F y) (N + 1) ∧ w.grownBy w' (some B) := by
  obtain ⟨n, D, h1, h2, h3⟩ := h
  obtain ⟨w', hr, h4, h5⟩ := h1.store key3 Try.underlying62 (by unfold maxLen; omega) (key_of hx) (litE_mk ht)
  refine ⟨w', hr, ⟨n + 1, _, h4, by omega, fun y hy => ?_⟩, h5.grown⟩
  by_cases e : y = x
  · subst e
    refine ⟨?_, fun t' ht' zd => ?_⟩
    · rw [has_put_same h1.isMap (key3.key (key_of hx))]; simp
    · rw [atKey_put_same h1.isMap (key3.key (key_of hx))]
      simp at ht'; rw [ht']
  · refine ⟨?_, fun t' ht' zd => ?_⟩
    · rw [has_put_other (by simpa using e), (h3 y hy).1]; simp [e]
    · rw [atKey_put_other (by simpa using e)]
      simp only [if_neg e] at ht'
      exact (h3 y hy).2 t' ht' zd
theorem IsVars.ne_ {w : World} {B N g o : Nat} {F : Int → Option Int} {v : Value} (h : IsVars w B F N) (hc : w.cell? ⟨g, o, none⟩ = some v) : g ≠ B := by
  rintro rfl
  obtain ⟨n, D, ⟨es, cl, h0, _⟩, _⟩ := h
  simp [World.cell?, h0] at hc

/- pairs of literals as keys -/
theorem pcells : Try.prog.cellsOf 128 = 2 := by kernel_rfl
theorem icells : Try.prog.cellsOf 3 = 1 := by kernel_rfl
theorem keyP : Keyed Try.prog 128 := Keyed.of_law (WideMaps.ArrKey.law (e := 3) (n := 2) ⟨Try.underlying128, by kernel_rfl, icells, pcells⟩)
def pairV (a b : Int) : Value := .agg #[.int .i64 a, .int .i64 b]
def pairK (a b : Int) : Lit := .string (keyBytes [.int .i64 a, .int .i64 b])
theorem pair_formed (a b : Int) : (pairV a b).formed Try.prog 128 = true := by simp [pairV, Value.formed, Try.underlying128, pcells]
theorem pair_key {a b : Int} (ha : I64 a) (hb : I64 b) : keyOf Try.prog 128 (pairV a b) = some (pairK a b) := by
  have hkt : Try.prog.keyType 128 = true := by kernel_rfl
  have hm : ∃ m, Try.prog.types.size + 1 = m + 2 := ⟨Try.prog.types.size - 1, by have : 1 ≤ Try.prog.types.size := of_decide_eq_true (by kernel_rfl); omega⟩
  obtain ⟨m, hm⟩ := hm
  have wa := wf64 ha
  have wb := wf64 hb
  have one : ∀ x : Int, (Lit.int .i64 x).wf = true → Try.prog.keyLits (m + 1) 3 [.int .i64 x] = some [.int .i64 x] := fun x hx => by
    unfold Program.keyLits
    rw [Try.underlying3]
    simp [hx]
  have two : Try.prog.keyLits (m + 2) 128 [.int .i64 a, .int .i64 b] = some [.int .i64 a, .int .i64 b] := by
    unfold Program.keyLits
    rw [Try.underlying128]
    simp only [pcells, icells, List.length_cons, List.length_nil]
    rw [if_pos trivial]
    have e0 := one a wa
    have e1 := one b wb
    simp [List.range, List.range.loop, e0, e1]
  unfold keyOf
  rw [Try.underlying128]
  simp only
  rw [hkt, pair_formed, hm]
  simp only [Bool.and_self, if_true]
  rw [show (pairV a b).cells.toList = [.int .i64 a, .int .i64 b] from rfl, two]
  rfl
theorem pair_inj {a b c d : Int} (ha : I64 a) (hb : I64 b) (hc : I64 c) (hd : I64 d) (h : pairK a b = pairK c d) : a = c ∧ b = d := by
  have := keyP.inj (pair_key ha hb) (h ▸ pair_key hc hd)
  simp [pairV] at this
  exact this
/-- block B is a map of what G tells of pairs -/
def IsPairs (w : World) (B : Nat) (G : Int × Int → Option Int) (N : Nat) : Prop :=
  ∃ n D, w.ownsMap Try.prog 128 (litE (H := Unit)) B n D ∧ n ≤ N ∧ ∀ x y, I64 x → I64 y → Maps.has D (pairK x y) = (G (x, y)).isSome ∧ ∀ t, G (x, y) = some t → ∀ zd, D.atKey (pairK x y) zd = litD t
theorem IsPairs.made (w : World) : IsPairs (w.alloc (.map #[] 0)) w.heap.size (fun _ => none) 0 :=
  ⟨0, _, World.ownsMap_made w _ _ _, Nat.le_refl _, fun _ _ _ _ => ⟨rfl, fun _ h => by cases h⟩⟩
theorem IsPairs.lt {w : World} {B N : Nat} {G : Int × Int → Option Int} (h : IsPairs w B G N) : B < w.heap.size := by
  obtain ⟨n, D, h1, _⟩ := h; exact h1.lt
theorem IsPairs.keep {w w' : World} {B N : Nat} {G : Int × Int → Option Int} (h : IsPairs w B G N) (hb : w'.heap[B]? = w.heap[B]?) : IsPairs w' B G N := by
  obtain ⟨n, D, ⟨es, cl, h0, r⟩, h2⟩ := h
  exact ⟨n, D, ⟨es, cl, hb.trans h0, r⟩, h2⟩
theorem IsPairs.look {w : World} {B N : Nat} {G : Int × Int → Option Int} (h : IsPairs w B G N) {x y : Int} (hx : I64 x) (hy : I64 y) :
    ∃ u, (Instr.lookup 63 (.map (some B)) (pairV x y) true).run Try.prog w = .ok (.tuple #[.int .i64 u, .bool (G (x, y)).isSome]) w ∧ ∀ t, G (x, y) = some t → u = t := by
  obtain ⟨n, D, h1, _, h3⟩ := h
  obtain ⟨v, ps, hr, hv⟩ := h1.look_ok keyP Try.underlying63 (zero3 w) (litE_mk ⟨by omega, by omega⟩) (pair_key hx hy)
  obtain ⟨u, rfl, hz⟩ := litE_inv hv
  rw [(h3 x y hx hy).1] at hr
  refine ⟨u, hr, fun t ht => ?_⟩
  have e := (h3 x y hx hy).2 t ht
  have e2 := congrArg Prod.fst hz
  simp only [e] at e2
  exact (litD_inj e2).symm
theorem IsPairs.store {w : World} {B N : Nat} {G : Int × Int → Option Int} (h : IsPairs w B G N) {x y : Int} (hx : I64 x) (hy : I64 y) (t : Int) (ht : I64 t) (hn : N < 9223372036854775807) :
    ∃ w', (Instr.mapUpdate 63 (.map (some B)) (pairV x y) (.int .i64 t)).run Try.prog w = .ok () w' ∧ IsPairs w' B (fun p => if p = (x, y) then some t else G p) (N + 1) ∧ w.grownBy w' (some B) := by
  obtain ⟨n, D, h1, h2, h3⟩ := h
  obtain ⟨w', hr, h4, h5⟩ := h1.store keyP Try.underlying63 (by unfold maxLen; omega) (pair_key hx hy) (litE_mk ht)
  refine ⟨w', hr, ⟨n + 1, _, h4, by omega, fun a b ha hb => ?_⟩, h5.grown⟩
  by_cases e : (a, b) = (x, y)
  · simp only [Prod.mk.injEq] at e
    obtain ⟨rfl, rfl⟩ := e
    refine ⟨?_, fun t' ht' zd => ?_⟩
    · rw [has_put_same h1.isMap (keyP.key (pair_key hx hy))]; simp
    · rw [atKey_put_same h1.isMap (keyP.key (pair_key hx hy))]
      simp at ht'; rw [ht']
  · have hne : pairK a b ≠ pairK x y := fun h => e (by obtain ⟨h1, h2⟩ := pair_inj ha hb hx hy h; rw [h1, h2])
    refine ⟨?_, fun t' ht' zd => ?_⟩
    · rw [has_put_other hne, (h3 a b ha hb).1]
      show _ = (if (a, b) = (x, y) then some t else G (a, b)).isSome
      rw [if_neg e]
    · rw [atKey_put_other hne]
      simp only [if_neg e] at ht'
      exact (h3 a b ha hb).2 t' ht' zd
theorem IsPairs.ne_ {w : World} {B N g o : Nat} {G : Int × Int → Option Int} {v : Value} (h : IsPairs w B G N) (hc : w.cell? ⟨g, o, none⟩ = some v) : g ≠ B := by
  rintro rfl
  obtain ⟨n, D, ⟨es, cl, h0, _⟩, _⟩ := h
  simp [World.cell?, h0] at hc
end Go.Proofs.Ytpaneggajjgdlaa.Str
namespace Go.Proofs.Ytpaneggajjgdlaa.Str
open Circ Cw

/- what is hashed -/
def opp (x : Int) : Int := if x % 2 = 0 then x + 1 else x - 1
def plainM (a b : Int) : Option Int :=
  if cnt a = 0 ∨ cnt b = 0 ∨ cnt a = opp (cnt b) then some 0
  else if cnt a = 1 ∨ cnt a = cnt b then some (cnt b)
  else if cnt b = 1 then some (cnt a) else none
def ofM (F : Int → Option Int) (l : Int) : Int := match F (cnt l / 2) with
  | none => l
  | some s => if cnt l % 2 = 1 then opp (cnt s) else s
def pairM (b c : Int) : Int × Int := (min b c, max b c)
structure Hs where
  F : Int → Option Int
  G : Int × Int → Option Int
  st : List Tri
def goneM (h : Hs) (b c : Int) : Option Int := (plainM b c).or (h.G (pairM b c))
def stepM (h : Hs) (t : Tri) : Hs := match goneM h (ofM h.F t.b) (ofM h.F t.c) with
  | some s => ⟨fun v => if v = cnt t.a / 2 then some s else h.F v, h.G, h.st⟩
  | none => ⟨h.F, fun p => if p = pairM (ofM h.F t.b) (ofM h.F t.c) then some t.a else h.G p, h.st ++ [⟨t.a, ofM h.F t.b, ofM h.F t.c⟩]⟩
def hs0 : Hs := ⟨fun _ => none, fun _ => none, []⟩
def runM (l : List Tri) : Hs := l.foldl stepM hs0
theorem of_none {F : Int → Option Int} {l : Int} (h : F (cnt l / 2) = none) : ofM F l = l := by unfold ofM; rw [h]
theorem of_some {F : Int → Option Int} {l s : Int} (h : F (cnt l / 2) = some s) : ofM F l = if cnt l % 2 = 1 then opp (cnt s) else s := by unfold ofM; rw [h]
theorem step_some {h : Hs} {t : Tri} {s : Int} (e : goneM h (ofM h.F t.b) (ofM h.F t.c) = some s) : stepM h t = ⟨fun v => if v = cnt t.a / 2 then some s else h.F v, h.G, h.st⟩ := by unfold stepM; rw [e]
theorem step_none {h : Hs} {t : Tri} (e : goneM h (ofM h.F t.b) (ofM h.F t.c) = none) : stepM h t = ⟨h.F, fun p => if p = pairM (ofM h.F t.b) (ofM h.F t.c) then some t.a else h.G p, h.st ++ [⟨t.a, ofM h.F t.b, ofM h.F t.c⟩]⟩ := by unfold stepM; rw [e]
theorem runM_snoc (l : List Tri) (t : Tri) : runM (l ++ [t]) = stepM (runM l) t := by unfold runM; rw [List.foldl_append]; rfl

/- ands in order, of what is known ahead of them -/
def Seen (B : Int → Prop) (l : List Tri) (v : Int) : Prop := B v ∨ ∃ u ∈ l, u.a = 2 * v
theorem Seen.more {B : Int → Prop} {l : List Tri} {v : Int} (h : Seen B l v) (m : List Tri) : Seen B (l ++ m) v := by
  rcases h with h | ⟨u, hu, e⟩
  · exact .inl h
  · exact .inr ⟨u, List.mem_append_left _ hu, e⟩
inductive Good (B : Int → Prop) : List Tri → Prop
  | nil : Good B []
  | snoc (l : List Tri) (t : Tri) : Good B l → 2 ≤ t.a → t.a % 2 = 0 → (∀ u ∈ l, u.a < t.a) → 0 ≤ t.b → t.b < t.a → 0 ≤ t.c → t.c < t.a → Seen B l (t.b / 2) → Seen B l (t.c / 2) → ¬ B (t.a / 2) → Good B (l ++ [t])
theorem Good.inv {B : Int → Prop} {l : List Tri} {t : Tri} (h : Good B (l ++ [t])) : Good B l ∧ 2 ≤ t.a ∧ t.a % 2 = 0 ∧ (∀ u ∈ l, u.a < t.a) ∧ (0 ≤ t.b ∧ t.b < t.a) ∧ (0 ≤ t.c ∧ t.c < t.a) ∧ Seen B l (t.b / 2) ∧ Seen B l (t.c / 2) ∧ ¬ B (t.a / 2) := by
  generalize hm : l ++ [t] = m at h
  cases h with
  | nil => simp at hm
  | snoc l' t' h1 h2 h3 h4 h5 h6 h7 h8 h9 h10 h11 =>
    obtain ⟨rfl, e⟩ := List.append_inj' hm rfl
    simp only [List.cons.injEq, and_true] at e
    subst e
    exact ⟨h1, h2, h3, h4, ⟨h5, h6⟩, ⟨h7, h8⟩, h9, h10, h11⟩
theorem Good.mem {B : Int → Prop} : ∀ {l : List Tri}, Good B l → ∀ t ∈ l, 2 ≤ t.a ∧ t.a % 2 = 0 ∧ 0 ≤ t.b ∧ t.b < t.a ∧ 0 ≤ t.c ∧ t.c < t.a ∧ Seen B l (t.b / 2) ∧ Seen B l (t.c / 2) ∧ ¬ B (t.a / 2) := by
  intro l h
  induction h with
  | nil => simp
  | snoc l t _ h2 h3 _ h5 h6 h7 h8 h9 h10 h11 ih =>
    intro u hu
    rcases List.mem_append.1 hu with hu | hu
    · obtain ⟨a, b, c, d, e, f, g, i, j⟩ := ih u hu
      exact ⟨a, b, c, d, e, f, g.more _, i.more _, j⟩
    · rw [List.mem_singleton.1 hu]
      exact ⟨h2, h3, h5, h6, h7, h8, h9.more _, h10.more _, h11⟩

/- what hashing keeps -/
structure Inv (B : Int → Prop) (l : List Tri) (h : Hs) : Prop where
  sub : (h.st.map Tri.a).Sublist (l.map Tri.a)
  dom : ∀ v s, h.F v = some s → 0 ≤ s ∧ s < 2 * v ∧ (∃ t ∈ l, t.a = 2 * v) ∧ Seen B h.st (s / 2)
  seen : ∀ t ∈ l, (h.F (t.a / 2)).isSome ∨ ∃ u ∈ h.st, u.a = t.a
  good : Good B h.st
  plain : ∀ t ∈ h.st, plainM t.b t.c = none
  pairs : ∀ p x, h.G p = some x → ∃ t ∈ h.st, t.a = x ∧ p = pairM t.b t.c
  found : ∀ t ∈ h.st, (h.G (pairM t.b t.c)).isSome
  dist : h.st.Pairwise fun s t => pairM s.b s.c ≠ pairM t.b t.c
theorem opp_bd {s v : Int} (h0 : 0 ≤ s) (h1 : s < 2 * v) : 0 ≤ opp s ∧ opp s < 2 * v ∧ opp s / 2 = s / 2 := by unfold opp; split <;> omega
theorem of_seen {B : Int → Prop} {l : List Tri} {h : Hs} (hI : Inv B l h) {x : Int} (hx : 0 ≤ x) (hs : Seen B l (x / 2)) : 0 ≤ ofM h.F x ∧ ofM h.F x ≤ x ∧ Seen B h.st (ofM h.F x / 2) := by
  have hc : cnt x = x := cnt_pos x hx
  cases hq : h.F (x / 2) with
  | none =>
    rw [of_none (by rw [hc]; exact hq)]
    refine ⟨hx, Int.le_refl _, ?_⟩
    rcases hs with hs | ⟨u, hu, e⟩
    · exact .inl hs
    · rcases hI.seen u hu with h1 | ⟨w, hw, e2⟩
      · rw [show u.a / 2 = x / 2 by omega, hq] at h1; cases h1
      · exact .inr ⟨w, hw, by omega⟩
  | some s =>
    obtain ⟨s0, s1, _, s3⟩ := hI.dom _ _ hq
    rw [of_some (by rw [hc]; exact hq), cnt_pos s s0]
    obtain ⟨o0, o1, o2⟩ := opp_bd s0 s1
    split
    · exact ⟨o0, by omega, by rw [o2]; exact s3⟩
    · exact ⟨s0, by omega, s3⟩
theorem plain_seen {a b s : Int} (ha : 0 ≤ a) (hb : 0 ≤ b) (h : plainM a b = some s) : s = 0 ∨ s = a ∨ s = b := by
  unfold plainM at h
  rw [cnt_pos a ha, cnt_pos b hb] at h
  split at h
  · cases h; exact .inl rfl
  · split at h
    · cases h; exact .inr (.inr rfl)
    · split at h
      · cases h; exact .inr (.inl rfl)
      · cases h
theorem inv_step {B : Int → Prop} (hB : B 0) {l : List Tri} {h : Hs} {t : Tri} (hg : Good B (l ++ [t])) (hI : Inv B l h) : Inv B (l ++ [t]) (stepM h t) := by
  obtain ⟨_, g1, g2, g3, ⟨g4, g5⟩, ⟨g6, g7⟩, g8, g9, g10⟩ := hg.inv
  obtain ⟨b0, b1, b2⟩ := of_seen hI g4 g8
  obtain ⟨c0, c1, c2⟩ := of_seen hI g6 g9
  have hst : ∀ u ∈ h.st, u.a < t.a := fun u hu => by
    have := hI.sub.subset (List.mem_map.2 ⟨u, hu, rfl⟩)
    obtain ⟨w, hw, e⟩ := List.mem_map.1 this
    rw [← e]; exact g3 w hw
  have hnot : ∀ v s, h.F v = some s → v ≠ t.a / 2 := fun v s hv e => by
    obtain ⟨_, _, ⟨u, hu, e2⟩, _⟩ := hI.dom v s hv
    have := g3 u hu
    omega
  have hta : cnt t.a / 2 = t.a / 2 := by rw [cnt_pos _ (by omega)]
  cases hq : goneM h (ofM h.F t.b) (ofM h.F t.c) with
  | some s =>
    rw [step_some hq]
    generalize ofM h.F t.b = b at *
    generalize ofM h.F t.c = c at *
    have hs : 0 ≤ s ∧ s < t.a ∧ Seen B h.st (s / 2) := by
      unfold goneM at hq
      cases hp : plainM b c with
      | some x =>
        rw [hp] at hq
        simp only [Option.some_or, Option.some.injEq] at hq
        subst hq
        rcases plain_seen b0 c0 hp with rfl | rfl | rfl
        · exact ⟨Int.le_refl _, by omega, .inl hB⟩
        · exact ⟨b0, by omega, b2⟩
        · exact ⟨c0, by omega, c2⟩
      | none =>
        rw [hp] at hq
        simp only [Option.none_or] at hq
        obtain ⟨u, hu, e, _⟩ := hI.pairs _ _ hq
        have h1 := (hI.good.mem u hu)
        have h2 := hst u hu
        subst e
        exact ⟨by omega, h2, .inr ⟨u, hu, by omega⟩⟩
    refine ⟨?_, fun v x hv => ?_, fun u hu => ?_, hI.good, hI.plain, hI.pairs, hI.found, hI.dist⟩
    · rw [List.map_append]; exact hI.sub.trans (List.sublist_append_left _ _)
    · simp only at hv
      split at hv
      · rename_i e
        cases hv
        refine ⟨hs.1, by omega, ⟨t, by simp, by omega⟩, hs.2.2⟩
      · obtain ⟨a1, a2, ⟨u, hu, e⟩, a4⟩ := hI.dom v x hv
        exact ⟨a1, a2, ⟨u, List.mem_append_left _ hu, e⟩, a4⟩
    · rcases List.mem_append.1 hu with hu | hu
      · rcases hI.seen u hu with h1 | h1
        · left
          simp only
          split
          · rfl
          · exact h1
        · exact .inr h1
      · left
        rw [List.mem_singleton.1 hu]
        simp [hta]
  | none =>
    rw [step_none hq]
    generalize ofM h.F t.b = b at *
    generalize ofM h.F t.c = c at *
    have hp : plainM b c = none ∧ h.G (pairM b c) = none := by
      unfold goneM at hq
      cases hp : plainM b c with
      | some x => rw [hp] at hq; cases hq
      | none => rw [hp] at hq; exact ⟨rfl, hq⟩
    refine ⟨?_, fun v x hv => ?_, fun u hu => ?_, .snoc _ _ hI.good g1 g2 hst b0 (Int.lt_of_le_of_lt b1 g5) c0 (Int.lt_of_le_of_lt c1 g7) b2 c2 g10, fun u hu => ?_, fun p x hx => ?_, fun u hu => ?_, ?_⟩
    · rw [List.map_append, List.map_append]; exact hI.sub.append (List.Sublist.refl _)
    · obtain ⟨a1, a2, ⟨u, hu, e⟩, a4⟩ := hI.dom v x hv
      exact ⟨a1, a2, ⟨u, List.mem_append_left _ hu, e⟩, a4.more _⟩
    · rcases List.mem_append.1 hu with hu | hu
      · rcases hI.seen u hu with h1 | ⟨w, hw, e⟩
        · exact .inl h1
        · exact .inr ⟨w, List.mem_append_left _ hw, e⟩
      · exact .inr ⟨⟨t.a, b, c⟩, by simp, by rw [List.mem_singleton.1 hu]⟩
    · rcases List.mem_append.1 hu with hu | hu
      · exact hI.plain u hu
      · rw [List.mem_singleton.1 hu]; exact hp.1
    · simp only at hx
      split at hx
      · rename_i e
        cases hx
        exact ⟨⟨t.a, b, c⟩, by simp, rfl, e⟩
      · obtain ⟨u, hu, e⟩ := hI.pairs p x hx
        exact ⟨u, List.mem_append_left _ hu, e⟩
    · simp only
      split
      · rfl
      · rename_i hne
        rcases List.mem_append.1 hu with hu | hu
        · exact hI.found u hu
        · exact absurd (by rw [List.mem_singleton.1 hu]) hne
    · rw [List.pairwise_append]
      refine ⟨hI.dist, List.pairwise_singleton _ _, fun u hu w hw e => ?_⟩
      rw [List.mem_singleton.1 hw] at e
      have := hI.found u hu
      rw [e, hp.2] at this
      cases this
theorem inv_run {B : Int → Prop} (hB : B 0) {l : List Tri} (hg : Good B l) : Inv B l (runM l) := by
  induction hg with
  | nil => exact ⟨List.Sublist.refl _, (fun _ _ h => by cases h), by simp, .nil, by simp [runM, hs0], (fun _ _ h => by cases h), by simp [runM, hs0], List.Pairwise.nil⟩
  | snoc l t h1 h2 h3 h4 h5 h6 h7 h8 h9 h10 h11 ih =>
    rw [runM_snoc]
    exact inv_step hB (.snoc l t h1 h2 h3 h4 h5 h6 h7 h8 h9 h10 h11) ih

/- values -/
end Go.Proofs.Ytpaneggajjgdlaa.Str
namespace Go.Proofs
open Go.Shelf
def Try.laysM316_ren : Go.Shelf.Ren := ⟨fun | 316 => 96 | n => n, fun | 9 => 9 | 3 => 3 | 4 => 4 | 37 => 76 | 0 => 0 | 127 => 140 | 5 => 5 | n => n, fun | n => n⟩
theorem Try.laysM316 : Go.Proofs.LaysM.n316 Try.prog Try.laysM316_ren := {
  mixed := by kernel_rfl
  f316 := Try.func96.trans (congrArg some (by kernel_rfl))
  t0 := Try.underlying0
  a0 := Try.isAgg0
  z0 := Try.sizeOf0
  v0 := Try.zeroValue0
  t3 := Try.underlying3
  a3 := Try.isAgg3
  z3 := Try.sizeOf3
  v3 := Try.zeroValue3
  t4 := Try.underlying4
  a4 := Try.isAgg4
  z4 := Try.sizeOf4
  v4 := Try.zeroValue4
  t9 := Try.underlying9
  a9 := Try.isAgg9
  z9 := Try.sizeOf9
  v9 := Try.zeroValue9
  t37 := Try.underlying76
  a37 := Try.isAgg76
  z37 := Try.sizeOf76
  v37 := Try.zeroValue76
  t127 := Try.underlying140
  a127 := Try.isAgg140
  z127 := Try.sizeOf140
  v127 := Try.zeroValue140
  t5 := Try.underlying5
  a5 := Try.isAgg5
  z5 := Try.sizeOf5
  v5 := Try.zeroValue5
  i0 := by kernel_rfl
  i3 := by kernel_rfl
  i4 := by kernel_rfl
  i5 := by kernel_rfl
  i9 := by kernel_rfl
  i37 := by kernel_rfl
  i127 := by kernel_rfl }
open Go.RowKit in
theorem Try.stringslite_Clone (s : ByteArray) (w : World) (hlim : s.size ≤ 281474976710656) :
    Calls Try.prog 96 #[.string s] w fun e w' => e = .returned (.string s) ∧ Below w.heap.size w w' := Any.stringslite_Clone Try.laysM316 s w hlim
def Try.lays189_ren : Go.Shelf.Ren := ⟨fun | 189 => 100 | 125 => 115 | 257 => 114 | 128 => 127 | 129 => 128 | 294 => 119 | 295 => 120 | 296 => 121 | 297 => 122 | 298 => 123 | 299 => 124 | 216 => 101 | 300 => 125 | 301 => 126 | 328 => 129 | 329 => 130 | 330 => 131 | 331 => 132 | 332 => 133 | 215 => 116 | 343 => 134 | n => n, fun | 28 => 22 | 3 => 3 | 46 => 74 | 0 => 0 | 51 => 135 | 53 => 28 | 4 => 4 | 183 => 151 | 182 => 150 | 131 => 44 | 5 => 5 | 9 => 9 | 218 => 158 | 222 => 162 | 228 => 164 | 229 => 165 | n => n, fun | n => n⟩
theorem Try.lays189 : Go.Proofs.Lays.n189 Try.prog Try.lays189_ren := {
  mixed := by kernel_rfl
  f125 := Try.func115.trans (congrArg some (by kernel_rfl))
  f128 := Try.func127.trans (congrArg some (by kernel_rfl))
  f129 := Try.func128.trans (congrArg some (by kernel_rfl))
  f189 := Try.func100.trans (congrArg some (by kernel_rfl))
  f215 := Try.func116.trans (congrArg some (by kernel_rfl))
  f216 := Try.func101.trans (congrArg some (by kernel_rfl))
  f257 := Try.func114.trans (congrArg some (by kernel_rfl))
  f294 := Try.func119.trans (congrArg some (by kernel_rfl))
  f295 := Try.func120.trans (congrArg some (by kernel_rfl))
  f296 := Try.func121.trans (congrArg some (by kernel_rfl))
  f297 := Try.func122.trans (congrArg some (by kernel_rfl))
  f298 := Try.func123.trans (congrArg some (by kernel_rfl))
  f299 := Try.func124.trans (congrArg some (by kernel_rfl))
  f300 := Try.func125.trans (congrArg some (by kernel_rfl))
  f301 := Try.func126.trans (congrArg some (by kernel_rfl))
  f328 := Try.func129.trans (congrArg some (by kernel_rfl))
  f329 := Try.func130.trans (congrArg some (by kernel_rfl))
  f330 := Try.func131.trans (congrArg some (by kernel_rfl))
  f331 := Try.func132.trans (congrArg some (by kernel_rfl))
  f332 := Try.func133.trans (congrArg some (by kernel_rfl))
  f343 := Try.func134.trans (congrArg some (by kernel_rfl))
  t0 := Try.underlying0
  a0 := Try.isAgg0
  z0 := Try.sizeOf0
  v0 := Try.zeroValue0
  t3 := Try.underlying3
  a3 := Try.isAgg3
  z3 := Try.sizeOf3
  v3 := Try.zeroValue3
  t4 := Try.underlying4
  a4 := Try.isAgg4
  z4 := Try.sizeOf4
  v4 := Try.zeroValue4
  t5 := Try.underlying5
  a5 := Try.isAgg5
  z5 := Try.sizeOf5
  v5 := Try.zeroValue5
  t9 := Try.underlying9
  a9 := Try.isAgg9
  z9 := Try.sizeOf9
  v9 := Try.zeroValue9
  t28 := Try.underlying22
  a28 := Try.isAgg22
  z28 := Try.sizeOf22
  v28 := Try.zeroValue22
  t46 := Try.underlying74
  a46 := Try.isAgg74
  z46 := Try.sizeOf74
  v46 := Try.zeroValue74
  t51 := Try.underlying135
  a51 := Try.isAgg135
  z51 := Try.sizeOf135
  v51 := Try.zeroValue135
  t53 := Try.underlying28
  a53 := Try.isAgg28
  z53 := Try.sizeOf28
  v53 := Try.zeroValue28
  t131 := Try.underlying44
  a131 := Try.isAgg44
  z131 := Try.sizeOf44
  v131 := Try.zeroValue44
  t182 := Try.underlying150
  a182 := Try.isAgg150
  z182 := Try.sizeOf150
  v182 := Try.zeroValue150
  t183 := Try.underlying151
  a183 := Try.isAgg151
  z183 := Try.sizeOf151
  v183 := Try.zeroValue151
  t218 := Try.underlying158
  a218 := Try.isAgg158
  z218 := Try.sizeOf158
  v218 := Try.zeroValue158
  t222 := Try.underlying162
  a222 := Try.isAgg162
  z222 := Try.sizeOf162
  v222 := Try.zeroValue162
  t228 := Try.underlying164
  a228 := Try.isAgg164
  z228 := Try.sizeOf164
  v228 := Try.zeroValue164
  t229 := Try.underlying165
  a229 := Try.isAgg165
  z229 := Try.sizeOf165
  v229 := Try.zeroValue165 }
open Go.Sort Go.RowKit in
theorem Try.slices_Sort_int (blk off cap : Nat) (zs : List Int) (w : World) (hH : Holds (Value.int .i64) w blk off zs.toArray) (hblk : blk < w.heap.size) (hsz : zs.length < 4611686018427387904) :
    Calls Try.prog 100 #[.slice (some ⟨blk, off, none⟩) zs.length cap] w fun e w' =>
      e = .returned (.tuple #[]) ∧ ∃ n os, w' = grow (putRow (Value.int .i64) (Sort.ahead w n) blk off (zs.mergeSort fun x y => decide (x ≤ y)).toArray) os := Any.slices_Sort_int Try.lays189 blk off cap zs w hH hblk hsz
open Go.RowKit Go.Sort in
theorem Try.slices_Sort_int_none (p : Option Addr) (cap : Nat) (w : World) :
    Calls Try.prog 100 #[.slice p 0 cap] w fun e w' => e = .returned (.tuple #[]) ∧ w' = w := Any.slices_Sort_int_none Try.lays189 p cap w
end Go.Proofs
