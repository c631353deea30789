/- The gates by their variables, as a map holds them: of several of one variable the first. No condition. What ands have come to, as two maps hold it: of variables, and of pairs of literals. No condition. circuit.Check: what it tells of any circuit; no condition. -/
import Derived.Test.YtjlnffkieocihaaPt12
import Derived.Test.YtjlnffkieocihaaPt05
import Derived.WideKeyArr
import Derived.Recover
namespace Go.Proofs.Ytjlnffkieocihaa.Cw
open Go.ChangeShapes Go.WideShapes Go.ChangeAt Go.RowKit Go.Maps Circ

def triD {H : Type} (t : Tri) : DataW H := .agg [.lit (.int .i64 t.a), .lit (.int .i64 t.b), .lit (.int .i64 t.c)]
def triElem {H : Type} : Value → Option (DataW H × List MemPlace)
  | .agg cs => match cs.toList with
    | [.int .i64 a, .int .i64 b, .int .i64 c] => some (triD ⟨a, b, c⟩, [])
    | _ => none
  | _ => none
theorem triElem_mk {H : Type} (t : Tri) : triElem (H := H) (triV t) = some (triD t, []) := rfl
theorem triElem_inv {H : Type} {v : Value} {z : DataW H × List MemPlace} (h : triElem v = some z) : ∃ t, v = triV t ∧ z = (triD t, []) := by
  unfold triElem at h
  split at h
  · split at h
    · rename_i cs a b c he
      refine ⟨⟨a, b, c⟩, ?_, (Option.some.inj h).symm⟩
      unfold triV
      congr 1
      exact Array.toList_inj.1 (by simpa using he)
    · cases h
  · cases h
theorem triD_inj {H : Type} {s t : Tri} (h : triD (H := H) s = triD t) : s = t := by
  unfold triD at h
  cases s; cases t
  simp at h
  simp [h]
theorem zero40 (w : World) : (zeroValue 43).run Try.prog w = .ok (triV ⟨0, 0, 0⟩) w := by kernel_rfl

/-- block B is a map of what F tells -/
def IsAnds (w : World) (B : Nat) (F : Int → Option Tri) (N : Nat) : Prop :=
  ∃ n D, w.ownsMap Try.prog 3 (triElem (H := Unit)) B n D ∧ n ≤ N ∧ ∀ x, I64 x → Maps.has D (.int .i64 x) = (F x).isSome ∧ ∀ t, F x = some t → ∀ zd, D.atKey (.int .i64 x) zd = triD t
theorem IsAnds.made (w : World) : IsAnds (w.alloc (.map #[] 0)) w.heap.size (fun _ => none) 0 :=
  ⟨0, _, World.ownsMap_made w _ _ _, Nat.le_refl _, fun _ _ => ⟨rfl, fun _ h => by cases h⟩⟩
theorem IsAnds.lt {w : World} {B N : Nat} {F : Int → Option Tri} (h : IsAnds w B F N) : B < w.heap.size := by
  obtain ⟨n, D, h1, _⟩ := h; exact h1.lt
theorem IsAnds.keep {w w' : World} {B N : Nat} {F : Int → Option Tri} (h : IsAnds w B F N) (hb : w'.heap[B]? = w.heap[B]?) : IsAnds w' B F N := by
  obtain ⟨n, D, ⟨es, cl, h0, r⟩, h2⟩ := h
  exact ⟨n, D, ⟨es, cl, hb.trans h0, r⟩, h2⟩
theorem IsAnds.below {w w' : World} {B C N : Nat} {F : Int → Option Tri} (h : IsAnds w B F N) (hb : Below C w w') (hC : B < C) : IsAnds w' B F N := h.keep (hb.block B hC)
theorem IsAnds.alloc {w : World} {B N : Nat} {F : Int → Option Tri} (h : IsAnds w B F N) (o : Obj) : IsAnds (w.alloc o) B F N := h.keep (Below.heap_alloc w o B h.lt)
theorem IsAnds.drew {w : World} {B N : Nat} {F : Int → Option Tri} (h : IsAnds w B F N) : IsAnds w.drew B F N := h
theorem IsAnds.same {w : World} {B N : Nat} {F G : Int → Option Tri} (h : IsAnds w B F N) (e : ∀ x, G x = F x) {M : Nat} (hM : N ≤ M) : IsAnds w B G M := by
  obtain ⟨n, D, h1, h2, h3⟩ := h
  exact ⟨n, D, h1, Nat.le_trans h2 hM, fun x hx => by rw [e x]; exact h3 x hx⟩
theorem IsAnds.look {w : World} {B N : Nat} {F : Int → Option Tri} (h : IsAnds w B F N) {x : Int} (hx : I64 x) :
    ∃ u, (Instr.lookup 143 (.map (some B)) (.int .i64 x) true).run Try.prog w = .ok (.tuple #[triV u, .bool (F x).isSome]) w ∧ ∀ t, F x = some t → u = t := by
  obtain ⟨n, D, h1, _, h3⟩ := h
  obtain ⟨v, ps, hr, hv⟩ := h1.look_ok key3 Try.underlying143 (zero40 w) (triElem_mk ⟨0, 0, 0⟩) (key_of hx)
  obtain ⟨u, rfl, hz⟩ := triElem_inv hv
  rw [(h3 x hx).1] at hr
  refine ⟨u, hr, fun t ht => ?_⟩
  have e := (h3 x hx).2 t ht
  have e2 := congrArg Prod.fst hz
  simp only [e] at e2
  exact (triD_inj e2).symm
theorem IsAnds.store {w : World} {B N : Nat} {F : Int → Option Tri} (h : IsAnds w B F N) {x : Int} (hx : I64 x) (t : Tri) (hn : N < 9223372036854775807) :
    ∃ w', (Instr.mapUpdate 143 (.map (some B)) (.int .i64 x) (triV t)).run Try.prog w = .ok () w' ∧ IsAnds w' B (fun y => if y = x then some t else F y) (N + 1) ∧ w.grownBy w' (some B) := by
  obtain ⟨n, D, h1, h2, h3⟩ := h
  obtain ⟨w', hr, h4, h5⟩ := h1.store key3 Try.underlying143 (by unfold maxLen; omega) (key_of hx) (triElem_mk t)
  refine ⟨w', hr, ⟨n + 1, _, h4, by omega, fun y hy => ?_⟩, h5.grown⟩
  by_cases e : y = x
  · subst e
    refine ⟨?_, fun t' ht' zd => ?_⟩
    · rw [has_put_same h1.isMap (key3.key (key_of hx))]; simp
    · rw [atKey_put_same h1.isMap (key3.key (key_of hx))]
      simp at ht'; rw [ht']
  · refine ⟨?_, fun t' ht' zd => ?_⟩
    · rw [has_put_other (by simpa using e), (h3 y hy).1]; simp [e]
    · rw [atKey_put_other (by simpa using e)]
      simp only [if_neg e] at ht'
      exact (h3 y hy).2 t' ht' zd
theorem IsAnds.ne_ {w : World} {B N g o : Nat} {F : Int → Option Tri} {v : Value} (h : IsAnds w B F N) (hc : w.cell? ⟨g, o, none⟩ = some v) : g ≠ B := by
  rintro rfl
  obtain ⟨n, D, ⟨es, cl, h0, _⟩, _⟩ := h
  simp [World.cell?, h0] at hc

end Go.Proofs.Ytjlnffkieocihaa.Cw
namespace Go.Proofs.Ytjlnffkieocihaa.Str
open Go.ChangeShapes Go.WideShapes Go.ChangeAt Go.RowKit Go.Maps Circ Cw

def litD {H : Type} (s : Int) : DataW H := .lit (.int .i64 s)
theorem litD_inj {H : Type} {s t : Int} (h : litD (H := H) s = litD t) : s = t := by unfold litD at h; simpa using h
noncomputable def litE {H : Type} : Value → Option (DataW H × List MemPlace) := plainElem Try.prog 3
theorem litE_mk {H : Type} {s : Int} (hs : I64 s) : litE (H := H) (.int .i64 s) = some (litD s, []) := plainElem_int Try.underlying3 (wf64 hs)
theorem litE_inv {H : Type} {v : Value} {z : DataW H × List MemPlace} (h : litE v = some z) : ∃ s, v = .int .i64 s ∧ z = (litD s, []) := by
  obtain ⟨a, h1, h2, _⟩ := plainElem_int_inv Try.underlying3 h
  exact ⟨a, h1, h2⟩
theorem zero3 (w : World) : (zeroValue 3).run Try.prog w = .ok (.int .i64 0) w := by kernel_rfl

/-- block B is a map of what F tells of variables -/
def IsVars (w : World) (B : Nat) (F : Int → Option Int) (N : Nat) : Prop :=
  ∃ n D, w.ownsMap Try.prog 3 (litE (H := Unit)) B n D ∧ n ≤ N ∧ ∀ x, I64 x → Maps.has D (.int .i64 x) = (F x).isSome ∧ ∀ t, F x = some t → ∀ zd, D.atKey (.int .i64 x) zd = litD t
theorem IsVars.made (w : World) : IsVars (w.alloc (.map #[] 0)) w.heap.size (fun _ => none) 0 :=
  ⟨0, _, World.ownsMap_made w _ _ _, Nat.le_refl _, fun _ _ => ⟨rfl, fun _ h => by cases h⟩⟩
theorem IsVars.lt {w : World} {B N : Nat} {F : Int → Option Int} (h : IsVars w B F N) : B < w.heap.size := by
  obtain ⟨n, D, h1, _⟩ := h; exact h1.lt
theorem IsVars.keep {w w' : World} {B N : Nat} {F : Int → Option Int} (h : IsVars w B F N) (hb : w'.heap[B]? = w.heap[B]?) : IsVars w' B F N := by
  obtain ⟨n, D, ⟨es, cl, h0, r⟩, h2⟩ := h
  exact ⟨n, D, ⟨es, cl, hb.trans h0, r⟩, h2⟩
theorem IsVars.look {w : World} {B N : Nat} {F : Int → Option Int} (h : IsVars w B F N) {x : Int} (hx : I64 x) :
    ∃ u, (Instr.lookup 74 (.map (some B)) (.int .i64 x) true).run Try.prog w = .ok (.tuple #[.int .i64 u, .bool (F x).isSome]) w ∧ ∀ t, F x = some t → u = t := by
  obtain ⟨n, D, h1, _, h3⟩ := h
  obtain ⟨v, ps, hr, hv⟩ := h1.look_ok key3 Try.underlying74 (zero3 w) (litE_mk ⟨by omega, by omega⟩) (key_of hx)
  obtain ⟨u, rfl, hz⟩ := litE_inv hv
  rw [(h3 x hx).1] at hr
  refine ⟨u, hr, fun t ht => ?_⟩
  have e := (h3 x hx).2 t ht
  have e2 := congrArg Prod.fst hz
  simp only [e] at e2
  exact (litD_inj e2).symm
theorem IsVars.store {w : World} {B N : Nat} {F : Int → Option Int} (h : IsVars w B F N) {x : Int} (hx : I64 x) (t : Int) (ht : I64 t) (hn : N < 9223372036854775807) :
    ∃ w', (Instr.mapUpdate 74 (.map (some B)) (.int .i64 x) (.int .i64 t)).run Try.prog w = .ok () w' ∧ IsVars w' B (fun y => if y = x then some t else F y) (N + 1) ∧ w.grownBy w' (some B) := by
  obtain ⟨n, D, h1, h2, h3⟩ := h
  obtain ⟨w', hr, h4, h5⟩ := h1.store key3 Try.underlying74 (by unfold maxLen; omega) (key_of hx) (litE_mk ht)
  refine ⟨w', hr, ⟨n + 1, _, h4, by omega, fun y hy => ?_⟩, h5.grown⟩
  by_cases e : y = x
  · subst e
    refine ⟨?_, fun t' ht' zd => ?_⟩
    · rw [has_put_same h1.isMap (key3.key (key_of hx))]; simp
    · rw [atKey_put_same h1.isMap (key3.key (key_of hx))]
      simp at ht'; rw [ht']
  · refine ⟨?_, fun t' ht' zd => ?_⟩
    · rw [has_put_other (by simpa using e), (h3 y hy).1]; simp [e]
    · rw [atKey_put_other (by simpa using e)]
      simp only [if_neg e] at ht'
      exact (h3 y hy).2 t' ht' zd
theorem IsVars.ne_ {w : World} {B N g o : Nat} {F : Int → Option Int} {v : Value} (h : IsVars w B F N) (hc : w.cell? ⟨g, o, none⟩ = some v) : g ≠ B := by
  rintro rfl
  obtain ⟨n, D, ⟨es, cl, h0, _⟩, _⟩ := h
  simp [World.cell?, h0] at hc

/- pairs of literals as keys -/
theorem pcells : Try.prog.cellsOf 142 = 2 := by kernel_rfl
theorem icells : Try.prog.cellsOf 3 = 1 := by kernel_rfl
theorem keyP : Keyed Try.prog 142 := Keyed.of_law (WideMaps.ArrKey.law (e := 3) (n := 2) ⟨Try.underlying142, by kernel_rfl, icells, pcells⟩)
def pairV (a b : Int) : Value := .agg #[.int .i64 a, .int .i64 b]
def pairK (a b : Int) : Lit := .string (keyBytes [.int .i64 a, .int .i64 b])
theorem pair_formed (a b : Int) : (pairV a b).formed Try.prog 142 = true := by simp [pairV, Value.formed, Try.underlying142, pcells]
theorem pair_key {a b : Int} (ha : I64 a) (hb : I64 b) : keyOf Try.prog 142 (pairV a b) = some (pairK a b) := by
  have hkt : Try.prog.keyType 142 = true := by kernel_rfl
  have hm : ∃ m, Try.prog.types.size + 1 = m + 2 := ⟨Try.prog.types.size - 1, by have : 1 ≤ Try.prog.types.size := of_decide_eq_true (by kernel_rfl); omega⟩
  obtain ⟨m, hm⟩ := hm
  have wa := wf64 ha
  have wb := wf64 hb
  have one : ∀ x : Int, (Lit.int .i64 x).wf = true → Try.prog.keyLits (m + 1) 3 [.int .i64 x] = some [.int .i64 x] := fun x hx => by
    unfold Program.keyLits
    rw [Try.underlying3]
    simp [hx]
  have two : Try.prog.keyLits (m + 2) 142 [.int .i64 a, .int .i64 b] = some [.int .i64 a, .int .i64 b] := by
    unfold Program.keyLits
    rw [Try.underlying142]
    simp only [pcells, icells, List.length_cons, List.length_nil]
    rw [if_pos trivial]
    have e0 := one a wa
    have e1 := one b wb
    simp [List.range, List.range.loop, e0, e1]
  unfold keyOf
  rw [Try.underlying142]
  simp only
  rw [hkt, pair_formed, hm]
  simp only [Bool.and_self, if_true]
  rw [show (pairV a b).cells.toList = [.int .i64 a, .int .i64 b] from rfl, two]
  rfl
theorem pair_inj {a b c d : Int} (ha : I64 a) (hb : I64 b) (hc : I64 c) (hd : I64 d) (h : pairK a b = pairK c d) : a = c ∧ b = d := by
  have := keyP.inj (pair_key ha hb) (h ▸ pair_key hc hd)
  simp [pairV] at this
  exact this
/-- block B is a map of what G tells of pairs -/
def IsPairs (w : World) (B : Nat) (G : Int × Int → Option Int) (N : Nat) : Prop :=
  ∃ n D, w.ownsMap Try.prog 142 (litE (H := Unit)) B n D ∧ n ≤ N ∧ ∀ x y, I64 x → I64 y → Maps.has D (pairK x y) = (G (x, y)).isSome ∧ ∀ t, G (x, y) = some t → ∀ zd, D.atKey (pairK x y) zd = litD t
theorem IsPairs.made (w : World) : IsPairs (w.alloc (.map #[] 0)) w.heap.size (fun _ => none) 0 :=
  ⟨0, _, World.ownsMap_made w _ _ _, Nat.le_refl _, fun _ _ _ _ => ⟨rfl, fun _ h => by cases h⟩⟩
theorem IsPairs.lt {w : World} {B N : Nat} {G : Int × Int → Option Int} (h : IsPairs w B G N) : B < w.heap.size := by
  obtain ⟨n, D, h1, _⟩ := h; exact h1.lt
theorem IsPairs.keep {w w' : World} {B N : Nat} {G : Int × Int → Option Int} (h : IsPairs w B G N) (hb : w'.heap[B]? = w.heap[B]?) : IsPairs w' B G N := by
  obtain ⟨n, D, ⟨es, cl, h0, r⟩, h2⟩ := h
  exact ⟨n, D, ⟨es, cl, hb.trans h0, r⟩, h2⟩
theorem IsPairs.look {w : World} {B N : Nat} {G : Int × Int → Option Int} (h : IsPairs w B G N) {x y : Int} (hx : I64 x) (hy : I64 y) :
    ∃ u, (Instr.lookup 75 (.map (some B)) (pairV x y) true).run Try.prog w = .ok (.tuple #[.int .i64 u, .bool (G (x, y)).isSome]) w ∧ ∀ t, G (x, y) = some t → u = t := by
  obtain ⟨n, D, h1, _, h3⟩ := h
  obtain ⟨v, ps, hr, hv⟩ := h1.look_ok keyP Try.underlying75 (zero3 w) (litE_mk ⟨by omega, by omega⟩) (pair_key hx hy)
  obtain ⟨u, rfl, hz⟩ := litE_inv hv
  rw [(h3 x y hx hy).1] at hr
  refine ⟨u, hr, fun t ht => ?_⟩
  have e := (h3 x y hx hy).2 t ht
  have e2 := congrArg Prod.fst hz
  simp only [e] at e2
  exact (litD_inj e2).symm
theorem IsPairs.store {w : World} {B N : Nat} {G : Int × Int → Option Int} (h : IsPairs w B G N) {x y : Int} (hx : I64 x) (hy : I64 y) (t : Int) (ht : I64 t) (hn : N < 9223372036854775807) :
    ∃ w', (Instr.mapUpdate 75 (.map (some B)) (pairV x y) (.int .i64 t)).run Try.prog w = .ok () w' ∧ IsPairs w' B (fun p => if p = (x, y) then some t else G p) (N + 1) ∧ w.grownBy w' (some B) := by
  obtain ⟨n, D, h1, h2, h3⟩ := h
  obtain ⟨w', hr, h4, h5⟩ := h1.store keyP Try.underlying75 (by unfold maxLen; omega) (pair_key hx hy) (litE_mk ht)
  refine ⟨w', hr, ⟨n + 1, _, h4, by omega, fun a b ha hb => ?_⟩, h5.grown⟩
  by_cases e : (a, b) = (x, y)
  · simp only [Prod.mk.injEq] at e
    obtain ⟨rfl, rfl⟩ := e
    refine ⟨?_, fun t' ht' zd => ?_⟩
    · rw [has_put_same h1.isMap (keyP.key (pair_key hx hy))]; simp
    · rw [atKey_put_same h1.isMap (keyP.key (pair_key hx hy))]
      simp at ht'; rw [ht']
  · have hne : pairK a b ≠ pairK x y := fun h => e (by obtain ⟨h1, h2⟩ := pair_inj ha hb hx hy h; rw [h1, h2])
    refine ⟨?_, fun t' ht' zd => ?_⟩
    · rw [has_put_other hne, (h3 a b ha hb).1]
      show _ = (if (a, b) = (x, y) then some t else G (a, b)).isSome
      rw [if_neg e]
    · rw [atKey_put_other hne]
      simp only [if_neg e] at ht'
      exact (h3 a b ha hb).2 t' ht' zd
theorem IsPairs.ne_ {w : World} {B N g o : Nat} {G : Int × Int → Option Int} {v : Value} (h : IsPairs w B G N) (hc : w.cell? ⟨g, o, none⟩ = some v) : g ≠ B := by
  rintro rfl
  obtain ⟨n, D, ⟨es, cl, h0, _⟩, _⟩ := h
  simp [World.cell?, h0] at hc
end Go.Proofs.Ytjlnffkieocihaa.Str
namespace Go.Proofs.Ytjlnffkieocihaa.Cw
open Go.ChangeShapes Go.WideShapes Go.ChangeAt Go.RowKit Go.Maps Circ

theorem assert71 (w : World) : (Instr.typeAssert (.iface 103 (.agg #[.int .i64 9])) 20 103 false).run Try.prog w = .ok (.agg #[.int .i64 9]) w := by kernel_rfl
theorem field71 (w : World) : (Instr.field 103 (.agg #[.int .i64 9]) 0).run Try.prog w = .ok (.int .i64 9) w := by kernel_rfl

theorem catch_panicking (p : Addr) (x : Int) (w : World) (hc : w.cell? p = some (.int .i64 x)) (hz : w.frozen? p = false) :
    CallsD Try.prog 80 #[.pointer (some p)] (.panicking fault) w fun e u' w' =>
      e = .returned (.tuple #[]) ∧ u' = .panicking [{ v := .iface 103 (.agg #[.int .i64 9]), recovered := true }] ∧ w' = w.setCell p (.int .i64 9) := by
  refine callsD_of_wpS Try.func80 rfl fun c₀ cs hu => ?_
  unfold fault at hu
  apply wpS_seq
  apply wpS_region
  simp [wpOpsS, go_sem, recoverD, hu, Try.ntmps80, Exit.thenS]
  apply wpS_seq
  apply wpS_region
  simp [wpOpsS, go_sem, Exit.thenS]
  refine wpS_cond (t := true) (by simp [Act.eval]) ?_
  simp only [if_true]
  apply wpS_region
  simp [wpOpsS, go_sem, assert71, field71, hc, hz, bodyPostS, results, Try.results80]

theorem catch_idle (p : Addr) (w : World) :
    CallsD Try.prog 80 #[.pointer (some p)] .returning w fun e u' w' => e = .returned (.tuple #[]) ∧ u' = .returning ∧ w' = w := by
  refine callsD_of_wpS Try.func80 rfl fun c₀ cs hu => ?_
  apply wpS_seq
  apply wpS_region
  simp [wpOpsS, go_sem, recoverD, hu, Try.ntmps80, Exit.thenS]
  apply wpS_seq
  apply wpS_region
  simp [wpOpsS, go_sem, Exit.thenS]
  refine wpS_cond (t := false) (by simp [Act.eval]) ?_
  simp only [Bool.false_eq_true, if_false]
  refine wpS_of_wp (wp_skip ?_)
  cases c₀
  simp_all [bodyPostS, results, Try.results80]

/-- what is asked of a circuit whose variables are S -/
def chkIn (S : List Int) (c : Cir) : Bool := c.lats.all (latOk S) && andsOk S c.ands && [c.outs, c.bads, c.invs].all (fun l => l.all (namedOk S)) && namesOk c
def chk (c : Cir) : Bool := sizesOk c && match defAll c.max [0] (own c) with
  | some S => chkIn S c
  | none => false

theorem chk_facts (c : Cir) (s : Places) (w w' : World) (hb : Below (w.heap.size + 2) ((w.alloc (.cells (cirC c s) 27)).alloc (.cells #[.int .i64 0] 30)) w') :
    Below w.heap.size w w' ∧ Box w' w.heap.size c s ∧ w'.cell? ⟨w.heap.size + 1, 0, none⟩ = some (.int .i64 0) ∧ w'.frozen? ⟨w.heap.size + 1, 0, none⟩ = false ∧ w.heap.size + 2 ≤ w'.heap.size := by
  have hb1 : Below w.heap.size w (w.alloc (.cells (cirC c s) 27)) := (Below.refl _ _).alloc (Nat.le_refl _) _
  have hs1 : (w.alloc (.cells (cirC c s) 27)).heap.size = w.heap.size + 1 := by simp
  have hb2 := hb1.alloc hb1.size (.cells #[.int .i64 0] 30)
  have hx := (Box.made w c s).keep ((Below.refl (w.heap.size + 1) _).alloc (Nat.le_of_eq hs1.symm) (.cells #[.int .i64 0] 30)) (Nat.lt_succ_self _)
  have hn := new_cell (w.alloc (.cells (cirC c s) 27)) #[.int .i64 0] 30 0
  rw [hs1] at hn
  refine ⟨hb2.trans (hb.mono (by omega)), hx.keep hb (by omega), ?_, ?_, ?_⟩
  · rw [hb.cell (by show w.heap.size + 1 < w.heap.size + 2; omega)]; exact hn
  · rw [hb.frozen (by show w.heap.size + 1 < w.heap.size + 2; omega)]
    have : ((w.alloc (.cells (cirC c s) 27)).alloc (.cells #[.int .i64 0] 30)).heap[w.heap.size + 1]? = some (.cells #[.int .i64 0] 30) := by
      have := heap_alloc_new (w.alloc (.cells (cirC c s) 27)) (.cells #[.int .i64 0] 30)
      rw [hs1] at this; exact this
    unfold World.frozen?; rw [this]; rfl
  · have := hb.size
    simp at this; omega

theorem lists_at (c : Cir) (s : Places) (w5 w : World) (B : Nat) (hL : CLies w B c s) (hf : CFits c s) (hb : Below (w5.heap.size + 1) (w5.alloc (.cells #[.slice s.ao c.outs.length s.ko, .slice s.ab c.bads.length s.kb, .slice s.ac c.invs.length s.kc] 22)) w) (k : Nat) (hk : k < 3) :
    ∃ (A : Option Addr) (l : List Int) (q : Nat), w.cell? ⟨w5.heap.size, k, none⟩ = some (.slice A l.length q) ∧ ([c.outs, c.bads, c.invs][k]'hk) = l ∧ LRow w B 1 A (ints l) ∧ l.length * 8 ≤ 140737488355328 ∧ ∀ x ∈ l, I64 x := by
  have hc : ∀ i, w.cell? ⟨w5.heap.size, i, none⟩ = (#[.slice s.ao c.outs.length s.ko, .slice s.ab c.bads.length s.kb, .slice s.ac c.invs.length s.kc] : Array Value)[i]? := fun i => by
    rw [hb.cell (by exact Nat.lt_succ_self _), new_cell]
  match k, hk with
  | 0, _ => exact ⟨_, _, _, hc 0, rfl, hL.outs, hf.lo, hf.outs⟩
  | 1, _ => exact ⟨_, _, _, hc 1, rfl, hL.bads, hf.lb, hf.bads⟩
  | 2, _ => exact ⟨_, _, _, hc 2, rfl, hL.invs, hf.lc, hf.invs⟩

/-- the error's number -/
def chkV (c : Cir) : Int := if chk c = true then 0 else 9
theorem chkV_no (c : Cir) (h : chk c = false) : chkV c = 9 := by unfold chkV; rw [h]; rfl
theorem chkV_yes (c : Cir) (h : chk c = true) : chkV c = 0 := by unfold chkV; rw [h]; rfl

theorem chk_of (c : Cir) (S : List Int) (h0 : sizesOk c = true) (h1 : defAll c.max [0] (own c) = some S) : chk c = (c.lats.all (latOk S) && andsOk S c.ands && [c.outs, c.bads, c.invs].all (fun l => l.all (namedOk S)) && namesOk c) := by
  unfold chk; rw [h0, h1]; rfl

set_option maxHeartbeats 4000000 in
set_option maxRecDepth 100000 in
theorem check_any (c : Cir) (s : Places) (w : World) (h : CLies w w.heap.size c s) (hf : CFits c s) :
    Calls Try.prog 43 #[cirV c s] w fun e w' => e = .returned (.int .i64 (chkV c)) ∧ Below w.heap.size w w' := by
  have hmf : ∀ (fn : Fn) (first cap : Array Value) (w : World), (Instr.makeFunc fn first cap).run Try.prog w = .ok (.func fn first cap) w := fun _ _ _ _ => rfl
  have SZ := Lib.hid (fun w => sizes_any c s w)
  have DF := Lib.hid (fun w h => defined_any c s w h hf)
  have LT := Lib.hid (fun g B S w h hh => lats_any c s g B S w h hf hh)
  have AN := Lib.hid (fun g B S w h hh => ands_any c s g B S w h hf hh)
  have NM := Lib.hid (fun w h => names_any c s w h hf)
  have H := Lib.hid h
  have HF := Lib.hid hf
  clear h hf
  unfold cirV at *
  rw [show cirC c s = #[.int .i64 c.max, .slice s.ai c.ins.length s.ki, .slice s.al c.lats.length s.kl, .slice s.ao c.outs.length s.ko, .slice s.ab c.bads.length s.kb, .slice s.ac c.invs.length s.kc, .slice s.aa c.ands.length s.ka, .slice s.an c.names.length s.kn] from rfl] at *
  go_enter_defers Try.func43, Try.ntmps43
  go_wp2_with fail
  refine (SZ.out _).mono ?_
  rintro e w1 ⟨he, hb⟩
  have hb1 : Below (w.heap.size + 2) ((w.alloc (.cells (cirC c s) 27)).alloc (.cells #[.int .i64 0] 30)) w1 := hb.mono (by simp)
  clear hb
  cases h0 : sizesOk c
  · have he' : e = .panicked fault := by rw [he, h0]; rfl
    clear he
    subst he'
    obtain ⟨hbw, -, hcr, hfr, -⟩ := chk_facts c s w _ hb1
    have hcs := World.cell?_setCell_same' _ ⟨w.heap.size + 1, 0, none⟩ (.int .i64 9) (by rw [hcr]; rfl)
    have HE : Hid (chk c = false) := (by unfold chk; rw [h0]; rfl : chk c = false)
    go_wp2
    refine leaves_cons (f := 80) (args := #[.pointer (some ⟨w.heap.size + 1, 0, none⟩)]) (by simp) (by simp [go_sem]) ?_
    refine (catch_panicking ⟨w.heap.size + 1, 0, none⟩ 0 _ hcr hfr).mono ?_
    rintro e u' w'' ⟨rfl, rfl, rfl⟩
    simp [Leaves, settle, results, Try.results43, go_sem, hcs]
    exact ⟨(chkV_no c HE.out).symm, hbw.setCell (by simp) _⟩
  have he' : e = .returned (.tuple #[]) := by rw [he, h0]; rfl
  clear he
  subst he'
  obtain ⟨hbw1, bx1, -, -, hz1⟩ := chk_facts c s w _ hb1
  obtain ⟨e0, e1, e2, e3, e4, e5, e6, e7⟩ := bx1.cells
  have D := Lib.hid (DF.out w1 ((H.out.below hbw1).more (by omega)))
  go_wp2_with fail
  refine D.out.mono ?_
  rintro e w2 ⟨hbd, hor⟩
  have hb2 := hb1.trans (hbd.mono hz1)
  rcases hor with ⟨S, B, hS, rfl, hIs⟩ | ⟨hno, rfl⟩
  case inr =>
    obtain ⟨hbw, -, hcr, hfr, -⟩ := chk_facts c s w _ hb2
    have hcs := World.cell?_setCell_same' _ ⟨w.heap.size + 1, 0, none⟩ (.int .i64 9) (by rw [hcr]; rfl)
    have HE : Hid (chk c = false) := (by unfold chk; rw [hno, Bool.and_false] : chk c = false)
    go_wp2
    refine leaves_cons (f := 80) (args := #[.pointer (some ⟨w.heap.size + 1, 0, none⟩)]) (by simp) (by simp [go_sem]) ?_
    refine (catch_panicking ⟨w.heap.size + 1, 0, none⟩ 0 _ hcr hfr).mono ?_
    rintro e u' w'' ⟨rfl, rfl, rfl⟩
    simp [Leaves, settle, results, Try.results43, go_sem, hcs]
    exact ⟨(chkV_no c HE.out).symm, hbw.setCell (by simp) _⟩
  have HK := Lib.hid (chk_of c S h0 hS)
  clear h0 hS
  go_wp2_with fail
  refine (named64_any B _).mono ?_
  rintro e w3 ⟨rfl, rfl⟩
  have hz2 := hbd.size
  have hb3 := hb2.alloc (Nat.le_trans hz1 hz2) (.cells #[.map (some B)] 107)
  obtain ⟨hbw3, bx3, -, -, hz3⟩ := chk_facts c s w _ hb3
  obtain ⟨a0, a1, a2, a3, a4, a5, a6, a7⟩ := bx3.cells
  have hh3 : Has (w2.alloc (.cells #[.map (some B)] 107)) w2.heap.size B S := ⟨by rw [new_cell]; rfl, hIs.alloc _⟩
  have HH3 := Lib.hid hh3
  clear hIs hh3
  have D2 := Lib.hid (LT.out w2.heap.size B S _ ((H.out.below hbw3).more (by omega)) HH3.out)
  go_wp2_with fail
  refine D2.out.mono ?_
  rintro e w4 ⟨he, hbl⟩
  have hb4 := hb3.trans (hbl.mono hz3)
  cases hl : c.lats.all (latOk S)
  · have he' : e = .panicked fault := by rw [he, hl]; rfl
    clear he
    subst he'
    obtain ⟨hbw, -, hcr, hfr, -⟩ := chk_facts c s w _ hb4
    have hcs := World.cell?_setCell_same' _ ⟨w.heap.size + 1, 0, none⟩ (.int .i64 9) (by rw [hcr]; rfl)
    have HE : Hid (chk c = false) := (by rw [HK.out, hl]; rfl : chk c = false)
    go_wp2
    refine leaves_cons (f := 80) (args := #[.pointer (some ⟨w.heap.size + 1, 0, none⟩)]) (by simp) (by simp [go_sem]) ?_
    refine (catch_panicking ⟨w.heap.size + 1, 0, none⟩ 0 _ hcr hfr).mono ?_
    rintro e u' w'' ⟨rfl, rfl, rfl⟩
    simp [Leaves, settle, results, Try.results43, go_sem, hcs]
    exact ⟨(chkV_no c HE.out).symm, hbw.setCell (by simp) _⟩
  have he' : e = .returned (.tuple #[]) := by rw [he, hl]; rfl
  clear he
  subst he'
  rw [hl, Bool.true_and] at HK
  clear hl
  obtain ⟨hbw4, bx4, -, -, hz4⟩ := chk_facts c s w _ hb4
  obtain ⟨g0, g1, g2, g3, g4, g5, g6, g7⟩ := bx4.cells
  have HH4 := Lib.hid (HH3.out.below hbl rfl)
  have D3 := Lib.hid (AN.out w2.heap.size B S _ ((H.out.below hbw4).more (by omega)) HH4.out)
  go_wp2_with fail
  refine D3.out.mono ?_
  rintro e w5 ⟨he, hba⟩
  have hb5 := hb4.trans (hba.mono hz4)
  cases hl : andsOk S c.ands
  · have he' : e = .panicked fault := by rw [he, hl]; rfl
    clear he
    subst he'
    obtain ⟨hbw, -, hcr, hfr, -⟩ := chk_facts c s w _ hb5
    have hcs := World.cell?_setCell_same' _ ⟨w.heap.size + 1, 0, none⟩ (.int .i64 9) (by rw [hcr]; rfl)
    have HE : Hid (chk c = false) := (by rw [HK.out, hl]; rfl : chk c = false)
    go_wp2
    refine leaves_cons (f := 80) (args := #[.pointer (some ⟨w.heap.size + 1, 0, none⟩)]) (by simp) (by simp [go_sem]) ?_
    refine (catch_panicking ⟨w.heap.size + 1, 0, none⟩ 0 _ hcr hfr).mono ?_
    rintro e u' w'' ⟨rfl, rfl, rfl⟩
    simp [Leaves, settle, results, Try.results43, go_sem, hcs]
    exact ⟨(chkV_no c HE.out).symm, hbw.setCell (by simp) _⟩
  have he' : e = .returned (.tuple #[]) := by rw [he, hl]; rfl
  clear he
  subst he'
  rw [hl, Bool.true_and] at HK
  clear hl
  obtain ⟨hbw5, bx5, -, -, hz5⟩ := chk_facts c s w _ hb5
  obtain ⟨k0, k1, k2, k3, k4, k5, k6, k7⟩ := bx5.cells
  have HH5 := Lib.hid (HH4.out.below hba rfl)
  have hb6 := hb5.alloc hz5 (.cells #[.slice s.ao c.outs.length s.ko, .slice s.ab c.bads.length s.kb, .slice s.ac c.invs.length s.kc] 22)
  have hs6 : (w5.alloc (.cells #[.slice s.ao c.outs.length s.ko, .slice s.ab c.bads.length s.kb, .slice s.ac c.invs.length s.kc] 22)).heap.size = w5.heap.size + 1 := by simp
  have HH6 := Lib.hid (HH5.out.below ((Below.refl _ _).alloc (Nat.le_refl _) (.cells #[.slice s.ao c.outs.length s.ko, .slice s.ab c.bads.length s.kb, .slice s.ac c.invs.length s.kc] 22)) rfl)
  have HB6 := Lib.hid hb6
  have HS6 := Lib.hid hs6
  clear hb6 hs6
  go_wp2
  go_loopw [28] (fun i wr => ∃ k : Nat, k ≤ 3 ∧ i = .int .i64 k ∧ ([c.outs, c.bads, c.invs].take k).all (fun l => l.all (namedOk S)) = true ∧ Below (w5.heap.size + 1) (w5.alloc (.cells #[.slice s.ao c.outs.length s.ko, .slice s.ab c.bads.length s.kb, .slice s.ac c.invs.length s.kc] 22)) wr) (fun i _ => 3 - (intOf i).toNat)
  case atStart => exact ⟨0, Nat.zero_le _, rfl, rfl, Below.refl _ _⟩
  case round =>
    obtain ⟨k, hk, rfl, hno, hb⟩ := hrel
    have HN := Lib.hid hno; clear hno
    obtain ⟨wo, rfl⟩ : ∃ wo : World, wo = wr := ⟨_, rfl⟩
    by_cases hlt : k < 3
    · have hbo := HB6.out.trans (hb.mono (by omega))
      obtain ⟨hbwo, -, -, -, -⟩ := chk_facts c s w _ hbo
      obtain ⟨A, l, q, hcl, hll, hrow, hlen, hfit⟩ := lists_at c s w5 wo w.heap.size (H.out.below hbwo) HF.out hb k hlt
      have HX := Lib.hid (all_take [c.outs, c.bads, c.invs] (fun l => l.all (namedOk S)) k hlt)
      have HS := Lib.hid (all_not [c.outs, c.bads, c.invs] (fun l => l.all (namedOk S)) k hlt)
      rw [hll] at HX HS
      have HR := Lib.hid hrow
      have HI := Lib.hid hfit
      clear hll hrow hfit hbo
      have hd3 : decide ((k : Int) < 3) = true := by simp; omega
      go_wp2
      go_loopw [34] (fun i wr => ∃ j : Nat, j ≤ l.length ∧ i = .int .i64 j ∧ (l.take j).all (namedOk S) = true ∧ Below (w5.heap.size + 1) (w5.alloc (.cells #[.slice s.ao c.outs.length s.ko, .slice s.ab c.bads.length s.kb, .slice s.ac c.invs.length s.kc] 22)) wr ∧ Below w.heap.size wo wr) (fun i _ => l.length - (intOf i).toNat)
      case atStart => exact ⟨0, Nat.zero_le _, rfl, rfl, hb, Below.refl _ _⟩
      case round =>
        obtain ⟨j, hj, rfl, hno2, hbr, hbr2⟩ := hrel
        have HN2 := Lib.hid hno2; clear hno2
        by_cases hlt2 : j < l.length
        · obtain ⟨b, o, rfl, hbb, hx⟩ := (HR.out.below hbr2).int hlt2
          have HX2 := Lib.hid (all_take l (namedOk S) j hlt2)
          have HS2 := Lib.hid (all_not l (namedOk S) j hlt2)
          have HI2 := Lib.hid (HI.out l[j] (List.getElem_mem _))
          generalize l[j] = x at *
          have hhr := HH6.out.below hbr HS6.out.symm
          go_wp2_with fail
          refine (named1_any x w2.heap.size B S _ HI2.out hhr.cm hhr.hS).mono ?_
          rintro e w' ⟨he, hbn⟩
          have hbr' := hbr.trans (hbn.mono (by have := hbr.size; rw [show _ = _ from HS6.out] at this; exact this))
          have hbr2' := hbr2.trans (hbn.mono (Nat.le_trans hbwo.size hbr2.size))
          cases hn : namedOk S x
          · have he' : e = .panicked fault := by rw [he, hn]; rfl
            clear he
            subst he'
            have hq : chk c = false := by rw [HK.out, HS.out (HS2.out hn)]; rfl
            have HQ := Lib.hid hq
            have hbz := HB6.out.trans (hbr'.mono (by omega))
            clear hn hq
            obtain ⟨hbw, -, hcr, hfr, -⟩ := chk_facts c s w _ hbz
            have hcs := World.cell?_setCell_same' _ ⟨w.heap.size + 1, 0, none⟩ (.int .i64 9) (by rw [hcr]; rfl)
            have HE : Hid (chk c = false) := HQ.out
            go_wp2
            refine leaves_cons (f := 80) (args := #[.pointer (some ⟨w.heap.size + 1, 0, none⟩)]) (by simp) (by simp [go_sem]) ?_
            refine (catch_panicking ⟨w.heap.size + 1, 0, none⟩ 0 _ hcr hfr).mono ?_
            rintro e u' w'' ⟨rfl, rfl, rfl⟩
            simp [Leaves, settle, results, Try.results43, go_sem, hcs]
            exact ⟨(chkV_no c HE.out).symm, hbw.setCell (by simp) _⟩
          · have he' : e = .returned (.tuple #[]) := by rw [he, hn]; rfl
            clear he
            subst he'
            have HQ := Lib.hid hn
            clear hn
            go_wp2
            go_roundw
            case rel => exact ⟨j + 1, by omega, by go_num, by rw [HX2.out, HN2.out, HQ.out]; rfl, hbr', hbr2'⟩
            case measure => simp [intOf]; omega
        · obtain rfl : j = l.length := by omega
          rw [List.take_of_length_le (Nat.le_refl _)] at HN2
          go_wp2
          go_roundw
          case rel => exact ⟨k + 1, by omega, by go_num, by rw [HX.out, HN.out, HN2.out]; rfl, hbr⟩
          case measure => simp [intOf]; omega
    · obtain rfl : k = 3 := by omega
      have hall : [c.outs, c.bads, c.invs].all (fun l => l.all (namedOk S)) = true := HN.out
      rw [hall, Bool.true_and] at HK
      clear hall
      have hbz := HB6.out.trans (hb.mono (by omega))
      obtain ⟨hbw7, bx7, -, -, hz7⟩ := chk_facts c s w _ hbz
      obtain ⟨m0, m1, m2, m3, m4, m5, m6, m7⟩ := bx7.cells
      have D4 := Lib.hid (NM.out wo ((H.out.below hbw7).more (by omega)))
      go_wp2_with fail
      refine D4.out.mono ?_
      rintro e w8 ⟨he, hbn⟩
      have hb8 := hbz.trans (hbn.mono hz7)
      cases hl : namesOk c
      · have he' : e = .panicked fault := by rw [he, hl]; rfl
        clear he
        subst he'
        obtain ⟨hbw, -, hcr, hfr, -⟩ := chk_facts c s w _ hb8
        have hcs := World.cell?_setCell_same' _ ⟨w.heap.size + 1, 0, none⟩ (.int .i64 9) (by rw [hcr]; rfl)
        have HE : Hid (chk c = false) := (by rw [HK.out, hl] : chk c = false)
        go_wp2
        refine leaves_cons (f := 80) (args := #[.pointer (some ⟨w.heap.size + 1, 0, none⟩)]) (by simp) (by simp [go_sem]) ?_
        refine (catch_panicking ⟨w.heap.size + 1, 0, none⟩ 0 _ hcr hfr).mono ?_
        rintro e u' w'' ⟨rfl, rfl, rfl⟩
        simp [Leaves, settle, results, Try.results43, go_sem, hcs]
        exact ⟨(chkV_no c HE.out).symm, hbw.setCell (by simp) _⟩
      have he' : e = .returned (.tuple #[]) := by rw [he, hl]; rfl
      clear he
      subst he'
      have HQ : Hid (chk c = true) := by unfold Hid; rw [HK.out, hl]
      clear hl
      obtain ⟨hbw8, -, hcr, hfr, -⟩ := chk_facts c s w _ hb8
      have hcs := World.cell?_setCell_same' _ ⟨w.heap.size + 1, 0, none⟩ (.int .i64 0) (by rw [hcr]; rfl)
      go_wp2
      refine leaves_cons (f := 80) (args := #[.pointer (some ⟨w.heap.size + 1, 0, none⟩)]) (by simp) (by simp [go_sem]) ?_
      refine (catch_idle ⟨w.heap.size + 1, 0, none⟩ _).mono ?_
      rintro e u' w'' ⟨rfl, rfl, rfl⟩
      simp [Leaves, settle, results, Try.results43, go_sem, hcs]
      exact ⟨(chkV_yes c HQ.out).symm, hbw8.setCell (by simp) _⟩
end Go.Proofs.Ytjlnffkieocihaa.Cw
