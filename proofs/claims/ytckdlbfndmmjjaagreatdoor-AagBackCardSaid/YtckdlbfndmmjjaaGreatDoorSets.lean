/- Sets of numbers in memory: a map of int to nothing; no condition. -/
import Derived.Test.YtckdlbfndmmjjaaGreatDoorText2
import Derived.Maps.OwnSet
namespace Go.Proofs.YtckdlbfndmmjjaaGreatDoor.Cw
open Go.ChangeShapes Go.WideShapes Go.ChangeAt Go.RowKit Go.Maps Circ

theorem key3 : Keyed Tryz.prog 3 := int_keyed Tryz.underlying3
theorem zero65 (w : World) : (zeroValue 99).run Tryz.prog w = .ok (.agg #[]) w := by kernel_rfl

/-- block B is a map whose keys are just the numbers of S -/
def IsSet (w : World) (B : Nat) (S : List Int) : Prop :=
  ∃ n D, w.ownsMap Tryz.prog 3 (unitElem (H := Unit)) B n D ∧ n ≤ S.length ∧ ∀ x, I64 x → Maps.has D (.int .i64 x) = S.contains x

theorem wf64 {x : Int} (h : I64 x) : (Lit.int .i64 x).wf = true := WalkArith.wf_i64 h
theorem key_of {x : Int} (h : I64 x) : keyOf Tryz.prog 3 (.int .i64 x) = some (.int .i64 x) := keyOf_int_mk Tryz.underlying3 (wf64 h)

theorem IsSet.made (w : World) : IsSet (w.alloc (.map #[] 0)) w.heap.size [] :=
  ⟨0, _, World.ownsMap_made w _ _ _, Nat.le_refl _, fun _ _ => rfl⟩
theorem IsSet.lt {w : World} {B : Nat} {S : List Int} (h : IsSet w B S) : B < w.heap.size := by
  obtain ⟨n, D, h1, _⟩ := h; exact h1.lt
theorem IsSet.keep {w w' : World} {B : Nat} {S : List Int} (h : IsSet w B S) (hb : w'.heap[B]? = w.heap[B]?) : IsSet w' B S := by
  obtain ⟨n, D, ⟨es, cl, h0, r⟩, h2⟩ := h
  exact ⟨n, D, ⟨es, cl, hb.trans h0, r⟩, h2⟩
theorem IsSet.below {w w' : World} {B C : Nat} {S : List Int} (h : IsSet w B S) (hb : Below C w w') (hC : B < C) : IsSet w' B S := h.keep (hb.block B hC)
theorem IsSet.alloc {w : World} {B : Nat} {S : List Int} (h : IsSet w B S) (o : Obj) : IsSet (w.alloc o) B S := h.keep (Below.heap_alloc w o B h.lt)
theorem IsSet.drew {w : World} {B : Nat} {S : List Int} (h : IsSet w B S) : IsSet w.drew B S := h
theorem IsSet.look {w : World} {B : Nat} {S : List Int} (h : IsSet w B S) {x : Int} (hx : I64 x) :
    (Instr.lookup 74 (.map (some B)) (.int .i64 x) true).run Tryz.prog w = .ok (.tuple #[.agg #[], .bool (S.contains x)]) w := by
  obtain ⟨n, D, h1, _, h3⟩ := h
  obtain ⟨v, ps, hr, hv⟩ := h1.look_ok key3 Tryz.underlying74 (zero65 w) unitElem_mk (key_of hx)
  obtain ⟨rfl, _⟩ := unitElem_inv hv
  rw [h3 x hx] at hr
  exact hr
theorem IsSet.store {w : World} {B : Nat} {S : List Int} (h : IsSet w B S) {x : Int} (hx : I64 x) (hn : S.length < 9223372036854775807) :
    ∃ w', (Instr.mapUpdate 74 (.map (some B)) (.int .i64 x) (.agg #[])).run Tryz.prog w = .ok () w' ∧ IsSet w' B (x :: S) ∧ w.grownBy w' (some B) := by
  obtain ⟨n, D, h1, h2, h3⟩ := h
  obtain ⟨w', hr, h4, h5⟩ := h1.store key3 Tryz.underlying74 (by unfold maxLen; omega) (key_of hx) unitElem_mk
  refine ⟨w', hr, ⟨n + 1, _, h4, by simp; omega, fun y hy => ?_⟩, h5.grown⟩
  by_cases e : y = x
  · subst e
    rw [has_put_same h1.isMap (key3.key (key_of hx))]
    simp
  · rw [has_put_other (by simpa using e), h3 y hy]
    simp [e]
end Go.Proofs.YtckdlbfndmmjjaaGreatDoor.Cw
