/- TrailBack: for every input the law returns true, and each argument reads afterwards as it did before. -/
import Derived.Test.YtomkdegajhijjaaPt14
import Derived.Test.YtomkdegajhijjaaPt15
import Derived.ChangeMaps5
namespace Go.Proofs.Ytomkdegajhijjaa.frTrailBack
open Go.ChangeShapes Go.WideShapes Go.ChangeAt Go.ChangeMaps Go.RowKit

theorem own : ownKnob Try.prog.godebug = none := by kernel_rfl
theorem laidOut : laidOutB Try.prog = true := by kernel_rfl
theorem readable : Try.f5.params.toList.all (fun t => Try.prog.readableRec t && decide (t < Try.prog.types.size)) = true := by kernel_rfl

noncomputable def laidWorld (os : Os) : World := World.holding Try.prog os ⟨#[], #[], []⟩
theorem reads (os : Os) {H : Type} (enc : TypeId × Value → H) : ∃ (ds : List (DataW H)) (places : List MemPlace), DataW.whole enc Try.prog ((laidWorld os).forCall (fun _ _ => 0) ⟨#[], #[.slice none 0 0, .slice none 0 0], []⟩).memory Try.f5.params.toList Rows.trailBackSpec.vars false (#[.slice none 0 0, .slice none 0 0] : Array Value).toList 12 = some (ds, [], places) ∧ ∀ k, (OpenSpec.ofChange Rows.trailBackSpec).cond = some k → k H (ds ++ []) = true :=
  ⟨[.nil, .nil], [], by kernel_rfl, fun k hk => by cases hk⟩

set_option maxRecDepth 100000 in
/-- what the walk gives -/
theorem contract (H : Type) (enc : TypeId × Value → H) (W : World) (base : Nat) (args : Array Value) (ds gs : List (DataW H)) (before : List MemPlace)
    (hval : ∀ (j : Nat) t v, Try.f5.params[j]? = some t → args[j]? = some v → Value.okWide Try.prog W .any base t v)
    (hW : DataW.Whole enc Try.prog Try.f5.params.toList Rows.trailBackSpec.vars false W args.toList ds gs before) (_hL : laidMetH Try.prog Rows.trailBackRow.laid W) (_hopen : W.ShapedOpen Try.prog)
    (_hcond : ∀ k, (OpenSpec.ofChange Rows.trailBackSpec).cond = some k → k H (ds ++ gs) = true)
    (hsz0 : (DataW.weightsEach Try.prog (Try.f5.params.toList ++ (OpenSpec.ofChange Rows.trailBackSpec).bare.plain.varTypes Try.prog) (ds ++ gs)).all (· ≤ reachBytes) = true) :
    Calls Try.prog 5 args W fun e W' => ∃ v, e = .returned v ∧ Rows.trailBackSpec.post enc Try.prog Try.f5 false true false false W args v W' := by
  have hwalk : Calls Try.prog 5 args W fun e W' => e = .returned (.bool true) ∧ Below W.heap.size W W' := by
    obtain ⟨p, q, hA0, hV, rfl, hfz, hnd⟩ := hW
    have hA : DataW.TrodAll enc Try.prog W 0 (fun _ => true) true Try.f5.params.toList args.toList ds p := hA0
    rw [Try.params5] at hA hval hsz0
    obtain ⟨v0, vs0, d0, ds0, p0, q0, hargs, rfl, rfl, h0, r0⟩ := trodAll_cons hA
    obtain ⟨v1, vs1, d1, ds1, p1, q1, rfl, rfl, rfl, h1, r1⟩ := trodAll_cons r0
    obtain ⟨rfl, rfl, rfl⟩ := trodAll_nil r1
    obtain rfl : args = #[v0, v1] := by cases args; simp_all
    obtain ⟨rfl, rfl⟩ := trodVars_none hV
    exact Tra.back_core Tra.prog15 W v0 d0 p0 (hval 0 37 v0 rfl rfl) h0 v1 d1 p1 (hval 1 37 v1 rfl rfl) h1 hsz0
  refine hwalk.mono fun e W' ⟨he, hb⟩ => ?_
  subst he
  exact ⟨_, rfl, Frame.law_post laidOut readable rfl rfl Try.underlying4 (fun ds h => by
    obtain ⟨l, rfl⟩ : ∃ l : List (DataW H), l = ds := ⟨_, rfl⟩
    match l, h with
    | [d0, d1], _ => rfl) hW hb⟩

set_option maxRecDepth 100000 in
theorem lifted (os : Os) (started : os.Started) (H : Type) (enc : TypeId × Value → H) (F : Stop.Interp) :
    ReturnsInHanded {} Try.checked os 5 .any ((OpenSpec.ofChange Rows.trailBackSpec).preRow enc Try.prog Try.f5 Rows.trailBackRow.domain false Rows.trailBackRow.laid) (((OpenSpec.ofChange Rows.trailBackSpec).at F).post enc Try.prog Try.f5 false true false false) := by
  obtain ⟨ds, places, hx, hk⟩ := reads os enc
  refine returnsInHanded_of_row (C := Try.checked) (s := (OpenSpec.ofChange Rows.trailBackSpec)) own started (by kernel_rfl) Try.func5
    (witness_row_at (enc := enc) (C := Try.checked) false (laidWorld os) #[.slice none 0 0, .slice none 0 0] rfl (by kernel_rfl) (by kernel_rfl) (by kernel_rfl)
      (OpenSpec.preRow_of_cond 12 hx (by kernel_rfl) hk (by kernel_rfl) (laidMet_nil _ _))) ?_
  intro W base args ds gs before hval hW _ hcond hsz hL hopen _
  exact contract H enc W base args ds gs before hval hW hL hopen hcond hsz

theorem said : Rows.TrailBackSaid :=
  OpenClaim.holds_of_cond 5 Try.f5 rfl rfl rfl rfl rfl rfl rfl ⟨rfl, rfl, rfl, rfl, rfl⟩ rfl rfl rfl rfl rfl (by kernel_rfl) Try.func5 (by kernel_rfl)
    (of_decide_eq_true (by kernel_rfl)) (by unfold Func.isWrapper; first | (rw [if_pos (by decide +kernel)]; kernel_rfl) | (rw [if_neg (by decide +kernel)]; exact ⟨rfl, rfl⟩))
    (fun os started H enc _ F => by rw [OpenClaim.pre_eq_preRow]; exact lifted os started H enc F)
theorem holds : Rows.TrailBackSaid := said
end Go.Proofs.Ytomkdegajhijjaa.frTrailBack
