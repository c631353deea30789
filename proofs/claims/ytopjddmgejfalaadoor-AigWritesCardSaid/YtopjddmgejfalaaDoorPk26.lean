/- AigOrders and AigWrites, from what a row hands over; condition: the listed package-level variables are as they are laid. -/
import Derived.Test.YtopjddmgejfalaaDoorPk25
import Derived.OwnWalk
namespace Go.Proofs.YtopjddmgejfalaaDoor.Aig
open Go.ChangeShapes Go.WideShapes Go.ChangeAt Go.RowKit Go.Maps Dig Circ Cw Aag

theorem g0 : Tryd.prog.globalNamed "internal/strconv.uint64pow10" = some 1 := by kernel_rfl
theorem g0type : (Tryd.prog.globals[1]?).map (·.type) = some 130 := by kernel_rfl
theorem cells20 : Tryd.prog.cellsOf 130 = 20 := by kernel_rfl
theorem cells1 : Tryd.prog.cellsOf 124 = 1 := by kernel_rfl
/-- what the row's list gives -/
theorem tab_of {W : World} (h : laidMetH Tryd.prog Rows.aigWritesRow.laid W) : Tab W := by
  have h1 : laidMet Tryd.prog Rows.aigWritesRow.laid W := h
  have ht : Lib.TabIs Tryd.prog W "internal/strconv.uint64pow10" .u64 Lib.pow10Tab :=
    Lib.tabIs_of_head (rest := _) g0 g0type Tryd.underlying130 Tryd.underlying124 cells1 cells20 (Frame.laid_tail (Frame.laid_tail h1))
  have hc := ht.cell g0 0 (by decide)
  have hlt : 1 < W.heap.size := by
    rcases Nat.lt_or_ge 1 W.heap.size with h | h
    · exact h
    · unfold World.cell? at hc; rw [Array.getElem?_eq_none h] at hc; cases hc
  intro w' hb
  exact var?_below hb g0 hlt ht
theorem first_weights {H : Type} {t : TypeId} {d : DataW H} {ts : List TypeId} {ds : List (DataW H)} (hsz : (DataW.weightsEach Tryd.prog (t :: ts) (d :: ds)).all (· ≤ reachBytes) = true) : ∀ n ∈ DataW.weights Tryd.prog t d, n ≤ reachBytes := fun n hn => by
  have := List.all_eq_true.1 hsz n (DataW.weights_mem_each (j := 0) rfl rfl n hn)
  simpa using this
set_option maxRecDepth 100000 in
theorem writes_core {H : Type} {enc : TypeId × Value → H} (W : World) (v : Value) (d : DataW H) (p : List MemPlace) {r : Reach} {b0 : Nat} (hv : Value.okWide Tryd.prog W r b0 27 v) (h : DataW.Trod enc Tryd.prog W 0 (fun _ => true) true 27 v d p)
    {ts : List TypeId} {ds : List (DataW H)} (hsz : (DataW.weightsEach Tryd.prog (27 :: ts) (d :: ds)).all (· ≤ reachBytes) = true) (hL : laidMetH Tryd.prog Rows.aigWritesRow.laid W) :
    Calls Tryd.prog 4 #[v] W fun e W' => e = .returned (.bool true) ∧ Below W.heap.size W W' := by
  obtain ⟨c, s, rfl, hl, hf⟩ := open_circ hv h (first_weights hsz)
  exact writes_walk c s W hl hf (tab_of hL)
end Go.Proofs.YtopjddmgejfalaaDoor.Aig
