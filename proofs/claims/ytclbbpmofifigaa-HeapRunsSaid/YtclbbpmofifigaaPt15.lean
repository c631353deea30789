/- What the laws of layer 14 ask of the program, of the program as it landed: prog14, nob14. No condition. -/
import Derived.Test.YtclbbpmofifigaaPt11
import Derived.Test.YtclbbpmofifigaaPt05
import Derived.Test.YtclbbpmofifigaaPt14
namespace Go.Proofs.Ytclbbpmofifigaa.Hep
open Go.ChangeShapes Go.WideShapes Go.ChangeAt Go.RowKit Go.Maps Circ Cw Cla

theorem prog14 : Prog14 I14 where
  keep := fun w w' b sc ins h _ hk => at_keep h hk
  lt := fun w b sc ins k h hk => at_lt h hk
  new := fun n w h0 h1 => new_any n w h0 h1
  push := fun w b sc ins x h hx => push_any h x hx
  pop := fun w b sc ins h => pop_any h
  raise := fun w b sc ins x y h hx _ => raise_any h x y hx
  grow := fun w b sc ins n h hn hs => grow_any h (n : Int) (by omega) (by omega) hs
  len := fun w b sc ins h => len_any h
  has := fun w b sc ins x h hx => has_any h x hx
  score := fun w b sc ins x h hx => score_any h x hx
/-- nobody's tree: of nothing, made by the call -/
def Fresh (w w1 : World) (t : Nat) (vo : Value) : Prop := Tree w1 t (.slice none 0 0) vo [] [] [0] ∧ w.heap.size ≤ t ∧ (∀ g, vo.ownBlock = some g → w.heap.size ≤ g) ∧ Below w.heap.size w w1
theorem nob_kept {w : World} {p : Value} (h : Nob w p) : Calls Try.prog 18 #[p] w fun e w' => ∃ t vo, e = .returned (.pointer (some ⟨t, 0, none⟩)) ∧ Fresh w w' t vo := kept_nob w p h
theorem not_in {x : Int} : (decide (0 ≤ x) && decide (x < ((0 : Nat) : Int))) = false := not_known (by omega)
set_option maxHeartbeats 4000000 in
set_option maxRecDepth 100000 in
theorem nob_push (p : Value) (x : Int) (w : World) (h : Nob w p) : Calls Try.prog 8 #[p, .int .i64 x] w fun e w' => e = .returned (.bool false) ∧ Below w.heap.size w w' := by
  have KP := nob_kept h
  clear h
  go_enter Try.func8, Try.ntmps8
  go_wp2_with fail
  refine KP.mono ?_
  rintro e w1 ⟨t, vo, rfl, T, ht, hv, hb⟩
  clear KP
  obtain ⟨c0, c1⟩ := T.cells
  have HB := Lib.hid hb
  have KN := Lib.hid (knows_any t 0 0 none x w1 c0)
  rw [not_in] at KN
  clear T ht hv hb
  go_wp2_with fail
  refine KN.out.mono ?_
  rintro e w2 ⟨rfl, rfl⟩
  clear KN
  go_wp2
  go_ret
  exact ⟨rfl, HB.out⟩
set_option maxHeartbeats 4000000 in
set_option maxRecDepth 100000 in
theorem nob_has (p : Value) (x : Int) (w : World) (h : Nob w p) : Calls Try.prog 15 #[p, .int .i64 x] w fun e w' => e = .returned (.bool false) ∧ Below w.heap.size w w' := by
  have KP := nob_kept h
  clear h
  go_enter Try.func15, Try.ntmps15
  go_wp2_with fail
  refine KP.mono ?_
  rintro e w1 ⟨t, vo, rfl, T, ht, hv, hb⟩
  clear KP
  obtain ⟨c0, c1⟩ := T.cells
  have HB := Lib.hid hb
  have KN := Lib.hid (knows_any t 0 0 none x w1 c0)
  rw [not_in] at KN
  clear T ht hv hb
  go_wp2_with fail
  refine KN.out.mono ?_
  rintro e w2 ⟨rfl, rfl⟩
  clear KN
  go_wp2
  go_ret
  exact ⟨rfl, HB.out⟩
set_option maxHeartbeats 4000000 in
set_option maxRecDepth 100000 in
theorem nob_score (p : Value) (x : Int) (w : World) (h : Nob w p) : Calls Try.prog 16 #[p, .int .i64 x] w fun e w' => e = .returned (.int .i64 0) ∧ Below w.heap.size w w' := by
  have KP := nob_kept h
  clear h
  go_enter Try.func16, Try.ntmps16
  go_wp2_with fail
  refine KP.mono ?_
  rintro e w1 ⟨t, vo, rfl, T, ht, hv, hb⟩
  clear KP
  obtain ⟨c0, c1⟩ := T.cells
  have HB := Lib.hid hb
  have KN := Lib.hid (knows_any t 0 0 none x w1 c0)
  rw [not_in] at KN
  clear T ht hv hb
  go_wp2_with fail
  refine KN.out.mono ?_
  rintro e w2 ⟨rfl, rfl⟩
  clear KN
  go_wp2
  go_ret
  exact ⟨rfl, HB.out⟩
set_option maxHeartbeats 4000000 in
set_option maxRecDepth 100000 in
theorem nob_raise (p : Value) (x : Int) (w : World) (h : Nob w p) : Calls Try.prog 12 #[p, .int .i64 x, .int .i64 1] w fun e w' => e = .returned (.tuple #[]) ∧ Below w.heap.size w w' := by
  have KP := nob_kept h
  clear h
  go_enter Try.func12, Try.ntmps12
  go_wp2_with fail
  refine KP.mono ?_
  rintro e w1 ⟨t, vo, rfl, T, ht, hv, hb⟩
  clear KP
  obtain ⟨c0, c1⟩ := T.cells
  have HB := Lib.hid hb
  have KN := Lib.hid (knows_any t 0 0 none x w1 c0)
  rw [not_in] at KN
  clear T ht hv hb
  go_wp2_with fail
  refine KN.out.mono ?_
  rintro e w2 ⟨rfl, rfl⟩
  clear KN
  go_wp2
  refine bodyPost_ret (results_none rfl _ _ _) rfl ?_
  exact ⟨rfl, HB.out⟩
set_option maxHeartbeats 4000000 in
set_option maxRecDepth 100000 in
theorem nob_len (p : Value) (w : World) (h : Nob w p) : Calls Try.prog 14 #[p] w fun e w' => e = .returned (.int .i64 0) ∧ Below w.heap.size w w' := by
  have KP := nob_kept h
  clear h
  go_enter Try.func14, Try.ntmps14
  go_wp2_with fail
  refine KP.mono ?_
  rintro e w1 ⟨t, vo, rfl, T, ht, hv, hb⟩
  clear KP
  obtain ⟨c0, c1⟩ := T.cells
  have HB := Lib.hid hb
  obtain ⟨g, q, hvo, -, -, -, -⟩ := T.ord (by decide)
  subst hvo
  rw [show ([0] : List Int).length = 1 from rfl] at c1
  clear T ht hv hb
  go_wp2
  go_ret
  exact ⟨rfl, HB.out⟩
set_option maxHeartbeats 4000000 in
set_option maxRecDepth 100000 in
theorem nob_pop (p : Value) (w : World) (h : Nob w p) : Calls Try.prog 10 #[p] w fun e w' => e = .returned (.tuple #[.int .i64 0, .bool false]) ∧ Below w.heap.size w w' := by
  have KP := nob_kept h
  clear h
  go_enter Try.func10, Try.ntmps10
  go_wp2_with fail
  refine KP.mono ?_
  rintro e w1 ⟨t, vo, rfl, T, ht, hv, hb⟩
  clear KP
  obtain ⟨c0, c1⟩ := T.cells
  have HB := Lib.hid hb
  obtain ⟨g, q, hvo, -, -, -, -⟩ := T.ord (by decide)
  subst hvo
  rw [show ([0] : List Int).length = 1 from rfl] at c1
  clear T ht hv hb
  go_wp2
  go_ret2
  exact ⟨rfl, HB.out⟩
set_option maxHeartbeats 4000000 in
set_option maxRecDepth 100000 in
theorem nob_grow (p : Value) (w : World) (h : Nob w p) : Calls Try.prog 13 #[p, .int .i64 3] w fun e w' => e = .returned (.tuple #[]) ∧ Below w.heap.size w w' := by
  have KP := nob_kept h
  clear h
  go_enter Try.func13, Try.ntmps13
  go_wp2_with fail
  refine KP.mono ?_
  rintro e w1 ⟨t, vo, rfl, T, ht, hv, hb⟩
  clear KP
  obtain ⟨c0, c1⟩ := T.cells
  have HB := Lib.hid hb
  obtain ⟨v1, w2, h1, h2, h3, h4⟩ := run_grow (sc := []) w1 (.slice none 0 0) [] 47 3 rfl T.oc (by decide) (by decide)
  obtain ⟨T2, C2, hu, hf⟩ := T.growC rfl h2 h3 h4
  obtain ⟨W2, hW2⟩ : ∃ y, w2.setCell ⟨t, 0, none⟩ v1 = y := ⟨_, rfl⟩
  rw [hW2] at T2 C2
  have HEND : Hid (Below w.heap.size w W2) := ⟨C2.os.trans hb.os, C2.tape.trans hb.tape, C2.output.trans hb.output, Nat.le_trans hb.size C2.size, fun k hk => (C2.other k (Nat.lt_of_lt_of_le hk hb.size) (fun e => by
    rcases e with e | e | e
    · omega
    · simp [Value.ownBlock] at e
    · have := hv k e; omega)).trans (hb.block k hk)⟩
  obtain ⟨A2, q2, hv2, -⟩ := T2.row
  generalize (([] : List Int) ++ List.replicate 3 0).length = N at *
  subst hv2
  clear T ht hv hb HB h2 h3 h4 T2 C2 c1
  go_wp2_with (at_builtin; refine Lib.wpList_append_run _ rfl (.tmp 22) (.tmp 23) _ _ rfl _ _ rfl rfl _ _ h1 ?_)
  clear h1
  go_wp2
  go_end0
  exact ⟨rfl, HEND.out⟩
theorem nob14 : Nob14 where
  grow := fun p w h => nob_grow p w h
  raise := fun p x w h _ => nob_raise p x w h
  pop := fun p w h => nob_pop p w h
  push := fun p x w h _ => nob_push p x w h
  len := fun p w h => nob_len p w h
  has := fun p x w h _ => nob_has p x w h
  score := fun p x w h _ => nob_score p x w h
theorem nobody_core (W : World) (x0 : Int) (lo0 : -9223372036854775808 ≤ x0) (hi0 : x0 ≤ 9223372036854775807) :
    Calls Try.prog 4 #[.int .i64 x0] W fun e W' => e = .returned (.bool true) ∧ Below W.heap.size W W' :=
  nobody_walk nob14 (fun w => alive_any prog14 w) x0 W ⟨lo0, hi0⟩
end Go.Proofs.Ytclbbpmofifigaa.Hep
