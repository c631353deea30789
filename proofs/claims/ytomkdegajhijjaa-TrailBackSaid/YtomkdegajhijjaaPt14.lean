/- What the laws of layer 15 ask of the program, of the program as it landed: prog15, nob15. No condition. -/
import Derived.Test.YtomkdegajhijjaaPt09
import Derived.Test.YtomkdegajhijjaaPt13
namespace Go.Proofs.Ytomkdegajhijjaa.Tra
open Go.ChangeShapes Go.WideShapes Go.ChangeAt Go.RowKit Go.Maps Circ Cw Cla

theorem lits_fresh {w : World} {b : Nat} {vars : Int} {L : List Tri} {d : Int} (h : AtT w b vars L d) :
    Calls Try.prog 21 #[.pointer (some ⟨b, 0, none⟩)] w fun e w' => (∃ A q, e = .returned (.slice A L.length q) ∧ L.length ≤ 9223372036854775807 ∧ Fresh I15 w b w' A (L.map Tri.a)) ∧ Below w.heap.size w w' := by
  obtain ⟨n, hn, -⟩ := at_kept h
  have hf : L.length ≤ 262144 := by
    obtain ⟨t, vc, vo, n, -, -, T, -⟩ := h
    exact T.few
  refine (lits_k (n := n) (d := d) (fun W hW => ?_) hf).mono ?_
  · obtain ⟨n', hn', K⟩ := at_kept (at_below h hW)
    obtain rfl : n' = n := by omega
    exact K
  · rintro e w' ⟨⟨g, rfl, hg, ho⟩, hb⟩
    refine ⟨⟨_, _, rfl, by omega, ?_⟩, hb⟩
    obtain ⟨A, q, hv, hr, -, -⟩ := ho.row
    injection hv with h1 h2 h3
    refine .inr ⟨g, 0, rfl, hg, fun hk => ?_, h1 ▸ hr⟩
    have h2 := (at_keep h (w' := w') fun k hk => hb.block k (at_lt h hk)).2 g hk
    have := at_lt h h2
    omega
theorem prog15 : Prog15 I15 where
  keep := fun w w' b vars L d h _ hk => at_keep h hk
  lt := fun w b vars L d k h hk => at_lt h hk
  new := fun n w h0 h1 => new_any n w h0 h1
  put := fun w b vars L d l r h hl hr => put_any h l r hl hr
  deeper := fun w b vars L d h hd => deeper_any h hd
  back := fun w b vars L d x h hx => back_any h hx
  value := fun w b vars L d l h hl => by
    obtain ⟨n, -, K⟩ := at_kept h
    exact value_k K l hl
  level := fun w b vars L d v h _ => by
    obtain ⟨n, -, K⟩ := at_kept h
    exact level_k K v
  reason := fun w b vars L d v h _ => by
    obtain ⟨n, -, K⟩ := at_kept h
    exact reason_k K v
  lits := fun w b vars L d h => lits_fresh h
  depth := fun w b vars L d h => by
    obtain ⟨n, -, K⟩ := at_kept h
    exact depth_k K
  len := fun w b vars L d h => by
    obtain ⟨n, -, K⟩ := at_kept h
    exact len_k K
  at_ := fun w b vars L d i h _ => by
    obtain ⟨n, -, K⟩ := at_kept h
    exact at_k K i
  grow := fun w b vars L d n h h0 h1 h2 => grow_any h n h0 (by omega)
set_option maxHeartbeats 4000000 in
set_option maxRecDepth 100000 in
theorem nob_put (p : Value) (x : Int) (w : World) (h : Nob w p) (hx : I64 x) : Calls Try.prog 10 #[p, .int .i64 x, .int .i64 1] w fun e w' => e = .returned (.bool false) ∧ Below w.heap.size w w' := by
  have KP := kept_nob w p h
  have VA := Lib.hid (fun W => var_any x W hx)
  have KN := Lib.hid (fun W (hc : W.cell? ⟨w.heap.size, 0, none⟩ = some (.slice none 0 0)) => knows_any w.heap.size 0 0 none (absW x) W hc)
  rw [not_known (n := 0) (x := absW x) (by omega)] at KN
  generalize absW x = v at *
  clear h hx
  go_enter Try.func10, Try.ntmps10
  go_wp2_with fail
  refine KP.mono ?_
  rintro e w1 ⟨rfl, T, hb⟩
  have c0 := T.m.cells.1
  have HB := Lib.hid hb
  clear KP T hb
  go_wp2_with fail
  refine (VA.out _).mono ?_
  rintro e w2 ⟨rfl, rfl⟩
  go_wp2_with fail
  refine (KN.out _ c0).mono ?_
  rintro e w2 ⟨rfl, rfl⟩
  clear KN VA
  go_wp2
  go_ret
  exact ⟨rfl, HB.out⟩
set_option maxHeartbeats 4000000 in
set_option maxRecDepth 100000 in
theorem nob_deeper (p : Value) (w : World) (h : Nob w p) : Calls Try.prog 11 #[p] w fun e w' => e = .returned (.int .i64 0) ∧ Below w.heap.size w w' := by
  have KP := kept_nob w p h
  have HN := Lib.hid h
  clear h
  go_enter Try.func11, Try.ntmps11
  go_wp2_with fail
  refine KP.mono ?_
  rintro e w1 ⟨rfl, T, hb⟩
  have c2 := T.m.cells.2.2
  obtain ⟨W1, u, ⟨hW, cu, fz⟩, T1, B1⟩ := T.m.putD 1
  have HB : Hid (Below w.heap.size w W1) := B1.below hb (Nat.le_refl _)
  have DP := Lib.hid (depth_k (nob_kept (HN.out.below HB.out)))
  clear KP T hb T1 B1 cu
  go_wp2_with fail
  refine DP.out.mono ?_
  rintro e w2 ⟨rfl, hb2⟩
  have HB2 : Hid (Below w.heap.size w w2) := HB.out.trans (hb2.mono HB.out.size)
  clear DP hb2
  go_wp2
  go_ret
  exact ⟨rfl, HB2.out⟩
set_option maxHeartbeats 4000000 in
set_option maxRecDepth 100000 in
theorem nob_back (p : Value) (x : Int) (w : World) (h : Nob w p) : Calls Try.prog 12 #[p, .int .i64 x] w fun e w' => e = .returned (.tuple #[]) ∧ Below w.heap.size w w' := by
  have KP := kept_nob w p h
  clear h
  rcases (show x < 0 ∨ 0 ≤ x by omega) with h1 | h1
  · go_enter Try.func12, Try.ntmps12
    go_wp2_with fail
    refine KP.mono ?_
    rintro e w1 ⟨rfl, T, hb⟩
    have c2 := T.m.cells.2.2
    clear KP T
    go_wp2
    refine bodyPost_ret (results_none rfl _ _ _) rfl ?_
    exact ⟨rfl, hb⟩
  · go_enter Try.func12, Try.ntmps12
    go_wp2_with fail
    refine KP.mono ?_
    rintro e w1 ⟨rfl, T, hb⟩
    have c2 := T.m.cells.2.2
    clear KP T
    go_wp2
    refine bodyPost_ret (results_none rfl _ _ _) rfl ?_
    exact ⟨rfl, hb⟩
set_option maxHeartbeats 4000000 in
set_option maxRecDepth 100000 in
theorem nob_grow (p : Value) (w : World) (h : Nob w p) : Calls Try.prog 13 #[p, .int .i64 3] w fun e w' => e = .returned (.tuple #[]) ∧ Below w.heap.size w w' := by
  have KP := kept_nob w p h
  clear h
  go_enter Try.func13, Try.ntmps13
  go_wp2_with fail
  refine KP.mono ?_
  rintro e w1 ⟨rfl, T, hb⟩
  have c0 := T.m.cells.1
  obtain ⟨v1, w2, W2, u, h1, ⟨hW2, cu, fz⟩, T2, C2, h4, A2, q2, hv2⟩ := T.grow (k := 3) (by decide) (by decide) 45
  have HEND : Hid (Below w.heap.size w W2) := ⟨C2.os.trans hb.os, C2.tape.trans hb.tape, C2.output.trans hb.output, Nat.le_trans hb.size C2.size, fun k hk => (C2.other k (Nat.lt_of_lt_of_le hk hb.size) (fun e => by
    rcases e with e | e | e
    · omega
    · simp [Value.ownBlock] at e
    · simp [Value.ownBlock] at e)).trans (hb.block k hk)⟩
  subst hv2
  clear KP T hb T2 C2 h4
  go_wp2_with (at_builtin; refine Lib.wpList_append_run _ rfl (.tmp 22) (.tmp 23) _ _ rfl _ _ rfl rfl _ _ h1 ?_)
  clear h1
  go_wp2
  go_end0
  exact ⟨rfl, HEND.out⟩
theorem nob15 : Nob15 where
  grow := fun p w h => nob_grow p w h
  back := fun p x w h _ => nob_back p x w h
  put := fun p x w h hx => nob_put p x w h hx
  deeper := fun p w h => nob_deeper p w h
  value := fun p x w h hx => value_k (nob_kept h) x hx
  level := fun p x w h _ => level_k (nob_kept h) x
  reason := fun p x w h _ => reason_k (nob_kept h) x
  lits := fun p w h => (lits_k (n := 0) (d := 0) (L := []) (fun W hW => nob_kept (h.below hW)) (by decide)).mono fun _ _ ⟨⟨_, h1, _, _⟩, hb⟩ => ⟨⟨_, _, h1⟩, hb⟩
  depth := fun p w h => depth_k (nob_kept h)
  len := fun p w h => len_k (nob_kept h)
  at_ := fun p x w h _ => by
    have := at_k (nob_kept h) x
    rwa [place_out (L := []) (by simp)] at this
theorem nobody_core (W : World) (x0 : Int) (lo0 : -9223372036854775808 ≤ x0) (hi0 : x0 ≤ 9223372036854775807) (x1 : Int) (lo1 : -9223372036854775808 ≤ x1) (hi1 : x1 ≤ 9223372036854775807) :
    Calls Try.prog 4 #[.int .i64 x0, .int .i64 x1] W fun e W' => e = .returned (.bool true) ∧ Below W.heap.size W W' :=
  nobody_walk nob15 (fun w => alive_any prog15 w) x0 x1 W ⟨lo0, hi0⟩ ⟨lo1, hi1⟩
end Go.Proofs.Ytomkdegajhijjaa.Tra
