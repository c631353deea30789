/- The walks of slices.Clone over a circuit's lists; no condition. -/
import Derived.Test.YtefhhldfelmnkaaOwnC
import Derived.Lib.SliceRun
namespace Go.Proofs.Ytefhhldfelmnkaa.Cw
open Go.ChangeShapes Go.WideShapes Go.ChangeAt Go.RowKit Go.Maps Circ

theorem own_empty (w : World) (base : Nat) (e : TypeId) (m : Nat) (hb : base ≤ w.heap.size) : OwnC (w.alloc (.cells #[] e)) base e m (.slice (some ⟨w.heap.size, 0, none⟩) 0 0) [] :=
  ⟨by simp, .inr ⟨w.heap.size, 0, #[], rfl, hb, Array.getElem?_push_size, Nat.le_refl _, by decide, by simp, by simp⟩⟩
theorem ints_len (l : List Int) : ∀ y ∈ ints l, y.length = 1 := fun y hy => by obtain ⟨x, _, rfl⟩ := List.mem_map.1 hy; rfl
theorem tris_len (l : List Tri) : ∀ y ∈ tris l, y.length = 3 := fun y hy => by obtain ⟨x, _, rfl⟩ := List.mem_map.1 hy; rfl
theorem nams_len (l : List Nam) : ∀ y ∈ nams l, y.length = 3 := fun y hy => by obtain ⟨x, _, rfl⟩ := List.mem_map.1 hy; rfl
theorem ints_one (l : List Int) : ∀ y ∈ ints l, ∀ u ∈ y, u.oneCell' = true := fun y hy u hu => by
  obtain ⟨x, _, rfl⟩ := List.mem_map.1 hy
  simp at hu; subst hu; rfl
theorem tris_one (l : List Tri) : ∀ y ∈ tris l, ∀ u ∈ y, u.oneCell' = true := fun y hy u hu => by
  obtain ⟨x, _, rfl⟩ := List.mem_map.1 hy
  simp [Tri.cells] at hu; rcases hu with rfl | rfl | rfl <;> rfl
theorem nams_one (l : List Nam) : ∀ y ∈ nams l, ∀ u ∈ y, u.oneCell' = true := fun y hy u hu => by
  obtain ⟨x, _, rfl⟩ := List.mem_map.1 hy
  simp [Nam.cells] at hu; rcases hu with rfl | rfl | rfl <;> rfl
theorem ints_length (l : List Int) : (ints l).length = l.length := by simp [ints]
theorem tris_length (l : List Tri) : (tris l).length = l.length := by simp [tris]
theorem nams_length (l : List Nam) : (nams l).length = l.length := by simp [nams]
theorem infoI : (Try.prog.info? 3).map (fun i => (i.zero, i.size, i.bytes)) = some (some (.int .i64 0), 1, 8) := by kernel_rfl
theorem infoL : (Try.prog.info? 47).map (fun i => (i.zero, i.size, i.bytes)) = some (some (.agg #[.int .i64 0, .int .i64 0, .int .i64 0]), 3, 24) := by kernel_rfl
theorem infoA : (Try.prog.info? 40).map (fun i => (i.zero, i.size, i.bytes)) = some (some (.agg #[.int .i64 0, .int .i64 0, .int .i64 0]), 3, 24) := by kernel_rfl
theorem infoN : (Try.prog.info? 45).map (fun i => (i.zero, i.size, i.bytes)) = some (some (.agg #[.string ⟨#[]⟩, .int .i64 0, .string ⟨#[]⟩]), 3, 40) := by kernel_rfl

set_option maxRecDepth 100000 in
set_option maxHeartbeats 1000000 in
theorem clone22_any (l : List Int) (A : Option Addr) (q : Nat) (w : World) (hr : LRow w w.heap.size 1 A (ints l)) (hl : l.length * 8 ≤ 140737488355328) :
    Calls Try.prog 22 #[.slice A l.length q] w fun e w' => (∃ v, e = .returned v ∧ OwnC w' w.heap.size 3 1 v (ints l)) ∧ Below w.heap.size w w' := by
  have qT : ∀ (w : World) (a : Option Addr) (n c n' c' : Nat), (binOp .eql 22 (.slice a n c) (.slice none n' c')).run Try.prog w = .ok (.bool a.isNone) w := fun w a n c n' c' => Lib.run_eql_slice_nil w _ _ a n c n' c' Try.underlying22
  rcases A with _ | ad
  · have h0 : l = [] := by
      rcases hr with h | ⟨b, o, h, _⟩
      · simpa [ints] using h
      · cases h
    subst h0
    go_enter Try.func22, Try.ntmps22
    go_wp2
    go_ret
    exact ⟨⟨_, rfl, OwnC.nil _ _ _ _⟩, Below.refl _ _⟩
  · have hb1 : Below w.heap.size w (w.alloc (.cells #[] 3)) := (Below.refl _ _).alloc (Nat.le_refl _) _
    have HO := Lib.hid (own_empty w w.heap.size 3 1 (Nat.le_refl _))
    have HR := Lib.hid (hr.below hb1)
    have HB := Lib.hid hb1
    have HL : Hid ((ints l).length * 8 ≤ 140737488355328) := by unfold Hid; rw [ints_length]; exact hl
    clear hr hb1
    go_enter Try.func22, Try.ntmps22
    go_wp2_with (at_builtin; refine wpList_fill _ rfl (.tmp 5) (.tmp 6) 22 rfl 3 1 8 _ Try.underlying22 infoI rfl (by decide) w.heap.size w.heap.size _ HO.out w.heap.size (ints l) rfl rfl (some ad) l.length q (ints_length l).symm rfl HR.out (ints_len l) (ints_one l) HL.out HB.out.size (by have := HL.out; omega) ?_)
    intro v' w' hown hg hloc
    have hb2 : Below w.heap.size w w' := HB.out.trans ⟨hg.os, hg.tape, hg.output, hg.size, fun k hk => hg.block k (by have := HB.out.size; omega) (fun e => by simp [Value.ownBlock] at e; omega)⟩
    have HOW := Lib.hid hown
    have HB2 := Lib.hid hb2
    clear hown hg hloc hb2
    go_wp2
    go_ret
    exact ⟨⟨_, rfl, HOW.out⟩, HB2.out⟩

set_option maxRecDepth 100000 in
set_option maxHeartbeats 1000000 in
theorem clone23_any (l : List Tri) (A : Option Addr) (q : Nat) (w : World) (hr : LRow w w.heap.size 3 A (tris l)) (hl : l.length * 24 ≤ 140737488355328) :
    Calls Try.prog 23 #[.slice A l.length q] w fun e w' => (∃ v, e = .returned v ∧ OwnC w' w.heap.size 47 3 v (tris l)) ∧ Below w.heap.size w w' := by
  have qT : ∀ (w : World) (a : Option Addr) (n c n' c' : Nat), (binOp .eql 23 (.slice a n c) (.slice none n' c')).run Try.prog w = .ok (.bool a.isNone) w := fun w a n c n' c' => Lib.run_eql_slice_nil w _ _ a n c n' c' Try.underlying23
  rcases A with _ | ad
  · have h0 : l = [] := by
      rcases hr with h | ⟨b, o, h, _⟩
      · simpa [tris] using h
      · cases h
    subst h0
    go_enter Try.func23, Try.ntmps23
    go_wp2
    go_ret
    exact ⟨⟨_, rfl, OwnC.nil _ _ _ _⟩, Below.refl _ _⟩
  · have hb1 : Below w.heap.size w (w.alloc (.cells #[] 47)) := (Below.refl _ _).alloc (Nat.le_refl _) _
    have HO := Lib.hid (own_empty w w.heap.size 47 3 (Nat.le_refl _))
    have HR := Lib.hid (hr.below hb1)
    have HB := Lib.hid hb1
    have HL : Hid ((tris l).length * 24 ≤ 140737488355328) := by unfold Hid; rw [tris_length]; exact hl
    clear hr hb1
    go_enter Try.func23, Try.ntmps23
    go_wp2_with (at_builtin; refine wpList_fill _ rfl (.tmp 5) (.tmp 6) 23 rfl 47 3 24 _ Try.underlying23 infoL rfl (by decide) w.heap.size w.heap.size _ HO.out w.heap.size (tris l) rfl rfl (some ad) l.length q (tris_length l).symm rfl HR.out (tris_len l) (tris_one l) HL.out HB.out.size (by have := HL.out; omega) ?_)
    intro v' w' hown hg hloc
    have hb2 : Below w.heap.size w w' := HB.out.trans ⟨hg.os, hg.tape, hg.output, hg.size, fun k hk => hg.block k (by have := HB.out.size; omega) (fun e => by simp [Value.ownBlock] at e; omega)⟩
    have HOW := Lib.hid hown
    have HB2 := Lib.hid hb2
    clear hown hg hloc hb2
    go_wp2
    go_ret
    exact ⟨⟨_, rfl, HOW.out⟩, HB2.out⟩

set_option maxRecDepth 100000 in
set_option maxHeartbeats 1000000 in
theorem clone24_any (l : List Tri) (A : Option Addr) (q : Nat) (w : World) (hr : LRow w w.heap.size 3 A (tris l)) (hl : l.length * 24 ≤ 140737488355328) :
    Calls Try.prog 24 #[.slice A l.length q] w fun e w' => (∃ v, e = .returned v ∧ OwnC w' w.heap.size 40 3 v (tris l)) ∧ Below w.heap.size w w' := by
  have qT : ∀ (w : World) (a : Option Addr) (n c n' c' : Nat), (binOp .eql 24 (.slice a n c) (.slice none n' c')).run Try.prog w = .ok (.bool a.isNone) w := fun w a n c n' c' => Lib.run_eql_slice_nil w _ _ a n c n' c' Try.underlying24
  rcases A with _ | ad
  · have h0 : l = [] := by
      rcases hr with h | ⟨b, o, h, _⟩
      · simpa [tris] using h
      · cases h
    subst h0
    go_enter Try.func24, Try.ntmps24
    go_wp2
    go_ret
    exact ⟨⟨_, rfl, OwnC.nil _ _ _ _⟩, Below.refl _ _⟩
  · have hb1 : Below w.heap.size w (w.alloc (.cells #[] 40)) := (Below.refl _ _).alloc (Nat.le_refl _) _
    have HO := Lib.hid (own_empty w w.heap.size 40 3 (Nat.le_refl _))
    have HR := Lib.hid (hr.below hb1)
    have HB := Lib.hid hb1
    have HL : Hid ((tris l).length * 24 ≤ 140737488355328) := by unfold Hid; rw [tris_length]; exact hl
    clear hr hb1
    go_enter Try.func24, Try.ntmps24
    go_wp2_with (at_builtin; refine wpList_fill _ rfl (.tmp 5) (.tmp 6) 24 rfl 40 3 24 _ Try.underlying24 infoA rfl (by decide) w.heap.size w.heap.size _ HO.out w.heap.size (tris l) rfl rfl (some ad) l.length q (tris_length l).symm rfl HR.out (tris_len l) (tris_one l) HL.out HB.out.size (by have := HL.out; omega) ?_)
    intro v' w' hown hg hloc
    have hb2 : Below w.heap.size w w' := HB.out.trans ⟨hg.os, hg.tape, hg.output, hg.size, fun k hk => hg.block k (by have := HB.out.size; omega) (fun e => by simp [Value.ownBlock] at e; omega)⟩
    have HOW := Lib.hid hown
    have HB2 := Lib.hid hb2
    clear hown hg hloc hb2
    go_wp2
    go_ret
    exact ⟨⟨_, rfl, HOW.out⟩, HB2.out⟩

set_option maxRecDepth 100000 in
set_option maxHeartbeats 1000000 in
theorem clone25_any (l : List Nam) (A : Option Addr) (q : Nat) (w : World) (hr : LRow w w.heap.size 3 A (nams l)) (hl : l.length * 40 ≤ 140737488355328) :
    Calls Try.prog 25 #[.slice A l.length q] w fun e w' => (∃ v, e = .returned v ∧ OwnC w' w.heap.size 45 3 v (nams l)) ∧ Below w.heap.size w w' := by
  have qT : ∀ (w : World) (a : Option Addr) (n c n' c' : Nat), (binOp .eql 25 (.slice a n c) (.slice none n' c')).run Try.prog w = .ok (.bool a.isNone) w := fun w a n c n' c' => Lib.run_eql_slice_nil w _ _ a n c n' c' Try.underlying25
  rcases A with _ | ad
  · have h0 : l = [] := by
      rcases hr with h | ⟨b, o, h, _⟩
      · simpa [nams] using h
      · cases h
    subst h0
    go_enter Try.func25, Try.ntmps25
    go_wp2
    go_ret
    exact ⟨⟨_, rfl, OwnC.nil _ _ _ _⟩, Below.refl _ _⟩
  · have hb1 : Below w.heap.size w (w.alloc (.cells #[] 45)) := (Below.refl _ _).alloc (Nat.le_refl _) _
    have HO := Lib.hid (own_empty w w.heap.size 45 3 (Nat.le_refl _))
    have HR := Lib.hid (hr.below hb1)
    have HB := Lib.hid hb1
    have HL : Hid ((nams l).length * 40 ≤ 140737488355328) := by unfold Hid; rw [nams_length]; exact hl
    clear hr hb1
    go_enter Try.func25, Try.ntmps25
    go_wp2_with (at_builtin; refine wpList_fill _ rfl (.tmp 5) (.tmp 6) 25 rfl 45 3 40 _ Try.underlying25 infoN rfl (by decide) w.heap.size w.heap.size _ HO.out w.heap.size (nams l) rfl rfl (some ad) l.length q (nams_length l).symm rfl HR.out (nams_len l) (nams_one l) HL.out HB.out.size (by have := HL.out; omega) ?_)
    intro v' w' hown hg hloc
    have hb2 : Below w.heap.size w w' := HB.out.trans ⟨hg.os, hg.tape, hg.output, hg.size, fun k hk => hg.block k (by have := HB.out.size; omega) (fun e => by simp [Value.ownBlock] at e; omega)⟩
    have HOW := Lib.hid hown
    have HB2 := Lib.hid hb2
    clear hown hg hloc hb2
    go_wp2
    go_ret
    exact ⟨⟨_, rfl, HOW.out⟩, HB2.out⟩
end Go.Proofs.Ytefhhldfelmnkaa.Cw
