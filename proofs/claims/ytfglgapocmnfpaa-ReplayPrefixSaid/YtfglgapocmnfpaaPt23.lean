/- The walks of slices.Clone over a circuit's lists; no condition. The operations of circuit.Copy's region, each run by itself; no condition. The region in which circuit.Copy makes a circuit of clones, in whatever order; no condition. The walk of the pages' Own: a circuit in memory of its own; no condition. -/
import Derived.Test.YtfglgapocmnfpaaPt14
import Derived.Lib.SliceRun
import Derived.Test.YtfglgapocmnfpaaPt13
namespace Go.Proofs.Ytfglgapocmnfpaa.Cw
open Go.ChangeShapes Go.WideShapes Go.ChangeAt Go.RowKit Go.Maps Circ

theorem own_empty (w : World) (base : Nat) (e : TypeId) (m : Nat) (hb : base ≤ w.heap.size) : OwnC (w.alloc (.cells #[] e)) base e m (.slice (some ⟨w.heap.size, 0, none⟩) 0 0) [] :=
  ⟨by simp, .inr ⟨w.heap.size, 0, #[], rfl, hb, Array.getElem?_push_size, Nat.le_refl _, by decide, by simp, by simp⟩⟩
theorem ints_len (l : List Int) : ∀ y ∈ ints l, y.length = 1 := fun y hy => by obtain ⟨x, _, rfl⟩ := List.mem_map.1 hy; rfl
theorem tris_len (l : List Tri) : ∀ y ∈ tris l, y.length = 3 := fun y hy => by obtain ⟨x, _, rfl⟩ := List.mem_map.1 hy; rfl
theorem nams_len (l : List Nam) : ∀ y ∈ nams l, y.length = 3 := fun y hy => by obtain ⟨x, _, rfl⟩ := List.mem_map.1 hy; rfl
theorem ints_one (l : List Int) : ∀ y ∈ ints l, ∀ u ∈ y, u.oneCell' = true := fun y hy u hu => by
  obtain ⟨x, _, rfl⟩ := List.mem_map.1 hy
  simp at hu; subst hu; rfl
theorem tris_one (l : List Tri) : ∀ y ∈ tris l, ∀ u ∈ y, u.oneCell' = true := fun y hy u hu => by
  obtain ⟨x, _, rfl⟩ := List.mem_map.1 hy
  simp [Tri.cells] at hu; rcases hu with rfl | rfl | rfl <;> rfl
theorem nams_one (l : List Nam) : ∀ y ∈ nams l, ∀ u ∈ y, u.oneCell' = true := fun y hy u hu => by
  obtain ⟨x, _, rfl⟩ := List.mem_map.1 hy
  simp [Nam.cells] at hu; rcases hu with rfl | rfl | rfl <;> rfl
theorem ints_length (l : List Int) : (ints l).length = l.length := by simp [ints]
theorem tris_length (l : List Tri) : (tris l).length = l.length := by simp [tris]
theorem nams_length (l : List Nam) : (nams l).length = l.length := by simp [nams]
theorem infoI : (Try.prog.info? 3).map (fun i => (i.zero, i.size, i.bytes)) = some (some (.int .i64 0), 1, 8) := by kernel_rfl
theorem infoL : (Try.prog.info? 39).map (fun i => (i.zero, i.size, i.bytes)) = some (some (.agg #[.int .i64 0, .int .i64 0, .int .i64 0]), 3, 24) := by kernel_rfl
theorem infoA : (Try.prog.info? 43).map (fun i => (i.zero, i.size, i.bytes)) = some (some (.agg #[.int .i64 0, .int .i64 0, .int .i64 0]), 3, 24) := by kernel_rfl
theorem infoN : (Try.prog.info? 85).map (fun i => (i.zero, i.size, i.bytes)) = some (some (.agg #[.string ⟨#[]⟩, .int .i64 0, .string ⟨#[]⟩]), 3, 40) := by kernel_rfl

set_option maxRecDepth 100000 in
set_option maxHeartbeats 1000000 in
theorem clone22_any (l : List Int) (A : Option Addr) (q : Nat) (w : World) (hr : LRow w w.heap.size 1 A (ints l)) (hl : l.length * 8 ≤ 140737488355328) :
    Calls Try.prog 87 #[.slice A l.length q] w fun e w' => (∃ v, e = .returned v ∧ OwnC w' w.heap.size 3 1 v (ints l)) ∧ Below w.heap.size w w' := by
  have qT : ∀ (w : World) (a : Option Addr) (n c n' c' : Nat), (binOp .eql 22 (.slice a n c) (.slice none n' c')).run Try.prog w = .ok (.bool a.isNone) w := fun w a n c n' c' => Lib.run_eql_slice_nil w _ _ a n c n' c' Try.underlying22
  rcases A with _ | ad
  · have h0 : l = [] := by
      rcases hr with h | ⟨b, o, h, _⟩
      · simpa [ints] using h
      · cases h
    subst h0
    go_enter Try.func87, Try.ntmps87
    go_wp2
    go_ret
    exact ⟨⟨_, rfl, OwnC.nil _ _ _ _⟩, Below.refl _ _⟩
  · have hb1 : Below w.heap.size w (w.alloc (.cells #[] 3)) := (Below.refl _ _).alloc (Nat.le_refl _) _
    have HO := Lib.hid (own_empty w w.heap.size 3 1 (Nat.le_refl _))
    have HR := Lib.hid (hr.below hb1)
    have HB := Lib.hid hb1
    have HL : Hid ((ints l).length * 8 ≤ 140737488355328) := by unfold Hid; rw [ints_length]; exact hl
    clear hr hb1
    go_enter Try.func87, Try.ntmps87
    go_wp2_with (at_builtin; refine wpList_fill _ rfl (.tmp 5) (.tmp 6) 22 rfl 3 1 8 _ Try.underlying22 infoI rfl (by decide) w.heap.size w.heap.size _ HO.out w.heap.size (ints l) rfl rfl (some ad) l.length q (ints_length l).symm rfl HR.out (ints_len l) (ints_one l) HL.out HB.out.size (by have := HL.out; omega) ?_)
    intro v' w' hown hg hloc
    have hb2 : Below w.heap.size w w' := HB.out.trans ⟨hg.os, hg.tape, hg.output, hg.size, fun k hk => hg.block k (by have := HB.out.size; omega) (fun e => by simp [Value.ownBlock] at e; omega)⟩
    have HOW := Lib.hid hown
    have HB2 := Lib.hid hb2
    clear hown hg hloc hb2
    go_wp2
    go_ret
    exact ⟨⟨_, rfl, HOW.out⟩, HB2.out⟩

set_option maxRecDepth 100000 in
set_option maxHeartbeats 1000000 in
theorem clone23_any (l : List Tri) (A : Option Addr) (q : Nat) (w : World) (hr : LRow w w.heap.size 3 A (tris l)) (hl : l.length * 24 ≤ 140737488355328) :
    Calls Try.prog 88 #[.slice A l.length q] w fun e w' => (∃ v, e = .returned v ∧ OwnC w' w.heap.size 39 3 v (tris l)) ∧ Below w.heap.size w w' := by
  have qT : ∀ (w : World) (a : Option Addr) (n c n' c' : Nat), (binOp .eql 23 (.slice a n c) (.slice none n' c')).run Try.prog w = .ok (.bool a.isNone) w := fun w a n c n' c' => Lib.run_eql_slice_nil w _ _ a n c n' c' Try.underlying23
  rcases A with _ | ad
  · have h0 : l = [] := by
      rcases hr with h | ⟨b, o, h, _⟩
      · simpa [tris] using h
      · cases h
    subst h0
    go_enter Try.func88, Try.ntmps88
    go_wp2
    go_ret
    exact ⟨⟨_, rfl, OwnC.nil _ _ _ _⟩, Below.refl _ _⟩
  · have hb1 : Below w.heap.size w (w.alloc (.cells #[] 39)) := (Below.refl _ _).alloc (Nat.le_refl _) _
    have HO := Lib.hid (own_empty w w.heap.size 39 3 (Nat.le_refl _))
    have HR := Lib.hid (hr.below hb1)
    have HB := Lib.hid hb1
    have HL : Hid ((tris l).length * 24 ≤ 140737488355328) := by unfold Hid; rw [tris_length]; exact hl
    clear hr hb1
    go_enter Try.func88, Try.ntmps88
    go_wp2_with (at_builtin; refine wpList_fill _ rfl (.tmp 5) (.tmp 6) 23 rfl 39 3 24 _ Try.underlying23 infoL rfl (by decide) w.heap.size w.heap.size _ HO.out w.heap.size (tris l) rfl rfl (some ad) l.length q (tris_length l).symm rfl HR.out (tris_len l) (tris_one l) HL.out HB.out.size (by have := HL.out; omega) ?_)
    intro v' w' hown hg hloc
    have hb2 : Below w.heap.size w w' := HB.out.trans ⟨hg.os, hg.tape, hg.output, hg.size, fun k hk => hg.block k (by have := HB.out.size; omega) (fun e => by simp [Value.ownBlock] at e; omega)⟩
    have HOW := Lib.hid hown
    have HB2 := Lib.hid hb2
    clear hown hg hloc hb2
    go_wp2
    go_ret
    exact ⟨⟨_, rfl, HOW.out⟩, HB2.out⟩

set_option maxRecDepth 100000 in
set_option maxHeartbeats 1000000 in
theorem clone24_any (l : List Tri) (A : Option Addr) (q : Nat) (w : World) (hr : LRow w w.heap.size 3 A (tris l)) (hl : l.length * 24 ≤ 140737488355328) :
    Calls Try.prog 89 #[.slice A l.length q] w fun e w' => (∃ v, e = .returned v ∧ OwnC w' w.heap.size 43 3 v (tris l)) ∧ Below w.heap.size w w' := by
  have qT : ∀ (w : World) (a : Option Addr) (n c n' c' : Nat), (binOp .eql 24 (.slice a n c) (.slice none n' c')).run Try.prog w = .ok (.bool a.isNone) w := fun w a n c n' c' => Lib.run_eql_slice_nil w _ _ a n c n' c' Try.underlying24
  rcases A with _ | ad
  · have h0 : l = [] := by
      rcases hr with h | ⟨b, o, h, _⟩
      · simpa [tris] using h
      · cases h
    subst h0
    go_enter Try.func89, Try.ntmps89
    go_wp2
    go_ret
    exact ⟨⟨_, rfl, OwnC.nil _ _ _ _⟩, Below.refl _ _⟩
  · have hb1 : Below w.heap.size w (w.alloc (.cells #[] 43)) := (Below.refl _ _).alloc (Nat.le_refl _) _
    have HO := Lib.hid (own_empty w w.heap.size 43 3 (Nat.le_refl _))
    have HR := Lib.hid (hr.below hb1)
    have HB := Lib.hid hb1
    have HL : Hid ((tris l).length * 24 ≤ 140737488355328) := by unfold Hid; rw [tris_length]; exact hl
    clear hr hb1
    go_enter Try.func89, Try.ntmps89
    go_wp2_with (at_builtin; refine wpList_fill _ rfl (.tmp 5) (.tmp 6) 24 rfl 43 3 24 _ Try.underlying24 infoA rfl (by decide) w.heap.size w.heap.size _ HO.out w.heap.size (tris l) rfl rfl (some ad) l.length q (tris_length l).symm rfl HR.out (tris_len l) (tris_one l) HL.out HB.out.size (by have := HL.out; omega) ?_)
    intro v' w' hown hg hloc
    have hb2 : Below w.heap.size w w' := HB.out.trans ⟨hg.os, hg.tape, hg.output, hg.size, fun k hk => hg.block k (by have := HB.out.size; omega) (fun e => by simp [Value.ownBlock] at e; omega)⟩
    have HOW := Lib.hid hown
    have HB2 := Lib.hid hb2
    clear hown hg hloc hb2
    go_wp2
    go_ret
    exact ⟨⟨_, rfl, HOW.out⟩, HB2.out⟩

set_option maxRecDepth 100000 in
set_option maxHeartbeats 1000000 in
theorem clone25_any (l : List Nam) (A : Option Addr) (q : Nat) (w : World) (hr : LRow w w.heap.size 3 A (nams l)) (hl : l.length * 40 ≤ 140737488355328) :
    Calls Try.prog 90 #[.slice A l.length q] w fun e w' => (∃ v, e = .returned v ∧ OwnC w' w.heap.size 85 3 v (nams l)) ∧ Below w.heap.size w w' := by
  have qT : ∀ (w : World) (a : Option Addr) (n c n' c' : Nat), (binOp .eql 25 (.slice a n c) (.slice none n' c')).run Try.prog w = .ok (.bool a.isNone) w := fun w a n c n' c' => Lib.run_eql_slice_nil w _ _ a n c n' c' Try.underlying25
  rcases A with _ | ad
  · have h0 : l = [] := by
      rcases hr with h | ⟨b, o, h, _⟩
      · simpa [nams] using h
      · cases h
    subst h0
    go_enter Try.func90, Try.ntmps90
    go_wp2
    go_ret
    exact ⟨⟨_, rfl, OwnC.nil _ _ _ _⟩, Below.refl _ _⟩
  · have hb1 : Below w.heap.size w (w.alloc (.cells #[] 85)) := (Below.refl _ _).alloc (Nat.le_refl _) _
    have HO := Lib.hid (own_empty w w.heap.size 85 3 (Nat.le_refl _))
    have HR := Lib.hid (hr.below hb1)
    have HB := Lib.hid hb1
    have HL : Hid ((nams l).length * 40 ≤ 140737488355328) := by unfold Hid; rw [nams_length]; exact hl
    clear hr hb1
    go_enter Try.func90, Try.ntmps90
    go_wp2_with (at_builtin; refine wpList_fill _ rfl (.tmp 5) (.tmp 6) 25 rfl 85 3 40 _ Try.underlying25 infoN rfl (by decide) w.heap.size w.heap.size _ HO.out w.heap.size (nams l) rfl rfl (some ad) l.length q (nams_length l).symm rfl HR.out (nams_len l) (nams_one l) HL.out HB.out.size (by have := HL.out; omega) ?_)
    intro v' w' hown hg hloc
    have hb2 : Below w.heap.size w w' := HB.out.trans ⟨hg.os, hg.tape, hg.output, hg.size, fun k hk => hg.block k (by have := HB.out.size; omega) (fun e => by simp [Value.ownBlock] at e; omega)⟩
    have HOW := Lib.hid hown
    have HB2 := Lib.hid hb2
    clear hown hg hloc hb2
    go_wp2
    go_ret
    exact ⟨⟨_, rfl, HOW.out⟩, HB2.out⟩
end Go.Proofs.Ytfglgapocmnfpaa.Cw
namespace Go.Proofs.Ytfglgapocmnfpaa.Cpy
open Go.ChangeShapes Go.WideShapes Go.ChangeAt Go.RowKit Go.Maps Circ Cw
theorem wp_val {P : Program} {o : Oper} {a : Act} {w w' : World} {K : Act → World → Prop} {Q : Exit → Act → World → Prop} {v : Value} (h : (execOp a.eval o).run P w = .ok (.value v) w') (hk : K (a.put o.dst v) w') : o.wp P a w K Q := by
  unfold Oper.wp; rw [h]; exact hk
theorem wp_skip {P : Program} {o : Oper} {a : Act} {w w' : World} {K : Act → World → Prop} {Q : Exit → Act → World → Prop} (h : (execOp a.eval o).run P w = .ok .skip w') (hk : K (a.put o.dst undef) w') : o.wp P a w K Q := by
  unfold Oper.wp; rw [h]; exact hk
theorem wp_enter {P : Program} {o : Oper} {a : Act} {w w' : World} {K : Act → World → Prop} {Q : Exit → Act → World → Prop} {f : FuncId} {args : Array Value} (h : (execOp a.eval o).run P w = .ok (.enter f args) w') (hk : Calls P f args w' fun e w'' => ∃ v, e = .returned v ∧ K (a.put o.dst v) w'') : o.wp P a w K Q := by
  unfold Oper.wp; rw [h]
  refine hk.mono ?_
  rintro e w'' ⟨v, rfl, h⟩
  exact h
theorem op_field (a : Act) (w : World) (B k : Nat) (t : Nat) (hk : k < 8) (h : a.tmps.getD t undef = .pointer (some ⟨B, 0, none⟩)) (o : Oper) (ho : o.op = .fieldAddr 27 (.tmp t) k) : (execOp a.eval o).run Try.prog w = .ok (.value (.pointer (some ⟨B, k, none⟩))) w := by
  have h' : a.tmps[t]?.getD undef = .pointer (some ⟨B, 0, none⟩) := by simpa using h
  unfold execOp
  rw [ho]
  match k, hk with
  | 0, _ => go_simp
  | 1, _ => go_simp
  | 2, _ => go_simp
  | 3, _ => go_simp
  | 4, _ => go_simp
  | 5, _ => go_simp
  | 6, _ => go_simp
  | 7, _ => go_simp
theorem op_load (a : Act) (w : World) (A : Addr) (t T : Nat) (v : Value) (h : a.tmps.getD t undef = .pointer (some A)) (hc : w.cell? A = some v) (o : Oper) (hT : T = 22 ∨ T = 3 ∨ T = 23 ∨ T = 24 ∨ T = 25 ∨ T = 9) (ho : o.op = .load T (.tmp t)) : (execOp a.eval o).run Try.prog w = .ok (.value v) w := by
  have h' : a.tmps[t]?.getD undef = .pointer (some A) := by simpa using h
  unfold execOp
  rw [ho]
  rcases hT with rfl | rfl | rfl | rfl | rfl | rfl <;> go_simp
theorem op_call (a : Act) (w : World) (f t T : Nat) (hf : ∀ args w, (callFunc f args).run Try.prog w = .ok (.enter f args) w) (o : Oper) (ho : o.op = .call { callee := .value (.func f), args := #[.tmp t], argTypes := #[T] }) : (execOp a.eval o).run Try.prog w = .ok (.enter f #[a.tmps.getD t undef]) w := by
  unfold execOp
  rw [ho]
  go_simp
theorem op_build (a : Act) (w : World) (m : Int) (A1 A2 A3 A4 A5 A6 A7 : Option Addr) (n1 n2 n3 n4 n5 n6 n7 q1 q2 q3 q4 q5 q6 q7 : Nat) (h7 : a.tmps.getD 7 undef = .int .i64 m) (h10 : a.tmps.getD 10 undef = .slice A1 n1 q1) (h13 : a.tmps.getD 13 undef = .slice A2 n2 q2) (h16 : a.tmps.getD 16 undef = .slice A3 n3 q3) (h19 : a.tmps.getD 19 undef = .slice A4 n4 q4) (h22 : a.tmps.getD 22 undef = .slice A5 n5 q5) (h25 : a.tmps.getD 25 undef = .slice A6 n6 q6) (h28 : a.tmps.getD 28 undef = .slice A7 n7 q7)
    (o : Oper) (ho : o.op = .build 27 #[(0, .tmp 7), (1, .tmp 10), (2, .tmp 13), (3, .tmp 16), (4, .tmp 19), (5, .tmp 22), (6, .tmp 25), (7, .tmp 28)]) : (execOp a.eval o).run Try.prog w = .ok (.value (.agg #[.int .i64 m, .slice A1 n1 q1, .slice A2 n2 q2, .slice A3 n3 q3, .slice A4 n4 q4, .slice A5 n5 q5, .slice A6 n6 q6, .slice A7 n7 q7])) w := by
  unfold execOp
  rw [ho]
  have g7 : a.tmps[7]?.getD undef = .int .i64 m := by simpa using h7
  have g10 : a.tmps[10]?.getD undef = .slice A1 n1 q1 := by simpa using h10
  have g13 : a.tmps[13]?.getD undef = .slice A2 n2 q2 := by simpa using h13
  have g16 : a.tmps[16]?.getD undef = .slice A3 n3 q3 := by simpa using h16
  have g19 : a.tmps[19]?.getD undef = .slice A4 n4 q4 := by simpa using h19
  have g22 : a.tmps[22]?.getD undef = .slice A5 n5 q5 := by simpa using h22
  have g25 : a.tmps[25]?.getD undef = .slice A6 n6 q6 := by simpa using h25
  have g28 : a.tmps[28]?.getD undef = .slice A7 n7 q7 := by simpa using h28
  clear h7 h10 h13 h16 h19 h22 h25 h28
  go_simp
/-- w' is w but for block g -/
structure But (g : Nat) (w w' : World) : Prop where
  b : ∀ k, k ≠ g → w'.heap[k]? = w.heap[k]?
  z : w'.heap.size = w.heap.size
  os : w'.os = w.os
  tape : w'.tape = w.tape
  output : w'.output = w.output
theorem But.trans {g : Nat} {a b c : World} (h : But g a b) (k : But g b c) : But g a c := ⟨fun i hi => (k.b i hi).trans (h.b i hi), k.z.trans h.z, k.os.trans h.os, k.tape.trans h.tape, k.output.trans h.output⟩
theorem But.set (w : World) (g i : Nat) (v : Value) : But g w (w.setCell ⟨g, i, none⟩ v) := ⟨fun _ hk => Below.heap_setCell _ _ _ _ hk, by simp [World.setCell], rfl, rfl, rfl⟩
theorem store_at {P : Program} {w : World} {g : Nat} {z : Array Value} {e : TypeId} (hg : w.heap[g]? = some (.cells z e (0, 0))) (i : Nat) (v : Value) (hv : v.oneCell' = true) (hi : i < z.size) : ∃ w', (store ⟨g, i, none⟩ v).run P w = .ok () w' ∧ w'.heap[g]? = some (.cells (z.setIfInBounds i v) e (0, 0)) ∧ But g w w' := by
  refine ⟨w.setCell ⟨g, i, none⟩ v, ?_, by simp [World.setCell, Array.getElem?_modify, hg], But.set w g i v⟩
  rw [run_store P w _ v _ hv]
  simp [World.frozen?, World.cell?, hg, hi]
theorem set8 (z : Array Value) (hz : z.size = 8) (x0 x1 x2 x3 x4 x5 x6 x7 : Value) : (((((((z.setIfInBounds 0 x0).setIfInBounds 1 x1).setIfInBounds 2 x2).setIfInBounds 3 x3).setIfInBounds 4 x4).setIfInBounds 5 x5).setIfInBounds 6 x6).setIfInBounds 7 x7 = #[x0, x1, x2, x3, x4, x5, x6, x7] := by
  obtain ⟨l⟩ := z
  have hz' : l.length = 8 := by simpa using hz
  clear hz
  rcases l with _ | ⟨a0, l⟩ <;> simp only [List.length_cons, List.length_nil] at hz'
  · omega
  rcases l with _ | ⟨a1, l⟩ <;> simp only [List.length_cons, List.length_nil] at hz'
  · omega
  rcases l with _ | ⟨a2, l⟩ <;> simp only [List.length_cons, List.length_nil] at hz'
  · omega
  rcases l with _ | ⟨a3, l⟩ <;> simp only [List.length_cons, List.length_nil] at hz'
  · omega
  rcases l with _ | ⟨a4, l⟩ <;> simp only [List.length_cons, List.length_nil] at hz'
  · omega
  rcases l with _ | ⟨a5, l⟩ <;> simp only [List.length_cons, List.length_nil] at hz'
  · omega
  rcases l with _ | ⟨a6, l⟩ <;> simp only [List.length_cons, List.length_nil] at hz'
  · omega
  rcases l with _ | ⟨a7, l⟩ <;> simp only [List.length_cons, List.length_nil] at hz'
  · omega
  obtain rfl : l = [] := List.eq_nil_of_length_eq_zero (by omega)
  simp
theorem op_store (a : Act) (w : World) (g : Nat) (z : Array Value) (hg : w.heap[g]? = some (.cells z 27 (0, 0))) (hz : z.size = 8) (m : Int) (A1 A2 A3 A4 A5 A6 A7 : Option Addr) (n1 n2 n3 n4 n5 n6 n7 q1 q2 q3 q4 q5 q6 q7 : Nat) (h3 : a.tmps.getD 3 undef = .pointer (some ⟨g, 0, none⟩)) (h29 : a.tmps.getD 29 undef = .agg #[.int .i64 m, .slice A1 n1 q1, .slice A2 n2 q2, .slice A3 n3 q3, .slice A4 n4 q4, .slice A5 n5 q5, .slice A6 n6 q6, .slice A7 n7 q7]) (o : Oper) (ho : o.op = .store 27 (.tmp 3) (.tmp 29)) : ∃ w', (execOp a.eval o).run Try.prog w = .ok .skip w' ∧ w'.heap[g]? = some (.cells #[.int .i64 m, .slice A1 n1 q1, .slice A2 n2 q2, .slice A3 n3 q3, .slice A4 n4 q4, .slice A5 n5 q5, .slice A6 n6 q6, .slice A7 n7 q7] 27 (0, 0)) ∧ But g w w' := by
  obtain ⟨w0, r0, g0, b0⟩ := store_at (P := Try.prog) hg 0 (.int .i64 m) rfl (by omega)
  obtain ⟨w1, r1, g1, b1⟩ := store_at (P := Try.prog) g0 1 (.slice A1 n1 q1) rfl (by simp; omega)
  obtain ⟨w2, r2, g2, b2⟩ := store_at (P := Try.prog) g1 2 (.slice A2 n2 q2) rfl (by simp; omega)
  obtain ⟨w3, r3, g3, b3⟩ := store_at (P := Try.prog) g2 3 (.slice A3 n3 q3) rfl (by simp; omega)
  obtain ⟨w4, r4, g4, b4⟩ := store_at (P := Try.prog) g3 4 (.slice A4 n4 q4) rfl (by simp; omega)
  obtain ⟨w5, r5, g5, b5⟩ := store_at (P := Try.prog) g4 5 (.slice A5 n5 q5) rfl (by simp; omega)
  obtain ⟨w6, r6, g6, b6⟩ := store_at (P := Try.prog) g5 6 (.slice A6 n6 q6) rfl (by simp; omega)
  obtain ⟨w7, r7, g7, b7⟩ := store_at (P := Try.prog) g6 7 (.slice A7 n7 q7) rfl (by simp; omega)
  rw [set8 z hz] at g7
  refine ⟨w7, ?_, g7, b0.trans (b1.trans (b2.trans (b3.trans (b4.trans (b5.trans (b6.trans b7))))))⟩
  unfold execOp
  rw [ho]
  have p3 : a.tmps[3]?.getD undef = .pointer (some ⟨g, 0, none⟩) := by simpa using h3
  have p29 : a.tmps[29]?.getD undef = .agg #[.int .i64 m, .slice A1 n1 q1, .slice A2 n2 q2, .slice A3 n3 q3, .slice A4 n4 q4, .slice A5 n5 q5, .slice A6 n6 q6, .slice A7 n7 q7] := by simpa using h29
  clear h3 h29 hg hz g0 g1 g2 g3 g4 g5 g6 g7
  simp only [run_store_int, run_store_slice, stored] at r0 r1 r2 r3 r4 r5 r6 r7
  go_simp
theorem op_alloc (a : Act) (w : World) (o : Oper) (ho : o.op = .alloc 27) : (execOp a.eval o).run Try.prog w = .ok (.value (.pointer (some ⟨w.heap.size, 0, none⟩))) (w.alloc (.cells #[.int .i64 0, .slice none 0 0, .slice none 0 0, .slice none 0 0, .slice none 0 0, .slice none 0 0, .slice none 0 0, .slice none 0 0] 27)) := by
  unfold execOp
  rw [ho]
  go_simp
end Go.Proofs.Ytfglgapocmnfpaa.Cpy
namespace Go.Proofs.Ytfglgapocmnfpaa.Cpy
open Go.ChangeShapes Go.WideShapes Go.ChangeAt Go.RowKit Go.Maps Circ Cw

theorem _root_.Go.Proofs.Ytfglgapocmnfpaa.Cw.OwnC.base {w : World} {base base' : Nat} {e : TypeId} {m : Nat} {v : Value} {xs : List (List Value)} (h : OwnC w base e m v xs) (hb : base' ≤ base) : OwnC w base' e m v xs := by
  obtain ⟨h0, h⟩ := h
  refine ⟨h0, ?_⟩
  rcases h with h | ⟨g, cap, cur, hv, hg, r⟩
  · exact .inl h
  · exact .inr ⟨g, cap, cur, hv, Nat.le_trans hb hg, r⟩
theorem _root_.Go.Proofs.Ytfglgapocmnfpaa.Cw.OwnC.type {w : World} {base : Nat} {e : TypeId} {m : Nat} {v : Value} {xs : List (List Value)} (h : OwnC w base e m v xs) {g : Nat} (hg : v.ownBlock = some g) : ∃ cur, w.heap[g]? = some (.cells cur e (0, 0)) := by
  obtain ⟨_, h⟩ := h
  rcases h with ⟨rfl, h0⟩ | ⟨g', cap, cur, rfl, hb, hh, _⟩
  · simp [Value.ownBlock] at hg
  · have : g' = g := by simpa [Value.ownBlock] using hg
    subst this
    exact ⟨cur, hh⟩
/-- a store into a block of another type leaves it -/
theorem _root_.Go.Proofs.Ytfglgapocmnfpaa.Cw.OwnC.but {w w' : World} {base : Nat} {e : TypeId} {m : Nat} {v : Value} {xs : List (List Value)} (h : OwnC w base e m v xs) {g : Nat} {z : Array Value} (hg : w.heap[g]? = some (.cells z 27 (0, 0))) (he : e ≠ 27) (hb : But g w w') : OwnC w' base e m v xs :=
  h.keep_at fun k _ hk => hb.b k (by
    rintro rfl
    obtain ⟨cur, hc⟩ := h.type hk
    rw [hg] at hc
    injection hc with hc
    injection hc with _ hc
    exact he hc.symm)

def Cl (w : World) (N : Nat) (e : TypeId) (m : Nat) (xs : List (List Value)) (v : Value) : Prop := OwnC w N e m v xs
def Fr (w : World) (N : Nat) (v : Value) : Prop := ∃ g z, v = .pointer (some ⟨g, 0, none⟩) ∧ N ≤ g ∧ w.heap[g]? = some (.cells z 27 (0, 0)) ∧ z.size = 8
def Bl (f : Nat → Value) : Prop := f 29 = .agg #[f 7, f 10, f 13, f 16, f 19, f 22, f 25, f 28] ∧ (∃ m, f 7 = .int .i64 m) ∧ (∃ A n q, f 10 = .slice A n q) ∧ (∃ A n q, f 13 = .slice A n q) ∧ (∃ A n q, f 16 = .slice A n q) ∧ (∃ A n q, f 19 = .slice A n q) ∧ (∃ A n q, f 22 = .slice A n q) ∧ (∃ A n q, f 25 = .slice A n q) ∧ (∃ A n q, f 28 = .slice A n q)
def Fi (w : World) (N : Nat) (p v : Value) : Prop := ∃ g z, p = .pointer (some ⟨g, 0, none⟩) ∧ N ≤ g ∧ w.heap[g]? = some (.cells z 27 (0, 0)) ∧ v = .agg z
theorem But.below {N g : Nat} {W w w' : World} (h : Below N W w) (hb : But g w w') (hg : N ≤ g) : Below N W w' :=
  ⟨hb.os.trans h.os, hb.tape.trans h.tape, hb.output.trans h.output, by rw [hb.z]; exact h.size, fun k hk => (hb.b k (by omega)).trans (h.block k hk)⟩
/-- what operation j leaves -/
def copyR (B N : Nat) (c : Cir) (s : Places) : Nat → (Nat → Value) → World → Prop
  | 0, f, _ => f 6 = .pointer (some ⟨B, 0, none⟩)
  | 1, f, _ => f 7 = .int .i64 c.max
  | 2, f, _ => f 8 = .pointer (some ⟨B, 1, none⟩)
  | 3, f, _ => f 9 = .slice s.ai c.ins.length s.ki
  | 4, f, w => Cl w N 3 1 (ints c.ins) (f 10)
  | 5, f, _ => f 11 = .pointer (some ⟨B, 2, none⟩)
  | 6, f, _ => f 12 = .slice s.al c.lats.length s.kl
  | 7, f, w => Cl w N 39 3 (tris c.lats) (f 13)
  | 8, f, _ => f 14 = .pointer (some ⟨B, 3, none⟩)
  | 9, f, _ => f 15 = .slice s.ao c.outs.length s.ko
  | 10, f, w => Cl w N 3 1 (ints c.outs) (f 16)
  | 11, f, _ => f 17 = .pointer (some ⟨B, 4, none⟩)
  | 12, f, _ => f 18 = .slice s.ab c.bads.length s.kb
  | 13, f, w => Cl w N 3 1 (ints c.bads) (f 19)
  | 14, f, _ => f 20 = .pointer (some ⟨B, 5, none⟩)
  | 15, f, _ => f 21 = .slice s.ac c.invs.length s.kc
  | 16, f, w => Cl w N 3 1 (ints c.invs) (f 22)
  | 17, f, _ => f 23 = .pointer (some ⟨B, 6, none⟩)
  | 18, f, _ => f 24 = .slice s.aa c.ands.length s.ka
  | 19, f, w => Cl w N 43 3 (tris c.ands) (f 25)
  | 20, f, _ => f 26 = .pointer (some ⟨B, 7, none⟩)
  | 21, f, _ => f 27 = .slice s.an c.names.length s.kn
  | 22, f, w => Cl w N 85 3 (nams c.names) (f 28)
  | 23, f, _ => Bl f
  | 24, f, w => Fr w N (f 3)
  | 25, f, w => Fi w N (f 3) (f 29)
  | _, _, _ => True
def copyM : Nat → List Nat
  | 0 => [6] | 1 => [7] | 2 => [8] | 3 => [9] | 4 => [10] | 5 => [11] | 6 => [12] | 7 => [13] | 8 => [14] | 9 => [15] | 10 => [16] | 11 => [17] | 12 => [18] | 13 => [19] | 14 => [20]
  | 15 => [21] | 16 => [22] | 17 => [23] | 18 => [24] | 19 => [25] | 20 => [26] | 21 => [27] | 22 => [28] | 23 => [29, 7, 10, 13, 16, 19, 22, 25, 28] | 24 => [3] | 25 => [3, 29] | _ => []
theorem copy_stab {B N : Nat} {c : Cir} {s : Places} (j : Nat) {f f' : Nat → Value} {w w' : World} (hb : Below w.heap.size w w') (hf : ∀ t ∈ copyM j, f' t = f t) (h : copyR B N c s j f w) : copyR B N c s j f' w' := by
  unfold copyR at h ⊢
  unfold copyM at hf
  split at h
  all_goals simp only [List.mem_cons, List.not_mem_nil, or_false, forall_eq_or_imp, forall_eq] at hf ⊢
  all_goals first
    | trivial
    | (rw [hf]; exact h)
    | (rw [hf]; exact OwnC.keep h hb)
    | (unfold Bl at h ⊢; obtain ⟨h1, h2, h3, h4, h5, h6, h7, h8, h9⟩ := hf; rw [h1, h2, h3, h4, h5, h6, h7, h8, h9]; exact h)
    | (rw [hf]; obtain ⟨g, z, h1, h2, h3, h4⟩ := h; exact ⟨g, z, h1, h2, (hb.block g (Array.getElem?_eq_some_iff.1 h3).1).trans h3, h4⟩)
    | (rw [hf.1, hf.2]; obtain ⟨g, z, h1, h2, h3, h4⟩ := h; exact ⟨g, z, h1, h2, (hb.block g (Array.getElem?_eq_some_iff.1 h3).1).trans h3, h4⟩)
theorem copy_stab25 {B N : Nat} {c : Cir} {s : Places} (j : Nat) {f : Nat → Value} {w w' : World} {g : Nat} {z z' : Array Value} (hg : w.heap[g]? = some (.cells z 27 (0, 0))) (hg' : w'.heap[g]? = some (.cells z' 27 (0, 0))) (hz : z'.size = 8) (hb : But g w w') (hj : j ≠ 25) (h : copyR B N c s j f w) : copyR B N c s j f w' := by
  unfold copyR at h ⊢
  split at h
  all_goals (try simp only at h ⊢)
  all_goals first
    | trivial
    | exact h
    | exact OwnC.but h hg (by decide) hb
    | exact absurd rfl hj
    | skip
  obtain ⟨g1, z1, h1, h2, h3, h4⟩ := h
  by_cases he : g1 = g
  · subst he
    exact ⟨g1, z', h1, h2, hg', hz⟩
  · exact ⟨g1, z1, h1, h2, (hb.b g1 he).trans h3, h4⟩

def vals (a : Act) : Nat → Value := fun t => a.tmps.getD t undef
def dependsB (o : Oper) (k : Nat) : Bool := o.after.any fun e => Region.binds .any e && decide (e.on = k)
def mentOk (ops : Array Oper) (ment : Nat → List Nat) : Bool := (List.range ops.size).all fun i => (List.range ops.size).all fun j => match ops[i]?, ops[j]? with
  | some oi, some oj => decide (i = j) || (dependsB oj i || (match oi.dst with
    | some t => !(ment j).contains t
    | none => true))
  | _, _ => true
def dstsIn (ops : Array Oper) (n : Nat) : Bool := ops.all fun o => match o.dst with
  | some t => decide (t < n)
  | none => true

theorem wp_region_vals {P : Program} {id : Nat} {ops : Array Oper} {Q : Exit → Act → World → Prop} {a : Act} {w : World} (hm : P.follows .mixedOrders = true) (hu : upward ops = true)
    (ment : Nat → List Nat) (hment : mentOk ops ment = true) (hdst : dstsIn ops a.tmps.size = true) (Ok : World → Prop) (R : Nat → (Nat → Value) → World → Prop) (h0 : Ok w.drew)
    (hout : ∀ j f w, ops.size ≤ j → R j f w)
    (hstab : ∀ j f f' w w', Below w.heap.size w w' → (∀ t ∈ ment j, f' t = f t) → R j f w → R j f' w')
    (hstep : ∀ (i : Nat) (o : Oper) (a' : Act) (w' : World), ops[i]? = some o → Kept ops a a' → Ok w' → (∀ k, dependsB o k = true → R k (vals a') w') →
      ∀ K : Act → World → Prop, (∀ v w'', Below w'.heap.size w' w'' → Ok w'' → (∀ f : Nat → Value, (∀ t, o.dst = some t → f t = v) → (∀ t, o.dst ≠ some t → f t = vals a' t) → R i f w'') → K (a'.put o.dst v) w'') →
        (∀ w'', o.dst = none → Ok w'' → R i (vals a') w'' → (∀ j, j ≠ i → R j (vals a') w' → R j (vals a') w'') → K (a'.put o.dst undef) w'') → o.wp P a' w' K Q)
    (hend : ∀ (a' : Act) (w' : World), Kept ops a a' → Ok w' → (∀ j, j < ops.size → R j (vals a') w') → Q .normal a' w') : (Code.region id ops true).wp P Q a w := by
  refine wp_region_rel hm hu Ok (fun j a w => R j (vals a) w) h0 ?_ hend
  intro i o a' w' ho hk hok hR
  have hi : i < ops.size := (Array.getElem?_eq_some_iff.1 ho).1
  refine hstep i o a' w' ho hk hok (fun k hd => ?_) _ ?_ ?_
  · unfold dependsB at hd
    rw [Array.any_eq_true'] at hd
    obtain ⟨e, he, hb⟩ := hd
    simp only [Bool.and_eq_true, decide_eq_true_eq] at hb
    rw [← hb.2]
    exact hR e he hb.1
  · intro v w'' hb hok' hRi
    have hmem : o ∈ ops := Array.mem_of_getElem? ho
    refine ⟨v, rfl, hok', hRi _ (fun t ht => put_slot v ht ?_) (fun t ht => put_other v ht), fun j hji hno hj => ?_⟩
    · have h1 := Array.all_eq_true_iff_forall_mem.1 hdst o hmem
      rw [ht] at h1
      rw [hk.n]
      simpa using h1
    by_cases hjs : j < ops.size
    · obtain ⟨oj, hoj⟩ : ∃ oj, ops[j]? = some oj := ⟨ops[j], by simp [hjs]⟩
      refine hstab j _ _ _ _ hb (fun t ht => ?_) hj
      have h1 := List.all_eq_true.1 (List.all_eq_true.1 hment i (List.mem_range.2 hi)) j (List.mem_range.2 hjs)
      rw [ho, hoj] at h1
      simp only [Bool.or_eq_true, decide_eq_true_eq] at h1
      unfold vals
      rcases h1 with h1 | h1 | h1
      · exact absurd h1.symm hji
      · exfalso
        unfold dependsB at h1
        rw [Array.any_eq_true'] at h1
        obtain ⟨e, he, hbb⟩ := h1
        simp only [Bool.and_eq_true, decide_eq_true_eq] at hbb
        exact hno oj hoj e he hbb.1 hbb.2
      · cases hd : o.dst with
        | none => rfl
        | some d =>
          rw [hd] at h1
          simp only [Bool.not_eq_true', List.contains_eq_mem, decide_eq_false_iff_not] at h1
          have : (some d : Option Tmp) ≠ some t := fun e => h1 (by injection e with e; rw [e]; exact ht)
          have h2 := put_other (o := o) (a := a') v (t := t) (by rw [hd]; exact this)
          rw [hd] at h2
          exact h2
    · exact hout j _ _ (by omega)
  · intro w'' hd hok' hRi hst
    have e : a'.put o.dst undef = a' := by rw [hd]; rfl
    refine ⟨undef, rfl, hok', ?_, fun j hji _ hj => ?_⟩
    · rw [e]; exact hRi
    · show R j (vals (a'.put o.dst undef)) w''
      rw [e]; exact hst j hji hj
theorem wp_region_valsO {P : Program} {id : Nat} {ops : Array Oper} {Q : Exit → Act → World → Prop} {a : Act} {w : World} (hm : P.follows .mixedOrders = true) (hu : upward ops = true)
    (ment : Nat → List Nat) (hment : mentOk ops ment = true) (hdst : dstsIn ops a.tmps.size = true) (Ok : (Nat → Value) → World → Prop) (R : Nat → (Nat → Value) → World → Prop) (h0 : Ok (vals a) w.drew)
    (hout : ∀ j f w, ops.size ≤ j → R j f w)
    (hstab : ∀ j f f' w w', Below w.heap.size w w' → (∀ t ∈ ment j, f' t = f t) → R j f w → R j f' w')
    (hstep : ∀ (i : Nat) (o : Oper) (a' : Act) (w' : World), ops[i]? = some o → Kept ops a a' → Ok (vals a') w' → (∀ k, dependsB o k = true → R k (vals a') w') →
      ∀ K : Act → World → Prop, (∀ v w'', Below w'.heap.size w' w'' → (∀ f : Nat → Value, (∀ t, o.dst = some t → f t = v) → (∀ t, o.dst ≠ some t → f t = vals a' t) → Ok f w'') → (∀ f : Nat → Value, (∀ t, o.dst = some t → f t = v) → (∀ t, o.dst ≠ some t → f t = vals a' t) → R i f w'') → K (a'.put o.dst v) w'') →
        (∀ w'', o.dst = none → Ok (vals a') w'' → R i (vals a') w'' → (∀ j, j ≠ i → R j (vals a') w' → R j (vals a') w'') → K (a'.put o.dst undef) w'') → o.wp P a' w' K Q)
    (hend : ∀ (a' : Act) (w' : World), Kept ops a a' → Ok (vals a') w' → (∀ j, j < ops.size → R j (vals a') w') → Q .normal a' w') : (Code.region id ops true).wp P Q a w := by
  refine wp_region_relO hm hu (fun a w => Ok (vals a) w) (fun j a w => R j (vals a) w) h0 ?_ hend
  intro i o a' w' ho hk hok hR
  have hi : i < ops.size := (Array.getElem?_eq_some_iff.1 ho).1
  refine hstep i o a' w' ho hk hok (fun k hd => ?_) _ ?_ ?_
  · unfold dependsB at hd
    rw [Array.any_eq_true'] at hd
    obtain ⟨e, he, hb⟩ := hd
    simp only [Bool.and_eq_true, decide_eq_true_eq] at hb
    rw [← hb.2]
    exact hR e he hb.1
  · intro v w'' hb hok' hRi
    have hmem : o ∈ ops := Array.mem_of_getElem? ho
    have hfit : ∀ t, o.dst = some t → t < a'.tmps.size := fun t ht => ?_
    refine ⟨v, rfl, hok' _ (fun t ht => put_slot v ht (hfit t ht)) (fun t ht => put_other v ht), hRi _ (fun t ht => put_slot v ht (hfit t ht)) (fun t ht => put_other v ht), fun j hji hno hj => ?_⟩
    rotate_left
    · have h1 := Array.all_eq_true_iff_forall_mem.1 hdst o hmem
      rw [ht] at h1
      rw [hk.n]
      simpa using h1
    by_cases hjs : j < ops.size
    · obtain ⟨oj, hoj⟩ : ∃ oj, ops[j]? = some oj := ⟨ops[j], by simp [hjs]⟩
      refine hstab j _ _ _ _ hb (fun t ht => ?_) hj
      have h1 := List.all_eq_true.1 (List.all_eq_true.1 hment i (List.mem_range.2 hi)) j (List.mem_range.2 hjs)
      rw [ho, hoj] at h1
      simp only [Bool.or_eq_true, decide_eq_true_eq] at h1
      unfold vals
      rcases h1 with h1 | h1 | h1
      · exact absurd h1.symm hji
      · exfalso
        unfold dependsB at h1
        rw [Array.any_eq_true'] at h1
        obtain ⟨e, he, hbb⟩ := h1
        simp only [Bool.and_eq_true, decide_eq_true_eq] at hbb
        exact hno oj hoj e he hbb.1 hbb.2
      · cases hd : o.dst with
        | none => rfl
        | some d =>
          rw [hd] at h1
          simp only [Bool.not_eq_true', List.contains_eq_mem, decide_eq_false_iff_not] at h1
          have : (some d : Option Tmp) ≠ some t := fun e => h1 (by injection e with e; rw [e]; exact ht)
          have h2 := put_other (o := o) (a := a') v (t := t) (by rw [hd]; exact this)
          rw [hd] at h2
          exact h2
    · exact hout j _ _ (by omega)
  · intro w'' hd hok' hRi hst
    have e : a'.put o.dst undef = a' := by rw [hd]; rfl
    refine ⟨undef, rfl, by rw [e]; exact hok', ?_, fun j hji _ hj => ?_⟩
    · rw [e]; exact hRi
    · show R j (vals (a'.put o.dst undef)) w''
      rw [e]; exact hst j hji hj
end Go.Proofs.Ytfglgapocmnfpaa.Cpy
namespace Go.Proofs.Ytfglgapocmnfpaa.Cw
open Go.ChangeShapes Go.WideShapes Go.ChangeAt Go.RowKit Go.Maps Circ

/-- the box in block g holds cs; what lay below g is there -/
structure Boxed (W : World) (g : Nat) (cs : Array Value) (w : World) : Prop where
  h : w.heap[g]? = some (.cells cs 27 (0, 0))
  b : Below g W w
  z : g + 2 ≤ w.heap.size
theorem Boxed.cell {W : World} {g : Nat} {cs : Array Value} {w : World} (h : Boxed W g cs w) (i : Nat) : w.cell? ⟨g, i, none⟩ = cs[i]? := by simp [World.cell?, h.h]
theorem Boxed.below {W : World} {g : Nat} {cs : Array Value} {w w' : World} (h : Boxed W g cs w) (hb : Below w.heap.size w w') : Boxed W g cs w' :=
  have hz := h.z
  ⟨(hb.block g (by omega)).trans h.h, h.b.trans (hb.mono (by omega)), Nat.le_trans h.z hb.size⟩
theorem Boxed.set {W : World} {g : Nat} {cs : Array Value} {w : World} (h : Boxed W g cs w) (i : Nat) (v : Value) : Boxed W g (cs.setIfInBounds i v) (w.setCell ⟨g, i, none⟩ v) := by
  refine ⟨by simp [World.setCell, Array.getElem?_modify, h.h], ⟨h.b.os, h.b.tape, h.b.output, by simpa using h.b.size, fun k hk => ?_⟩, by simpa using h.z⟩
  have : (w.setCell ⟨g, i, none⟩ v).heap[k]? = w.heap[k]? := by simp [World.setCell, Array.getElem?_modify, show g ≠ k by omega]
  rw [this]; exact h.b.block k hk
/-- a circuit all of whose lists were made from block B on -/
structure Owned (w : World) (B : Nat) (c : Cir) (s : Places) : Prop where
  ins : OwnC w B 3 1 (.slice s.ai c.ins.length s.ki) (ints c.ins)
  lats : OwnC w B 39 3 (.slice s.al c.lats.length s.kl) (tris c.lats)
  outs : OwnC w B 3 1 (.slice s.ao c.outs.length s.ko) (ints c.outs)
  bads : OwnC w B 3 1 (.slice s.ab c.bads.length s.kb) (ints c.bads)
  invs : OwnC w B 3 1 (.slice s.ac c.invs.length s.kc) (ints c.invs)
  ands : OwnC w B 43 3 (.slice s.aa c.ands.length s.ka) (tris c.ands)
  names : OwnC w B 85 3 (.slice s.an c.names.length s.kn) (nams c.names)

end Go.Proofs.Ytfglgapocmnfpaa.Cw
