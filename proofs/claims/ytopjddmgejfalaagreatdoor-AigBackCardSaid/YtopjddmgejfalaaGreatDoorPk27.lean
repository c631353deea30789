/- The walk of aag's reading of a circuit's parts, in their order; no condition. The walks of aag.Parse and of the function that recovers in it; condition: the cell of bytealg.MaxLen holds a number. The walk of the function that recovers in aig.Read; no condition. What is read from octets fits: numbers within bounds, lists no longer than the octets; no condition. The walk of aag's Print of a circuit that may be; condition: the table of powers of ten is as it is laid. -/
import Derived.Test.YtopjddmgejfalaaGreatDoorPk01
import Derived.Test.YtopjddmgejfalaaGreatDoorPk18
import Derived.Recover
import Derived.OwnWalk
import Derived.Test.YtopjddmgejfalaaGreatDoorPk26
import Derived.Test.YtopjddmgejfalaaGreatDoorPk25
import Derived.Test.YtopjddmgejfalaaGreatDoorPk08
import Derived.Test.YtopjddmgejfalaaGreatDoorPk17
import Derived.Test.YtopjddmgejfalaaGreatDoorPk06
namespace Go.Proofs.YtopjddmgejfalaaGreatDoor.Aag
open Go.ChangeShapes Go.WideShapes Go.ChangeAt Go.RowKit Dig Circ Cw

theorem tris_len3 (l : List Tri) : ∀ y ∈ tris l, y.length = 3 := fun y hy => by obtain ⟨x, _, rfl⟩ := List.mem_map.1 hy; rfl
theorem nams_len3 (l : List Nam) : ∀ y ∈ nams l, y.length = 3 := fun y hy => by obtain ⟨x, _, rfl⟩ := List.mem_map.1 hy; rfl
end Go.Proofs.YtopjddmgejfalaaGreatDoor.Aag
namespace Go.Proofs.YtopjddmgejfalaaGreatDoor.Aag
open Go.ChangeShapes Go.WideShapes Go.ChangeAt Go.RowKit Dig Circ Cw

theorem op_build_zero (a : Act) (w : World) (oo : Oper) (ho : oo.op = .build 27 #[]) : (execOp a.eval oo).run Tryz.prog w = .ok (.value (.agg #[.int .i64 0, .slice none 0 0, .slice none 0 0, .slice none 0 0, .slice none 0 0, .slice none 0 0, .slice none 0 0, .slice none 0 0])) w := by
  unfold execOp
  rw [ho]
  go_simp
theorem op_store_cir (a : Act) (w : World) (g : Nat) (z : Array Value) (hg : w.heap[g]? = some (.cells z 27 (0, 0))) (hz : z.size = 8) (m : Int) (X1 X2 X3 X4 X5 X6 X7 : Option Addr × Nat × Nat) (p s : Nat) (hp : a.tmps.getD p undef = .pointer (some ⟨g, 0, none⟩)) (hs : a.tmps.getD s undef = .agg #[.int .i64 m, .slice X1.1 X1.2.1 X1.2.2, .slice X2.1 X2.2.1 X2.2.2, .slice X3.1 X3.2.1 X3.2.2, .slice X4.1 X4.2.1 X4.2.2, .slice X5.1 X5.2.1 X5.2.2, .slice X6.1 X6.2.1 X6.2.2, .slice X7.1 X7.2.1 X7.2.2]) (o : Oper) (ho : o.op = .store 27 (.tmp p) (.tmp s)) : ∃ w', (execOp a.eval o).run Tryz.prog w = .ok .skip w' ∧ w'.heap[g]? = some (.cells #[.int .i64 m, .slice X1.1 X1.2.1 X1.2.2, .slice X2.1 X2.2.1 X2.2.2, .slice X3.1 X3.2.1 X3.2.2, .slice X4.1 X4.2.1 X4.2.2, .slice X5.1 X5.2.1 X5.2.2, .slice X6.1 X6.2.1 X6.2.2, .slice X7.1 X7.2.1 X7.2.2] 27 (0, 0)) ∧ But g w w' := by
  obtain ⟨A1, n1, q1⟩ := X1
  obtain ⟨A2, n2, q2⟩ := X2
  obtain ⟨A3, n3, q3⟩ := X3
  obtain ⟨A4, n4, q4⟩ := X4
  obtain ⟨A5, n5, q5⟩ := X5
  obtain ⟨A6, n6, q6⟩ := X6
  obtain ⟨A7, n7, q7⟩ := X7
  simp only at hs ⊢
  obtain ⟨Z1, Z2, Z3, Z4, Z5, Z6, Z7, Z8, v0, v1, v2, v3, v4, v5, v6, v7, ⟨hX1, a0, b0⟩, ⟨hX2, a1, b1⟩, ⟨hX3, a2, b2⟩, ⟨hX4, a3, b3⟩, ⟨hX5, a4, b4⟩, ⟨hX6, a5, b5⟩, ⟨hX7, a6, b6⟩, ⟨hX8, a7, b7⟩, E8, FC⟩ := store8 hg hz (.int .i64 m) (.slice A1 n1 q1) (.slice A2 n2 q2) (.slice A3 n3 q3) (.slice A4 n4 q4) (.slice A5 n5 q5) (.slice A6 n6 q6) (.slice A7 n7 q7)
  refine ⟨Z8, ?_, E8, FC⟩
  have hp' : a.tmps[p]?.getD undef = .pointer (some ⟨g, 0, none⟩) := by simpa using hp
  have hs' : a.tmps[s]?.getD undef = .agg #[.int .i64 m, .slice A1 n1 q1, .slice A2 n2 q2, .slice A3 n3 q3, .slice A4 n4 q4, .slice A5 n5 q5, .slice A6 n6 q6, .slice A7 n7 q7] := by simpa using hs
  clear hp hs hg hz E8 FC
  unfold execOp
  rw [ho]
  go_simp
theorem op_store_errno (a : Act) (w : World) (g : Nat) (z : Array Value) (hg : w.heap[g]? = some (.cells z 30 (0, 0))) (hz : z.size = 1) (x : Int) (p s : Nat) (hp : a.tmps.getD p undef = .pointer (some ⟨g, 0, none⟩)) (hs : a.tmps.getD s undef = .int .i64 x) (o : Oper) (ho : o.op = .store 30 (.tmp p) (.tmp s)) : ∃ w', (execOp a.eval o).run Tryz.prog w = .ok .skip w' ∧ w'.heap[g]? = some (.cells #[.int .i64 x] 30 (0, 0)) ∧ But g w w' := by
  obtain ⟨Z, u, ⟨hS1, p0, t0⟩, E3, FF⟩ := step_set w z 0 (.int .i64 x) hg (by omega)
  rw [set_all1 z hz] at E3
  refine ⟨Z, ?_, E3, FF⟩
  have hp' : a.tmps[p]?.getD undef = .pointer (some ⟨g, 0, none⟩) := by simpa using hp
  have hs' : a.tmps[s]?.getD undef = .int .i64 x := by simpa using hs
  clear hp hs hg hz E3 FF
  unfold execOp
  rw [ho]
  go_simp
/-- w' is W but for three boxes: a circuit's, a number's, an error's -/
structure Three (W : World) (z z1 z2 : Nat) (w' : World) : Prop where
  os : w'.os = W.os
  tape : w'.tape = W.tape
  output : w'.output = W.output
  size : w'.heap.size = W.heap.size
  rest : ∀ k, k ≠ z → k ≠ z1 → k ≠ z2 → w'.heap[k]? = W.heap[k]?
  c0 : ∃ x : Array Value, w'.heap[z]? = some (.cells x 27 (0, 0)) ∧ x.size = 8
  c1 : ∃ x : Array Value, w'.heap[z1]? = some (.cells x 3 (0, 0)) ∧ x.size = 1
  c2 : ∃ x : Array Value, w'.heap[z2]? = some (.cells x 30 (0, 0)) ∧ x.size = 1
theorem Three.drew {W w' : World} {z z1 z2 : Nat} (h : Three W z z1 z2 w') : Three W z z1 z2 w'.drew := ⟨h.os, h.tape, h.output, h.size, h.rest, h.c0, h.c1, h.c2⟩
theorem Three.but0 {W w' w'' : World} {z z1 z2 : Nat} (h : Three W z z1 z2 w') (hb : But z w' w'') {x : Array Value} (hx : w''.heap[z]? = some (.cells x 27 (0, 0))) (hs : x.size = 8) (hz : z ≠ z1 ∧ z ≠ z2 ∧ z1 ≠ z2) : Three W z z1 z2 w'' :=
  ⟨hb.os.trans h.os, hb.tape.trans h.tape, hb.output.trans h.output, hb.z.trans h.size, fun k h0 h1 h2 => (hb.b k h0).trans (h.rest k h0 h1 h2), ⟨x, hx, hs⟩, by rw [hb.b z1 (by omega)]; exact h.c1, by rw [hb.b z2 (by omega)]; exact h.c2⟩
theorem Three.but2 {W w' w'' : World} {z z1 z2 : Nat} (h : Three W z z1 z2 w') (hb : But z2 w' w'') {x : Array Value} (hx : w''.heap[z2]? = some (.cells x 30 (0, 0))) (hs : x.size = 1) (hz : z ≠ z1 ∧ z ≠ z2 ∧ z1 ≠ z2) : Three W z z1 z2 w'' :=
  ⟨hb.os.trans h.os, hb.tape.trans h.tape, hb.output.trans h.output, hb.z.trans h.size, fun k h0 h1 h2 => (hb.b k h2).trans (h.rest k h0 h1 h2), by rw [hb.b z (by omega)]; exact h.c0, by rw [hb.b z1 (by omega)]; exact h.c1, ⟨x, hx, hs⟩⟩
/-- the circuit of nothing -/
def nilC : Cir := ⟨0, [], [], [], [], [], [], []⟩
def nilP : Places := ⟨none, none, none, none, none, none, none, 0, 0, 0, 0, 0, 0, 0⟩
theorem nil_lies (w : World) (B : Nat) : CLies w B nilC nilP := ⟨.inl rfl, .inl rfl, .inl rfl, .inl rfl, .inl rfl, .inl rfl, .inl rfl⟩
theorem nil_fits : CFits nilC nilP := by
  constructor <;> first | exact ⟨by decide, by decide⟩ | (intro x hx; cases hx) | decide
end Go.Proofs.YtopjddmgejfalaaGreatDoor.Aag
namespace Go.Proofs.YtopjddmgejfalaaGreatDoor.Aag
open Go.ChangeShapes Go.WideShapes Go.ChangeAt Go.RowKit Dig Circ Cw

theorem own_clies {w : World} {B : Nat} {c : Cir} {P : Places} (h : OwnC w B 3 1 (.slice P.ai c.ins.length P.ki) (ints c.ins) ∧ OwnC w B 48 3 (.slice P.al c.lats.length P.kl) (tris c.lats) ∧ OwnC w B 3 1 (.slice P.ao c.outs.length P.ko) (ints c.outs) ∧ OwnC w B 3 1 (.slice P.ab c.bads.length P.kb) (ints c.bads) ∧ OwnC w B 3 1 (.slice P.ac c.invs.length P.kc) (ints c.invs) ∧ OwnC w B 54 3 (.slice P.aa c.ands.length P.ka) (tris c.ands) ∧ OwnC w B 57 3 (.slice P.an c.names.length P.kn) (nams c.names)) : CLies w w.heap.size c P := by
  obtain ⟨h1, h2, h3, h4, h5, h6, h7⟩ := h
  have row : ∀ {e : TypeId} {m : Nat} {A : Option Addr} {n q : Nat} {xs : List (List Value)}, OwnC w B e m (.slice A n q) xs → 0 < m → (∀ y ∈ xs, y.length = m) → LRow w w.heap.size m A xs := by
    intro e m A n q xs ho hm hx
    obtain ⟨A', q', hv, hr, _, _⟩ := ho.row hm hx
    injection hv with h1 _ _
    subst h1
    exact hr
  exact ⟨row h1 (by decide) (ints_len1 _), row h2 (by decide) (tris_len3 _), row h3 (by decide) (ints_len1 _), row h4 (by decide) (ints_len1 _), row h5 (by decide) (ints_len1 _), row h6 (by decide) (tris_len3 _), row h7 (by decide) (nams_len3 _)⟩
abbrev Own7 (w : World) (B : Nat) (c : Cir) (P : Places) : Prop := OwnC w B 3 1 (.slice P.ai c.ins.length P.ki) (ints c.ins) ∧ OwnC w B 48 3 (.slice P.al c.lats.length P.kl) (tris c.lats) ∧ OwnC w B 3 1 (.slice P.ao c.outs.length P.ko) (ints c.outs) ∧ OwnC w B 3 1 (.slice P.ab c.bads.length P.kb) (ints c.bads) ∧ OwnC w B 3 1 (.slice P.ac c.invs.length P.kc) (ints c.invs) ∧ OwnC w B 54 3 (.slice P.aa c.ands.length P.ka) (tris c.ands) ∧ OwnC w B 57 3 (.slice P.an c.names.length P.kn) (nams c.names)
theorem own7_at {w w' : World} {B : Nat} {c : Cir} {P : Places} (h : Own7 w B c P) (hb : ∀ g, B ≤ g → g < w.heap.size → w'.heap[g]? = w.heap[g]?) : Own7 w' B c P := by
  obtain ⟨h1, h2, h3, h4, h5, h6, h7⟩ := h
  have k : ∀ {e : TypeId} {m : Nat} {v : Value} {xs : List (List Value)}, OwnC w B e m v xs → OwnC w' B e m v xs := fun ho => ho.keep_at fun g hg hv => hb g hg (ho.block_lt g hv).2
  exact ⟨k h1, k h2, k h3, k h4, k h5, k h6, k h7⟩
theorem own7_but {w w' : World} {B z : Nat} {c : Cir} {P : Places} (h : Own7 w B c P) (hb : But z w w') (hz : z < B) : Own7 w' B c P := own7_at h fun g hg _ => hb.b g (by omega)
theorem own7_keep {w w' : World} {B : Nat} {c : Cir} {P : Places} (h : Own7 w B c P) (hb : Below w.heap.size w w') : Own7 w' B c P := own7_at h fun g _ hg => hb.block g hg
theorem ext_below {W w w' : World} {B R : Nat} (h : Below B W w) (hE : Ext R w w') (hR : B ≤ R) (hBW : B ≤ W.heap.size) : Below B W w' :=
  ⟨hE.os.trans h.os, hE.tape.trans h.tape, hE.output.trans h.output, Nat.le_trans h.size hE.size, fun k hk => (hE.block k (by have := h.size; omega) (by omega)).trans (h.block k hk)⟩
theorem ok_i64 {x : Int} (h : OkN x) : I64 x := ⟨by have := h.1; omega, by have := h.2; omega⟩
end Go.Proofs.YtopjddmgejfalaaGreatDoor.Aag
namespace Go.Proofs.YtopjddmgejfalaaGreatDoor.Aig
open Go.ChangeShapes Go.WideShapes Go.ChangeAt Go.RowKit Dig Circ Cw Aag

structure Two (W : World) (z z2 : Nat) (w' : World) : Prop where
  os : w'.os = W.os
  tape : w'.tape = W.tape
  output : w'.output = W.output
  size : w'.heap.size = W.heap.size
  rest : ∀ k, k ≠ z → k ≠ z2 → w'.heap[k]? = W.heap[k]?
  c0 : ∃ x : Array Value, w'.heap[z]? = some (.cells x 27 (0, 0)) ∧ x.size = 8
  c2 : ∃ x : Array Value, w'.heap[z2]? = some (.cells x 30 (0, 0)) ∧ x.size = 1
theorem Two.drew {W w' : World} {z z2 : Nat} (h : Two W z z2 w') : Two W z z2 w'.drew := ⟨h.os, h.tape, h.output, h.size, h.rest, h.c0, h.c2⟩
theorem Two.but0 {W w' w'' : World} {z z2 : Nat} (h : Two W z z2 w') (hb : But z w' w'') {x : Array Value} (hx : w''.heap[z]? = some (.cells x 27 (0, 0))) (hs : x.size = 8) (hz : z ≠ z2) : Two W z z2 w'' :=
  ⟨hb.os.trans h.os, hb.tape.trans h.tape, hb.output.trans h.output, hb.z.trans h.size, fun k h0 h2 => (hb.b k h0).trans (h.rest k h0 h2), ⟨x, hx, hs⟩, by rw [hb.b z2 (by omega)]; exact h.c2⟩
theorem Two.but2 {W w' w'' : World} {z z2 : Nat} (h : Two W z z2 w') (hb : But z2 w' w'') {x : Array Value} (hx : w''.heap[z2]? = some (.cells x 30 (0, 0))) (hs : x.size = 1) (hz : z ≠ z2) : Two W z z2 w'' :=
  ⟨hb.os.trans h.os, hb.tape.trans h.tape, hb.output.trans h.output, hb.z.trans h.size, fun k h0 h2 => (hb.b k h2).trans (h.rest k h0 h2), by rw [hb.b z (by omega)]; exact h.c0, ⟨x, hx, hs⟩⟩
theorem assert5 (w : World) : (Instr.typeAssert (.iface 61 (.agg #[.int .i64 33])) 20 61 false).run Tryz.prog w = .ok (.agg #[.int .i64 33]) w := by kernel_rfl
theorem op_assert5 (a : Act) (w : World) (t : Nat) (h : a.tmps.getD t undef = .iface 61 (.agg #[.int .i64 33])) (oo : Oper) (ho : oo.op = .typeAssert (.tmp t) 20 61 false) : (execOp a.eval oo).run Tryz.prog w = .ok (.value (.agg #[.int .i64 33])) w := by
  have h' : a.tmps[t]?.getD undef = .iface 61 (.agg #[.int .i64 33]) := by simpa using h
  have AF := assert5 w
  unfold execOp
  rw [ho]
  go_simp
theorem field5 (w : World) : (Instr.field 61 (.agg #[.int .i64 33]) 0).run Tryz.prog w = .ok (.int .i64 33) w := by kernel_rfl
theorem op_field5 (a : Act) (w : World) (t : Nat) (h : a.tmps.getD t undef = .agg #[.int .i64 33]) (oo : Oper) (ho : oo.op = .field 61 (.tmp t) 0) : (execOp a.eval oo).run Tryz.prog w = .ok (.value (.int .i64 33)) w := by
  have h' : a.tmps[t]?.getD undef = .agg #[.int .i64 33] := by simpa using h
  have AF := field5 w
  unfold execOp
  rw [ho]
  go_simp
/-- what operation j of the region leaves -/
def rcatR (CT ET : TypeId) (z z2 : Nat) : Nat → (Nat → Value) → World → Prop
  | 0, f, _ => f 6 = .agg #[.int .i64 0, .slice none 0 0, .slice none 0 0, .slice none 0 0, .slice none 0 0, .slice none 0 0, .slice none 0 0, .slice none 0 0]
  | 1, f, _ => f 7 = .iface 61 (.agg #[.int .i64 33])
  | 2, f, _ => f 8 = .agg #[.int .i64 33]
  | 3, f, _ => f 9 = .int .i64 33
  | 4, _, w => w.heap[z]? = some (.cells #[.int .i64 0, .slice none 0 0, .slice none 0 0, .slice none 0 0, .slice none 0 0, .slice none 0 0, .slice none 0 0, .slice none 0 0] CT (0, 0))
  | 5, _, w => w.heap[z2]? = some (.cells #[.int .i64 33] ET (0, 0))
  | _, _, _ => True
def rcatM : Nat → List Nat
  | 0 => [6]
  | 1 => [7]
  | 2 => [8]
  | 3 => [9]
  | 4 => []
  | 5 => []
  | _ => []
theorem rcat_stab {CT ET : TypeId} {z z2 : Nat} (jj : Nat) {f f' : Nat → Value} {w w' : World} (h4 : jj = 4 → w'.heap[z]? = w.heap[z]?) (h5 : jj = 5 → w'.heap[z2]? = w.heap[z2]?) (hf : ∀ t ∈ rcatM jj, f' t = f t) (h : rcatR CT ET z z2 jj f w) : rcatR CT ET z z2 jj f' w' := by
  match jj, hf, h, h4, h5 with
  | 0, hf, h, _, _ => exact (hf 6 (by decide)).trans h
  | 1, hf, h, _, _ => exact (hf 7 (by decide)).trans h
  | 2, hf, h, _, _ => exact (hf 8 (by decide)).trans h
  | 3, hf, h, _, _ => exact (hf 9 (by decide)).trans h
  | 4, hf, h, h4, h5 =>
    exact (h4 rfl).trans h
  | 5, hf, h, h4, h5 =>
    exact (h5 rfl).trans h
  | _ + 6, _, _, _, _ => trivial
/-- what the recovering leaves -/
def Caught5 (z z2 : Nat) (w w' : World) : Prop :=
  (w'.os = w.os ∧ w'.tape = w.tape ∧ w'.output = w.output ∧ w.heap.size ≤ w'.heap.size) ∧ (∀ k, k < w.heap.size → k ≠ z → k ≠ z2 → w'.heap[k]? = w.heap[k]?) ∧
  w'.heap[z]? = some (.cells #[.int .i64 0, .slice none 0 0, .slice none 0 0, .slice none 0 0, .slice none 0 0, .slice none 0 0, .slice none 0 0, .slice none 0 0] 27 (0, 0)) ∧ w'.heap[z2]? = some (.cells #[.int .i64 33] 30 (0, 0))
set_option maxHeartbeats 2000000 in
set_option maxRecDepth 100000 in
theorem read_catch (z z2 : Nat) (w : World) (hz : z ≠ z2) (h0 : ∃ x : Array Value, w.heap[z]? = some (.cells x 27 (0, 0)) ∧ x.size = 8) (h2 : ∃ x : Array Value, w.heap[z2]? = some (.cells x 30 (0, 0)) ∧ x.size = 1) :
    CallsD Tryz.prog 19 #[.pointer (some ⟨z, 0, none⟩), .pointer (some ⟨z2, 0, none⟩)] (.panicking fault5) w fun e u' w' =>
      e = .returned (.tuple #[]) ∧ u' = .panicking [{ v := .iface 61 (.agg #[.int .i64 33]), recovered := true }] ∧ Caught5 z z2 w w' := by
  refine callsD_of_wpS Tryz.func19 rfl fun c₀ cs hu => ?_
  unfold fault5 at hu
  apply wpS_seq
  apply wpS_region
  simp [wpOpsS, go_sem, recoverD, hu, Tryz.ntmps19, Exit.thenS]
  apply wpS_seq
  apply wpS_region
  simp [wpOpsS, go_sem, Exit.thenS]
  refine wpS_cond (t := true) (by simp [Act.eval]) ?_
  simp only [if_true]
  refine wpS_of_wp ?_
  simp only [show Array.replicate 8 undef = #[undef, undef, undef, undef, undef, undef, undef, undef] from rfl, List.setIfInBounds_toArray, List.set_cons_zero, List.set_cons_succ, List.append_toArray, List.cons_append, List.nil_append]
  have HZZ := Lib.hid hz
  have HOK : Hid (Two w z z2 w) := ⟨rfl, rfl, rfl, rfl, fun _ _ _ => rfl, h0, h2⟩
  clear h0 h2 hz
  refine wp_region_valsD (by kernel_rfl) (by kernel_rfl) rcatM (by kernel_rfl) (by kernel_rfl)
    (fun _ w' => Two w z z2 w') (rcatR 27 30 z z2) HOK.out.drew (fun jj f f' w w' hb hf h => rcat_stab jj (fun em => by subst em; exact hb.block _ (lt_of_block h)) (fun em => by subst em; exact hb.block _ (lt_of_block h)) hf h) ?_ ?_
  · intro i oo d a' w' ho hd hun hdf hok hD K hK hK0
    match i, ho, hd, hD, hK, hK0, hun with
    | 0, ho, hd, hD, hK, hK0, hun =>
      have e := (congrArg Oper.op (Option.some.inj ho)).symm
      obtain rfl := Option.some.inj ho
      exact wp_val (op_build_zero a' w' _ e) (hK _ _ (Below.refl _ _) hok (fun f h1 _ => h1 _ rfl))
    | 1, ho, hd, hD, hK, hK0, hun =>
      have e := (congrArg Oper.op (Option.some.inj ho)).symm
      obtain rfl := Option.some.inj ho
      exact wp_val (op_move a' w' 2 _ e) (hK _ _ (Below.refl _ _) hok (fun f h1 _ => (h1 _ rfl).trans (hun 2 (by kernel_rfl))))
    | 2, ho, hd, hD, hK, hK0, hun =>
      have e := (congrArg Oper.op (Option.some.inj ho)).symm
      obtain rfl := Option.some.inj ho
      exact wp_val (op_assert5 a' w' 7 (hD 1 (by kernel_rfl)) _ e) (hK _ _ (Below.refl _ _) hok (fun f h1 _ => h1 _ rfl))
    | 3, ho, hd, hD, hK, hK0, hun =>
      have e := (congrArg Oper.op (Option.some.inj ho)).symm
      obtain rfl := Option.some.inj ho
      exact wp_val (op_field5 a' w' 8 (hD 2 (by kernel_rfl)) _ e) (hK _ _ (Below.refl _ _) hok (fun f h1 _ => h1 _ rfl))
    | 4, ho, hd, hD, hK, hK0, hun =>
      have e := (congrArg Oper.op (Option.some.inj ho)).symm
      obtain rfl := Option.some.inj ho
      obtain ⟨x, hx, hxs⟩ := hok.c0
      obtain ⟨w'', hr, hgc2, hbut⟩ := op_store_cir a' w' z x hx hxs 0 (none, 0, 0) (none, 0, 0) (none, 0, 0) (none, 0, 0) (none, 0, 0) (none, 0, 0) (none, 0, 0) 0 6 (hun 0 (by kernel_rfl)) (hD 0 (by kernel_rfl)) _ e
      refine wp_skip' hr (hK0 _ _ (hok.but0 hbut hgc2 rfl HZZ.out) (fun f h1 h2 => hgc2) (fun j f hj hf hq => rcat_stab j (fun em => absurd em hj) (fun _ => hbut.b _ (by have := HZZ.out; omega)) hf hq))
    | 5, ho, hd, hD, hK, hK0, hun =>
      have e := (congrArg Oper.op (Option.some.inj ho)).symm
      obtain rfl := Option.some.inj ho
      obtain ⟨x, hx, hxs⟩ := hok.c2
      obtain ⟨w'', hr, hgc2, hbut⟩ := op_store_errno a' w' z2 x hx hxs _ 1 9 (hun 1 (by kernel_rfl)) (hD 3 (by kernel_rfl)) _ e
      refine wp_skip' hr (hK0 _ _ (hok.but2 hbut hgc2 rfl HZZ.out) (fun f h1 h2 => hgc2) (fun j f hj hf hq => rcat_stab j (fun _ => hbut.b _ (by have := HZZ.out; omega)) (fun em => absurd em hj) hf hq))
    | i + 6, ho, _, _, _, _, _ => exact absurd ho (by simp)
  · intro a' w3 hsz hdf hkt hok hR
    have HF3 := frame_sets [6, 7, 8, 9] (by kernel_rfl) hsz hkt
    obtain ⟨d, hok⟩ := hok
    have Q0 := hR 4 (by decide)
    have Q2 := hR 5 (by decide)
    obtain ⟨tm, df⟩ := a'
    obtain rfl : df = _ := hdf
    simp only [List.foldl_cons, List.foldl_nil] at HF3
    clear hkt hR hsz
    generalize tm.getD 6 undef = y6 at HF3
    generalize tm.getD 7 undef = y7 at HF3
    generalize tm.getD 8 undef = y8 at HF3
    generalize tm.getD 9 undef = y9 at HF3
    simp only [List.setIfInBounds_toArray, List.set_cons_succ, List.set_cons_zero] at HF3
    subst HF3
    have QC : Hid (Caught5 z z2 w w3) := ⟨⟨hok.os, hok.tape, hok.output, Nat.le_of_eq hok.size.symm⟩, fun k _ k0 k2 => hok.rest k k0 k2, Q0, Q2⟩
    clear Q0 Q2 hok
    go_wp2
    simp [bodyPostS, results, Tryz.results19]
    exact QC.out
set_option maxHeartbeats 2000000 in
set_option maxRecDepth 100000 in
theorem read_idle (z z2 : Nat) (w : World) :
    CallsD Tryz.prog 19 #[.pointer (some ⟨z, 0, none⟩), .pointer (some ⟨z2, 0, none⟩)] .returning w fun e u' w' => e = .returned (.tuple #[]) ∧ u' = .returning ∧ w' = w := by
  refine callsD_of_wpS Tryz.func19 rfl fun c₀ cs hu => ?_
  apply wpS_seq
  apply wpS_region
  simp [wpOpsS, go_sem, recoverD, hu, Tryz.ntmps19, Exit.thenS]
  apply wpS_seq
  apply wpS_region
  simp [wpOpsS, go_sem, Exit.thenS]
  refine wpS_cond (t := false) (by simp [Act.eval]) ?_
  simp only [Bool.false_eq_true, if_false]
  refine wpS_of_wp (wp_skip ?_)
  cases c₀
  simp_all [bodyPostS, results, Tryz.results19]
end Go.Proofs.YtopjddmgejfalaaGreatDoor.Aig
namespace Go.Proofs.YtopjddmgejfalaaGreatDoor.Aig
open Go.Lib Dig Circ Cw Aag

def Near (t : Tri) : Prop := t.a - 100000 ≤ t.b ∧ t.b ≤ t.a ∧ t.a - 200000 ≤ t.c ∧ t.c ≤ t.a
theorem and_near {l : Int} {s r : List UInt8} {t : Tri} (h : rdAnd l s = some (t, r)) : Near t := by
  unfold rdAnd at h
  cases hx : rdNum s with
  | none => rw [hx] at h; cases h
  | some x =>
    rw [hx] at h
    simp only [Option.bind_some] at h
    cases hy : rdNum x.2 with
    | none => rw [hy] at h; cases h
    | some y =>
      rw [hy] at h
      simp only [Option.map_some, Option.some.injEq, Prod.mk.injEq] at h
      obtain ⟨rfl, rfl⟩ := h
      have h1 := (rdNum_le (x := x.1) (r := x.2) hx).1
      have h2 := (rdNum_le (x := y.1) (r := y.2) hy).1
      unfold Near
      simp only
      omega
theorem many_all {α : Type} {p : Nat → List UInt8 → Option (α × List UInt8)} {Q : α → Prop} (hp : ∀ i s a r, p i s = some (a, r) → Q a) : ∀ (n i : Nat) (s : List UInt8) (acc l : List α) (r : List UInt8), (∀ x ∈ acc, Q x) → rdMany p n i s acc = some (l, r) → ∀ x ∈ l, Q x
  | 0, i, s, acc, l, r, ha, h => by
    simp only [rdMany, Option.some.injEq, Prod.mk.injEq] at h
    rw [← h.1]; exact ha
  | n + 1, i, s, acc, l, r, ha, h => by
    rw [rdMany] at h
    cases hq : p i s with
    | none => rw [hq] at h; cases h
    | some y =>
      rw [hq] at h
      refine many_all hp n (i + 1) y.2 (acc ++ [y.1]) l r (fun x hx => ?_) h
      rcases List.mem_append.1 hx with hx | hx
      · exact ha x hx
      · rw [List.mem_singleton.1 hx]; exact hp i s y.1 y.2 hq
theorem core_near {s r : List UInt8} {c : Cir} (h : rdCore s = some (c, r)) : ∀ t ∈ c.ands, Near t := by
  unfold rdCore at h
  obtain ⟨h0, e0, h⟩ := Option.bind_eq_some_iff.1 h
  obtain ⟨r2, e2, h⟩ := Option.bind_eq_some_iff.1 h
  obtain ⟨r3, e3, h⟩ := Option.bind_eq_some_iff.1 h
  obtain ⟨r4, e4, h⟩ := Option.bind_eq_some_iff.1 h
  obtain ⟨r5, e5, h⟩ := Option.bind_eq_some_iff.1 h
  obtain ⟨r6, e6, h⟩ := Option.bind_eq_some_iff.1 h
  simp only [Option.some.injEq, Prod.mk.injEq] at h
  obtain ⟨rfl, rfl⟩ := h
  exact many_all (fun i s a r h => and_near h) _ _ _ _ r6.1 r6.2 (by simp) e6
theorem nl_long (L : List (List UInt8)) : L.length ≤ (nlL L).length := by
  unfold nlL
  induction L with
  | nil => simp
  | cons x L ih => simp only [List.map_cons, List.flatten_cons, List.length_append, List.length_cons, List.length_nil] at ih ⊢; omega
theorem oct_long (c : Cir) : c.lats.length + c.outs.length + c.bads.length + c.invs.length + c.names.length ≤ (oct5 c).length := by
  have h1 := nl_long (lines5 c)
  have h2 := nl_long (c.names.map namL)
  unfold oct5 core5
  unfold lines5 at h1 ⊢
  simp only [List.length_append, List.length_cons, List.length_map] at h1 h2 ⊢
  omega
theorem mem_get {α : Type} {l : List α} {x : α} (h : x ∈ l) : ∃ j, l[j]? = some x ∧ j < l.length := by
  obtain ⟨j, hj, e⟩ := List.getElem_of_mem h
  exact ⟨j, by rw [List.getElem?_eq_getElem hj, e], hj⟩
theorem circ5_fits {s : List UInt8} {c : Cir} {P : Places} (h : circ5 s = some c) (hs : s.length ≤ 65536) (hk : c.ins.length ≤ P.ki ∧ c.lats.length ≤ P.kl ∧ c.outs.length ≤ P.ko ∧ c.bads.length ≤ P.kb ∧ c.invs.length ≤ P.kc ∧ c.ands.length ≤ P.ka ∧ c.names.length ≤ P.kn) : CFits c P := by
  obtain ⟨k1, k2, k3, k4, k5, k6, k7⟩ := hk
  have hl := oct_long c
  rw [← circ5_get h] at hl
  unfold circ5 at h
  obtain ⟨r, e, h⟩ := Option.bind_eq_some_iff.1 h
  cases hq : rdNames r.2.length r.2 [] with
  | none => rw [hq] at h; cases h
  | some l =>
    rw [hq] at h
    simp only [Option.map_some, Option.some.injEq] at h
    subst h
    obtain ⟨hsp, -, hmax, hm, hi, ht, ho, hb, hv, hta, haa⟩ := core_get (c := r.1) (r := r.2) e
    have hn := core_near (c := r.1) (r := r.2) e
    obtain ⟨xs, h1, -, h3⟩ := names5_get _ _ _ _ hq
    rw [List.nil_append] at h1
    subst h1
    have hr : r.2.length ≤ s.length := by rw [hsp]; simp
    simp only at hl k1 k2 k3 k4 k5 k6 k7
    have lt : ∀ k : Nat, k ≤ 4096 → I64 (lit k) := fun k hk => by unfold I64 lit; omega
    refine ⟨?_, fun x hx => ?_, fun x hx => ok_i64 (ho x hx), fun x hx => ok_i64 (hb x hx), fun x hx => ok_i64 (hv x hx), fun x hx => ?_, fun x hx => ?_, fun x hx => ?_, ?_, ?_, ?_, ?_, ?_, ?_, ?_, k1, k3, k4, k5, k2, k6, k7⟩
    · unfold I64; simp only; omega
    · simp only at hx
      rw [hi] at hx
      unfold evens at hx
      obtain ⟨k, hk, rfl⟩ := List.mem_map.1 hx
      have := List.mem_range.1 hk
      exact lt k (by omega)
    · obtain ⟨j, hj, hjl⟩ := mem_get hx
      have e1 := hta j x hj
      refine ⟨?_, ok_i64 (ht x hx).1, ok_i64 (ht x hx).2⟩
      rw [e1]
      refine lt _ ?_
      simp only at hjl
      omega
    · obtain ⟨j, hj, hjl⟩ := mem_get hx
      have e1 := haa j x hj
      have hnr := hn x hx
      simp only at hjl
      have hle : r.1.ins.length + r.1.lats.length + j ≤ 4096 := by omega
      generalize r.1.ins.length + r.1.lats.length + j = k at *
      unfold Near lit at *
      unfold Tri.fits I64
      omega
    · obtain ⟨o1, o2, o3⟩ := h3 x hx
      exact ⟨by omega, ok_i64 o1, by omega⟩
    all_goals simp only; omega
end Go.Proofs.YtopjddmgejfalaaGreatDoor.Aig
namespace Go.Proofs.YtopjddmgejfalaaGreatDoor.Aag
open Go.ChangeShapes Go.WideShapes Go.ChangeAt Go.RowKit Go.Maps Dig Circ Cw

theorem Tab.later {w w' : World} (h : Tab w) (hb : Below w.heap.size w w') : Tab w' := fun w2 hb2 => h w2 (hb.trans (hb2.mono hb.size))
theorem cells8 {w : World} {g : Nat} {c : Cir} {s : Places} (h : w.heap[g]? = some (.cells (cirC c s) 27 (0, 0))) : w.cell? ⟨g, 0, none⟩ = some (.int .i64 c.max) ∧ w.cell? ⟨g, 1, none⟩ = some (.slice s.ai c.ins.length s.ki) ∧ w.cell? ⟨g, 2, none⟩ = some (.slice s.al c.lats.length s.kl) ∧ w.cell? ⟨g, 3, none⟩ = some (.slice s.ao c.outs.length s.ko) ∧ w.cell? ⟨g, 4, none⟩ = some (.slice s.ab c.bads.length s.kb) ∧ w.cell? ⟨g, 5, none⟩ = some (.slice s.ac c.invs.length s.kc) ∧ w.cell? ⟨g, 6, none⟩ = some (.slice s.aa c.ands.length s.ka) ∧ w.cell? ⟨g, 7, none⟩ = some (.slice s.an c.names.length s.kn) := by
  have e : ∀ i, w.cell? ⟨g, i, none⟩ = (cirC c s)[i]? := fun i => by simp [World.cell?, h]
  exact ⟨e 0, e 1, e 2, e 3, e 4, e 5, e 6, e 7⟩
end Go.Proofs.YtopjddmgejfalaaGreatDoor.Aag
