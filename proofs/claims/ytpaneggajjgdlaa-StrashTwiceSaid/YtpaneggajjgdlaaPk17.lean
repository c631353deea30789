/- Small words for the rest of circuit.Copy: a frame written out, a store of what a cell held, a store of a whole circuit; no condition. strings.Clone: the same text; no condition but its size. The walk of the pages' Own: a circuit in memory of its own; no condition. -/
import Derived.Test.YtpaneggajjgdlaaPk16
import Derived.Test.YtpaneggajjgdlaaPk15
import Derived.Test.YtpaneggajjgdlaaPk04
namespace Go.Proofs.Ytpaneggajjgdlaa.Cpy
open Go.ChangeShapes Go.WideShapes Go.ChangeAt Go.RowKit Go.Maps Circ Cw

theorem lit_tm (tm : Array Value) (n : Nat) (h : tm.size = n) : tm = ((List.range n).map fun i => tm.getD i undef).toArray := by
  apply Array.ext
  · simp [h]
  · intro i h1 h2
    simp [h1]
theorem op_index (a : Act) (w : World) (b o n q k : Nat) (t i : Nat) (h : a.tmps.getD t undef = .slice (some ⟨b, o, none⟩) n q) (hi : a.tmps.getD i undef = .int .i64 k) (hk : k < n) (oo : Oper) (ho : oo.op = .indexAddr 25 (.tmp t) (.tmp i)) : (execOp a.eval oo).run Try.prog w = .ok (.value (.pointer (some ⟨b, o + k * 3, none⟩))) w := by
  have h' : a.tmps[t]?.getD undef = .slice (some ⟨b, o, none⟩) n q := by simpa using h
  have h2 : a.tmps[i]?.getD undef = .int .i64 k := by simpa using hi
  unfold execOp
  rw [ho]
  go_simp
theorem op_field45 (a : Act) (w : World) (B o k : Nat) (t : Nat) (hk : k = 0 ∨ k = 2) (h : a.tmps.getD t undef = .pointer (some ⟨B, o, none⟩)) (oo : Oper) (ho : oo.op = .fieldAddr 73 (.tmp t) k) : (execOp a.eval oo).run Try.prog w = .ok (.value (.pointer (some ⟨B, o + k, none⟩))) w := by
  have h' : a.tmps[t]?.getD undef = .pointer (some ⟨B, o, none⟩) := by simpa using h
  unfold execOp
  rw [ho]
  rcases hk with rfl | rfl <;> go_simp
theorem op_move (a : Act) (w : World) (t : Nat) (oo : Oper) (ho : oo.op = .move (.tmp t)) : (execOp a.eval oo).run Try.prog w = .ok (.value (a.tmps.getD t undef)) w := by
  unfold execOp
  rw [ho]
  go_simp
theorem op_put (a : Act) (w : World) (A : Addr) (x : ByteArray) (t u : Nat) (h : a.tmps.getD t undef = .pointer (some A)) (hu : a.tmps.getD u undef = .string x) (hc : w.cell? A = some (.string x)) (hz : w.frozen? A = false) (oo : Oper) (ho : oo.op = .store 9 (.tmp t) (.tmp u)) : (execOp a.eval oo).run Try.prog w = .ok .skip (w.setCell A (.string x)) := by
  have h' : a.tmps[t]?.getD undef = .pointer (some A) := by simpa using h
  have h2 : a.tmps[u]?.getD undef = .string x := by simpa using hu
  unfold execOp
  rw [ho]
  go_simp
theorem set_same (cs : Array Value) (o : Nat) (v : Value) (hc : cs[o]? = some v) : cs.setIfInBounds o v = cs := by
  apply Array.ext
  · simp
  · intro i h1 h2
    rw [Array.getElem?_eq_some_iff] at hc
    obtain ⟨h3, h4⟩ := hc
    rw [Array.getElem_setIfInBounds (by simpa using h1)]
    by_cases h : o = i
    · subst h
      simp [h4]
    · simp [h]
theorem again_block {w : World} {b o : Nat} {v : Value} (hc : w.cell? ⟨b, o, none⟩ = some v) (k : Nat) : (w.setCell ⟨b, o, none⟩ v).heap[k]? = w.heap[k]? := by
  by_cases hk : k = b
  · subst hk
    simp only [World.setCell, Array.getElem?_modify, if_true]
    unfold World.cell? at hc
    simp only at hc
    cases hh : w.heap[k]? with
    | none => rfl
    | some ob =>
      rw [hh] at hc
      cases ob with
      | cells cs t f =>
        have hs := set_same cs o v (by simpa using hc)
        simp [hs]
      | _ => simp at hc
  · exact Below.heap_setCell _ _ _ _ hk
theorem again_below {B : Nat} {W w : World} {b o : Nat} {v : Value} (h : Below B W w) (hc : w.cell? ⟨b, o, none⟩ = some v) : Below B W (w.setCell ⟨b, o, none⟩ v) :=
  ⟨h.os, h.tape, h.output, by simpa [World.setCell] using h.size, fun k hk => (again_block hc k).trans (h.block k hk)⟩
theorem store8 {w : World} {g : Nat} {z : Array Value} {e : TypeId} (hg : w.heap[g]? = some (.cells z e (0, 0))) (hz : z.size = 8) (x0 x1 x2 x3 x4 x5 x6 x7 : Value) :
    ∃ Z1 Z2 Z3 Z4 Z5 Z6 Z7 Z8 : World, ∃ u0 u1 u2 u3 u4 u5 u6 u7 : Value,
      (w.setCell ⟨g, 0, none⟩ x0 = Z1 ∧ w.cell? ⟨g, 0, none⟩ = some u0 ∧ w.frozen? ⟨g, 0, none⟩ = false) ∧ (Z1.setCell ⟨g, 1, none⟩ x1 = Z2 ∧ Z1.cell? ⟨g, 1, none⟩ = some u1 ∧ Z1.frozen? ⟨g, 1, none⟩ = false) ∧
      (Z2.setCell ⟨g, 2, none⟩ x2 = Z3 ∧ Z2.cell? ⟨g, 2, none⟩ = some u2 ∧ Z2.frozen? ⟨g, 2, none⟩ = false) ∧ (Z3.setCell ⟨g, 3, none⟩ x3 = Z4 ∧ Z3.cell? ⟨g, 3, none⟩ = some u3 ∧ Z3.frozen? ⟨g, 3, none⟩ = false) ∧
      (Z4.setCell ⟨g, 4, none⟩ x4 = Z5 ∧ Z4.cell? ⟨g, 4, none⟩ = some u4 ∧ Z4.frozen? ⟨g, 4, none⟩ = false) ∧ (Z5.setCell ⟨g, 5, none⟩ x5 = Z6 ∧ Z5.cell? ⟨g, 5, none⟩ = some u5 ∧ Z5.frozen? ⟨g, 5, none⟩ = false) ∧
      (Z6.setCell ⟨g, 6, none⟩ x6 = Z7 ∧ Z6.cell? ⟨g, 6, none⟩ = some u6 ∧ Z6.frozen? ⟨g, 6, none⟩ = false) ∧ (Z7.setCell ⟨g, 7, none⟩ x7 = Z8 ∧ Z7.cell? ⟨g, 7, none⟩ = some u7 ∧ Z7.frozen? ⟨g, 7, none⟩ = false) ∧
      Z8.heap[g]? = some (.cells #[x0, x1, x2, x3, x4, x5, x6, x7] e (0, 0)) ∧ But g w Z8 := by
  have step : ∀ (w : World) (z : Array Value) (i : Nat) (v : Value), w.heap[g]? = some (.cells z e (0, 0)) → i < z.size → ∃ Z u, (w.setCell ⟨g, i, none⟩ v = Z ∧ w.cell? ⟨g, i, none⟩ = some u ∧ w.frozen? ⟨g, i, none⟩ = false) ∧ Z.heap[g]? = some (.cells (z.setIfInBounds i v) e (0, 0)) ∧ But g w Z := fun w z i v hg hi =>
    ⟨_, z[i], ⟨rfl, by simp [World.cell?, hg, hi], by simp [World.frozen?, hg]⟩, by simp [World.setCell, Array.getElem?_modify, hg], But.set w g i v⟩
  obtain ⟨Z1, u0, r0, g0, b0⟩ := step w z 0 x0 hg (by omega)
  obtain ⟨Z2, u1, r1, g1, b1⟩ := step Z1 _ 1 x1 g0 (by simp; omega)
  obtain ⟨Z3, u2, r2, g2, b2⟩ := step Z2 _ 2 x2 g1 (by simp; omega)
  obtain ⟨Z4, u3, r3, g3, b3⟩ := step Z3 _ 3 x3 g2 (by simp; omega)
  obtain ⟨Z5, u4, r4, g4, b4⟩ := step Z4 _ 4 x4 g3 (by simp; omega)
  obtain ⟨Z6, u5, r5, g5, b5⟩ := step Z5 _ 5 x5 g4 (by simp; omega)
  obtain ⟨Z7, u6, r6, g6, b6⟩ := step Z6 _ 6 x6 g5 (by simp; omega)
  obtain ⟨Z8, u7, r7, g7, b7⟩ := step Z7 _ 7 x7 g6 (by simp; omega)
  rw [set8 z hz] at g7
  exact ⟨Z1, Z2, Z3, Z4, Z5, Z6, Z7, Z8, u0, u1, u2, u3, u4, u5, u6, u7, r0, r1, r2, r3, r4, r5, r6, r7, g7, b0.trans (b1.trans (b2.trans (b3.trans (b4.trans (b5.trans (b6.trans b7))))))⟩
/-- what operation j of a name's region leaves: s0 is its first slot, fo the field -/
def nameR (g b o n q k X s0 fo A : Nat) (x : ByteArray) : Nat → (Nat → Value) → World → Prop
  | 0, f, _ => f (s0 + 0) = .pointer (some ⟨g, 7, none⟩)
  | 1, f, _ => f (s0 + 1) = .slice (some ⟨b, o, none⟩) n q
  | 2, f, _ => f (s0 + 2) = .int .i64 k
  | 3, f, _ => f (s0 + 3) = .pointer (some ⟨X, fo, none⟩)
  | 4, f, _ => f (s0 + 4) = .string x
  | 5, f, _ => f (s0 + 5) = .string x
  | 6, f, _ => f (s0 + 6) = .pointer (some ⟨b, o + k * 3, none⟩)
  | 7, f, _ => f (s0 + 7) = .pointer (some ⟨b, A, none⟩)
  | _, _, _ => True
theorem name_stab (g b o n q k X s0 fo A : Nat) (x : ByteArray) (j : Nat) {f f' : Nat → Value} {w w' : World} (hf : ∀ t ∈ (if j < 8 then [s0 + j] else []), f' t = f t) (h : nameR g b o n q k X s0 fo A x j f w) : nameR g b o n q k X s0 fo A x j f' w' := by
  by_cases hj : j < 8
  · rw [if_pos hj] at hf
    have hf' := hf _ (List.mem_singleton.2 rfl)
    match j, hj with
    | 0, _ => exact hf'.trans h
    | 1, _ => exact hf'.trans h
    | 2, _ => exact hf'.trans h
    | 3, _ => exact hf'.trans h
    | 4, _ => exact hf'.trans h
    | 5, _ => exact hf'.trans h
    | 6, _ => exact hf'.trans h
    | 7, _ => exact hf'.trans h
  · unfold nameR
    split <;> first | trivial | omega
theorem name_world (g b o n q k X s0 fo A : Nat) (x : ByteArray) (j : Nat) {f : Nat → Value} {w w' : World} (h : nameR g b o n q k X s0 fo A x j f w) : nameR g b o n q k X s0 fo A x j f w' := name_stab g b o n q k X s0 fo A x j (fun _ _ => rfl) h
end Go.Proofs.Ytpaneggajjgdlaa.Cpy
namespace Go.Proofs.Ytpaneggajjgdlaa.Cpy
open Go.ChangeShapes Go.WideShapes Go.ChangeAt Go.RowKit Circ Cw

theorem strclone_any (s : ByteArray) (w : World) (hs : s.size ≤ 281474976710656) : Calls Try.prog 72 #[.string s] w fun e w' => e = .returned (.string s) ∧ Below w.heap.size w w' := by
  have C := Lib.hid (Try.stringslite_Clone s w hs)
  go_enter Try.func72, Try.ntmps72
  go_wp2_with fail
  refine C.out.mono ?_
  rintro e w' ⟨rfl, hb⟩
  go_wp2
  go_ret
  exact ⟨rfl, hb⟩
end Go.Proofs.Ytpaneggajjgdlaa.Cpy
namespace Go.Proofs.Ytpaneggajjgdlaa.Cw
open Go.ChangeShapes Go.WideShapes Go.ChangeAt Go.RowKit Go.Maps Circ

/-- the box in block g holds cs; what lay below g is there -/
structure Boxed (W : World) (g : Nat) (cs : Array Value) (w : World) : Prop where
  h : w.heap[g]? = some (.cells cs 27 (0, 0))
  b : Below g W w
  z : g + 2 ≤ w.heap.size
theorem Boxed.cell {W : World} {g : Nat} {cs : Array Value} {w : World} (h : Boxed W g cs w) (i : Nat) : w.cell? ⟨g, i, none⟩ = cs[i]? := by simp [World.cell?, h.h]
theorem Boxed.below {W : World} {g : Nat} {cs : Array Value} {w w' : World} (h : Boxed W g cs w) (hb : Below w.heap.size w w') : Boxed W g cs w' :=
  have hz := h.z
  ⟨(hb.block g (by omega)).trans h.h, h.b.trans (hb.mono (by omega)), Nat.le_trans h.z hb.size⟩
theorem Boxed.set {W : World} {g : Nat} {cs : Array Value} {w : World} (h : Boxed W g cs w) (i : Nat) (v : Value) : Boxed W g (cs.setIfInBounds i v) (w.setCell ⟨g, i, none⟩ v) := by
  refine ⟨by simp [World.setCell, Array.getElem?_modify, h.h], ⟨h.b.os, h.b.tape, h.b.output, by simpa using h.b.size, fun k hk => ?_⟩, by simpa using h.z⟩
  have : (w.setCell ⟨g, i, none⟩ v).heap[k]? = w.heap[k]? := by simp [World.setCell, Array.getElem?_modify, show g ≠ k by omega]
  rw [this]; exact h.b.block k hk
/-- a circuit all of whose lists were made from block B on -/
structure Owned (w : World) (B : Nat) (c : Cir) (s : Places) : Prop where
  ins : OwnC w B 3 1 (.slice s.ai c.ins.length s.ki) (ints c.ins)
  lats : OwnC w B 39 3 (.slice s.al c.lats.length s.kl) (tris c.lats)
  outs : OwnC w B 3 1 (.slice s.ao c.outs.length s.ko) (ints c.outs)
  bads : OwnC w B 3 1 (.slice s.ab c.bads.length s.kb) (ints c.bads)
  invs : OwnC w B 3 1 (.slice s.ac c.invs.length s.kc) (ints c.invs)
  ands : OwnC w B 43 3 (.slice s.aa c.ands.length s.ka) (tris c.ands)
  names : OwnC w B 73 3 (.slice s.an c.names.length s.kn) (nams c.names)

end Go.Proofs.Ytpaneggajjgdlaa.Cw
