/- Lists of a call's own whose elements are written over, one by one, and what stays while strash.Hash does so; no condition. The walk of strash.Hash; no condition but that what is asked of it fits. -/
import Derived.Test.YtbgcoeejmnejdaaPt13
import Derived.Test.YtbgcoeejmnejdaaPt20
import Derived.Test.YtbgcoeejmnejdaaPt22
namespace Go.Proofs.Ytbgcoeejmnejdaa.Str
open Go.ChangeShapes Go.WideShapes Go.ChangeAt Go.RowKit Go.Maps Circ Cw Cpy

theorem own_type {w : World} {base : Nat} {e : TypeId} {m : Nat} {v : Value} {xs : List (List Value)} (h : OwnC w base e m v xs) {g : Nat} (hg : v.ownBlock = some g) : ∃ cur, w.heap[g]? = some (.cells cur e (0, 0)) := by
  obtain ⟨_, h⟩ := h
  rcases h with ⟨rfl, h0⟩ | ⟨g', cap, cur, rfl, hb, hh, _⟩
  · simp [Value.ownBlock] at hg
  · have : g' = g := by simpa [Value.ownBlock] using hg
    subst this
    exact ⟨cur, hh⟩
theorem cells8 {w : World} {g : Nat} {c : Cir} {s : Places} (h : w.heap[g]? = some (.cells (cirC c s) 27 (0, 0))) : w.cell? ⟨g, 0, none⟩ = some (.int .i64 c.max) ∧ w.cell? ⟨g, 1, none⟩ = some (.slice s.ai c.ins.length s.ki) ∧ w.cell? ⟨g, 2, none⟩ = some (.slice s.al c.lats.length s.kl) ∧ w.cell? ⟨g, 3, none⟩ = some (.slice s.ao c.outs.length s.ko) ∧ w.cell? ⟨g, 4, none⟩ = some (.slice s.ab c.bads.length s.kb) ∧ w.cell? ⟨g, 5, none⟩ = some (.slice s.ac c.invs.length s.kc) ∧ w.cell? ⟨g, 6, none⟩ = some (.slice s.aa c.ands.length s.ka) ∧ w.cell? ⟨g, 7, none⟩ = some (.slice s.an c.names.length s.kn) := by
  have e : ∀ i, w.cell? ⟨g, i, none⟩ = (cirC c s)[i]? := fun i => by simp [World.cell?, h]
  exact ⟨e 0, e 1, e 2, e 3, e 4, e 5, e 6, e 7⟩
structure Save (g : Option Nat) (w w' : World) : Prop where
  os : w'.os = w.os
  tape : w'.tape = w.tape
  output : w'.output = w.output
  size : w.heap.size ≤ w'.heap.size
  b : ∀ k, k < w.heap.size → g ≠ some k → w'.heap[k]? = w.heap[k]?
theorem Save.of {g : Option Nat} {w w' : World} (h : Below w.heap.size w w') : Save g w w' := ⟨h.os, h.tape, h.output, h.size, fun k hk _ => h.block k hk⟩
theorem Save.trans {g : Option Nat} {a b c : World} (h : Save g a b) (k : Save g b c) : Save g a c :=
  ⟨k.os.trans h.os, k.tape.trans h.tape, k.output.trans h.output, Nat.le_trans h.size k.size, fun i hi hg => (k.b i (Nat.lt_of_lt_of_le hi h.size) hg).trans (h.b i hi hg)⟩
theorem Save.below {g : Option Nat} {N : Nat} {W w w' : World} (h : Save g w w') (hb : Below N W w) (hN : N ≤ w.heap.size) (hg : ∀ k, g = some k → N ≤ k) : Below N W w' :=
  ⟨h.os.trans hb.os, h.tape.trans hb.tape, h.output.trans hb.output, Nat.le_trans hb.size h.size, fun k hk => (h.b k (by omega) (fun e => by have := hg k e; omega)).trans (hb.block k hk)⟩
def upto {α : Type} (f : α → α) (l : List α) (j : Nat) : List α := (l.take j).map f ++ l.drop j
theorem HsAt.above {w w' : World} {C p m1 m2 n : Nat} {v : Value} {h : Hs} (H : HsAt w C p m1 m2 v h n) (hb : ∀ k, C ≤ k → k < w.heap.size → w'.heap[k]? = w.heap[k]?) : HsAt w' C p m1 m2 v h n := by
  obtain ⟨l1, l2, l3⟩ := H.lt
  obtain ⟨a, b, c⟩ := H.lo
  exact ⟨(hb p a l1).trans H.box, H.f.keep (hb m1 b l2), H.g.keep (hb m2 c l3), H.st.keep_at (fun g _ hg => hb g (H.st.block_lt g hg).1 (H.st.block_lt g hg).2), H.lo, H.ne, H.own⟩
/-- the copy's box, once its ands are those that stayed -/
def boxH (c : Cir) (s : Places) (va : Value) : Array Value := #[.int .i64 c.max, .slice s.ai c.ins.length s.ki, .slice s.al c.lats.length s.kl, .slice s.ao c.outs.length s.ko, .slice s.ab c.bads.length s.kb, .slice s.ac c.invs.length s.kc, va, .slice s.an c.names.length s.kn]
/-- the copy's lists while they are written over; what is being hashed lies above C -/
structure StH (N gd C p m1 m2 n : Nat) (va : Value) (h : Hs) (W : World) (c : Cir) (s : Places) (outs bads invs : List Int) (lats : List Tri) (w : World) : Prop where
  i : OwnC w N 3 1 (.slice s.ai c.ins.length s.ki) (ints c.ins)
  o : OwnC w N 3 1 (.slice s.ao c.outs.length s.ko) (ints outs)
  d : OwnC w N 3 1 (.slice s.ab c.bads.length s.kb) (ints bads)
  v : OwnC w N 3 1 (.slice s.ac c.invs.length s.kc) (ints invs)
  l : OwnC w N 39 3 (.slice s.al c.lats.length s.kl) (tris lats)
  nm : OwnC w N 84 3 (.slice s.an c.names.length s.kn) (nams c.names)
  x : w.heap[gd]? = some (.cells (boxH c s va) 27 (0, 0))
  hs : HsAt w C p m1 m2 va h n
  b : Below N W w
  z : N ≤ w.heap.size
  g : N ≤ gd
  lo : ∀ k, s.ao.map Addr.block = some k → k < C
  ld : ∀ k, s.ab.map Addr.block = some k → k < C
  lv : ∀ k, s.ac.map Addr.block = some k → k < C
  ll : ∀ k, s.al.map Addr.block = some k → k < C
section
variable {N gd C p m1 m2 n : Nat} {va : Value} {h : Hs} {W w w' : World} {c : Cir} {s : Places} {outs bads invs : List Int} {lats : List Tri}
theorem StH.below (H : StH N gd C p m1 m2 n va h W c s outs bads invs lats w) (hb : Below w.heap.size w w') : StH N gd C p m1 m2 n va h W c s outs bads invs lats w' :=
  ⟨H.i.keep hb, H.o.keep hb, H.d.keep hb, H.v.keep hb, H.l.keep hb, H.nm.keep hb, (hb.block gd (lt_of_block H.x)).trans H.x, H.hs.below hb, H.b.trans (hb.mono H.z), Nat.le_trans H.z hb.size, H.g, H.lo, H.ld, H.lv, H.ll⟩
end
end Go.Proofs.Ytbgcoeejmnejdaa.Str
namespace Go.Proofs.Ytbgcoeejmnejdaa.Str
open Go.ChangeShapes Go.WideShapes Go.ChangeAt Go.RowKit Go.Maps Circ Cw
open Cpy (copy_any Apart)

theorem ands_far {c : Cir} (h : refOk c = true) : ∀ (k : Nat) (hk : k < c.ands.length), 2 * (k : Int) + 2 ≤ c.ands[k].a
  | 0, hk => by have := (ands_own h (List.getElem_mem hk)).1; omega
  | k + 1, hk => by
    have h1 := ands_far h k (by omega)
    have h2 : c.ands[k].a < c.ands[k + 1].a := ands_less h (Nat.lt_succ_self k) hk
    have h3 := (ands_own h (List.getElem_mem hk)).2.1
    have h4 := (ands_own h (List.getElem_mem (show k < c.ands.length by omega))).2.1
    omega
theorem ref_sizes {c : Cir} (h : refOk c = true) : c.ins.length ≤ 64 ∧ c.lats.length ≤ 64 ∧ c.outs.length ≤ 64 ∧ c.bads.length ≤ 64 ∧ c.invs.length ≤ 64 ∧ c.ands.length ≤ 4097 := by
  obtain ⟨hh, -, -, -, ho, hb, hi⟩ := ref_parts h
  unfold refHead at hh
  unfold allKnown at ho hb hi
  simp only [Bool.and_eq_true, Bool.not_eq_true', decide_eq_false_iff_not, decide_eq_true_eq] at hh ho hb hi
  refine ⟨by omega, by omega, ho.2, hb.2, hi.2, ?_⟩
  rcases Nat.lt_or_ge 4097 c.ands.length with h1 | h1
  · have h2 := ands_far h 4097 h1
    have h3 := (ands_own h (List.getElem_mem h1)).2.2.1
    omega
  · exact h1
theorem op_store_int_set (a : Act) (w : World) (g k : Nat) (u : Value) (x : Int) (t s : Nat) (h1 : a.tmps.getD t undef = .pointer (some ⟨g, k, none⟩)) (h2 : a.tmps.getD s undef = .int .i64 x) (hc : w.cell? ⟨g, k, none⟩ = some u) (hz : w.frozen? ⟨g, k, none⟩ = false) (oo : Oper) (ho : oo.op = .store 3 (.tmp t) (.tmp s)) : (execOp a.eval oo).run Try.prog w = .ok .skip (w.setCell ⟨g, k, none⟩ (.int .i64 x)) := by
  have h1' : a.tmps[t]?.getD undef = .pointer (some ⟨g, k, none⟩) := by simpa using h1
  have h2' : a.tmps[s]?.getD undef = .int .i64 x := by simpa using h2
  unfold execOp
  rw [ho]
  go_simp
theorem op_field_api_Circuit_2 (a : Act) (w : World) (b : Nat) (t : Nat) (h : a.tmps.getD t undef = .pointer (some ⟨b, 0, none⟩)) (oo : Oper) (ho : oo.op = .fieldAddr 27 (.tmp t) 2) : (execOp a.eval oo).run Try.prog w = .ok (.value (.pointer (some ⟨b, 2, none⟩))) w := by
  have h' : a.tmps[t]?.getD undef = .pointer (some ⟨b, 0, none⟩) := by simpa using h
  unfold execOp
  rw [ho]
  go_simp
theorem op_load_Lapi_Latch (a : Act) (w : World) (A : Addr) (t : Nat) (v : Value) (h : a.tmps.getD t undef = .pointer (some A)) (hc : w.cell? A = some v) (oo : Oper) (ho : oo.op = .load 23 (.tmp t)) : (execOp a.eval oo).run Try.prog w = .ok (.value v) w := by
  have h' : a.tmps[t]?.getD undef = .pointer (some A) := by simpa using h
  unfold execOp
  rw [ho]
  go_simp
end Go.Proofs.Ytbgcoeejmnejdaa.Str
