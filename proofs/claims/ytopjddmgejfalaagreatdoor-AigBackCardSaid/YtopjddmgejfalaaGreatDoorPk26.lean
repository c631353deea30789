/- The walk of aig's reading of a circuit's parts, in their order; no condition. -/
import Derived.Test.YtopjddmgejfalaaGreatDoorPk21
import Derived.Test.YtopjddmgejfalaaGreatDoorPk22
import Derived.Test.YtopjddmgejfalaaGreatDoorPk25
namespace Go.Proofs.YtopjddmgejfalaaGreatDoor.Aig
open Go.ChangeShapes Go.WideShapes Go.ChangeAt Go.RowKit Dig Circ Cw Aag

/-- w' is w but for blocks R and C, and new blocks -/
structure Ext2 (R C : Nat) (w w' : World) : Prop where
  os : w'.os = w.os
  tape : w'.tape = w.tape
  output : w'.output = w.output
  size : w.heap.size ≤ w'.heap.size
  block : ∀ k, k < w.heap.size → k ≠ R → k ≠ C → w'.heap[k]? = w.heap[k]?
theorem Ext2.refl (R C : Nat) (w : World) : Ext2 R C w w := ⟨rfl, rfl, rfl, Nat.le_refl _, fun _ _ _ _ => rfl⟩
theorem Ext2.ext {R C : Nat} {a b c : World} (h : Ext2 R C a b) (k : Ext R b c) : Ext2 R C a c :=
  ⟨k.os.trans h.os, k.tape.trans h.tape, k.output.trans h.output, Nat.le_trans h.size k.size, fun i hi hr hc => (k.block i (Nat.lt_of_lt_of_le hi h.size) hr).trans (h.block i hi hr hc)⟩
theorem Ext2.then {R C : Nat} {a b c : World} (h : Ext2 R C a b) (k : Below a.heap.size b c) : Ext2 R C a c :=
  ⟨k.os.trans h.os, k.tape.trans h.tape, k.output.trans h.output, Nat.le_trans h.size k.size, fun i hi hr hc => (k.block i hi).trans (h.block i hi hr hc)⟩
theorem Ext2.but {R C : Nat} {a b c : World} (h : Ext2 R C a b) (k : But C b c) : Ext2 R C a c :=
  ⟨k.os.trans h.os, k.tape.trans h.tape, k.output.trans h.output, Nat.le_trans h.size (Nat.le_of_eq k.z.symm), fun i hi hr hc => (k.b i hc).trans (h.block i hi hr hc)⟩
theorem own_ext2 {R C : Nat} {w w' : World} {m base : Nat} {e : TypeId} {v : Value} {xs : List (List Value)} (h : OwnC w base e m v xs) (hb : Ext2 R C w w') (hR : R < base) (hC : C < base) : OwnC w' base e m v xs :=
  h.keep_at fun g hg hv => hb.block g (h.block_lt g hv).2 (by omega) (by omega)
theorem own_but5 {w w' : World} {g b : Nat} {e : TypeId} {m : Nat} {v : Value} {xs : List (List Value)} (h : OwnC w b e m v xs) (hb : But g w w') (hg : g < b) : OwnC w' b e m v xs := h.keep_at fun k hk _ => hb.b k (by omega)
/-- what holds while a region that appends one to a list of the circuit's is under way: i1 reads on, i2 appends, i3 stores -/
structure COk (i1 i2 i3 S R C : Nat) (wL wr : World) (E : TypeId) (m : Nat) (s : List UInt8) (v : Value) (xs : List (List Value)) (CS : Array Value) (d : Nat → Bool) (w : World) : Prop where
  size : wr.heap.size ≤ w.heap.size
  ext : Ext2 R C wL w
  s0 : d i1 = false → Src S R s w
  own : d i2 = false → OwnC w wL.heap.size E m v xs
  box : d i3 = false → w.heap[C]? = some (.cells CS 27 (0, 0))
section
variable {i1 i2 i3 S R C : Nat} {wL wr : World} {E : TypeId} {m : Nat} {s : List UInt8} {v : Value} {xs : List (List Value)} {CS : Array Value} {d d' : Nat → Bool} {w w' : World}
theorem COk.below (h : COk i1 i2 i3 S R C wL wr E m s v xs CS d w) (hb : Below w.heap.size w w') (h1 : d' i1 = d i1) (h2 : d' i2 = d i2) (h3 : d' i3 = d i3) : COk i1 i2 i3 S R C wL wr E m s v xs CS d' w' :=
  ⟨Nat.le_trans h.size hb.size, h.ext.ext (Ext.of hb), fun e => (h.s0 (h1.symm.trans e)).below hb, fun e => (h.own (h2.symm.trans e)).keep hb, fun e => by
    have hx := h.box (h3.symm.trans e)
    exact (hb.block C (lt_of_block hx)).trans hx⟩
theorem COk.read (h : COk i1 i2 i3 S R C wL wr E m s v xs CS d w) (hE : Ext R w w') (hRC : R ≠ C) (hR : R < wL.heap.size) : COk i1 i2 i3 S R C wL wr E m s v xs CS (fun j => decide (j = i1) || d j) w' :=
  ⟨Nat.le_trans h.size hE.size, h.ext.ext hE, fun e => by simp at e, fun e => by
    simp only [Bool.or_eq_false_iff] at e
    exact own_ext (h.own e.2) hE hR, fun e => by
    simp only [Bool.or_eq_false_iff] at e
    have hx := h.box e.2
    exact (hE.block C (lt_of_block hx) hRC.symm).trans hx⟩
theorem COk.push (h : COk i1 i2 i3 S R C wL wr E m s v xs CS d w) (hb : Below wL.heap.size w w') (hS : S ≤ wL.heap.size) (hC : C < wL.heap.size) : COk i1 i2 i3 S R C wL wr E m s v xs CS (fun j => decide (j = i2) || d j) w' :=
  ⟨Nat.le_trans h.size hb.size, h.ext.then hb, fun e => by
    simp only [Bool.or_eq_false_iff] at e
    exact (h.s0 e.2).later (hb.mono hS), fun e => by simp at e, fun e => by
    simp only [Bool.or_eq_false_iff] at e
    have hx := h.box e.2
    exact (hb.block C hC).trans hx⟩
theorem COk.store (h : COk i1 i2 i3 S R C wL wr E m s v xs CS d w) (hb : But C w w') (hS : S ≤ C) (hC : C < wL.heap.size) : COk i1 i2 i3 S R C wL wr E m s v xs CS (fun j => decide (j = i3) || d j) w' :=
  ⟨Nat.le_trans h.size (Nat.le_of_eq hb.z.symm), h.ext.but hb, fun e => by
    simp only [Bool.or_eq_false_iff] at e
    exact (h.s0 e.2).later (hb.below (Below.refl _ _) hS), fun e => by
    simp only [Bool.or_eq_false_iff] at e
    exact own_but5 (h.own e.2) hb hC, fun e => by simp at e⟩
end
theorem op_store_list (a : Act) (w : World) (T E : TypeId) (hT : T = 22 ∨ T = 23 ∨ T = 24 ∨ T = 25) (g k : Nat) (z : Array Value) (hg : w.heap[g]? = some (.cells z E (0, 0))) (hk : k < z.size) (A : Option Addr) (n q : Nat) (p s : Nat) (hp : a.tmps.getD p undef = .pointer (some ⟨g, k, none⟩)) (hs : a.tmps.getD s undef = .slice A n q) (o : Oper) (ho : o.op = .store T (.tmp p) (.tmp s)) : ∃ w', (execOp a.eval o).run Tryz.prog w = .ok .skip w' ∧ w'.heap[g]? = some (.cells (z.setIfInBounds k (.slice A n q)) E (0, 0)) ∧ But g w w' := by
  obtain ⟨Z, u, ⟨hS1, p0, t0⟩, E3, FF⟩ := step_set w z k (.slice A n q) hg hk
  refine ⟨Z, ?_, E3, FF⟩
  unfold execOp
  rw [ho]
  have hp' : a.tmps[p]?.getD undef = .pointer (some ⟨g, k, none⟩) := by simpa using hp
  have hs' : a.tmps[s]?.getD undef = .slice A n q := by simpa using hs
  clear hp hs hg hk E3 FF
  rcases hT with rfl | rfl | rfl | rfl <;> go_simp

/- what is read behind the header, part by part -/
def c7 (x : Int) (i : List Int) (l : List Tri) (os bs vs : List Int) (as_ : List Tri) (s : List UInt8) : Option (Cir × List UInt8) := (rdNames s.length s []).map fun ns => (⟨x, i, l, os, bs, vs, as_, ns⟩, [])
def c6 (ns : List Int) (l : List Tri) (os bs vs : List Int) (s : List UInt8) : Option (Cir × List UInt8) := (rdMany (fun i => rdAnd (lit ((ns.getD 1 0).toNat + (ns.getD 2 0).toNat + i))) (ns.getD 4 0).toNat 0 s []).bind fun r => c7 (ns.getD 0 0) (evens (ns.getD 1 0).toNat) l os bs vs r.1 r.2
def c5 (ns : List Int) (l : List Tri) (os bs : List Int) (s : List UInt8) : Option (Cir × List UInt8) := (rdMany (fun _ => rdLine formLit) (ns.getD 6 0).toNat 0 s []).bind fun r => c6 ns l os bs r.1 r.2
def c4 (ns : List Int) (l : List Tri) (os : List Int) (s : List UInt8) : Option (Cir × List UInt8) := (rdMany (fun _ => rdLine formLit) (ns.getD 5 0).toNat 0 s []).bind fun r => c5 ns l os r.1 r.2
def c3 (ns : List Int) (l : List Tri) (s : List UInt8) : Option (Cir × List UInt8) := (rdMany (fun _ => rdLine formLit) (ns.getD 3 0).toNat 0 s []).bind fun r => c4 ns l r.1 r.2
def c2 (ns : List Int) (s : List UInt8) : Option (Cir × List UInt8) := (rdMany (fun i => rdLine (formLat5 (lit ((ns.getD 1 0).toNat + i)))) (ns.getD 2 0).toNat 0 s []).bind fun r => c3 ns r.1 r.2
theorem circ5_parts (l : List UInt8) : (circ5 l).map (fun c => (c, ([] : List UInt8))) = (rdLine formHead5 l).bind fun h => c2 h.1 h.2 := by
  unfold circ5 rdCore
  cases rdLine formHead5 l with
  | none => rfl
  | some h =>
  simp only [Option.bind_some, c2]
  cases rdMany (fun i => rdLine (formLat5 (lit ((h.1.getD 1 0).toNat + i)))) (h.1.getD 2 0).toNat 0 h.2 [] with
  | none => rfl
  | some r2 =>
  simp only [Option.bind_some, c3]
  cases rdMany (fun _ => rdLine formLit) (h.1.getD 3 0).toNat 0 r2.2 [] with
  | none => rfl
  | some r3 =>
  simp only [Option.bind_some, c4]
  cases rdMany (fun _ => rdLine formLit) (h.1.getD 5 0).toNat 0 r3.2 [] with
  | none => rfl
  | some r4 =>
  simp only [Option.bind_some, c5]
  cases rdMany (fun _ => rdLine formLit) (h.1.getD 6 0).toNat 0 r4.2 [] with
  | none => rfl
  | some r5 =>
  simp only [Option.bind_some, c6]
  cases rdMany (fun i => rdAnd (lit ((h.1.getD 1 0).toNat + (h.1.getD 2 0).toNat + i))) (h.1.getD 4 0).toNat 0 r5.2 [] with
  | none => rfl
  | some r6 =>
  simp only [Option.bind_some, c7]
  cases rdNames r6.2.length r6.2 [] <;> rfl
theorem evens_succ (j : Nat) : evens (j + 1) = evens j ++ [lit j] := by unfold evens; rw [List.range_succ, List.map_append]; rfl
theorem Ch5.but {W w w' : World} {C : Nat} (hC : C < W.heap.size) (h : But C w w') : Ch5 W w w' := ⟨Nat.le_of_eq h.z.symm, fun k h1 _ => h.b k (by omega)⟩
theorem op_call1' (a : Act) (w : World) (f t T : Nat) (hf : ∀ args w, (callFunc f args).run Tryz.prog w = .ok (.enter f args) w) (oo : Oper) (ho : oo.op = .call { callee := .value (.func f), args := #[.tmp t], argTypes := #[T] }) : (execOp a.eval oo).run Tryz.prog w = .ok (.enter f #[a.tmps.getD t undef]) w := by
  unfold execOp
  rw [ho]
  go_simp
/-- what was read, and what is left -/
def tOf (x : Option (Tri × List UInt8)) : Tri := (x.map (fun y => y.1)).getD ⟨0, 0, 0⟩
def nOf (x : Option (Nam × List UInt8)) : Nam := (x.map (fun y => y.1)).getD ⟨⟨#[]⟩, 0, ⟨#[]⟩⟩
def rOf {α : Type} (x : Option (α × List UInt8)) : List UInt8 := (x.map (fun y => y.2)).getD []
theorem some_of {x : Option (Tri × List UInt8)} (h : x.isSome = true) : x = some (tOf x, rOf x) := by
  cases x with
  | none => cases h
  | some y => rfl
theorem some_ofN {x : Option (Nam × List UInt8)} (h : x.isSome = true) : x = some (nOf x, rOf x) := by
  cases x with
  | none => cases h
  | some y => rfl
theorem cells_of {w : World} {g : Nat} {x : List Value} {E : TypeId} {fr : Nat × Nat} (h : w.heap[g]? = some (.cells x.toArray E fr)) : ∀ (j : Nat) u, x[j]? = some u → w.cell? ⟨g, j, none⟩ = some u := fun j u hu => by
  rw [Lib.cell_of_heap h]; simpa using hu
theorem op_slice_lat5 (a : Act) (w : World) (t : Tri) (i : Nat) (h1 : a.tmps.getD i undef = .agg #[.int .i64 t.a, .int .i64 t.b, .int .i64 t.c]) (oo : Oper) (ho : oo.op = .buildSlice 23 1 #[(0, .tmp i)]) : (execOp a.eval oo).run Tryz.prog w = .ok (.value (.slice (some ⟨w.heap.size, 0, none⟩) 1 1)) (w.alloc (.cells #[.int .i64 t.a, .int .i64 t.b, .int .i64 t.c] 48)) := by
  have h1' : a.tmps[i]?.getD undef = .agg #[.int .i64 t.a, .int .i64 t.b, .int .i64 t.c] := by simpa using h1
  unfold execOp
  rw [ho]
  go_simp
theorem op_slice_and5 (a : Act) (w : World) (t : Tri) (i : Nat) (h1 : a.tmps.getD i undef = .agg #[.int .i64 t.a, .int .i64 t.b, .int .i64 t.c]) (oo : Oper) (ho : oo.op = .buildSlice 24 1 #[(0, .tmp i)]) : (execOp a.eval oo).run Tryz.prog w = .ok (.value (.slice (some ⟨w.heap.size, 0, none⟩) 1 1)) (w.alloc (.cells #[.int .i64 t.a, .int .i64 t.b, .int .i64 t.c] 54)) := by
  have h1' : a.tmps[i]?.getD undef = .agg #[.int .i64 t.a, .int .i64 t.b, .int .i64 t.c] := by simpa using h1
  unfold execOp
  rw [ho]
  go_simp
theorem op_slice_nam5 (a : Act) (w : World) (t : Nam) (i : Nat) (h1 : a.tmps.getD i undef = .agg #[.string t.kind, .int .i64 t.num, .string t.text]) (oo : Oper) (ho : oo.op = .buildSlice 25 1 #[(0, .tmp i)]) : (execOp a.eval oo).run Tryz.prog w = .ok (.value (.slice (some ⟨w.heap.size, 0, none⟩) 1 1)) (w.alloc (.cells #[.string t.kind, .int .i64 t.num, .string t.text] 57)) := by
  have h1' : a.tmps[i]?.getD undef = .agg #[.string t.kind, .int .i64 t.num, .string t.text] := by simpa using h1
  unfold execOp
  rw [ho]
  go_simp
theorem infoAnd5 : (Tryz.prog.info? 54).map (fun i => (i.zero, i.size, i.bytes)) = some (some (.agg #[.int .i64 0, .int .i64 0, .int .i64 0]), 3, 24) := by kernel_rfl
theorem infoNam5 : (Tryz.prog.info? 57).map (fun i => (i.zero, i.size, i.bytes)) = some (some (.agg #[.string ⟨#[]⟩, .int .i64 0, .string ⟨#[]⟩]), 3, 40) := by kernel_rfl
theorem nams_len3 (l : List Nam) : ∀ y ∈ nams l, y.length = 3 := fun y hy => by obtain ⟨x, _, rfl⟩ := List.mem_map.1 hy; rfl
theorem op_add_nat (a : Act) (w : World) (x y : Nat) (s t : Nat) (h1 : a.tmps.getD s undef = .int .i64 (x : Int)) (h2 : a.tmps.getD t undef = .int .i64 (y : Int)) (h3 : x + y ≤ 1000000) (oo : Oper) (ho : oo.op = .binOp .add 3 (.tmp s) (.tmp t) 3) : (execOp a.eval oo).run Tryz.prog w = .ok (.value (.int .i64 ((x + y : Nat) : Int))) w := by
  rw [Int.natCast_add]
  exact op_add_small a w x y s t h1 h2 (by omega) (by omega) oo ho
theorem ext_ext2 {R C : Nat} {a b c : World} (h : Ext R a b) (k : Ext2 R C b c) (hC : a.heap.size ≤ C) : Ext R a c :=
  ⟨k.os.trans h.os, k.tape.trans h.tape, k.output.trans h.output, Nat.le_trans h.size k.size, fun i hi hr => (k.block i (Nat.lt_of_lt_of_le hi h.size) hr (by omega)).trans (h.block i hi hr)⟩
theorem c2_def (ns : List Int) (s : List UInt8) : c2 ns s = (rdMany (fun i => rdLine (formLat5 (lit ((ns.getD 1 0).toNat + i)))) (ns.getD 2 0).toNat 0 s []).bind fun r => c3 ns r.1 r.2 := rfl
theorem own_base5 {w : World} {b b' : Nat} {e : TypeId} {m : Nat} {v : Value} {xs : List (List Value)} (h : OwnC w b e m v xs) (hb : b' ≤ b) : OwnC w b' e m v xs := by
  obtain ⟨h0, h⟩ := h
  refine ⟨h0, ?_⟩
  rcases h with h | ⟨g, cap, cur, hv, hg, r⟩
  · exact .inl h
  · exact .inr ⟨g, cap, cur, hv, Nat.le_trans hb hg, r⟩
section
variable {x0 : Int} {j k n3 n4 n5 n6 : Nat} {l : List Tri} {l3 l4 l5 xs : List Int} {s s' : List UInt8}
theorem c3_no (h : rdMany (fun _ => rdLine formLit) n3 0 s [] = none) : c3 [x0, (j : Int), k, n3, n4, n5, n6] l s = none := by
  show (rdMany (fun _ => rdLine formLit) n3 0 s []).bind _ = none
  rw [h]; rfl
theorem c3_ok (h : rdMany (fun _ => rdLine formLit) n3 0 s [] = some (xs, s')) : c3 [x0, (j : Int), k, n3, n4, n5, n6] l s = c4 [x0, (j : Int), k, n3, n4, n5, n6] l xs s' := by
  show (rdMany (fun _ => rdLine formLit) n3 0 s []).bind _ = _
  rw [h]; rfl
theorem c4_no (h : rdMany (fun _ => rdLine formLit) n5 0 s [] = none) : c4 [x0, (j : Int), k, n3, n4, n5, n6] l l3 s = none := by
  show (rdMany (fun _ => rdLine formLit) n5 0 s []).bind _ = none
  rw [h]; rfl
theorem c4_ok (h : rdMany (fun _ => rdLine formLit) n5 0 s [] = some (xs, s')) : c4 [x0, (j : Int), k, n3, n4, n5, n6] l l3 s = c5 [x0, (j : Int), k, n3, n4, n5, n6] l l3 xs s' := by
  show (rdMany (fun _ => rdLine formLit) n5 0 s []).bind _ = _
  rw [h]; rfl
theorem c5_no (h : rdMany (fun _ => rdLine formLit) n6 0 s [] = none) : c5 [x0, (j : Int), k, n3, n4, n5, n6] l l3 l4 s = none := by
  show (rdMany (fun _ => rdLine formLit) n6 0 s []).bind _ = none
  rw [h]; rfl
theorem c5_ok (h : rdMany (fun _ => rdLine formLit) n6 0 s [] = some (xs, s')) : c5 [x0, (j : Int), k, n3, n4, n5, n6] l l3 l4 s = c6 [x0, (j : Int), k, n3, n4, n5, n6] l l3 l4 xs s' := by
  show (rdMany (fun _ => rdLine formLit) n6 0 s []).bind _ = _
  rw [h]; rfl
end
theorem c6_no {as6 : List Tri} {x0 : Int} {j k n3 n4 n5 n6 : Nat} {l3 l4 l5 : List Int} {s : List UInt8} (h : rdMany (fun i => rdAnd (lit (j + k + i))) n4 0 s [] = none) : c6 [x0, (j : Int), k, n3, n4, n5, n6] as6 l3 l4 l5 s = none := by
  show (rdMany (fun i => rdAnd (lit (j + k + i))) n4 0 s []).bind _ = none
  rw [h]; rfl
theorem c6_ok {l a : List Tri} {x0 : Int} {j k n3 n4 n5 n6 : Nat} {l3 l4 l5 : List Int} {s s' : List UInt8} (h : rdMany (fun i => rdAnd (lit (j + k + i))) n4 0 s [] = some (a, s')) : c6 [x0, (j : Int), k, n3, n4, n5, n6] l l3 l4 l5 s = c7 x0 (evens j) l l3 l4 l5 a s' := by
  show (rdMany (fun i => rdAnd (lit (j + k + i))) n4 0 s []).bind _ = _
  rw [h]; rfl
theorem rdLine_less {α : Type} {form : List UInt8 → Option α} {s r : List UInt8} {a : α} (h : rdLine form s = some (a, r)) : r.length < s.length := by
  unfold rdLine at h
  cases hc : lineCut s with
  | none => rw [hc] at h; cases h
  | some x =>
    rw [hc] at h
    obtain ⟨hs, -⟩ := lineCut_eq s x.1 x.2 hc
    simp only [Option.bind_some] at h
    cases hf : form x.1 with
    | none => rw [hf] at h; cases h
    | some b =>
      rw [hf] at h
      simp only [Option.map_some, Option.some.injEq, Prod.mk.injEq] at h
      rw [← h.2, hs]; simp; omega
/-- how much is left to read, out of the world -/
def srcLen (R : Nat) (w : World) : Nat := match w.cell? ⟨R, 0, none⟩ with
  | some (.slice _ n _) => n
  | _ => 0
theorem Src.left {S R : Nat} {l : List UInt8} {w : World} (h : Src S R l w) : srcLen R w = l.length := by
  obtain ⟨A, q, hl⟩ := h.lie
  unfold srcLen
  rw [Lib.cell_of_heap hl.blk]; rfl
theorem tris_len3 (l : List Tri) : ∀ y ∈ tris l, y.length = 3 := fun y hy => by obtain ⟨x, _, rfl⟩ := List.mem_map.1 hy; rfl
theorem tris_length5 (l : List Tri) : (tris l).length = l.length := by simp [tris]
theorem infoLat5 : (Tryz.prog.info? 48).map (fun i => (i.zero, i.size, i.bytes)) = some (some (.agg #[.int .i64 0, .int .i64 0, .int .i64 0]), 3, 24) := by kernel_rfl
theorem op_field_cir5_1 (a : Act) (w : World) (b : Nat) (t : Nat) (h : a.tmps.getD t undef = .pointer (some ⟨b, 0, none⟩)) (oo : Oper) (ho : oo.op = .fieldAddr 27 (.tmp t) 1) : (execOp a.eval oo).run Tryz.prog w = .ok (.value (.pointer (some ⟨b, 1, none⟩))) w := by
  have h' : a.tmps[t]?.getD undef = .pointer (some ⟨b, 0, none⟩) := by simpa using h
  unfold execOp
  rw [ho]
  go_simp
/-- what operation j of the region leaves -/
def acir6R (S R C : Nat) (W wL : World) (r : List UInt8) (v : Value) (j : Nat) (CS : Array Value) : Nat → (Nat → Value) → World → Prop
  | 0, f, _ => f 18 = .pointer (some ⟨C, 1, none⟩)
  | 1, f, _ => f 19 = v
  | 2, f, _ => f 20 = .int .i64 (j : Int)
  | 3, f, _ => f 21 = .int .i64 (lit j)
  | 4, f, w => ∃ g, f 22 = .slice (some ⟨g, 0, none⟩) 1 1 ∧ W.heap.size ≤ g ∧ w.heap[g]? = some (.cells #[.int .i64 (lit j)] 3 (0, 0))
  | 5, f, w => OwnC w wL.heap.size 3 1 (f 23) (ints (evens (j + 1)))
  | 6, f, _ => f 24 = .pointer (some ⟨C, 1, none⟩)
  | 7, f, w => w.heap[C]? = some (.cells (CS.setIfInBounds 1 (f 23)) 27 (0, 0)) ∧ Src S R r w
  | _, _, _ => True
def acir6M : Nat → List Nat
  | 0 => [18]
  | 1 => [19]
  | 2 => [20]
  | 3 => [21]
  | 4 => [22]
  | 5 => [23]
  | 6 => [24]
  | 7 => [23]
  | _ => []
theorem acir6_stab {S R C : Nat} {W wL : World} {r : List UInt8} {v : Value} {j : Nat} {CS : Array Value} (jj : Nat) {f f' : Nat → Value} {w w' : World} (h4 : jj = 4 → Ch5 W w w') (h5 : jj = 5 → ∀ (E' : TypeId) (m' : Nat) (v' : Value) (xs' : List (List Value)), OwnC w wL.heap.size E' m' v' xs' → OwnC w' wL.heap.size E' m' v' xs') (h7 : jj = 7 → w'.heap[C]? = w.heap[C]? ∧ (Src S R r w → Src S R r w')) (hf : ∀ t ∈ acir6M jj, f' t = f t) (h : acir6R S R C W wL r v j CS jj f w) : acir6R S R C W wL r v j CS jj f' w' := by
  match jj, hf, h, h4, h5, h7 with
  | 0, hf, h, _, _, _ => exact (hf 18 (by decide)).trans h
  | 1, hf, h, _, _, _ => exact (hf 19 (by decide)).trans h
  | 2, hf, h, _, _, _ => exact (hf 20 (by decide)).trans h
  | 3, hf, h, _, _, _ => exact (hf 21 (by decide)).trans h
  | 4, hf, h, h4, h5, h7 =>
    obtain ⟨g, h1, h2, h3⟩ := h
    exact ⟨g, (hf 22 (by decide)).trans h1, h2, ((h4 rfl).block g h2 (lt_of_block h3)).trans h3⟩
  | 5, hf, h, h4, h5, h7 =>
    show OwnC w' wL.heap.size 3 1 (f' 23) _
    rw [hf 23 (by decide)]
    exact h5 rfl _ _ _ _ h
  | 6, hf, h, _, _, _ => exact (hf 24 (by decide)).trans h
  | 7, hf, h, h4, h5, h7 =>
    refine ⟨?_, (h7 rfl).2 h.2⟩
    show w'.heap[C]? = some (.cells (CS.setIfInBounds 1 (f' 23)) 27 (0, 0))
    rw [hf 23 (by decide)]
    exact (h7 rfl).1.trans h.1
  | _ + 8, _, _, _, _, _ => trivial
theorem op_field_cir5_2 (a : Act) (w : World) (b : Nat) (t : Nat) (h : a.tmps.getD t undef = .pointer (some ⟨b, 0, none⟩)) (oo : Oper) (ho : oo.op = .fieldAddr 27 (.tmp t) 2) : (execOp a.eval oo).run Tryz.prog w = .ok (.value (.pointer (some ⟨b, 2, none⟩))) w := by
  have h' : a.tmps[t]?.getD undef = .pointer (some ⟨b, 0, none⟩) := by simpa using h
  unfold execOp
  rw [ho]
  go_simp
theorem op_load_cir5_Latch (a : Act) (w : World) (A : Addr) (t : Nat) (v : Value) (h : a.tmps.getD t undef = .pointer (some A)) (hc : w.cell? A = some v) (oo : Oper) (ho : oo.op = .load 23 (.tmp t)) : (execOp a.eval oo).run Tryz.prog w = .ok (.value v) w := by
  have h' : a.tmps[t]?.getD undef = .pointer (some A) := by simpa using h
  unfold execOp
  rw [ho]
  go_simp
/-- what operation j of the region leaves -/
def acir11R (S R C : Nat) (W wL : World) (r : List UInt8) (v : Value) (t : Tri) (acc : List Tri) (CS : Array Value) (X : Prop) (M j k : Nat) : Nat → (Nat → Value) → World → Prop
  | 0, f, _ => f 31 = .pointer (some ⟨C, 2, none⟩)
  | 1, f, _ => f 32 = v
  | 2, f, _ => f 33 = .pointer (some ⟨R, 0, none⟩)
  | 3, f, _ => f 34 = .pointer (some ⟨M, 1, none⟩)
  | 4, f, _ => f 35 = .int .i64 (j : Int)
  | 5, f, _ => f 36 = .int .i64 (k : Int)
  | 6, f, _ => f 37 = .int .i64 ((j + k : Nat) : Int)
  | 7, f, _ => f 38 = .int .i64 (lit (j + k))
  | 8, f, w => f 39 = .agg #[.int .i64 t.a, .int .i64 t.b, .int .i64 t.c] ∧ Src S R r w ∧ X
  | 9, f, w => ∃ g, f 40 = .slice (some ⟨g, 0, none⟩) 1 1 ∧ W.heap.size ≤ g ∧ w.heap[g]? = some (.cells #[.int .i64 t.a, .int .i64 t.b, .int .i64 t.c] 48 (0, 0))
  | 10, f, w => OwnC w wL.heap.size 48 3 (f 41) (tris (acc ++ [t]))
  | 11, f, _ => f 42 = .pointer (some ⟨C, 2, none⟩)
  | 12, f, w => w.heap[C]? = some (.cells (CS.setIfInBounds 2 (f 41)) 27 (0, 0))
  | _, _, _ => True
def acir11M : Nat → List Nat
  | 0 => [31]
  | 1 => [32]
  | 2 => [33]
  | 3 => [34]
  | 4 => [35]
  | 5 => [36]
  | 6 => [37]
  | 7 => [38]
  | 8 => [39]
  | 9 => [40]
  | 10 => [41]
  | 11 => [42]
  | 12 => [41]
  | _ => []
theorem acir11_stab {S R C : Nat} {W wL : World} {r : List UInt8} {v : Value} {t : Tri} {acc : List Tri} {CS : Array Value} {X : Prop} {M j k : Nat} (jj : Nat) {f f' : Nat → Value} {w w' : World} (h8 : jj = 8 → (Src S R r w → Src S R r w')) (h9 : jj = 9 → Ch5 W w w') (h10 : jj = 10 → ∀ (E' : TypeId) (m' : Nat) (v' : Value) (xs' : List (List Value)), OwnC w wL.heap.size E' m' v' xs' → OwnC w' wL.heap.size E' m' v' xs') (h12 : jj = 12 → w'.heap[C]? = w.heap[C]?) (hf : ∀ t ∈ acir11M jj, f' t = f t) (h : acir11R S R C W wL r v t acc CS X M j k jj f w) : acir11R S R C W wL r v t acc CS X M j k jj f' w' := by
  match jj, hf, h, h8, h9, h10, h12 with
  | 0, hf, h, _, _, _, _ => exact (hf 31 (by decide)).trans h
  | 1, hf, h, _, _, _, _ => exact (hf 32 (by decide)).trans h
  | 2, hf, h, _, _, _, _ => exact (hf 33 (by decide)).trans h
  | 3, hf, h, _, _, _, _ => exact (hf 34 (by decide)).trans h
  | 4, hf, h, _, _, _, _ => exact (hf 35 (by decide)).trans h
  | 5, hf, h, _, _, _, _ => exact (hf 36 (by decide)).trans h
  | 6, hf, h, _, _, _, _ => exact (hf 37 (by decide)).trans h
  | 7, hf, h, _, _, _, _ => exact (hf 38 (by decide)).trans h
  | 8, hf, h, h8, h9, h10, h12 =>
    exact ⟨(hf 39 (by decide)).trans h.1, (h8 rfl) h.2.1, h.2.2⟩
  | 9, hf, h, h8, h9, h10, h12 =>
    obtain ⟨g, h1, h2, h3⟩ := h
    exact ⟨g, (hf 40 (by decide)).trans h1, h2, ((h9 rfl).block g h2 (lt_of_block h3)).trans h3⟩
  | 10, hf, h, h8, h9, h10, h12 =>
    show OwnC w' wL.heap.size 48 3 (f' 41) _
    rw [hf 41 (by decide)]
    exact h10 rfl _ _ _ _ h
  | 11, hf, h, _, _, _, _ => exact (hf 42 (by decide)).trans h
  | 12, hf, h, h8, h9, h10, h12 =>
    show w'.heap[C]? = some (.cells (CS.setIfInBounds 2 (f' 41)) 27 (0, 0))
    rw [hf 41 (by decide)]
    exact (h12 rfl).trans h
  | _ + 13, _, _, _, _, _, _ => trivial
theorem op_field_cir5_6 (a : Act) (w : World) (b : Nat) (t : Nat) (h : a.tmps.getD t undef = .pointer (some ⟨b, 0, none⟩)) (oo : Oper) (ho : oo.op = .fieldAddr 27 (.tmp t) 6) : (execOp a.eval oo).run Tryz.prog w = .ok (.value (.pointer (some ⟨b, 6, none⟩))) w := by
  have h' : a.tmps[t]?.getD undef = .pointer (some ⟨b, 0, none⟩) := by simpa using h
  unfold execOp
  rw [ho]
  go_simp
theorem op_load_cir5_And (a : Act) (w : World) (A : Addr) (t : Nat) (v : Value) (h : a.tmps.getD t undef = .pointer (some A)) (hc : w.cell? A = some v) (oo : Oper) (ho : oo.op = .load 24 (.tmp t)) : (execOp a.eval oo).run Tryz.prog w = .ok (.value v) w := by
  have h' : a.tmps[t]?.getD undef = .pointer (some A) := by simpa using h
  unfold execOp
  rw [ho]
  go_simp
/-- what operation j of the region leaves -/
def acir19R (S R C : Nat) (W wL : World) (r : List UInt8) (v : Value) (t : Tri) (acc : List Tri) (CS : Array Value) (X : Prop) (M j k k4 : Nat) : Nat → (Nat → Value) → World → Prop
  | 0, f, _ => f 64 = .pointer (some ⟨C, 6, none⟩)
  | 1, f, _ => f 65 = v
  | 2, f, _ => f 66 = .pointer (some ⟨R, 0, none⟩)
  | 3, f, _ => f 67 = .pointer (some ⟨M, 1, none⟩)
  | 4, f, _ => f 68 = .int .i64 (j : Int)
  | 5, f, _ => f 69 = .pointer (some ⟨M, 2, none⟩)
  | 6, f, _ => f 70 = .int .i64 (k : Int)
  | 7, f, _ => f 71 = .int .i64 ((j + k : Nat) : Int)
  | 8, f, _ => f 72 = .int .i64 (k4 : Int)
  | 9, f, _ => f 73 = .int .i64 ((j + k + k4 : Nat) : Int)
  | 10, f, _ => f 74 = .int .i64 (lit (j + k + k4))
  | 11, f, w => f 75 = .agg #[.int .i64 t.a, .int .i64 t.b, .int .i64 t.c] ∧ Src S R r w ∧ X
  | 12, f, w => ∃ g, f 76 = .slice (some ⟨g, 0, none⟩) 1 1 ∧ W.heap.size ≤ g ∧ w.heap[g]? = some (.cells #[.int .i64 t.a, .int .i64 t.b, .int .i64 t.c] 54 (0, 0))
  | 13, f, w => OwnC w wL.heap.size 54 3 (f 77) (tris (acc ++ [t]))
  | 14, f, _ => f 78 = .pointer (some ⟨C, 6, none⟩)
  | 15, f, w => w.heap[C]? = some (.cells (CS.setIfInBounds 6 (f 77)) 27 (0, 0))
  | _, _, _ => True
def acir19M : Nat → List Nat
  | 0 => [64]
  | 1 => [65]
  | 2 => [66]
  | 3 => [67]
  | 4 => [68]
  | 5 => [69]
  | 6 => [70]
  | 7 => [71]
  | 8 => [72]
  | 9 => [73]
  | 10 => [74]
  | 11 => [75]
  | 12 => [76]
  | 13 => [77]
  | 14 => [78]
  | 15 => [77]
  | _ => []
theorem acir19_stab {S R C : Nat} {W wL : World} {r : List UInt8} {v : Value} {t : Tri} {acc : List Tri} {CS : Array Value} {X : Prop} {M j k k4 : Nat} (jj : Nat) {f f' : Nat → Value} {w w' : World} (h11 : jj = 11 → (Src S R r w → Src S R r w')) (h12 : jj = 12 → Ch5 W w w') (h13 : jj = 13 → ∀ (E' : TypeId) (m' : Nat) (v' : Value) (xs' : List (List Value)), OwnC w wL.heap.size E' m' v' xs' → OwnC w' wL.heap.size E' m' v' xs') (h15 : jj = 15 → w'.heap[C]? = w.heap[C]?) (hf : ∀ t ∈ acir19M jj, f' t = f t) (h : acir19R S R C W wL r v t acc CS X M j k k4 jj f w) : acir19R S R C W wL r v t acc CS X M j k k4 jj f' w' := by
  match jj, hf, h, h11, h12, h13, h15 with
  | 0, hf, h, _, _, _, _ => exact (hf 64 (by decide)).trans h
  | 1, hf, h, _, _, _, _ => exact (hf 65 (by decide)).trans h
  | 2, hf, h, _, _, _, _ => exact (hf 66 (by decide)).trans h
  | 3, hf, h, _, _, _, _ => exact (hf 67 (by decide)).trans h
  | 4, hf, h, _, _, _, _ => exact (hf 68 (by decide)).trans h
  | 5, hf, h, _, _, _, _ => exact (hf 69 (by decide)).trans h
  | 6, hf, h, _, _, _, _ => exact (hf 70 (by decide)).trans h
  | 7, hf, h, _, _, _, _ => exact (hf 71 (by decide)).trans h
  | 8, hf, h, _, _, _, _ => exact (hf 72 (by decide)).trans h
  | 9, hf, h, _, _, _, _ => exact (hf 73 (by decide)).trans h
  | 10, hf, h, _, _, _, _ => exact (hf 74 (by decide)).trans h
  | 11, hf, h, h11, h12, h13, h15 =>
    exact ⟨(hf 75 (by decide)).trans h.1, (h11 rfl) h.2.1, h.2.2⟩
  | 12, hf, h, h11, h12, h13, h15 =>
    obtain ⟨g, h1, h2, h3⟩ := h
    exact ⟨g, (hf 76 (by decide)).trans h1, h2, ((h12 rfl).block g h2 (lt_of_block h3)).trans h3⟩
  | 13, hf, h, h11, h12, h13, h15 =>
    show OwnC w' wL.heap.size 54 3 (f' 77) _
    rw [hf 77 (by decide)]
    exact h13 rfl _ _ _ _ h
  | 14, hf, h, _, _, _, _ => exact (hf 78 (by decide)).trans h
  | 15, hf, h, h11, h12, h13, h15 =>
    show w'.heap[C]? = some (.cells (CS.setIfInBounds 6 (f' 77)) 27 (0, 0))
    rw [hf 77 (by decide)]
    exact (h15 rfl).trans h
  | _ + 16, _, _, _, _, _, _ => trivial
theorem op_field_cir5_7 (a : Act) (w : World) (b : Nat) (t : Nat) (h : a.tmps.getD t undef = .pointer (some ⟨b, 0, none⟩)) (oo : Oper) (ho : oo.op = .fieldAddr 27 (.tmp t) 7) : (execOp a.eval oo).run Tryz.prog w = .ok (.value (.pointer (some ⟨b, 7, none⟩))) w := by
  have h' : a.tmps[t]?.getD undef = .pointer (some ⟨b, 0, none⟩) := by simpa using h
  unfold execOp
  rw [ho]
  go_simp
theorem op_load_cir5_Name (a : Act) (w : World) (A : Addr) (t : Nat) (v : Value) (h : a.tmps.getD t undef = .pointer (some A)) (hc : w.cell? A = some v) (oo : Oper) (ho : oo.op = .load 25 (.tmp t)) : (execOp a.eval oo).run Tryz.prog w = .ok (.value v) w := by
  have h' : a.tmps[t]?.getD undef = .pointer (some A) := by simpa using h
  unfold execOp
  rw [ho]
  go_simp
/-- what operation j of the region leaves -/
def acir22R (S R C : Nat) (W wL : World) (r : List UInt8) (v : Value) (t : Nam) (acc : List Nam) (CS : Array Value) (X : Prop)  : Nat → (Nat → Value) → World → Prop
  | 0, f, _ => f 85 = .pointer (some ⟨C, 7, none⟩)
  | 1, f, _ => f 86 = v
  | 2, f, _ => f 87 = .pointer (some ⟨R, 0, none⟩)
  | 3, f, w => f 88 = .agg #[.string (t).kind, .int .i64 (t).num, .string (t).text] ∧ Src S R r w ∧ X
  | 4, f, w => ∃ g, f 89 = .slice (some ⟨g, 0, none⟩) 1 1 ∧ W.heap.size ≤ g ∧ w.heap[g]? = some (.cells #[.string (t).kind, .int .i64 (t).num, .string (t).text] 57 (0, 0))
  | 5, f, w => OwnC w wL.heap.size 57 3 (f 90) (nams (acc ++ [t]))
  | 6, f, _ => f 91 = .pointer (some ⟨C, 7, none⟩)
  | 7, f, w => w.heap[C]? = some (.cells (CS.setIfInBounds 7 (f 90)) 27 (0, 0))
  | _, _, _ => True
def acir22M : Nat → List Nat
  | 0 => [85]
  | 1 => [86]
  | 2 => [87]
  | 3 => [88]
  | 4 => [89]
  | 5 => [90]
  | 6 => [91]
  | 7 => [90]
  | _ => []
theorem acir22_stab {S R C : Nat} {W wL : World} {r : List UInt8} {v : Value} {t : Nam} {acc : List Nam} {CS : Array Value} {X : Prop}  (jj : Nat) {f f' : Nat → Value} {w w' : World} (h3 : jj = 3 → (Src S R r w → Src S R r w')) (h4 : jj = 4 → Ch5 W w w') (h5 : jj = 5 → ∀ (E' : TypeId) (m' : Nat) (v' : Value) (xs' : List (List Value)), OwnC w wL.heap.size E' m' v' xs' → OwnC w' wL.heap.size E' m' v' xs') (h7 : jj = 7 → w'.heap[C]? = w.heap[C]?) (hf : ∀ t ∈ acir22M jj, f' t = f t) (h : acir22R S R C W wL r v t acc CS X jj f w) : acir22R S R C W wL r v t acc CS X jj f' w' := by
  match jj, hf, h, h3, h4, h5, h7 with
  | 0, hf, h, _, _, _, _ => exact (hf 85 (by decide)).trans h
  | 1, hf, h, _, _, _, _ => exact (hf 86 (by decide)).trans h
  | 2, hf, h, _, _, _, _ => exact (hf 87 (by decide)).trans h
  | 3, hf, h, h3, h4, h5, h7 =>
    exact ⟨(hf 88 (by decide)).trans h.1, (h3 rfl) h.2.1, h.2.2⟩
  | 4, hf, h, h3, h4, h5, h7 =>
    obtain ⟨g, h1, h2, h3⟩ := h
    exact ⟨g, (hf 89 (by decide)).trans h1, h2, ((h4 rfl).block g h2 (lt_of_block h3)).trans h3⟩
  | 5, hf, h, h3, h4, h5, h7 =>
    show OwnC w' wL.heap.size 57 3 (f' 90) _
    rw [hf 90 (by decide)]
    exact h5 rfl _ _ _ _ h
  | 6, hf, h, _, _, _, _ => exact (hf 91 (by decide)).trans h
  | 7, hf, h, h3, h4, h5, h7 =>
    show w'.heap[C]? = some (.cells (CS.setIfInBounds 7 (f' 90)) 27 (0, 0))
    rw [hf 90 (by decide)]
    exact (h7 rfl).trans h
  | _ + 8, _, _, _, _, _, _ => trivial
def CircP (w : World) (r : Cir) (e : Ending) (w' : World) : Prop :=
  ∃ s : Places, e = .returned (cirV r s) ∧
    (OwnC w' w.heap.size 3 1 (.slice s.ai r.ins.length s.ki) (ints r.ins) ∧ OwnC w' w.heap.size 48 3 (.slice s.al r.lats.length s.kl) (tris r.lats) ∧ OwnC w' w.heap.size 3 1 (.slice s.ao r.outs.length s.ko) (ints r.outs) ∧ OwnC w' w.heap.size 3 1 (.slice s.ab r.bads.length s.kb) (ints r.bads) ∧ OwnC w' w.heap.size 3 1 (.slice s.ac r.invs.length s.kc) (ints r.invs) ∧ OwnC w' w.heap.size 54 3 (.slice s.aa r.ands.length s.ka) (tris r.ands) ∧ OwnC w' w.heap.size 57 3 (.slice s.an r.names.length s.kn) (nams r.names)) ∧
    (r.ins.length ≤ s.ki ∧ r.lats.length ≤ s.kl ∧ r.outs.length ≤ s.ko ∧ r.bads.length ≤ s.kb ∧ r.invs.length ≤ s.kc ∧ r.ands.length ≤ s.ka ∧ r.names.length ≤ s.kn) ∧
    (s.ki ≤ 9223372036854775807 ∧ s.kl ≤ 9223372036854775807 ∧ s.ko ≤ 9223372036854775807 ∧ s.kb ≤ 9223372036854775807 ∧ s.kc ≤ 9223372036854775807 ∧ s.ka ≤ 9223372036854775807 ∧ s.kn ≤ 9223372036854775807)
set_option maxHeartbeats 8000000 in
set_option maxRecDepth 100000 in
theorem circuit_run {S R : Nat} (l : List UInt8) (w : World) (h : Src S R l w) :
    Calls Tryz.prog 20 #[.pointer (some ⟨R, 0, none⟩)] w (Runs5 S R w ((circ5 l).map fun c => (c, [])) (CircP w)) := by
  rw [circ5_parts]
  have hb1 : Below w.heap.size w (w.alloc (.cells #[.int .i64 0, .slice none 0 0, .slice none 0 0, .slice none 0 0, .slice none 0 0, .slice none 0 0, .slice none 0 0, .slice none 0 0] 27)) := (Below.refl _ _).alloc (Nat.le_refl _) _
  have hs1 : (w.alloc (.cells #[.int .i64 0, .slice none 0 0, .slice none 0 0, .slice none 0 0, .slice none 0 0, .slice none 0 0, .slice none 0 0, .slice none 0 0] 27)).heap.size = w.heap.size + 1 := by simp
  have HRW : Hid (R < w.heap.size) := Nat.lt_of_lt_of_le h.ins h.bd
  have HSW : Hid (S ≤ w.heap.size) := h.bd
  have hlen := h.len
  have HZ0 : Hid ((w.alloc (.cells #[.int .i64 0, .slice none 0 0, .slice none 0 0, .slice none 0 0, .slice none 0 0, .slice none 0 0, .slice none 0 0, .slice none 0 0] 27)).heap[w.heap.size]? = some (.cells #[.int .i64 0, .slice none 0 0, .slice none 0 0, .slice none 0 0, .slice none 0 0, .slice none 0 0, .slice none 0 0, .slice none 0 0] 27 (0, 0))) := Array.getElem?_push_size
  obtain ⟨goal, hgoal⟩ : ∃ g, g = (rdLine formHead5 l).bind fun h => c2 h.1 h.2 := ⟨_, rfl⟩
  have HG := Lib.hid hgoal
  rw [← hgoal]
  clear hgoal
  obtain ⟨wa, hwa⟩ : ∃ x, x = w.alloc (.cells #[.int .i64 0, .slice none 0 0, .slice none 0 0, .slice none 0 0, .slice none 0 0, .slice none 0 0, .slice none 0 0, .slice none 0 0] 27) := ⟨_, rfl⟩
  have HD := Lib.hid (header_run l wa (by rw [hwa]; exact h.below hb1))
  rw [← hwa] at hb1 hs1 HZ0
  have EA := Lib.hid (Ext.of (R := R) hb1)
  have HSA := Lib.hid hs1
  have HWA := Lib.hid hwa
  rw [hwa] at HD
  have EL : Hid (∀ args w, (callFunc 34 args).run Tryz.prog w = .ok (.enter 34 args) w) := enters_of Tryz.func34 (by kernel_rfl) rfl
  clear h hb1 hs1 hwa
  go_enter Tryz.func20, Tryz.ntmps20
  go_wp2_with fail
  refine HD.out.mono ?_
  rw [← HWA.out]
  intro e w1 hr
  cases hq : rdLine formHead5 l with
  | none =>
    rw [hq] at hr
    obtain ⟨rfl, hE⟩ := hr
    exact ⟨rfl, runs5_none (HG.out.trans (by rw [hq]; rfl)) ⟨rfl, EA.out.trans hE⟩⟩
  | some x =>
  obtain ⟨ns, r⟩ := x
  rw [hq] at hr
  obtain ⟨⟨x0, x1', x2', x3', x4', x5', x6', hns, rfl⟩, hS1, hE1⟩ := hr
  replace hns : ns = [x0, x1', x2', x3', x4', x5', x6'] := hns
  subst hns
  obtain ⟨y, hcy, hform⟩ : ∃ y, lineCut l = some (y, r) ∧ formHead5 y = some [x0, x1', x2', x3', x4', x5', x6'] := by
    unfold rdLine at hq
    cases hc : lineCut l with
    | none => rw [hc] at hq; cases hq
    | some z =>
      rw [hc] at hq
      simp only [Option.bind_some] at hq
      cases hf : formHead5 z.1 with
      | none => rw [hf] at hq; cases hq
      | some a =>
        rw [hf] at hq
        simp only [Option.map_some, Option.some.injEq, Prod.mk.injEq] at hq
        exact ⟨z.1, by rw [← hq.2], by rw [← hq.1]; exact hf⟩
  obtain ⟨-, -, hok, hmost, hsum⟩ := formHead5_get _ _ hform
  have G1 : Hid (goal = c2 [x0, x1', x2', x3', x4', x5', x6'] r) := HG.out.trans (by rw [hq]; rfl)
  obtain ⟨n1, rfl⟩ := Int.eq_ofNat_of_zero_le (hok x1' (by simp)).1
  obtain ⟨n2, rfl⟩ := Int.eq_ofNat_of_zero_le (hok x2' (by simp)).1
  obtain ⟨n3, rfl⟩ := Int.eq_ofNat_of_zero_le (hok x3' (by simp)).1
  obtain ⟨n4, rfl⟩ := Int.eq_ofNat_of_zero_le (hok x4' (by simp)).1
  obtain ⟨n5, rfl⟩ := Int.eq_ofNat_of_zero_le (hok x5' (by simp)).1
  obtain ⟨n6, rfl⟩ := Int.eq_ofNat_of_zero_le (hok x6' (by simp)).1
  simp only [List.getD_cons_zero, List.getD_cons_succ] at hmost hsum
  have HNS : Hid (n1 + n2 + n4 ≤ 2048) := by unfold Hid; omega
  have HN3 : Hid (n3 ≤ 1099511627776) := by have := (hok (n3 : Int) (by simp)).2; unfold Hid; omega
  have HN5 : Hid (n5 ≤ 1099511627776) := by have := (hok (n5 : Int) (by simp)).2; unfold Hid; omega
  have HN6 : Hid (n6 ≤ 1099511627776) := by have := (hok (n6 : Int) (by simp)).2; unfold Hid; omega
  have E1 : Hid (Ext R w w1) := EA.out.trans hE1
  have Z1 : Hid (w1.heap[w.heap.size]? = some (.cells #[.int .i64 0, .slice none 0 0, .slice none 0 0, .slice none 0 0, .slice none 0 0, .slice none 0 0, .slice none 0 0, .slice none 0 0] 27 (0, 0))) := (hE1.block _ (lt_of_block HZ0.out) (by have := HRW.out; omega)).trans HZ0.out
  have SZ1 : Hid (w.heap.size + 1 ≤ w1.heap.size) := by have := hE1.size; rw [HSA.out] at this; exact this
  have S1 : Hid (Src S R r w1) := hS1
  clear hE1 hS1 hq hform hok HG HZ0 HD hcy hmost hsum hlen
  -- the sizes' box
  obtain ⟨wb, hwb⟩ : ∃ x, w1.alloc (.cells #[.int .i64 0, .int .i64 0, .int .i64 0, .int .i64 0, .int .i64 0, .int .i64 0, .int .i64 0] 83) = x := ⟨_, rfl⟩
  have gb : wb.heap[w1.heap.size]? = some (.cells #[.int .i64 0, .int .i64 0, .int .i64 0, .int .i64 0, .int .i64 0, .int .i64 0, .int .i64 0] 83 (0, 0)) := by rw [← hwb]; exact Array.getElem?_push_size
  have bb : Below w1.heap.size w1 wb := by rw [← hwb]; exact (Below.refl _ _).alloc (Nat.le_refl _) _
  have sb : wb.heap.size = w1.heap.size + 1 := by rw [← hwb]; simp
  obtain ⟨Y1, Y2, Y3, Y4, Y5, Y6, Y7, u0, u1, u2, u3, u4, u5, u6, ⟨hY1, p0, t0⟩, ⟨hY2, p1, t1⟩, ⟨hY3, p2, t2⟩, ⟨hY4, p3, t3⟩, ⟨hY5, p4, t4⟩, ⟨hY6, p5, t5⟩, ⟨hY7, p6, t6⟩, E7, FF⟩ := store7 gb rfl (.int .i64 x0) (.int .i64 n1) (.int .i64 n2) (.int .i64 n3) (.int .i64 n4) (.int .i64 n5) (.int .i64 n6)
  have BY : Below w1.heap.size w1 Y7 := FF.below bb (Nat.le_refl _)
  have SY : Y7.heap.size = w1.heap.size + 1 := by rw [FF.z, sb]
  -- the circuit's box
  obtain ⟨wc, hwc⟩ : ∃ x, Y7.alloc (.cells #[.int .i64 0, .slice none 0 0, .slice none 0 0, .slice none 0 0, .slice none 0 0, .slice none 0 0, .slice none 0 0, .slice none 0 0] 27) = x := ⟨_, rfl⟩
  have gc : wc.heap[Y7.heap.size]? = some (.cells #[.int .i64 0, .slice none 0 0, .slice none 0 0, .slice none 0 0, .slice none 0 0, .slice none 0 0, .slice none 0 0, .slice none 0 0] 27 (0, 0)) := by rw [← hwc]; exact Array.getElem?_push_size
  have bc : Below Y7.heap.size Y7 wc := by rw [← hwc]; exact (Below.refl _ _).alloc (Nat.le_refl _) _
  have sc : wc.heap.size = Y7.heap.size + 1 := by rw [← hwc]; simp
  obtain ⟨X1, X2, X3, X4, X5, X6, X7, X8, v0, v1, v2, v3, v4, v5, v6, v7, ⟨hX1, a0, b0⟩, ⟨hX2, a1, b1⟩, ⟨hX3, a2, b2⟩, ⟨hX4, a3, b3⟩, ⟨hX5, a4, b4⟩, ⟨hX6, a5, b5⟩, ⟨hX7, a6, b6⟩, ⟨hX8, a7, b7⟩, E8, FC⟩ := store8 gc rfl (.int .i64 x0) (.slice none 0 0) (.slice none 0 0) (.slice none 0 0) (.slice none 0 0) (.slice none 0 0) (.slice none 0 0) (.slice none 0 0)
  have BX : Below w1.heap.size w1 X8 := (FC.below (BY.trans (bc.mono BY.size)) BY.size)
  have d0 : Y7.cell? ⟨w1.heap.size, 0, none⟩ = some (.int .i64 x0) := by simp [World.cell?, E7]
  have GS0 : Hid (X8.heap[w1.heap.size]? = some (.cells #[.int .i64 x0, .int .i64 (n1 : Int), .int .i64 (n2 : Int), .int .i64 (n3 : Int), .int .i64 (n4 : Int), .int .i64 (n5 : Int), .int .i64 (n6 : Int)] 83 (0, 0))) := ((FC.b w1.heap.size (by omega)).trans (bc.block w1.heap.size (by omega))).trans E7
  have GC0 : Hid (X8.heap[Y7.heap.size]? = some (.cells #[.int .i64 x0, .slice none 0 0, .slice none 0 0, .slice none 0 0, .slice none 0 0, .slice none 0 0, .slice none 0 0, .slice none 0 0] 27 (0, 0))) := E8
  have GZ0 : Hid (X8.heap[w.heap.size]? = some (.cells #[.int .i64 0, .slice none 0 0, .slice none 0 0, .slice none 0 0, .slice none 0 0, .slice none 0 0, .slice none 0 0, .slice none 0 0] 27 (0, 0))) := (BX.block _ (by have := SZ1.out; omega)).trans Z1.out
  have EX0 : Hid (Ext R w X8) := E1.out.trans (Ext.of BX)
  have SR0 : Hid (Src S R r X8) := S1.out.below BX
  have SZ0 : Hid (X8.heap.size = Y7.heap.size + 1) := by unfold Hid; rw [FC.z, sc]
  have HSC : Hid (w.heap.size < w1.heap.size ∧ w1.heap.size < Y7.heap.size ∧ R < w.heap.size) := ⟨by have := SZ1.out; omega, by omega, HRW.out⟩
  have c1 : X8.cell? ⟨w1.heap.size, 1, none⟩ = some (.int .i64 (n1 : Int)) := by have := GS0.out; simp [World.cell?, this]
  clear gb bb sb E7 FF BY SY gc bc sc E8 FC BX E1 Z1 S1 SZ1 EA HSA HWA
  go_wp2
  clear hwb hY1 hY2 hY3 hY4 hY5 hY6 hY7 p0 p1 p2 p3 p4 p5 p6 t0 t1 t2 t3 t4 t5 t6 hwc hX1 hX2 hX3 hX4 hX5 hX6 hX7 hX8 a0 a1 a2 a3 a4 a5 a6 a7 b0 b1 b2 b3 b4 b5 b6 b7 d0 c1
  generalize w1.heap.size = M at *
  generalize Y7.heap.size = C at *
  have HCL : Hid (C < X8.heap.size) := by have := SZ0.out; unfold Hid; omega
  have HSC5 : Hid (S ≤ C) := by have := HSC.out; have := HSW.out; unfold Hid; omega
  have HSL : Hid (S ≤ X8.heap.size) := Nat.le_trans HSC5.out (Nat.le_of_lt HCL.out)
  have HRL : Hid (R < X8.heap.size) := by have := HSC.out; have := HCL.out; unfold Hid; omega
  have HRC : Hid (R ≠ C) := by have := HSC.out; unfold Hid; omega
  have hn1 : n1 ≤ 2048 := by have := HNS.out; omega
  have hn2 : n2 ≤ 2048 := by have := HNS.out; omega
  have hn4 : n4 ≤ 2048 := by have := HNS.out; omega
  -- the inputs
  go_loopw [15] (fun i wr => ∃ (j : Nat) (v : Value), j ≤ n1 ∧ i = .int .i64 j ∧ OwnC wr X8.heap.size 3 1 v (ints (evens j)) ∧ wr.heap[C]? = some (.cells #[.int .i64 x0, v, .slice none 0 0, .slice none 0 0, .slice none 0 0, .slice none 0 0, .slice none 0 0, .slice none 0 0] 27 (0, 0)) ∧ Ext2 R C X8 wr ∧ Src S R r wr) (fun i _ => n1 - (intOf i).toNat)
  case atStart => exact ⟨0, .slice none 0 0, Nat.zero_le _, rfl, OwnC.nil _ _ _ _, GC0.out, Ext2.refl _ _ _, SR0.out⟩
  case round =>
    obtain ⟨j, v, hj, rfl, how, hbx, hE, hS⟩ := hrel
    have HO := Lib.hid how
    have HBX := Lib.hid hbx
    have HE := Lib.hid hE
    have HS := Lib.hid hS
    clear how hbx hE hS
    by_cases hlt : j < n1
    · have HJ : Hid (j ≤ 4095) := by have := HNS.out; unfold Hid; omega
      have HCW : Hid (C < wr.heap.size) := Nat.lt_of_lt_of_le HCL.out HE.out.size
      have HVW : Hid (∀ g, v.ownBlock = some g → g < wr.heap.size) := fun g hg => (HO.out.block_lt g hg).2
      have HL : Hid ((ints (evens j)).length ≤ 65537) := by have := HNS.out; unfold Hid; rw [ints_length1, evens_len]; omega
      have OK0 : Hid (COk 7 5 7 S R C X8 wr 3 1 r v (ints (evens j)) #[.int .i64 x0, v, .slice none 0 0, .slice none 0 0, .slice none 0 0, .slice none 0 0, .slice none 0 0, .slice none 0 0] (fun _ => false) wr.drew) := (⟨Nat.le_refl _, HE.out, fun _ => HS.out, fun _ => HO.out, fun _ => HBX.out⟩ : COk 7 5 7 S R C X8 wr 3 1 r v (ints (evens j)) #[.int .i64 x0, v, .slice none 0 0, .slice none 0 0, .slice none 0 0, .slice none 0 0, .slice none 0 0, .slice none 0 0] (fun _ => false) wr).below (Below.refl _ _).drew rfl rfl rfl
      go_wp2
      refine wp_region_valsD (by kernel_rfl) (by kernel_rfl) acir6M (by kernel_rfl) (by kernel_rfl)
        (COk 7 5 7 S R C X8 wr 3 1 r v (ints (evens j)) #[.int .i64 x0, v, .slice none 0 0, .slice none 0 0, .slice none 0 0, .slice none 0 0, .slice none 0 0, .slice none 0 0]) (acir6R S R C wr X8 r v j #[.int .i64 x0, v, .slice none 0 0, .slice none 0 0, .slice none 0 0, .slice none 0 0, .slice none 0 0, .slice none 0 0]) OK0.out (fun jj f f' w w' hb hf h => acir6_stab jj (fun em => Ch5.of hb) (fun em => fun _ _ _ _ h => h.keep hb) (fun em => by subst em; exact ⟨hb.block _ (lt_of_block h.1), fun h => h.below hb⟩) hf h) ?_ ?_
      · intro i oo d a' w' ho hd hun hdf hok hD K hK hK0
        match i, ho, hd, hD, hK, hK0, hun with
        | 0, ho, hd, hD, hK, hK0, hun =>
          have e := (congrArg Oper.op (Option.some.inj ho)).symm
          obtain rfl := Option.some.inj ho
          exact wp_val (op_field_cir5_1 a' w' _ 4 (hun 4 (by kernel_rfl)) _ e) (hK _ _ (Below.refl _ _) (hok.below (Below.refl _ _) rfl rfl rfl) (fun f h1 _ => h1 _ rfl))
        | 1, ho, hd, hD, hK, hK0, hun =>
          have e := (congrArg Oper.op (Option.some.inj ho)).symm
          obtain rfl := Option.some.inj ho
          exact wp_val (op_load_Lint a' w' _ 18 _ (hD 0 (by kernel_rfl)) ((Lib.cell_of_heap (hok.box (hd 7 (by kernel_rfl))) 1).trans rfl) _ e) (hK _ _ (Below.refl _ _) (hok.below (Below.refl _ _) rfl rfl rfl) (fun f h1 _ => h1 _ rfl))
        | 2, ho, hd, hD, hK, hK0, hun =>
          have e := (congrArg Oper.op (Option.some.inj ho)).symm
          obtain rfl := Option.some.inj ho
          exact wp_val (op_move a' w' 5 _ e) (hK _ _ (Below.refl _ _) (hok.below (Below.refl _ _) rfl rfl rfl) (fun f h1 _ => (h1 _ rfl).trans (hun 5 (by kernel_rfl))))
        | 3, ho, hd, hD, hK, hK0, hun =>
          have e := (congrArg Oper.op (Option.some.inj ho)).symm
          obtain rfl := Option.some.inj ho
          refine wp_enter (op_call1' a' w' _ 20 _ EL.out _ e) ?_
          rw [show a'.tmps.getD 20 undef = .int .i64 (j : Int) from hD 2 (by kernel_rfl)]
          refine (literal_any j w' HJ.out).mono ?_
          rintro e w'' ⟨rfl, rfl⟩
          exact .inl ⟨_, rfl, hK _ _ (Below.refl _ _) (hok.below (Below.refl _ _) rfl rfl rfl) (fun f h1 _ => h1 _ rfl)⟩
        | 4, ho, hd, hD, hK, hK0, hun =>
          have e := (congrArg Oper.op (Option.some.inj ho)).symm
          obtain rfl := Option.some.inj ho
          exact wp_val (op_slice_int a' w' _ 21 (hD 3 (by kernel_rfl)) _ e) (hK _ _ ((Below.refl _ _).alloc (Nat.le_refl _) _) (hok.below ((Below.refl _ _).alloc (Nat.le_refl _) _) rfl rfl rfl) (fun f h1 _ => ⟨w'.heap.size, h1 _ rfl, hok.size, Array.getElem?_push_size⟩))
        | 5, ho, hd, hD, hK, hK0, hun =>
          have e := (congrArg Oper.op (Option.some.inj ho)).symm
          obtain rfl := Option.some.inj ho
          obtain ⟨g, h22, hg, hgc⟩ : ∃ g, vals a' 22 = .slice (some ⟨g, 0, none⟩) 1 1 ∧ wr.heap.size ≤ g ∧ w'.heap[g]? = some (.cells #[.int .i64 (lit j)] 3 (0, 0)) := hD 4 (by kernel_rfl)
          refine step_push w' (.tmp 19) (.tmp 22) 22 rfl 3 1 8 (.int .i64 0) Tryz.underlying22 infoInt rfl (by decide) X8.heap.size v _ (hok.own (hd 5 (by kernel_rfl))) (hD 1 (by kernel_rfl)) g 1 h22 [.int .i64 (lit j)] (one_cell hgc) rfl (fun u hu => by simp only [List.mem_singleton] at hu; subst hu; rfl) (by have := HL.out; omega) (by have := HL.out; omega) hok.ext.size ?_
          intro v' w'' hown2 hbel hkeep
          have hch : Ch5 wr w' w'' := ⟨hbel.size, fun k hk hk2 => hkeep k hk2 (fun em => by have := HVW.out k em.symm; omega)⟩
          refine hK0 _ _ (hok.push hbel HSL.out HCL.out) (fun f h1 _ => by
            show OwnC w'' X8.heap.size 3 1 (f 23) _
            rw [h1 _ rfl, evens_succ, ← ints_snoc]; exact hown2) (fun jj f hj hf hq2 => ?_)
          exact acir6_stab jj (fun _ => hch) (fun em => absurd em hj) (fun _ => ⟨hbel.block C HCL.out, fun h => h.later (hbel.mono HSL.out)⟩) hf hq2
        | 6, ho, hd, hD, hK, hK0, hun =>
          have e := (congrArg Oper.op (Option.some.inj ho)).symm
          obtain rfl := Option.some.inj ho
          exact wp_val (op_field_cir5_1 a' w' _ 4 (hun 4 (by kernel_rfl)) _ e) (hK _ _ (Below.refl _ _) (hok.below (Below.refl _ _) rfl rfl rfl) (fun f h1 _ => h1 _ rfl))
        | 7, ho, hd, hD, hK, hK0, hun =>
          have e := (congrArg Oper.op (Option.some.inj ho)).symm
          obtain rfl := Option.some.inj ho
          have hown5 : OwnC w' X8.heap.size 3 1 (vals a' 23) (ints (evens (j + 1))) := hD 5 (by kernel_rfl)
          obtain ⟨A', q', hv, -, -, -⟩ := hown5.row (by decide) (ints_len1 _)
          obtain ⟨w'', hr, hgc2, hbut⟩ := op_store_list a' w' _ 27 (.inl rfl) C 1 _ (hok.box (hd 7 (by kernel_rfl))) (by simp) A' _ q' 24 23 (hD 6 (by kernel_rfl)) hv _ e
          refine wp_skip' hr (hK0 _ _ (hok.store hbut HSC5.out HCL.out) (fun f h1 h2 => ?_) (fun jj f hj hf hq2 => ?_))
          · refine ⟨?_, (hok.s0 (hd 7 (by kernel_rfl))).later (hbut.below (Below.refl _ _) HSC5.out)⟩
            show w''.heap[C]? = some (.cells (_ : Array Value) 27 (0, 0))
            rw [h2 23 (by simp), hv]
            exact hgc2
          · exact acir6_stab jj (fun _ => Ch5.but HCW.out hbut) (fun _ _ _ _ _ h => own_but5 h hbut HCL.out) (fun em => absurd em hj) hf hq2
        | i + 8, ho, _, _, _, _, _ => exact absurd ho (by simp)
      · intro a' w3 hsz hdf hkt hok hR
        have HF3 := frame_sets [18, 19, 20, 21, 22, 23, 24] (by kernel_rfl) hsz hkt
        obtain ⟨d, hok⟩ := hok
        have hown : OwnC w3 X8.heap.size 3 1 (vals a' 23) (ints (evens (j + 1))) := hR 5 (by decide)
        have hbox : w3.heap[C]? = some (.cells (#[.int .i64 x0, v, .slice none 0 0, .slice none 0 0, .slice none 0 0, .slice none 0 0, .slice none 0 0, .slice none 0 0].setIfInBounds 1 (vals a' 23)) 27 (0, 0)) ∧ Src S R r w3 := hR 7 (by decide)
        obtain ⟨v2, h23⟩ : ∃ v2, vals a' 23 = v2 := ⟨_, rfl⟩
        rw [h23] at hown hbox
        have HO2 := Lib.hid hown
        have HB2 : Hid (w3.heap[C]? = some (.cells #[.int .i64 x0, v2, .slice none 0 0, .slice none 0 0, .slice none 0 0, .slice none 0 0, .slice none 0 0, .slice none 0 0] 27 (0, 0))) := hbox.1
        have HS2 := Lib.hid hbox.2
        have HE2 := Lib.hid hok.ext
        clear hown hbox h23 hok OK0 HO HBX HE HS
        obtain ⟨tm, df⟩ := a'
        obtain rfl : df = _ := hdf
        simp only [List.foldl_cons, List.foldl_nil] at HF3
        clear hkt hR hsz
        generalize tm.getD 18 undef = y18 at HF3
        generalize tm.getD 19 undef = y19 at HF3
        generalize tm.getD 20 undef = y20 at HF3
        generalize tm.getD 21 undef = y21 at HF3
        generalize tm.getD 22 undef = y22 at HF3
        generalize tm.getD 23 undef = y23 at HF3
        generalize tm.getD 24 undef = y24 at HF3
        simp only [List.setIfInBounds_toArray, List.set_cons_succ, List.set_cons_zero] at HF3
        subst HF3
        go_wp2
        go_roundw
        case rel => exact ⟨j + 1, v2, by omega, by go_num, HO2.out, HB2.out, HE2.out, HS2.out⟩
        case measure => simp [intOf]; omega
    · obtain rfl : j = n1 := by omega
      have c2 : wr.cell? ⟨M, 2, none⟩ = some (.int .i64 (n2 : Int)) := by
        have := (HE.out.block M (lt_of_block GS0.out) (by have := HSC.out; omega) (by have := HSC.out; omega)).trans GS0.out
        simp [World.cell?, this]
      clear hj hlt
      obtain ⟨A1, q1, hv1, -, hq1, hq1'⟩ := HO.out.row (by decide) (ints_len1 _)
      rw [ints_length1, evens_len] at hv1 hq1
      subst hv1
      have HQ1 : Hid (j ≤ q1 ∧ q1 ≤ 9223372036854775807) := ⟨hq1, hq1'⟩
      obtain ⟨WA, hWA⟩ : ∃ x, x = wr := ⟨_, rfl⟩
      rw [← hWA] at HO HBX HE HS c2 ⊢
      have EXA : Hid (Ext R w WA) := ext_ext2 EX0.out HE.out (by have := HSC.out; omega)
      have HMA : Hid (WA.heap[M]? = some (.cells #[.int .i64 x0, .int .i64 (j : Int), .int .i64 (n2 : Int), .int .i64 (n3 : Int), .int .i64 (n4 : Int), .int .i64 (n5 : Int), .int .i64 (n6 : Int)] 83 (0, 0))) := (HE.out.block M (lt_of_block GS0.out) (by have := HSC.out; omega) (by have := HSC.out; omega)).trans GS0.out
      have HZA : Hid (WA.heap[w.heap.size]? = some (.cells #[.int .i64 0, .slice none 0 0, .slice none 0 0, .slice none 0 0, .slice none 0 0, .slice none 0 0, .slice none 0 0, .slice none 0 0] 27 (0, 0))) := (HE.out.block _ (lt_of_block GZ0.out) (by have := HSC.out; omega) (by have := HSC.out; omega)).trans GZ0.out
      have HCLA : Hid (C < WA.heap.size) := Nat.lt_of_lt_of_le HCL.out HE.out.size
      have HRLA : Hid (R < WA.heap.size) := Nat.lt_of_lt_of_le HRL.out HE.out.size
      have HSLA : Hid (S ≤ WA.heap.size) := Nat.le_trans HSC5.out (Nat.le_of_lt HCLA.out)
      clear hWA hq1 hq1'
      go_wp2
      -- the latches
      go_loopw [28] (fun i wr => ∃ (k : Nat) (v : Value) (acc : List Tri) (s : List UInt8), k ≤ n2 ∧ i = .int .i64 k ∧ acc.length = k ∧ (rdMany (fun i => rdLine (formLat5 (lit (j + i)))) n2 0 r [] = rdMany (fun i => rdLine (formLat5 (lit (j + i)))) (n2 - k) k s acc) ∧ OwnC wr WA.heap.size 48 3 v (tris acc) ∧ wr.heap[C]? = some (.cells #[.int .i64 x0, .slice A1 j q1, v, .slice none 0 0, .slice none 0 0, .slice none 0 0, .slice none 0 0, .slice none 0 0] 27 (0, 0)) ∧ Ext2 R C WA wr ∧ Src S R s wr) (fun i _ => n2 - (intOf i).toNat)
      case atStart => exact ⟨0, .slice none 0 0, [], r, Nat.zero_le _, rfl, rfl, rfl, OwnC.nil _ _ _ _, HBX.out, Ext2.refl _ _ _, HS.out⟩
      case round =>
        obtain ⟨k, v, acc, s, hk, rfl, hacc, hrd, how2, hbx2, hE2, hS2⟩ := hrel
        have HO2 := Lib.hid how2
        have HBX2 := Lib.hid hbx2
        have HE2 := Lib.hid hE2
        have HS2 := Lib.hid hS2
        have HA := Lib.hid hacc
        have HRD := Lib.hid hrd
        clear how2 hbx2 hE2 hS2 hacc hrd
        by_cases hlt : k < n2
        · have HJ : Hid (j + k ≤ 4095) := by have := HNS.out; unfold Hid; omega
          have HCW : Hid (C < wr.heap.size) := Nat.lt_of_lt_of_le HCLA.out HE2.out.size
          have HRWr : Hid (R < wr.heap.size) := Nat.lt_of_lt_of_le HRLA.out HE2.out.size
          have HVW : Hid (∀ g, v.ownBlock = some g → g < wr.heap.size) := fun g hg => (HO2.out.block_lt g hg).2
          have HL : Hid ((tris acc).length ≤ 65537) := by have := HNS.out; unfold Hid; rw [tris_length5, HA.out]; omega
          have OK0 : Hid (COk 8 10 12 S R C WA wr 48 3 s v (tris acc) #[.int .i64 x0, .slice A1 j q1, v, .slice none 0 0, .slice none 0 0, .slice none 0 0, .slice none 0 0, .slice none 0 0] (fun _ => false) wr.drew) := (⟨Nat.le_refl _, HE2.out, fun _ => HS2.out, fun _ => HO2.out, fun _ => HBX2.out⟩ : COk 8 10 12 S R C WA wr 48 3 s v (tris acc) #[.int .i64 x0, .slice A1 j q1, v, .slice none 0 0, .slice none 0 0, .slice none 0 0, .slice none 0 0, .slice none 0 0] (fun _ => false) wr).below (Below.refl _ _).drew rfl rfl rfl
          have CM1 : Hid (∀ x, Ext2 R C WA x → x.cell? ⟨M, 1, none⟩ = some (.int .i64 (j : Int))) := fun x hx => by
            have := (hx.block M (lt_of_block HMA.out) (by have := HSC.out; omega) (by have := HSC.out; omega)).trans HMA.out
            simp [World.cell?, this]
          have EXW : Hid (∀ x, Ext2 R C WA x → Ext R w x) := fun x hx => ext_ext2 EXA.out hx (by have := HSC.out; omega)
          have hst : n2 - k = (n2 - (k + 1)) + 1 := by omega
          have NO : Hid (rdLine (formLat5 (lit (j + k))) s = none → ∀ x, Ext R w x → Runs5 S R w goal (CircP w) (.panicked fault5) x) := fun hq x hx => runs5_none (by
            rw [G1.out, c2_def]
            show (rdMany (fun i => rdLine (formLat5 (lit (j + i)))) n2 0 r []).bind _ = none
            rw [HRD.out, hst, rdMany, hq]; rfl) ⟨rfl, hx⟩
          have YES : Hid (∀ t r', rdLine (formLat5 (lit (j + k))) s = some (t, r') → rdMany (fun i => rdLine (formLat5 (lit (j + i)))) n2 0 r [] = rdMany (fun i => rdLine (formLat5 (lit (j + i)))) (n2 - (k + 1)) (k + 1) r' (acc ++ [t])) := fun t r' hq => by
            rw [HRD.out, hst, rdMany, hq]
          have ELA : Hid (∀ args w, (callFunc 35 args).run Tryz.prog w = .ok (.enter 35 args) w) := enters_of Tryz.func35 (by kernel_rfl) rfl
          clear hst
          go_wp2
          refine wp_region_valsD (by kernel_rfl) (by kernel_rfl) acir11M (by kernel_rfl) (by kernel_rfl)
            (COk 8 10 12 S R C WA wr 48 3 s v (tris acc) #[.int .i64 x0, .slice A1 j q1, v, .slice none 0 0, .slice none 0 0, .slice none 0 0, .slice none 0 0, .slice none 0 0]) (acir11R S R C wr WA (rOf (rdLine (formLat5 (lit (j + k))) s)) v (tOf (rdLine (formLat5 (lit (j + k))) s)) acc #[.int .i64 x0, .slice A1 j q1, v, .slice none 0 0, .slice none 0 0, .slice none 0 0, .slice none 0 0, .slice none 0 0] ((rdLine (formLat5 (lit (j + k))) s).isSome = true) M j k) OK0.out (fun jj f f' w w' hb hf h => acir11_stab jj (fun em => fun h => h.below hb) (fun em => Ch5.of hb) (fun em => fun _ _ _ _ h => h.keep hb) (fun em => by subst em; exact hb.block _ (lt_of_block h)) hf h) ?_ ?_
          · intro i oo d a' w' ho hd hun hdf hok hD K hK hK0
            match i, ho, hd, hD, hK, hK0, hun with
            | 0, ho, hd, hD, hK, hK0, hun =>
              have e := (congrArg Oper.op (Option.some.inj ho)).symm
              obtain rfl := Option.some.inj ho
              exact wp_val (op_field_cir5_2 a' w' _ 4 (hun 4 (by kernel_rfl)) _ e) (hK _ _ (Below.refl _ _) (hok.below (Below.refl _ _) rfl rfl rfl) (fun f h1 _ => h1 _ rfl))
            | 1, ho, hd, hD, hK, hK0, hun =>
              have e := (congrArg Oper.op (Option.some.inj ho)).symm
              obtain rfl := Option.some.inj ho
              exact wp_val (op_load_cir5_Latch a' w' _ 31 _ (hD 0 (by kernel_rfl)) ((Lib.cell_of_heap (hok.box (hd 12 (by kernel_rfl))) 2).trans rfl) _ e) (hK _ _ (Below.refl _ _) (hok.below (Below.refl _ _) rfl rfl rfl) (fun f h1 _ => h1 _ rfl))
            | 2, ho, hd, hD, hK, hK0, hun =>
              have e := (congrArg Oper.op (Option.some.inj ho)).symm
              obtain rfl := Option.some.inj ho
              exact wp_val (op_move a' w' 0 _ e) (hK _ _ (Below.refl _ _) (hok.below (Below.refl _ _) rfl rfl rfl) (fun f h1 _ => (h1 _ rfl).trans (hun 0 (by kernel_rfl))))
            | 3, ho, hd, hD, hK, hK0, hun =>
              have e := (congrArg Oper.op (Option.some.inj ho)).symm
              obtain rfl := Option.some.inj ho
              exact wp_val (op_field_aig_sizes_1 a' w' _ 3 (hun 3 (by kernel_rfl)) _ e) (hK _ _ (Below.refl _ _) (hok.below (Below.refl _ _) rfl rfl rfl) (fun f h1 _ => h1 _ rfl))
            | 4, ho, hd, hD, hK, hK0, hun =>
              have e := (congrArg Oper.op (Option.some.inj ho)).symm
              obtain rfl := Option.some.inj ho
              exact wp_val (op_load_int a' w' _ 34 _ (hD 3 (by kernel_rfl)) (CM1.out _ hok.ext) _ e) (hK _ _ (Below.refl _ _) (hok.below (Below.refl _ _) rfl rfl rfl) (fun f h1 _ => h1 _ rfl))
            | 5, ho, hd, hD, hK, hK0, hun =>
              have e := (congrArg Oper.op (Option.some.inj ho)).symm
              obtain rfl := Option.some.inj ho
              exact wp_val (op_move a' w' 6 _ e) (hK _ _ (Below.refl _ _) (hok.below (Below.refl _ _) rfl rfl rfl) (fun f h1 _ => (h1 _ rfl).trans (hun 6 (by kernel_rfl))))
            | 6, ho, hd, hD, hK, hK0, hun =>
              have e := (congrArg Oper.op (Option.some.inj ho)).symm
              obtain rfl := Option.some.inj ho
              exact wp_val (op_add_nat a' w' j k 35 36 (hD 4 (by kernel_rfl)) (hD 5 (by kernel_rfl)) (by omega) _ e) (hK _ _ (Below.refl _ _) (hok.below (Below.refl _ _) rfl rfl rfl) (fun f h1 _ => h1 _ rfl))
            | 7, ho, hd, hD, hK, hK0, hun =>
              have e := (congrArg Oper.op (Option.some.inj ho)).symm
              obtain rfl := Option.some.inj ho
              refine wp_enter (op_call1' a' w' _ 37 _ EL.out _ e) ?_
              rw [show a'.tmps.getD 37 undef = .int .i64 ((j + k : Nat) : Int) from hD 6 (by kernel_rfl)]
              refine (literal_any (j + k) w' HJ.out).mono ?_
              rintro e w'' ⟨rfl, rfl⟩
              exact .inl ⟨_, rfl, hK _ _ (Below.refl _ _) (hok.below (Below.refl _ _) rfl rfl rfl) (fun f h1 _ => h1 _ rfl)⟩
            | 8, ho, hd, hD, hK, hK0, hun =>
              have e := (congrArg Oper.op (Option.some.inj ho)).symm
              obtain rfl := Option.some.inj ho
              refine wp_enter (op_call2 a' w' _ 33 38 _ _ ELA.out _ e) ?_
              rw [show a'.tmps.getD 33 undef = .pointer (some ⟨R, 0, none⟩) from hD 2 (by kernel_rfl), show a'.tmps.getD 38 undef = .int .i64 (lit (j + k)) from hD 7 (by kernel_rfl)]
              refine (latch_run (lit (j + k)) s w' (hok.s0 (hd 8 (by kernel_rfl)))).mono ?_
              intro e w'' hr
              cases hq : rdLine (formLat5 (lit (j + k))) s with
              | none =>
                rw [hq] at hr
                obtain ⟨rfl, hE⟩ := hr
                exact .inr ⟨_, rfl, hdf, NO.out hq _ (EXW.out _ (hok.ext.ext hE))⟩
              | some x =>
                obtain ⟨t, r'⟩ := x
                rw [hq] at hr
                obtain ⟨rfl, hS, hE⟩ := hr
                refine .inl ⟨_, rfl, hK0 _ _ (hok.read hE HRC.out HRLA.out) (fun f h1 _ => ⟨(h1 _ rfl).trans (by rw [hq]; rfl), by rw [hq]; exact hS, by rw [hq]; rfl⟩) (fun jj f hj hf hq2 => ?_)⟩
                exact acir11_stab jj (fun em => absurd em hj) (fun _ => Ch5.ext HRWr.out hE) (fun _ _ _ _ _ h => own_ext h hE HRLA.out) (fun _ => hE.block C (Nat.lt_of_lt_of_le HCW.out hok.size) HRC.out.symm) hf hq2
            | 9, ho, hd, hD, hK, hK0, hun =>
              have e := (congrArg Oper.op (Option.some.inj ho)).symm
              obtain rfl := Option.some.inj ho
              exact wp_val (op_slice_lat5 a' w' _ 39 (hD 8 (by kernel_rfl)).1 _ e) (hK _ _ ((Below.refl _ _).alloc (Nat.le_refl _) _) (hok.below ((Below.refl _ _).alloc (Nat.le_refl _) _) rfl rfl rfl) (fun f h1 _ => ⟨w'.heap.size, h1 _ rfl, hok.size, Array.getElem?_push_size⟩))
            | 10, ho, hd, hD, hK, hK0, hun =>
              have e := (congrArg Oper.op (Option.some.inj ho)).symm
              obtain rfl := Option.some.inj ho
              obtain ⟨g, hgs, hg, hgc⟩ : ∃ g, vals a' 40 = .slice (some ⟨g, 0, none⟩) 1 1 ∧ wr.heap.size ≤ g ∧ w'.heap[g]? = some (.cells #[.int .i64 (tOf (rdLine (formLat5 (lit (j + k))) s)).a, .int .i64 (tOf (rdLine (formLat5 (lit (j + k))) s)).b, .int .i64 (tOf (rdLine (formLat5 (lit (j + k))) s)).c] 48 (0, 0)) := hD 9 (by kernel_rfl)
              refine step_push w' (.tmp 32) (.tmp 40) 23 rfl 48 3 24 _ Tryz.underlying23 infoLat5 rfl (by decide) WA.heap.size v _ (hok.own (hd 10 (by kernel_rfl))) (hD 1 (by kernel_rfl)) g 1 hgs (Tri.cells (tOf (rdLine (formLat5 (lit (j + k))) s))) (cells_of hgc) rfl (fun u hu => by
                  simp [Tri.cells] at hu
                  rcases hu with rfl | rfl | rfl <;> rfl) (by have := HL.out; omega) (by have := HL.out; omega) hok.ext.size ?_
              intro v' w'' hown2 hbel hkeep
              have hch : Ch5 wr w' w'' := ⟨hbel.size, fun k hk hk2 => hkeep k hk2 (fun em => by have := HVW.out k em.symm; omega)⟩
              refine hK0 _ _ (hok.push hbel HSLA.out HCLA.out) (fun f h1 _ => by
                show OwnC w'' WA.heap.size 48 3 (f 41) _
                rw [h1 _ rfl, ← tris_snoc]; exact hown2) (fun jj f hj hf hq2 => ?_)
              exact acir11_stab jj (fun _ h => h.later (hbel.mono HSLA.out)) (fun _ => hch) (fun em => absurd em hj) (fun _ => hbel.block C HCLA.out) hf hq2
            | 11, ho, hd, hD, hK, hK0, hun =>
              have e := (congrArg Oper.op (Option.some.inj ho)).symm
              obtain rfl := Option.some.inj ho
              exact wp_val (op_field_cir5_2 a' w' _ 4 (hun 4 (by kernel_rfl)) _ e) (hK _ _ (Below.refl _ _) (hok.below (Below.refl _ _) rfl rfl rfl) (fun f h1 _ => h1 _ rfl))
            | 12, ho, hd, hD, hK, hK0, hun =>
              have e := (congrArg Oper.op (Option.some.inj ho)).symm
              obtain rfl := Option.some.inj ho
              have hown5 : OwnC w' WA.heap.size 48 3 (vals a' 41) (tris (acc ++ [tOf (rdLine (formLat5 (lit (j + k))) s)])) := hD 10 (by kernel_rfl)
              obtain ⟨A', q', hv, -, -, -⟩ := hown5.row (by decide) (tris_len3 _)
              obtain ⟨w'', hr, hgc2, hbut⟩ := op_store_list a' w' _ 27 (.inr (.inl rfl)) C 2 _ (hok.box (hd 12 (by kernel_rfl))) (by simp) A' _ q' 42 41 (hD 11 (by kernel_rfl)) hv _ e
              refine wp_skip' hr (hK0 _ _ (hok.store hbut HSC5.out HCLA.out) (fun f h1 h2 => ?_) (fun jj f hj hf hq2 => ?_))
              · show w''.heap[C]? = some (.cells (_ : Array Value) 27 (0, 0))
                rw [h2 41 (by simp), hv]
                exact hgc2
              · exact acir11_stab jj (fun _ h => h.later (hbut.below (Below.refl _ _) HSC5.out)) (fun _ => Ch5.but HCW.out hbut) (fun _ _ _ _ _ h => own_but5 h hbut HCLA.out) (fun em => absurd em hj) hf hq2
            | i + 13, ho, _, _, _, _, _ => exact absurd ho (by simp)
          · intro a' w3 hsz hdf hkt hok hR
            have HF3 := frame_sets [31, 32, 33, 34, 35, 36, 37, 38, 39, 40, 41, 42] (by kernel_rfl) hsz hkt
            obtain ⟨d, hok⟩ := hok
            have hown : OwnC w3 WA.heap.size 48 3 (vals a' 41) (tris (acc ++ [tOf (rdLine (formLat5 (lit (j + k))) s)])) := hR 10 (by decide)
            have hbox : w3.heap[C]? = some (.cells (#[.int .i64 x0, .slice A1 j q1, v, .slice none 0 0, .slice none 0 0, .slice none 0 0, .slice none 0 0, .slice none 0 0].setIfInBounds 2 (vals a' 41)) 27 (0, 0)) := hR 12 (by decide)
            have hrd3 : _ ∧ Src S R (rOf (rdLine (formLat5 (lit (j + k))) s)) w3 ∧ (rdLine (formLat5 (lit (j + k))) s).isSome = true := hR 8 (by decide)
            obtain ⟨v2, hv2⟩ : ∃ v2, vals a' 41 = v2 := ⟨_, rfl⟩
            rw [hv2] at hown hbox
            have HO3 := Lib.hid hown
            have HB3 : Hid (w3.heap[C]? = some (.cells #[.int .i64 x0, .slice A1 j q1, v2, .slice none 0 0, .slice none 0 0, .slice none 0 0, .slice none 0 0, .slice none 0 0] 27 (0, 0))) := hbox
            have HS3 := Lib.hid hrd3.2.1
            have HE3 := Lib.hid hok.ext
            have HRD3 := Lib.hid (YES.out _ _ (some_of hrd3.2.2))
            clear hown hbox hv2 hok OK0 HO2 HBX2 HE2 HS2 NO YES hrd3
            generalize tOf (rdLine (formLat5 (lit (j + k))) s) = t3 at *
            generalize rOf (rdLine (formLat5 (lit (j + k))) s) = s3 at *
            obtain ⟨tm, df⟩ := a'
            obtain rfl : df = _ := hdf
            simp only [List.foldl_cons, List.foldl_nil] at HF3
            clear hkt hR hsz
            generalize tm.getD 31 undef = y31 at HF3
            generalize tm.getD 32 undef = y32 at HF3
            generalize tm.getD 33 undef = y33 at HF3
            generalize tm.getD 34 undef = y34 at HF3
            generalize tm.getD 35 undef = y35 at HF3
            generalize tm.getD 36 undef = y36 at HF3
            generalize tm.getD 37 undef = y37 at HF3
            generalize tm.getD 38 undef = y38 at HF3
            generalize tm.getD 39 undef = y39 at HF3
            generalize tm.getD 40 undef = y40 at HF3
            generalize tm.getD 41 undef = y41 at HF3
            generalize tm.getD 42 undef = y42 at HF3
            simp only [List.setIfInBounds_toArray, List.set_cons_succ, List.set_cons_zero] at HF3
            subst HF3
            go_wp2
            go_roundw
            case rel => exact ⟨k + 1, v2, acc ++ [t3], s3, by omega, by go_num, by rw [List.length_append, HA.out]; rfl, HRD3.out, HO3.out, HB3.out, HE3.out, HS3.out⟩
            case measure => simp [intOf]; omega
        · obtain rfl : k = n2 := by omega
          have G3 : Hid (goal = c3 [x0, (j : Int), k, n3, n4, n5, n6] acc s) := by
            unfold Hid
            rw [G1.out, c2_def]
            show (rdMany (fun i => rdLine (formLat5 (lit (j + i)))) k 0 r []).bind _ = _
            rw [HRD.out, Nat.sub_self]; rfl
          clear hk hlt HRD G1
          obtain ⟨A2, q2, hv2, -, hq2, hq2'⟩ := HO2.out.row (by decide) (tris_len3 _)
          rw [tris_length5] at hv2 hq2
          subst hv2
          have HQ2 : Hid (acc.length ≤ q2 ∧ q2 ≤ 9223372036854775807) := ⟨hq2, hq2'⟩
          obtain ⟨WB, hWB⟩ : ∃ x, x = wr := ⟨_, rfl⟩
          rw [← hWB] at HO2 HBX2 HE2 HS2 ⊢
          have EX2 : Hid (Ext R w WB) := ext_ext2 EXA.out HE2.out (by have := HSC.out; omega)
          have GS2 : Hid (WB.heap[M]? = some (.cells #[.int .i64 x0, .int .i64 (j : Int), .int .i64 (k : Int), .int .i64 (n3 : Int), .int .i64 (n4 : Int), .int .i64 (n5 : Int), .int .i64 (n6 : Int)] 83 (0, 0))) := (HE2.out.block M (lt_of_block HMA.out) (by have := HSC.out; omega) (by have := HSC.out; omega)).trans HMA.out
          have GZ2 : Hid (WB.heap[w.heap.size]? = some (.cells #[.int .i64 0, .slice none 0 0, .slice none 0 0, .slice none 0 0, .slice none 0 0, .slice none 0 0, .slice none 0 0, .slice none 0 0] 27 (0, 0))) := (HE2.out.block _ (lt_of_block HZA.out) (by have := HSC.out; omega) (by have := HSC.out; omega)).trans HZA.out
          have GC2 : Hid (WB.heap[C]? = some (.cells #[.int .i64 x0, .slice A1 j q1, .slice A2 acc.length q2, .slice none 0 0, .slice none 0 0, .slice none 0 0, .slice none 0 0, .slice none 0 0] 27 (0, 0))) := HBX2.out
          have O1 : Hid (OwnC WB X8.heap.size 3 1 (.slice A1 j q1) (ints (evens j))) := own_ext2 HO.out HE2.out HRL.out HCL.out
          have O2 : Hid (OwnC WB X8.heap.size 48 3 (.slice A2 acc.length q2) (tris acc)) := own_base5 HO2.out HE.out.size
          have SR2 : Hid (Src S R s WB) := HS2.out
          have SZ2 : Hid (X8.heap.size ≤ WB.heap.size) := Nat.le_trans HE.out.size HE2.out.size
          clear hWB hq2 hq2' HO HBX HE HS HO2 HBX2 HE2 HS2 EXA HMA HZA HCLA HRLA HSLA EX0 SR0 GS0 GZ0 GC0 SZ0
          have T3 := Lib.hid (literals_run n3 s WB SR2.out HN3.out)
          have h3 : WB.cell? ⟨M, 3, none⟩ = some (.int .i64 (n3 : Int)) := by have := GS2.out; simp [World.cell?, this]
          go_wp2_with fail
          refine T3.out.mono ?_
          intro e y3 hr
          cases hq : rdMany (fun _ => rdLine formLit) n3 0 s [] with
          | none =>
            rw [hq] at hr
            obtain ⟨rfl, hE⟩ := hr
            exact ⟨rfl, runs5_none (G3.out.trans (c3_no hq)) ⟨rfl, EX2.out.trans hE⟩⟩
          | some z =>
          obtain ⟨l3, s3⟩ := z
          rw [hq] at hr
          obtain ⟨⟨v, rfl, hown⟩, hS, hE⟩ := hr
          replace hown : OwnC y3 WB.heap.size 3 1 v (ints l3) := hown
          replace hS : Src S R s3 y3 := hS
          have G4 : Hid (goal = c4 [x0, (j : Int), k, n3, n4, n5, n6] acc l3 s3) := G3.out.trans (c3_ok hq)
          obtain ⟨A3, q3, rfl, -, hle, hmx⟩ := hown.row (by decide) (ints_len1 _)
          rw [ints_length1] at hown hle
          rw [show (ints l3).length = l3.length from ints_length1 _]
          have HQ3 : Hid (l3.length ≤ q3 ∧ q3 ≤ 9223372036854775807) := ⟨hle, hmx⟩
          have gcy : y3.heap[C]? = some (.cells #[.int .i64 x0, .slice A1 j q1, .slice A2 acc.length q2, .slice none 0 0, .slice none 0 0, .slice none 0 0, .slice none 0 0, .slice none 0 0] 27 (0, 0)) := (hE.block C (lt_of_block GC2.out) HRC.out.symm).trans GC2.out
          obtain ⟨V3, u3', ⟨hV, pv, tv⟩, gv, BV⟩ := step_set y3 _ 3 (.slice A3 l3.length q3) gcy (Nat.lt_of_lt_of_eq (show 3 < 8 by decide) rfl)
          have BL : Below w.heap.size y3 V3 := BV.below (Below.refl _ _) (by have := HSC.out; omega)
          have EX3 : Hid (Ext R w V3) := (EX2.out.trans hE).then BL
          have SR3 : Hid (Src S R s3 V3) := hS.later (BL.mono HSW.out)
          have GC3 : Hid (V3.heap[C]? = some (.cells #[.int .i64 x0, .slice A1 j q1, .slice A2 acc.length q2, .slice A3 l3.length q3, .slice none 0 0, .slice none 0 0, .slice none 0 0, .slice none 0 0] 27 (0, 0))) := gv
          have GS3 : Hid (V3.heap[M]? = some (.cells #[.int .i64 x0, .int .i64 (j : Int), .int .i64 (k : Int), .int .i64 (n3 : Int), .int .i64 (n4 : Int), .int .i64 (n5 : Int), .int .i64 (n6 : Int)] 83 (0, 0))) := ((BV.b M (by have := HSC.out; omega)).trans (hE.block M (lt_of_block GS2.out) (by have := HSC.out; omega))).trans GS2.out
          have GZ3 : Hid (V3.heap[w.heap.size]? = some (.cells #[.int .i64 0, .slice none 0 0, .slice none 0 0, .slice none 0 0, .slice none 0 0, .slice none 0 0, .slice none 0 0, .slice none 0 0] 27 (0, 0))) := ((BV.b _ (by have := HSC.out; omega)).trans (hE.block _ (lt_of_block GZ2.out) (by have := HSC.out; omega))).trans GZ2.out
          have SZ3 : Hid (X8.heap.size ≤ V3.heap.size) := by unfold Hid; rw [BV.z]; exact Nat.le_trans SZ2.out hE.size
          replace O1 : Hid (OwnC V3 X8.heap.size 3 1 (.slice A1 j q1) (ints (evens j))) := own_but5 (own_ext O1.out hE HRL.out) BV HCL.out
          replace O2 : Hid (OwnC V3 X8.heap.size 48 3 (.slice A2 acc.length q2) (tris acc)) := own_but5 (own_ext O2.out hE HRL.out) BV HCL.out
          have O3 : Hid (OwnC V3 X8.heap.size 3 1 (.slice A3 l3.length q3) (ints l3)) := own_but5 (own_base5 hown SZ2.out) BV HCL.out
          clear hown hle hmx gcy gv BV BL hE hS hq T3 GC2 GS2 GZ2 SZ2 SR2 EX2 G3 h3
          have T4 := Lib.hid (literals_run n5 s3 V3 SR3.out HN5.out)
          have h4 : V3.cell? ⟨M, 5, none⟩ = some (.int .i64 (n5 : Int)) := by have := GS3.out; simp [World.cell?, this]
          go_wp2_with fail
          refine T4.out.mono ?_
          intro e y4 hr
          clear hV pv tv
          cases hq : rdMany (fun _ => rdLine formLit) n5 0 s3 [] with
          | none =>
            rw [hq] at hr
            obtain ⟨rfl, hE⟩ := hr
            exact ⟨rfl, runs5_none (G4.out.trans (c4_no hq)) ⟨rfl, EX3.out.trans hE⟩⟩
          | some z =>
          obtain ⟨l4, s4⟩ := z
          rw [hq] at hr
          obtain ⟨⟨v, rfl, hown⟩, hS, hE⟩ := hr
          replace hown : OwnC y4 V3.heap.size 3 1 v (ints l4) := hown
          replace hS : Src S R s4 y4 := hS
          have G5 : Hid (goal = c5 [x0, (j : Int), k, n3, n4, n5, n6] acc l3 l4 s4) := G4.out.trans (c4_ok hq)
          obtain ⟨A4, q4, rfl, -, hle, hmx⟩ := hown.row (by decide) (ints_len1 _)
          rw [ints_length1] at hown hle
          rw [show (ints l4).length = l4.length from ints_length1 _]
          have HQ4 : Hid (l4.length ≤ q4 ∧ q4 ≤ 9223372036854775807) := ⟨hle, hmx⟩
          have gcy : y4.heap[C]? = some (.cells #[.int .i64 x0, .slice A1 j q1, .slice A2 acc.length q2, .slice A3 l3.length q3, .slice none 0 0, .slice none 0 0, .slice none 0 0, .slice none 0 0] 27 (0, 0)) := (hE.block C (lt_of_block GC3.out) HRC.out.symm).trans GC3.out
          obtain ⟨V4, u4', ⟨hV, pv, tv⟩, gv, BV⟩ := step_set y4 _ 4 (.slice A4 l4.length q4) gcy (Nat.lt_of_lt_of_eq (show 4 < 8 by decide) rfl)
          have BL : Below w.heap.size y4 V4 := BV.below (Below.refl _ _) (by have := HSC.out; omega)
          have EX4 : Hid (Ext R w V4) := (EX3.out.trans hE).then BL
          have SR4 : Hid (Src S R s4 V4) := hS.later (BL.mono HSW.out)
          have GC4 : Hid (V4.heap[C]? = some (.cells #[.int .i64 x0, .slice A1 j q1, .slice A2 acc.length q2, .slice A3 l3.length q3, .slice A4 l4.length q4, .slice none 0 0, .slice none 0 0, .slice none 0 0] 27 (0, 0))) := gv
          have GS4 : Hid (V4.heap[M]? = some (.cells #[.int .i64 x0, .int .i64 (j : Int), .int .i64 (k : Int), .int .i64 (n3 : Int), .int .i64 (n4 : Int), .int .i64 (n5 : Int), .int .i64 (n6 : Int)] 83 (0, 0))) := ((BV.b M (by have := HSC.out; omega)).trans (hE.block M (lt_of_block GS3.out) (by have := HSC.out; omega))).trans GS3.out
          have GZ4 : Hid (V4.heap[w.heap.size]? = some (.cells #[.int .i64 0, .slice none 0 0, .slice none 0 0, .slice none 0 0, .slice none 0 0, .slice none 0 0, .slice none 0 0, .slice none 0 0] 27 (0, 0))) := ((BV.b _ (by have := HSC.out; omega)).trans (hE.block _ (lt_of_block GZ3.out) (by have := HSC.out; omega))).trans GZ3.out
          have SZ4 : Hid (X8.heap.size ≤ V4.heap.size) := by unfold Hid; rw [BV.z]; exact Nat.le_trans SZ3.out hE.size
          replace O1 : Hid (OwnC V4 X8.heap.size 3 1 (.slice A1 j q1) (ints (evens j))) := own_but5 (own_ext O1.out hE HRL.out) BV HCL.out
          replace O2 : Hid (OwnC V4 X8.heap.size 48 3 (.slice A2 acc.length q2) (tris acc)) := own_but5 (own_ext O2.out hE HRL.out) BV HCL.out
          replace O3 : Hid (OwnC V4 X8.heap.size 3 1 (.slice A3 l3.length q3) (ints l3)) := own_but5 (own_ext O3.out hE HRL.out) BV HCL.out
          have O4 : Hid (OwnC V4 X8.heap.size 3 1 (.slice A4 l4.length q4) (ints l4)) := own_but5 (own_base5 hown SZ3.out) BV HCL.out
          clear hown hle hmx gcy gv BV BL hE hS hq T4 GC3 GS3 GZ3 SZ3 SR3 EX3 G4 h4
          have T5 := Lib.hid (literals_run n6 s4 V4 SR4.out HN6.out)
          have h5 : V4.cell? ⟨M, 6, none⟩ = some (.int .i64 (n6 : Int)) := by have := GS4.out; simp [World.cell?, this]
          go_wp2_with fail
          refine T5.out.mono ?_
          intro e y5 hr
          clear hV pv tv
          cases hq : rdMany (fun _ => rdLine formLit) n6 0 s4 [] with
          | none =>
            rw [hq] at hr
            obtain ⟨rfl, hE⟩ := hr
            exact ⟨rfl, runs5_none (G5.out.trans (c5_no hq)) ⟨rfl, EX4.out.trans hE⟩⟩
          | some z =>
          obtain ⟨l5, s5⟩ := z
          rw [hq] at hr
          obtain ⟨⟨v, rfl, hown⟩, hS, hE⟩ := hr
          replace hown : OwnC y5 V4.heap.size 3 1 v (ints l5) := hown
          replace hS : Src S R s5 y5 := hS
          have G6 : Hid (goal = c6 [x0, (j : Int), k, n3, n4, n5, n6] acc l3 l4 l5 s5) := G5.out.trans (c5_ok hq)
          obtain ⟨A5, q5, rfl, -, hle, hmx⟩ := hown.row (by decide) (ints_len1 _)
          rw [ints_length1] at hown hle
          rw [show (ints l5).length = l5.length from ints_length1 _]
          have HQ5 : Hid (l5.length ≤ q5 ∧ q5 ≤ 9223372036854775807) := ⟨hle, hmx⟩
          have gcy : y5.heap[C]? = some (.cells #[.int .i64 x0, .slice A1 j q1, .slice A2 acc.length q2, .slice A3 l3.length q3, .slice A4 l4.length q4, .slice none 0 0, .slice none 0 0, .slice none 0 0] 27 (0, 0)) := (hE.block C (lt_of_block GC4.out) HRC.out.symm).trans GC4.out
          obtain ⟨V5, u5', ⟨hV, pv, tv⟩, gv, BV⟩ := step_set y5 _ 5 (.slice A5 l5.length q5) gcy (Nat.lt_of_lt_of_eq (show 5 < 8 by decide) rfl)
          have BL : Below w.heap.size y5 V5 := BV.below (Below.refl _ _) (by have := HSC.out; omega)
          have EX5 : Hid (Ext R w V5) := (EX4.out.trans hE).then BL
          have SR5 : Hid (Src S R s5 V5) := hS.later (BL.mono HSW.out)
          have GC5 : Hid (V5.heap[C]? = some (.cells #[.int .i64 x0, .slice A1 j q1, .slice A2 acc.length q2, .slice A3 l3.length q3, .slice A4 l4.length q4, .slice A5 l5.length q5, .slice none 0 0, .slice none 0 0] 27 (0, 0))) := gv
          have GS5 : Hid (V5.heap[M]? = some (.cells #[.int .i64 x0, .int .i64 (j : Int), .int .i64 (k : Int), .int .i64 (n3 : Int), .int .i64 (n4 : Int), .int .i64 (n5 : Int), .int .i64 (n6 : Int)] 83 (0, 0))) := ((BV.b M (by have := HSC.out; omega)).trans (hE.block M (lt_of_block GS4.out) (by have := HSC.out; omega))).trans GS4.out
          have GZ5 : Hid (V5.heap[w.heap.size]? = some (.cells #[.int .i64 0, .slice none 0 0, .slice none 0 0, .slice none 0 0, .slice none 0 0, .slice none 0 0, .slice none 0 0, .slice none 0 0] 27 (0, 0))) := ((BV.b _ (by have := HSC.out; omega)).trans (hE.block _ (lt_of_block GZ4.out) (by have := HSC.out; omega))).trans GZ4.out
          have SZ5 : Hid (X8.heap.size ≤ V5.heap.size) := by unfold Hid; rw [BV.z]; exact Nat.le_trans SZ4.out hE.size
          replace O1 : Hid (OwnC V5 X8.heap.size 3 1 (.slice A1 j q1) (ints (evens j))) := own_but5 (own_ext O1.out hE HRL.out) BV HCL.out
          replace O2 : Hid (OwnC V5 X8.heap.size 48 3 (.slice A2 acc.length q2) (tris acc)) := own_but5 (own_ext O2.out hE HRL.out) BV HCL.out
          replace O3 : Hid (OwnC V5 X8.heap.size 3 1 (.slice A3 l3.length q3) (ints l3)) := own_but5 (own_ext O3.out hE HRL.out) BV HCL.out
          replace O4 : Hid (OwnC V5 X8.heap.size 3 1 (.slice A4 l4.length q4) (ints l4)) := own_but5 (own_ext O4.out hE HRL.out) BV HCL.out
          have O5 : Hid (OwnC V5 X8.heap.size 3 1 (.slice A5 l5.length q5) (ints l5)) := own_but5 (own_base5 hown SZ4.out) BV HCL.out
          clear hown hle hmx gcy gv BV BL hE hS hq T5 GC4 GS4 GZ4 SZ4 SR4 EX4 G5 h5
          have h6 : V5.cell? ⟨M, 4, none⟩ = some (.int .i64 (n4 : Int)) := by have := GS5.out; simp [World.cell?, this]
          go_wp2
          clear hV pv tv h6
          have HCL5 : Hid (C < V5.heap.size) := Nat.lt_of_lt_of_le HCL.out SZ5.out
          have HRL5 : Hid (R < V5.heap.size) := Nat.lt_of_lt_of_le HRL.out SZ5.out
          have HSL5 : Hid (S ≤ V5.heap.size) := Nat.le_trans HSL.out SZ5.out
          have EAN : Hid (∀ args w, (callFunc 37 args).run Tryz.prog w = .ok (.enter 37 args) w) := enters_of Tryz.func37 (by kernel_rfl) rfl
          -- the ands
          go_loopw [61] (fun i wr => ∃ (k4 : Nat) (v : Value) (acc6 : List Tri) (s : List UInt8), k4 ≤ n4 ∧ i = .int .i64 k4 ∧ acc6.length = k4 ∧ (rdMany (fun i => rdAnd (lit (j + k + i))) n4 0 s5 [] = rdMany (fun i => rdAnd (lit (j + k + i))) (n4 - k4) k4 s acc6) ∧ OwnC wr V5.heap.size 54 3 v (tris acc6) ∧ wr.heap[C]? = some (.cells #[.int .i64 x0, .slice A1 j q1, .slice A2 acc.length q2, .slice A3 l3.length q3, .slice A4 l4.length q4, .slice A5 l5.length q5, v, .slice none 0 0] 27 (0, 0)) ∧ Ext2 R C V5 wr ∧ Src S R s wr) (fun i _ => n4 - (intOf i).toNat)
          case atStart => exact ⟨0, .slice none 0 0, [], s5, Nat.zero_le _, rfl, rfl, rfl, OwnC.nil _ _ _ _, GC5.out, Ext2.refl _ _ _, SR5.out⟩
          case round =>
            obtain ⟨k4, v, acc6, s, hk, rfl, hacc, hrd, how2, hbx2, hE2, hS2⟩ := hrel
            have HO2 := Lib.hid how2
            have HBX2 := Lib.hid hbx2
            have HE2 := Lib.hid hE2
            have HS2 := Lib.hid hS2
            have HA := Lib.hid hacc
            have HRD := Lib.hid hrd
            clear how2 hbx2 hE2 hS2 hacc hrd
            by_cases hlt : k4 < n4
            · have HJ : Hid (j + k + k4 < 2048) := by have := HNS.out; unfold Hid; omega
              have HCW : Hid (C < wr.heap.size) := Nat.lt_of_lt_of_le HCL5.out HE2.out.size
              have HRWr : Hid (R < wr.heap.size) := Nat.lt_of_lt_of_le HRL5.out HE2.out.size
              have HVW : Hid (∀ g, v.ownBlock = some g → g < wr.heap.size) := fun g hg => (HO2.out.block_lt g hg).2
              have HL : Hid ((tris acc6).length ≤ 65537) := by have := HNS.out; unfold Hid; rw [tris_length5, HA.out]; omega
              have OK0 : Hid (COk 11 13 15 S R C V5 wr 54 3 s v (tris acc6) #[.int .i64 x0, .slice A1 j q1, .slice A2 acc.length q2, .slice A3 l3.length q3, .slice A4 l4.length q4, .slice A5 l5.length q5, v, .slice none 0 0] (fun _ => false) wr.drew) := (⟨Nat.le_refl _, HE2.out, fun _ => HS2.out, fun _ => HO2.out, fun _ => HBX2.out⟩ : COk 11 13 15 S R C V5 wr 54 3 s v (tris acc6) #[.int .i64 x0, .slice A1 j q1, .slice A2 acc.length q2, .slice A3 l3.length q3, .slice A4 l4.length q4, .slice A5 l5.length q5, v, .slice none 0 0] (fun _ => false) wr).below (Below.refl _ _).drew rfl rfl rfl
              have CM1 : Hid (∀ x, Ext2 R C V5 x → x.cell? ⟨M, 1, none⟩ = some (.int .i64 (j : Int))) := fun x hx => by
                have := (hx.block M (lt_of_block GS5.out) (by have := HSC.out; omega) (by have := HSC.out; omega)).trans GS5.out
                simp [World.cell?, this]
              have CM2 : Hid (∀ x, Ext2 R C V5 x → x.cell? ⟨M, 2, none⟩ = some (.int .i64 (k : Int))) := fun x hx => by
                have := (hx.block M (lt_of_block GS5.out) (by have := HSC.out; omega) (by have := HSC.out; omega)).trans GS5.out
                simp [World.cell?, this]
              have EXW : Hid (∀ x, Ext2 R C V5 x → Ext R w x) := fun x hx => ext_ext2 EX5.out hx (by have := HSC.out; omega)
              have hst : n4 - k4 = (n4 - (k4 + 1)) + 1 := by omega
              have NO : Hid (rdAnd (lit (j + k + k4)) s = none → ∀ x, Ext R w x → Runs5 S R w goal (CircP w) (.panicked fault5) x) := fun hq x hx => runs5_none (G6.out.trans (c6_no (by rw [HRD.out, hst, rdMany, hq]))) ⟨rfl, hx⟩
              have YES : Hid (∀ t r', rdAnd (lit (j + k + k4)) s = some (t, r') → rdMany (fun i => rdAnd (lit (j + k + i))) n4 0 s5 [] = rdMany (fun i => rdAnd (lit (j + k + i))) (n4 - (k4 + 1)) (k4 + 1) r' (acc6 ++ [t])) := fun t r' hq => by
                rw [HRD.out, hst, rdMany, hq]
              clear hst
              go_wp2
              refine wp_region_valsD (by kernel_rfl) (by kernel_rfl) acir19M (by kernel_rfl) (by kernel_rfl)
                (COk 11 13 15 S R C V5 wr 54 3 s v (tris acc6) #[.int .i64 x0, .slice A1 j q1, .slice A2 acc.length q2, .slice A3 l3.length q3, .slice A4 l4.length q4, .slice A5 l5.length q5, v, .slice none 0 0]) (acir19R S R C wr V5 (rOf (rdAnd (lit (j + k + k4)) s)) v (tOf (rdAnd (lit (j + k + k4)) s)) acc6 #[.int .i64 x0, .slice A1 j q1, .slice A2 acc.length q2, .slice A3 l3.length q3, .slice A4 l4.length q4, .slice A5 l5.length q5, v, .slice none 0 0] ((rdAnd (lit (j + k + k4)) s).isSome = true) M j k k4) OK0.out (fun jj f f' w w' hb hf h => acir19_stab jj (fun em => fun h => h.below hb) (fun em => Ch5.of hb) (fun em => fun _ _ _ _ h => h.keep hb) (fun em => by subst em; exact hb.block _ (lt_of_block h)) hf h) ?_ ?_
              · intro i oo d a' w' ho hd hun hdf hok hD K hK hK0
                match i, ho, hd, hD, hK, hK0, hun with
                | 0, ho, hd, hD, hK, hK0, hun =>
                  have e := (congrArg Oper.op (Option.some.inj ho)).symm
                  obtain rfl := Option.some.inj ho
                  exact wp_val (op_field_cir5_6 a' w' _ 4 (hun 4 (by kernel_rfl)) _ e) (hK _ _ (Below.refl _ _) (hok.below (Below.refl _ _) rfl rfl rfl) (fun f h1 _ => h1 _ rfl))
                | 1, ho, hd, hD, hK, hK0, hun =>
                  have e := (congrArg Oper.op (Option.some.inj ho)).symm
                  obtain rfl := Option.some.inj ho
                  exact wp_val (op_load_cir5_And a' w' _ 64 _ (hD 0 (by kernel_rfl)) ((Lib.cell_of_heap (hok.box (hd 15 (by kernel_rfl))) 6).trans rfl) _ e) (hK _ _ (Below.refl _ _) (hok.below (Below.refl _ _) rfl rfl rfl) (fun f h1 _ => h1 _ rfl))
                | 2, ho, hd, hD, hK, hK0, hun =>
                  have e := (congrArg Oper.op (Option.some.inj ho)).symm
                  obtain rfl := Option.some.inj ho
                  exact wp_val (op_move a' w' 0 _ e) (hK _ _ (Below.refl _ _) (hok.below (Below.refl _ _) rfl rfl rfl) (fun f h1 _ => (h1 _ rfl).trans (hun 0 (by kernel_rfl))))
                | 3, ho, hd, hD, hK, hK0, hun =>
                  have e := (congrArg Oper.op (Option.some.inj ho)).symm
                  obtain rfl := Option.some.inj ho
                  exact wp_val (op_field_aig_sizes_1 a' w' _ 3 (hun 3 (by kernel_rfl)) _ e) (hK _ _ (Below.refl _ _) (hok.below (Below.refl _ _) rfl rfl rfl) (fun f h1 _ => h1 _ rfl))
                | 4, ho, hd, hD, hK, hK0, hun =>
                  have e := (congrArg Oper.op (Option.some.inj ho)).symm
                  obtain rfl := Option.some.inj ho
                  exact wp_val (op_load_int a' w' _ 67 _ (hD 3 (by kernel_rfl)) (CM1.out _ hok.ext) _ e) (hK _ _ (Below.refl _ _) (hok.below (Below.refl _ _) rfl rfl rfl) (fun f h1 _ => h1 _ rfl))
                | 5, ho, hd, hD, hK, hK0, hun =>
                  have e := (congrArg Oper.op (Option.some.inj ho)).symm
                  obtain rfl := Option.some.inj ho
                  exact wp_val (op_field_aig_sizes_2 a' w' _ 3 (hun 3 (by kernel_rfl)) _ e) (hK _ _ (Below.refl _ _) (hok.below (Below.refl _ _) rfl rfl rfl) (fun f h1 _ => h1 _ rfl))
                | 6, ho, hd, hD, hK, hK0, hun =>
                  have e := (congrArg Oper.op (Option.some.inj ho)).symm
                  obtain rfl := Option.some.inj ho
                  exact wp_val (op_load_int a' w' _ 69 _ (hD 5 (by kernel_rfl)) (CM2.out _ hok.ext) _ e) (hK _ _ (Below.refl _ _) (hok.below (Below.refl _ _) rfl rfl rfl) (fun f h1 _ => h1 _ rfl))
                | 7, ho, hd, hD, hK, hK0, hun =>
                  have e := (congrArg Oper.op (Option.some.inj ho)).symm
                  obtain rfl := Option.some.inj ho
                  exact wp_val (op_add_nat a' w' j k 68 70 (hD 4 (by kernel_rfl)) (hD 6 (by kernel_rfl)) (by omega) _ e) (hK _ _ (Below.refl _ _) (hok.below (Below.refl _ _) rfl rfl rfl) (fun f h1 _ => h1 _ rfl))
                | 8, ho, hd, hD, hK, hK0, hun =>
                  have e := (congrArg Oper.op (Option.some.inj ho)).symm
                  obtain rfl := Option.some.inj ho
                  exact wp_val (op_move a' w' 7 _ e) (hK _ _ (Below.refl _ _) (hok.below (Below.refl _ _) rfl rfl rfl) (fun f h1 _ => (h1 _ rfl).trans (hun 7 (by kernel_rfl))))
                | 9, ho, hd, hD, hK, hK0, hun =>
                  have e := (congrArg Oper.op (Option.some.inj ho)).symm
                  obtain rfl := Option.some.inj ho
                  exact wp_val (op_add_nat a' w' (j + k) k4 71 72 (hD 7 (by kernel_rfl)) (hD 8 (by kernel_rfl)) (by omega) _ e) (hK _ _ (Below.refl _ _) (hok.below (Below.refl _ _) rfl rfl rfl) (fun f h1 _ => h1 _ rfl))
                | 10, ho, hd, hD, hK, hK0, hun =>
                  have e := (congrArg Oper.op (Option.some.inj ho)).symm
                  obtain rfl := Option.some.inj ho
                  refine wp_enter (op_call1' a' w' _ 73 _ EL.out _ e) ?_
                  rw [show a'.tmps.getD 73 undef = .int .i64 ((j + k + k4 : Nat) : Int) from hD 9 (by kernel_rfl)]
                  refine (literal_any (j + k + k4) w' (by have := HJ.out; omega)).mono ?_
                  rintro e w'' ⟨rfl, rfl⟩
                  exact .inl ⟨_, rfl, hK _ _ (Below.refl _ _) (hok.below (Below.refl _ _) rfl rfl rfl) (fun f h1 _ => h1 _ rfl)⟩
                | 11, ho, hd, hD, hK, hK0, hun =>
                  have e := (congrArg Oper.op (Option.some.inj ho)).symm
                  obtain rfl := Option.some.inj ho
                  refine wp_enter (op_call2 a' w' _ 66 74 _ _ EAN.out _ e) ?_
                  rw [show a'.tmps.getD 66 undef = .pointer (some ⟨R, 0, none⟩) from hD 2 (by kernel_rfl), show a'.tmps.getD 74 undef = .int .i64 (lit (j + k + k4)) from hD 10 (by kernel_rfl)]
                  refine (and_run (lit (j + k + k4)) s w' (hok.s0 (hd 11 (by kernel_rfl))) (by unfold lit; omega) (by have := HJ.out; unfold lit; omega)).mono ?_
                  intro e w'' hr
                  cases hq : rdAnd (lit (j + k + k4)) s with
                  | none =>
                    rw [hq] at hr
                    obtain ⟨rfl, hE⟩ := hr
                    exact .inr ⟨_, rfl, hdf, NO.out hq _ (EXW.out _ (hok.ext.ext hE))⟩
                  | some x =>
                    obtain ⟨t, r'⟩ := x
                    rw [hq] at hr
                    obtain ⟨rfl, hS, hE⟩ := hr
                    refine .inl ⟨_, rfl, hK0 _ _ (hok.read hE HRC.out HRL5.out) (fun f h1 _ => ⟨(h1 _ rfl).trans (by rw [hq]; rfl), by rw [hq]; exact hS, by rw [hq]; rfl⟩) (fun jj f hj hf hq2 => ?_)⟩
                    exact acir19_stab jj (fun em => absurd em hj) (fun _ => Ch5.ext HRWr.out hE) (fun _ _ _ _ _ h => own_ext h hE HRL5.out) (fun _ => hE.block C (Nat.lt_of_lt_of_le HCW.out hok.size) HRC.out.symm) hf hq2
                | 12, ho, hd, hD, hK, hK0, hun =>
                  have e := (congrArg Oper.op (Option.some.inj ho)).symm
                  obtain rfl := Option.some.inj ho
                  exact wp_val (op_slice_and5 a' w' _ 75 (hD 11 (by kernel_rfl)).1 _ e) (hK _ _ ((Below.refl _ _).alloc (Nat.le_refl _) _) (hok.below ((Below.refl _ _).alloc (Nat.le_refl _) _) rfl rfl rfl) (fun f h1 _ => ⟨w'.heap.size, h1 _ rfl, hok.size, Array.getElem?_push_size⟩))
                | 13, ho, hd, hD, hK, hK0, hun =>
                  have e := (congrArg Oper.op (Option.some.inj ho)).symm
                  obtain rfl := Option.some.inj ho
                  obtain ⟨g, hgs, hg, hgc⟩ : ∃ g, vals a' 76 = .slice (some ⟨g, 0, none⟩) 1 1 ∧ wr.heap.size ≤ g ∧ w'.heap[g]? = some (.cells #[.int .i64 (tOf (rdAnd (lit (j + k + k4)) s)).a, .int .i64 (tOf (rdAnd (lit (j + k + k4)) s)).b, .int .i64 (tOf (rdAnd (lit (j + k + k4)) s)).c] 54 (0, 0)) := hD 12 (by kernel_rfl)
                  refine step_push w' (.tmp 65) (.tmp 76) 24 rfl 54 3 24 _ Tryz.underlying24 infoAnd5 rfl (by decide) V5.heap.size v _ (hok.own (hd 13 (by kernel_rfl))) (hD 1 (by kernel_rfl)) g 1 hgs (Tri.cells (tOf (rdAnd (lit (j + k + k4)) s))) (cells_of hgc) rfl (fun u hu => by
                      simp [Tri.cells] at hu
                      rcases hu with rfl | rfl | rfl <;> rfl) (by have := HL.out; omega) (by have := HL.out; omega) hok.ext.size ?_
                  intro v' w'' hown2 hbel hkeep
                  have hch : Ch5 wr w' w'' := ⟨hbel.size, fun k hk hk2 => hkeep k hk2 (fun em => by have := HVW.out k em.symm; omega)⟩
                  refine hK0 _ _ (hok.push hbel HSL5.out HCL5.out) (fun f h1 _ => by
                    show OwnC w'' V5.heap.size 54 3 (f 77) _
                    rw [h1 _ rfl, ← tris_snoc]; exact hown2) (fun jj f hj hf hq2 => ?_)
                  exact acir19_stab jj (fun _ h => h.later (hbel.mono HSL5.out)) (fun _ => hch) (fun em => absurd em hj) (fun _ => hbel.block C HCL5.out) hf hq2
                | 14, ho, hd, hD, hK, hK0, hun =>
                  have e := (congrArg Oper.op (Option.some.inj ho)).symm
                  obtain rfl := Option.some.inj ho
                  exact wp_val (op_field_cir5_6 a' w' _ 4 (hun 4 (by kernel_rfl)) _ e) (hK _ _ (Below.refl _ _) (hok.below (Below.refl _ _) rfl rfl rfl) (fun f h1 _ => h1 _ rfl))
                | 15, ho, hd, hD, hK, hK0, hun =>
                  have e := (congrArg Oper.op (Option.some.inj ho)).symm
                  obtain rfl := Option.some.inj ho
                  have hown5 : OwnC w' V5.heap.size 54 3 (vals a' 77) (tris (acc6 ++ [tOf (rdAnd (lit (j + k + k4)) s)])) := hD 13 (by kernel_rfl)
                  obtain ⟨A', q', hv, -, -, -⟩ := hown5.row (by decide) (tris_len3 _)
                  obtain ⟨w'', hr, hgc2, hbut⟩ := op_store_list a' w' _ 27 (.inr (.inr (.inl rfl))) C 6 _ (hok.box (hd 15 (by kernel_rfl))) (by simp) A' _ q' 78 77 (hD 14 (by kernel_rfl)) hv _ e
                  refine wp_skip' hr (hK0 _ _ (hok.store hbut HSC5.out HCL5.out) (fun f h1 h2 => ?_) (fun jj f hj hf hq2 => ?_))
                  · show w''.heap[C]? = some (.cells (_ : Array Value) 27 (0, 0))
                    rw [h2 77 (by simp), hv]
                    exact hgc2
                  · exact acir19_stab jj (fun _ h => h.later (hbut.below (Below.refl _ _) HSC5.out)) (fun _ => Ch5.but HCW.out hbut) (fun _ _ _ _ _ h => own_but5 h hbut HCL5.out) (fun em => absurd em hj) hf hq2
                | i + 16, ho, _, _, _, _, _ => exact absurd ho (by simp)
              · intro a' w3 hsz hdf hkt hok hR
                have HF3 := frame_sets [64, 65, 66, 67, 68, 69, 70, 71, 72, 73, 74, 75, 76, 77, 78] (by kernel_rfl) hsz hkt
                obtain ⟨d, hok⟩ := hok
                have hown : OwnC w3 V5.heap.size 54 3 (vals a' 77) (tris (acc6 ++ [tOf (rdAnd (lit (j + k + k4)) s)])) := hR 13 (by decide)
                have hbox : w3.heap[C]? = some (.cells (#[.int .i64 x0, .slice A1 j q1, .slice A2 acc.length q2, .slice A3 l3.length q3, .slice A4 l4.length q4, .slice A5 l5.length q5, v, .slice none 0 0].setIfInBounds 6 (vals a' 77)) 27 (0, 0)) := hR 15 (by decide)
                have hrd3 : _ ∧ Src S R (rOf (rdAnd (lit (j + k + k4)) s)) w3 ∧ (rdAnd (lit (j + k + k4)) s).isSome = true := hR 11 (by decide)
                obtain ⟨v2, hv2⟩ : ∃ v2, vals a' 77 = v2 := ⟨_, rfl⟩
                rw [hv2] at hown hbox
                have HO3 := Lib.hid hown
                have HB3 : Hid (w3.heap[C]? = some (.cells #[.int .i64 x0, .slice A1 j q1, .slice A2 acc.length q2, .slice A3 l3.length q3, .slice A4 l4.length q4, .slice A5 l5.length q5, v2, .slice none 0 0] 27 (0, 0))) := hbox
                have HS3 := Lib.hid hrd3.2.1
                have HE3 := Lib.hid hok.ext
                have HRD3 := Lib.hid (YES.out _ _ (some_of hrd3.2.2))
                clear hown hbox hv2 hok OK0 HO2 HBX2 HE2 HS2 NO YES hrd3
                generalize tOf (rdAnd (lit (j + k + k4)) s) = t3 at *
                generalize rOf (rdAnd (lit (j + k + k4)) s) = s3 at *
                obtain ⟨tm, df⟩ := a'
                obtain rfl : df = _ := hdf
                simp only [List.foldl_cons, List.foldl_nil] at HF3
                clear hkt hR hsz
                generalize tm.getD 64 undef = y64 at HF3
                generalize tm.getD 65 undef = y65 at HF3
                generalize tm.getD 66 undef = y66 at HF3
                generalize tm.getD 67 undef = y67 at HF3
                generalize tm.getD 68 undef = y68 at HF3
                generalize tm.getD 69 undef = y69 at HF3
                generalize tm.getD 70 undef = y70 at HF3
                generalize tm.getD 71 undef = y71 at HF3
                generalize tm.getD 72 undef = y72 at HF3
                generalize tm.getD 73 undef = y73 at HF3
                generalize tm.getD 74 undef = y74 at HF3
                generalize tm.getD 75 undef = y75 at HF3
                generalize tm.getD 76 undef = y76 at HF3
                generalize tm.getD 77 undef = y77 at HF3
                generalize tm.getD 78 undef = y78 at HF3
                simp only [List.setIfInBounds_toArray, List.set_cons_succ, List.set_cons_zero] at HF3
                subst HF3
                go_wp2
                go_roundw
                case rel => exact ⟨k4 + 1, v2, acc6 ++ [t3], s3, by omega, by go_num, by rw [List.length_append, HA.out]; rfl, HRD3.out, HO3.out, HB3.out, HE3.out, HS3.out⟩
                case measure => simp [intOf]; omega
            · obtain rfl : k4 = n4 := by omega
              have G7 : Hid (goal = c7 x0 (evens j) acc l3 l4 l5 acc6 s) := G6.out.trans (c6_ok (by rw [HRD.out, Nat.sub_self]; rfl))
              clear hk hlt HRD G6
              obtain ⟨A6, q6, hv6, -, hq6, hq6'⟩ := HO2.out.row (by decide) (tris_len3 _)
              rw [tris_length5] at hv6 hq6
              subst hv6
              have HQ6 : Hid (acc6.length ≤ q6 ∧ q6 ≤ 9223372036854775807) := ⟨hq6, hq6'⟩
              obtain ⟨WC, hWC⟩ : ∃ x, x = wr := ⟨_, rfl⟩
              rw [← hWC] at HO2 HBX2 HE2 HS2 ⊢
              obtain ⟨s6, hs6⟩ : ∃ x, x = s := ⟨_, rfl⟩
              rw [← hs6] at HS2 G7
              have EX6 : Hid (Ext R w WC) := ext_ext2 EX5.out HE2.out (by have := HSC.out; omega)
              have GZ6 : Hid (WC.heap[w.heap.size]? = some (.cells #[.int .i64 0, .slice none 0 0, .slice none 0 0, .slice none 0 0, .slice none 0 0, .slice none 0 0, .slice none 0 0, .slice none 0 0] 27 (0, 0))) := (HE2.out.block _ (lt_of_block GZ5.out) (by have := HSC.out; omega) (by have := HSC.out; omega)).trans GZ5.out
              have GC6 : Hid (WC.heap[C]? = some (.cells #[.int .i64 x0, .slice A1 j q1, .slice A2 acc.length q2, .slice A3 l3.length q3, .slice A4 l4.length q4, .slice A5 l5.length q5, .slice A6 acc6.length q6, .slice none 0 0] 27 (0, 0))) := HBX2.out
              replace O1 : Hid (OwnC WC X8.heap.size 3 1 (.slice A1 j q1) (ints (evens j))) := own_ext2 O1.out HE2.out HRL.out HCL.out
              replace O2 : Hid (OwnC WC X8.heap.size 48 3 (.slice A2 acc.length q2) (tris acc)) := own_ext2 O2.out HE2.out HRL.out HCL.out
              replace O3 : Hid (OwnC WC X8.heap.size 3 1 (.slice A3 l3.length q3) (ints l3)) := own_ext2 O3.out HE2.out HRL.out HCL.out
              replace O4 : Hid (OwnC WC X8.heap.size 3 1 (.slice A4 l4.length q4) (ints l4)) := own_ext2 O4.out HE2.out HRL.out HCL.out
              replace O5 : Hid (OwnC WC X8.heap.size 3 1 (.slice A5 l5.length q5) (ints l5)) := own_ext2 O5.out HE2.out HRL.out HCL.out
              have O6 : Hid (OwnC WC X8.heap.size 54 3 (.slice A6 acc6.length q6) (tris acc6)) := own_base5 HO2.out SZ5.out
              have SR6 : Hid (Src S R s6 WC) := HS2.out
              have SZ6 : Hid (X8.heap.size ≤ WC.heap.size) := Nat.le_trans SZ5.out HE2.out.size
              have HCL6 : Hid (C < WC.heap.size) := Nat.lt_of_lt_of_le HCL.out SZ6.out
              have HRL6 : Hid (R < WC.heap.size) := Nat.lt_of_lt_of_le HRL.out SZ6.out
              have HSL6 : Hid (S ≤ WC.heap.size) := Nat.le_trans HSL.out SZ6.out
              have hl6 : s6.length ≤ 65536 := SR6.out.len
              have ENM : Hid (∀ args w, (callFunc 39 args).run Tryz.prog w = .ok (.enter 39 args) w) := enters_of Tryz.func39 (by kernel_rfl) rfl
              clear hWC hs6 hq6 hq6' HO2 HBX2 HE2 HS2 EX5 GS5 GZ5 GC5 SR5 SZ5
              go_wp2
              -- the names
              go_loopw [84] (fun _ wr => ∃ (v : Value) (acc7 : List Nam) (s : List UInt8) (fuel : Nat), s.length ≤ fuel ∧ acc7.length + s.length ≤ 65536 ∧ rdNames s6.length s6 [] = rdNames fuel s acc7 ∧ OwnC wr WC.heap.size 57 3 v (nams acc7) ∧ wr.heap[C]? = some (.cells #[.int .i64 x0, .slice A1 j q1, .slice A2 acc.length q2, .slice A3 l3.length q3, .slice A4 l4.length q4, .slice A5 l5.length q5, .slice A6 acc6.length q6, v] 27 (0, 0)) ∧ Ext2 R C WC wr ∧ Src S R s wr) (fun _ wr => srcLen R wr)
              case atStart => exact ⟨.slice none 0 0, [], s6, s6.length, Nat.le_refl _, by simpa using hl6, rfl, OwnC.nil _ _ _ _, GC6.out, Ext2.refl _ _ _, SR6.out⟩
              case round =>
                obtain ⟨v, acc7, s, fuel, hfu, hcnt, hrd, how2, hbx2, hE2, hS2⟩ := hrel
                have HO0 := Lib.hid how2
                have HBX0 := Lib.hid hbx2
                have HE0 := Lib.hid hE2
                have HSWR := Lib.hid hS2
                have HRD := Lib.hid hrd
                clear how2 hbx2 hE2 hS2 hrd
                have ED := Lib.hid (ended_any wr HSWR.out)
                by_cases hs : s = []
                · rw [decide_eq_true hs] at ED
                  subst hs
                  have G8 : Hid (goal = some (⟨x0, evens j, acc, l3, l4, l5, acc6, acc7⟩, [])) := G7.out.trans (by
                    unfold c7
                    rw [HRD.out]
                    cases fuel <;> rfl)
                  go_wp2_with fail
                  refine ED.out.mono ?_
                  rintro e wx ⟨rfl, hb⟩
                  have HE2 : Hid (Ext2 R C WC wx) := HE0.out.ext (Ext.of hb)
                  have HO2 := Lib.hid (HO0.out.keep hb)
                  obtain ⟨A7, q7, hv7, -, hq7, hq7'⟩ := HO2.out.row (by decide) (nams_len3 _)
                  rw [nams_length1] at hv7 hq7
                  subst hv7
                  have HQ7 : Hid (acc7.length ≤ q7 ∧ q7 ≤ 9223372036854775807) := ⟨hq7, hq7'⟩
                  have GC7 : wx.heap[C]? = some (.cells #[.int .i64 x0, .slice A1 j q1, .slice A2 acc.length q2, .slice A3 l3.length q3, .slice A4 l4.length q4, .slice A5 l5.length q5, .slice A6 acc6.length q6, .slice A7 acc7.length q7] 27 (0, 0)) := (hb.block C (lt_of_block HBX0.out)).trans HBX0.out
                  have EX7 : Hid (Ext R w wx) := ext_ext2 EX6.out HE2.out (by have := HSC.out; omega)
                  have GZ7 : wx.heap[w.heap.size]? = some (.cells #[.int .i64 0, .slice none 0 0, .slice none 0 0, .slice none 0 0, .slice none 0 0, .slice none 0 0, .slice none 0 0, .slice none 0 0] 27 (0, 0)) := (HE2.out.block _ (lt_of_block GZ6.out) (by have := HSC.out; omega) (by have := HSC.out; omega)).trans GZ6.out
                  have SR7 : Hid (Src S R [] wx) := HSWR.out.below hb
                  replace O1 : Hid (OwnC wx X8.heap.size 3 1 (.slice A1 j q1) (ints (evens j))) := own_ext2 O1.out HE2.out HRL.out HCL.out
                  replace O2 : Hid (OwnC wx X8.heap.size 48 3 (.slice A2 acc.length q2) (tris acc)) := own_ext2 O2.out HE2.out HRL.out HCL.out
                  replace O3 : Hid (OwnC wx X8.heap.size 3 1 (.slice A3 l3.length q3) (ints l3)) := own_ext2 O3.out HE2.out HRL.out HCL.out
                  replace O4 : Hid (OwnC wx X8.heap.size 3 1 (.slice A4 l4.length q4) (ints l4)) := own_ext2 O4.out HE2.out HRL.out HCL.out
                  replace O5 : Hid (OwnC wx X8.heap.size 3 1 (.slice A5 l5.length q5) (ints l5)) := own_ext2 O5.out HE2.out HRL.out HCL.out
                  replace O6 : Hid (OwnC wx X8.heap.size 54 3 (.slice A6 acc6.length q6) (tris acc6)) := own_ext2 O6.out HE2.out HRL.out HCL.out
                  have O7 : Hid (OwnC wx X8.heap.size 57 3 (.slice A7 acc7.length q7) (nams acc7)) := own_base5 HO2.out SZ6.out
                  have d0 : wx.cell? ⟨C, 0, none⟩ = some (.int .i64 x0) := by simp [World.cell?, GC7]
                  have d1 : wx.cell? ⟨C, 1, none⟩ = some (.slice A1 j q1) := by simp [World.cell?, GC7]
                  have d2 : wx.cell? ⟨C, 2, none⟩ = some (.slice A2 acc.length q2) := by simp [World.cell?, GC7]
                  have d3 : wx.cell? ⟨C, 3, none⟩ = some (.slice A3 l3.length q3) := by simp [World.cell?, GC7]
                  have d4 : wx.cell? ⟨C, 4, none⟩ = some (.slice A4 l4.length q4) := by simp [World.cell?, GC7]
                  have d5 : wx.cell? ⟨C, 5, none⟩ = some (.slice A5 l5.length q5) := by simp [World.cell?, GC7]
                  have d6 : wx.cell? ⟨C, 6, none⟩ = some (.slice A6 acc6.length q6) := by simp [World.cell?, GC7]
                  have d7 : wx.cell? ⟨C, 7, none⟩ = some (.slice A7 acc7.length q7) := by simp [World.cell?, GC7]
                  obtain ⟨W1, W2, W3, W4, W5, W6, W7, W8, v0, v1, v2, v3, v4, v5, v6, v7, ⟨hX1, a0, b0⟩, ⟨hX2, a1, b1⟩, ⟨hX3, a2, b2⟩, ⟨hX4, a3, b3⟩, ⟨hX5, a4, b4⟩, ⟨hX6, a5, b5⟩, ⟨hX7, a6, b6⟩, ⟨hX8, a7, b7⟩, E8, FC⟩ := store8 GZ7 rfl (.int .i64 x0) (.slice A1 j q1) (.slice A2 acc.length q2) (.slice A3 l3.length q3) (.slice A4 l4.length q4) (.slice A5 l5.length q5) (.slice A6 acc6.length q6) (.slice A7 acc7.length q7)
                  have e0 : W8.cell? ⟨w.heap.size, 0, none⟩ = some (.int .i64 x0) := by simp [World.cell?, E8]
                  have e1 : W8.cell? ⟨w.heap.size, 1, none⟩ = some (.slice A1 j q1) := by simp [World.cell?, E8]
                  have e2 : W8.cell? ⟨w.heap.size, 2, none⟩ = some (.slice A2 acc.length q2) := by simp [World.cell?, E8]
                  have e3 : W8.cell? ⟨w.heap.size, 3, none⟩ = some (.slice A3 l3.length q3) := by simp [World.cell?, E8]
                  have e4 : W8.cell? ⟨w.heap.size, 4, none⟩ = some (.slice A4 l4.length q4) := by simp [World.cell?, E8]
                  have e5 : W8.cell? ⟨w.heap.size, 5, none⟩ = some (.slice A5 l5.length q5) := by simp [World.cell?, E8]
                  have e6 : W8.cell? ⟨w.heap.size, 6, none⟩ = some (.slice A6 acc6.length q6) := by simp [World.cell?, E8]
                  have e7 : W8.cell? ⟨w.heap.size, 7, none⟩ = some (.slice A7 acc7.length q7) := by simp [World.cell?, E8]
                  have BL : Below w.heap.size wx W8 := FC.below (Below.refl _ _) (Nat.le_refl _)
                  have SF : Hid (Src S R [] W8) := SR7.out.later (BL.mono HSW.out)
                  have EF : Hid (Ext R w W8) := EX7.out.then BL
                  replace O1 : Hid (OwnC W8 w.heap.size 3 1 (.slice A1 j q1) (ints (evens j))) := own_base5 (own_but5 O1.out FC (by have := HSC.out; have := HCL.out; omega)) (by have := HSC.out; have := HCL.out; omega)
                  replace O2 : Hid (OwnC W8 w.heap.size 48 3 (.slice A2 acc.length q2) (tris acc)) := own_base5 (own_but5 O2.out FC (by have := HSC.out; have := HCL.out; omega)) (by have := HSC.out; have := HCL.out; omega)
                  replace O3 : Hid (OwnC W8 w.heap.size 3 1 (.slice A3 l3.length q3) (ints l3)) := own_base5 (own_but5 O3.out FC (by have := HSC.out; have := HCL.out; omega)) (by have := HSC.out; have := HCL.out; omega)
                  replace O4 : Hid (OwnC W8 w.heap.size 3 1 (.slice A4 l4.length q4) (ints l4)) := own_base5 (own_but5 O4.out FC (by have := HSC.out; have := HCL.out; omega)) (by have := HSC.out; have := HCL.out; omega)
                  replace O5 : Hid (OwnC W8 w.heap.size 3 1 (.slice A5 l5.length q5) (ints l5)) := own_base5 (own_but5 O5.out FC (by have := HSC.out; have := HCL.out; omega)) (by have := HSC.out; have := HCL.out; omega)
                  replace O6 : Hid (OwnC W8 w.heap.size 54 3 (.slice A6 acc6.length q6) (tris acc6)) := own_base5 (own_but5 O6.out FC (by have := HSC.out; have := HCL.out; omega)) (by have := HSC.out; have := HCL.out; omega)
                  replace O7 : Hid (OwnC W8 w.heap.size 57 3 (.slice A7 acc7.length q7) (nams acc7)) := own_base5 (own_but5 O7.out FC (by have := HSC.out; have := HCL.out; omega)) (by have := HSC.out; have := HCL.out; omega)
                  clear E8 FC BL hb HE2 HO2 HO0 HBX0 HE0 HSWR HRD GC7 GZ7 G7
                  go_wp2
                  (try simp only [Exit.inBlock, Exit.then])
                  have hres : ∀ tmps : Array Value, tmps.getD 2 undef = .pointer (some ⟨w.heap.size, 0, none⟩) → (results Tryz.f20 tmps).run Tryz.prog W8 = .ok (.agg #[.int .i64 x0, .slice A1 j q1, .slice A2 acc.length q2, .slice A3 l3.length q3, .slice A4 l4.length q4, .slice A5 l5.length q5, .slice A6 acc6.length q6, .slice A7 acc7.length q7]) W8 := fun tmps ht => by
                    simp only [results, show Tryz.f20.results = #[ResultVar.cell 2 27] from rfl]
                    have ht' : tmps[2]?.getD undef = .pointer (some ⟨w.heap.size, 0, none⟩) := by simpa using ht
                    go_simp
                  refine bodyPost_ret (hres _ rfl) rfl ?_
                  have hl1 : (evens j).length = j := evens_len j
                  refine runs5_some G8.out ⟨⟨⟨A1, A2, A3, A4, A5, A6, A7, q1, q2, q3, q4, q5, q6, q7⟩, ?_, ⟨?_, O2.out, O3.out, O4.out, O5.out, O6.out, O7.out⟩, ⟨?_, HQ2.out.1, HQ3.out.1, HQ4.out.1, HQ5.out.1, HQ6.out.1, HQ7.out.1⟩, ⟨HQ1.out.2, HQ2.out.2, HQ3.out.2, HQ4.out.2, HQ5.out.2, HQ6.out.2, HQ7.out.2⟩⟩, SF.out, EF.out⟩
                  · show Ending.returned (Value.agg #[.int .i64 x0, .slice A1 j q1, .slice A2 acc.length q2, .slice A3 l3.length q3, .slice A4 l4.length q4, .slice A5 l5.length q5, .slice A6 acc6.length q6, .slice A7 acc7.length q7]) = Ending.returned (Value.agg #[.int .i64 x0, .slice A1 (evens j).length q1, .slice A2 acc.length q2, .slice A3 l3.length q3, .slice A4 l4.length q4, .slice A5 l5.length q5, .slice A6 acc6.length q6, .slice A7 acc7.length q7])
                    rw [hl1]
                  · simp only [hl1]; exact O1.out
                  · simp only [hl1]; exact HQ1.out.1
                · rw [decide_eq_false hs] at ED
                  have hpos := List.length_pos_iff.2 hs
                  obtain ⟨f, rfl⟩ : ∃ f, fuel = f + 1 := ⟨fuel - 1, by omega⟩
                  have HSN := Lib.hid hs
                  go_wp2_with fail
                  refine ED.out.mono ?_
                  rintro e wx ⟨rfl, hb⟩
                  have HO2 := Lib.hid (HO0.out.keep hb)
                  have HBX2 : Hid (wx.heap[C]? = some (.cells #[.int .i64 x0, .slice A1 j q1, .slice A2 acc.length q2, .slice A3 l3.length q3, .slice A4 l4.length q4, .slice A5 l5.length q5, .slice A6 acc6.length q6, v] 27 (0, 0))) := (hb.block C (lt_of_block HBX0.out)).trans HBX0.out
                  have HE2 : Hid (Ext2 R C WC wx) := HE0.out.ext (Ext.of hb)
                  have HS2 := Lib.hid (HSWR.out.below hb)
                  have HCW : Hid (C < wx.heap.size) := Nat.lt_of_lt_of_le HCL6.out HE2.out.size
                  have HRWr : Hid (R < wx.heap.size) := Nat.lt_of_lt_of_le HRL6.out HE2.out.size
                  have HVW : Hid (∀ g, v.ownBlock = some g → g < wx.heap.size) := fun g hg => (HO2.out.block_lt g hg).2
                  have HL : Hid ((nams acc7).length ≤ 65537) := by unfold Hid; rw [nams_length1]; omega
                  have OK0 : Hid (COk 3 5 7 S R C WC wx 57 3 s v (nams acc7) #[.int .i64 x0, .slice A1 j q1, .slice A2 acc.length q2, .slice A3 l3.length q3, .slice A4 l4.length q4, .slice A5 l5.length q5, .slice A6 acc6.length q6, v] (fun _ => false) wx.drew) := (⟨Nat.le_refl _, HE2.out, fun _ => HS2.out, fun _ => HO2.out, fun _ => HBX2.out⟩ : COk 3 5 7 S R C WC wx 57 3 s v (nams acc7) #[.int .i64 x0, .slice A1 j q1, .slice A2 acc.length q2, .slice A3 l3.length q3, .slice A4 l4.length q4, .slice A5 l5.length q5, .slice A6 acc6.length q6, v] (fun _ => false) wx).below (Below.refl _ _).drew rfl rfl rfl
                  have EXW : Hid (∀ x, Ext2 R C WC x → Ext R w x) := fun x hx => ext_ext2 EX6.out hx (by have := HSC.out; omega)
                  have NO : Hid (rdLine formNam s = none → ∀ x, Ext R w x → Runs5 S R w goal (CircP w) (.panicked fault5) x) := fun hq x hx => runs5_none (by
                    rw [G7.out]; unfold c7
                    rw [HRD.out, rdNames, if_neg HSN.out, hq]; rfl) ⟨rfl, hx⟩
                  have YES : Hid (∀ t r', rdLine formNam s = some (t, r') → rdNames s6.length s6 [] = rdNames f r' (acc7 ++ [t])) := fun t r' hq => by
                    rw [HRD.out, rdNames, if_neg HSN.out, hq]
                  clear hb ED HO0 HBX0 HE0 hs
                  go_wp2
                  refine wp_region_valsD (by kernel_rfl) (by kernel_rfl) acir22M (by kernel_rfl) (by kernel_rfl)
                    (COk 3 5 7 S R C WC wx 57 3 s v (nams acc7) #[.int .i64 x0, .slice A1 j q1, .slice A2 acc.length q2, .slice A3 l3.length q3, .slice A4 l4.length q4, .slice A5 l5.length q5, .slice A6 acc6.length q6, v]) (acir22R S R C wx WC (rOf (rdLine formNam s)) v (nOf (rdLine formNam s)) acc7 #[.int .i64 x0, .slice A1 j q1, .slice A2 acc.length q2, .slice A3 l3.length q3, .slice A4 l4.length q4, .slice A5 l5.length q5, .slice A6 acc6.length q6, v] ((rdLine formNam s).isSome = true) ) OK0.out (fun jj f f' w w' hb hf h => acir22_stab jj (fun em => fun h => h.below hb) (fun em => Ch5.of hb) (fun em => fun _ _ _ _ h => h.keep hb) (fun em => by subst em; exact hb.block _ (lt_of_block h)) hf h) ?_ ?_
                  · intro i oo d a' w' ho hd hun hdf hok hD K hK hK0
                    match i, ho, hd, hD, hK, hK0, hun with
                    | 0, ho, hd, hD, hK, hK0, hun =>
                      have e := (congrArg Oper.op (Option.some.inj ho)).symm
                      obtain rfl := Option.some.inj ho
                      exact wp_val (op_field_cir5_7 a' w' _ 4 (hun 4 (by kernel_rfl)) _ e) (hK _ _ (Below.refl _ _) (hok.below (Below.refl _ _) rfl rfl rfl) (fun f h1 _ => h1 _ rfl))
                    | 1, ho, hd, hD, hK, hK0, hun =>
                      have e := (congrArg Oper.op (Option.some.inj ho)).symm
                      obtain rfl := Option.some.inj ho
                      exact wp_val (op_load_cir5_Name a' w' _ 85 _ (hD 0 (by kernel_rfl)) ((Lib.cell_of_heap (hok.box (hd 7 (by kernel_rfl))) 7).trans rfl) _ e) (hK _ _ (Below.refl _ _) (hok.below (Below.refl _ _) rfl rfl rfl) (fun f h1 _ => h1 _ rfl))
                    | 2, ho, hd, hD, hK, hK0, hun =>
                      have e := (congrArg Oper.op (Option.some.inj ho)).symm
                      obtain rfl := Option.some.inj ho
                      exact wp_val (op_move a' w' 0 _ e) (hK _ _ (Below.refl _ _) (hok.below (Below.refl _ _) rfl rfl rfl) (fun f h1 _ => (h1 _ rfl).trans (hun 0 (by kernel_rfl))))
                    | 3, ho, hd, hD, hK, hK0, hun =>
                      have e := (congrArg Oper.op (Option.some.inj ho)).symm
                      obtain rfl := Option.some.inj ho
                      refine wp_enter (op_call1' a' w' _ 87 _ ENM.out _ e) ?_
                      rw [show a'.tmps.getD 87 undef = .pointer (some ⟨R, 0, none⟩) from hD 2 (by kernel_rfl)]
                      refine (name_run s w' (hok.s0 (hd 3 (by kernel_rfl)))).mono ?_
                      intro e w'' hr
                      cases hq : rdLine formNam s with
                      | none =>
                        rw [hq] at hr
                        obtain ⟨rfl, hE⟩ := hr
                        exact .inr ⟨_, rfl, hdf, NO.out hq _ (EXW.out _ (hok.ext.ext hE))⟩
                      | some x =>
                        obtain ⟨t, r'⟩ := x
                        rw [hq] at hr
                        obtain ⟨rfl, hS, hE⟩ := hr
                        refine .inl ⟨_, rfl, hK0 _ _ (hok.read hE HRC.out HRL6.out) (fun f h1 _ => ⟨(h1 _ rfl).trans (by rw [hq]; rfl), by rw [hq]; exact hS, by rw [hq]; rfl⟩) (fun jj f hj hf hq2 => ?_)⟩
                        exact acir22_stab jj (fun em => absurd em hj) (fun _ => Ch5.ext HRWr.out hE) (fun _ _ _ _ _ h => own_ext h hE HRL6.out) (fun _ => hE.block C (Nat.lt_of_lt_of_le HCW.out hok.size) HRC.out.symm) hf hq2
                    | 4, ho, hd, hD, hK, hK0, hun =>
                      have e := (congrArg Oper.op (Option.some.inj ho)).symm
                      obtain rfl := Option.some.inj ho
                      exact wp_val (op_slice_nam5 a' w' _ 88 (hD 3 (by kernel_rfl)).1 _ e) (hK _ _ ((Below.refl _ _).alloc (Nat.le_refl _) _) (hok.below ((Below.refl _ _).alloc (Nat.le_refl _) _) rfl rfl rfl) (fun f h1 _ => ⟨w'.heap.size, h1 _ rfl, hok.size, Array.getElem?_push_size⟩))
                    | 5, ho, hd, hD, hK, hK0, hun =>
                      have e := (congrArg Oper.op (Option.some.inj ho)).symm
                      obtain rfl := Option.some.inj ho
                      obtain ⟨g, hgs, hg, hgc⟩ : ∃ g, vals a' 89 = .slice (some ⟨g, 0, none⟩) 1 1 ∧ wx.heap.size ≤ g ∧ w'.heap[g]? = some (.cells #[.string ((nOf (rdLine formNam s))).kind, .int .i64 ((nOf (rdLine formNam s))).num, .string ((nOf (rdLine formNam s))).text] 57 (0, 0)) := hD 4 (by kernel_rfl)
                      refine step_push w' (.tmp 86) (.tmp 89) 25 rfl 57 3 40 _ Tryz.underlying25 infoNam5 rfl (by decide) WC.heap.size v _ (hok.own (hd 5 (by kernel_rfl))) (hD 1 (by kernel_rfl)) g 1 hgs (Nam.cells (nOf (rdLine formNam s))) (cells_of hgc) rfl (fun u hu => by
                          simp [Nam.cells] at hu
                          rcases hu with rfl | rfl | rfl <;> rfl) (by have := HL.out; omega) (by have := HL.out; omega) hok.ext.size ?_
                      intro v' w'' hown2 hbel hkeep
                      have hch : Ch5 wx w' w'' := ⟨hbel.size, fun k hk hk2 => hkeep k hk2 (fun em => by have := HVW.out k em.symm; omega)⟩
                      refine hK0 _ _ (hok.push hbel HSL6.out HCL6.out) (fun f h1 _ => by
                        show OwnC w'' WC.heap.size 57 3 (f 90) _
                        rw [h1 _ rfl, ← nams_snoc]; exact hown2) (fun jj f hj hf hq2 => ?_)
                      exact acir22_stab jj (fun _ h => h.later (hbel.mono HSL6.out)) (fun _ => hch) (fun em => absurd em hj) (fun _ => hbel.block C HCL6.out) hf hq2
                    | 6, ho, hd, hD, hK, hK0, hun =>
                      have e := (congrArg Oper.op (Option.some.inj ho)).symm
                      obtain rfl := Option.some.inj ho
                      exact wp_val (op_field_cir5_7 a' w' _ 4 (hun 4 (by kernel_rfl)) _ e) (hK _ _ (Below.refl _ _) (hok.below (Below.refl _ _) rfl rfl rfl) (fun f h1 _ => h1 _ rfl))
                    | 7, ho, hd, hD, hK, hK0, hun =>
                      have e := (congrArg Oper.op (Option.some.inj ho)).symm
                      obtain rfl := Option.some.inj ho
                      have hown5 : OwnC w' WC.heap.size 57 3 (vals a' 90) (nams (acc7 ++ [nOf (rdLine formNam s)])) := hD 5 (by kernel_rfl)
                      obtain ⟨A', q', hv, -, -, -⟩ := hown5.row (by decide) (nams_len3 _)
                      obtain ⟨w'', hr, hgc2, hbut⟩ := op_store_list a' w' _ 27 (.inr (.inr (.inr rfl))) C 7 _ (hok.box (hd 7 (by kernel_rfl))) (by simp) A' _ q' 91 90 (hD 6 (by kernel_rfl)) hv _ e
                      refine wp_skip' hr (hK0 _ _ (hok.store hbut HSC5.out HCL6.out) (fun f h1 h2 => ?_) (fun jj f hj hf hq2 => ?_))
                      · show w''.heap[C]? = some (.cells (_ : Array Value) 27 (0, 0))
                        rw [h2 90 (by simp), hv]
                        exact hgc2
                      · exact acir22_stab jj (fun _ h => h.later (hbut.below (Below.refl _ _) HSC5.out)) (fun _ => Ch5.but HCW.out hbut) (fun _ _ _ _ _ h => own_but5 h hbut HCL6.out) (fun em => absurd em hj) hf hq2
                    | i + 8, ho, _, _, _, _, _ => exact absurd ho (by simp)
                  · intro a' w3 hsz hdf hkt hok hR
                    have HF3 := frame_sets [85, 86, 87, 88, 89, 90, 91] (by kernel_rfl) hsz hkt
                    obtain ⟨d, hok⟩ := hok
                    have hown : OwnC w3 WC.heap.size 57 3 (vals a' 90) (nams (acc7 ++ [nOf (rdLine formNam s)])) := hR 5 (by decide)
                    have hbox : w3.heap[C]? = some (.cells (#[.int .i64 x0, .slice A1 j q1, .slice A2 acc.length q2, .slice A3 l3.length q3, .slice A4 l4.length q4, .slice A5 l5.length q5, .slice A6 acc6.length q6, v].setIfInBounds 7 (vals a' 90)) 27 (0, 0)) := hR 7 (by decide)
                    have hrd3 : _ ∧ Src S R (rOf (rdLine formNam s)) w3 ∧ (rdLine formNam s).isSome = true := hR 3 (by decide)
                    obtain ⟨v2, hv2⟩ : ∃ v2, vals a' 90 = v2 := ⟨_, rfl⟩
                    rw [hv2] at hown hbox
                    have HO3 := Lib.hid hown
                    have HB3 : Hid (w3.heap[C]? = some (.cells #[.int .i64 x0, .slice A1 j q1, .slice A2 acc.length q2, .slice A3 l3.length q3, .slice A4 l4.length q4, .slice A5 l5.length q5, .slice A6 acc6.length q6, v2] 27 (0, 0))) := hbox
                    have HS3 := Lib.hid hrd3.2.1
                    have HE3 := Lib.hid hok.ext
                    have HRD3 := Lib.hid (YES.out _ _ (some_ofN hrd3.2.2))
                    have HLS := Lib.hid (rdLine_less (some_ofN hrd3.2.2))
                    clear hown hbox hv2 hok OK0 HO2 HBX2 HE2 HS2 NO YES hrd3
                    generalize nOf (rdLine formNam s) = t3 at *
                    generalize rOf (rdLine formNam s) = s3 at *
                    obtain ⟨tm, df⟩ := a'
                    obtain rfl : df = _ := hdf
                    simp only [List.foldl_cons, List.foldl_nil] at HF3
                    clear hkt hR hsz
                    generalize tm.getD 85 undef = y85 at HF3
                    generalize tm.getD 86 undef = y86 at HF3
                    generalize tm.getD 87 undef = y87 at HF3
                    generalize tm.getD 88 undef = y88 at HF3
                    generalize tm.getD 89 undef = y89 at HF3
                    generalize tm.getD 90 undef = y90 at HF3
                    generalize tm.getD 91 undef = y91 at HF3
                    simp only [List.setIfInBounds_toArray, List.set_cons_succ, List.set_cons_zero] at HF3
                    subst HF3
                    go_wp2
                    go_roundw
                    case rel => exact ⟨v2, acc7 ++ [t3], s3, f, by have := HLS.out; omega, by rw [List.length_append]; have := HLS.out; simp only [List.length_cons, List.length_nil]; omega, HRD3.out, HO3.out, HB3.out, HE3.out, HS3.out⟩
                    case measure => rw [HS3.out.left, HSWR.out.left]; exact HLS.out
end Go.Proofs.YtopjddmgejfalaaGreatDoor.Aig
