/- The walk of bytes.Buffer's Bytes, of a buffer that is embedded in aig's writer and holds something; no condition. What stays while aig's Order writes its copy's lists over; no condition. -/
import Derived.Test.YtpbggngeopjefaaDoorPk31
import Derived.Test.YtpbggngeopjefaaDoorPk29
namespace Go.Proofs.YtpbggngeopjefaaDoor.Aig
open Go.ChangeShapes Go.WideShapes Go.ChangeAt Go.RowKit Dig Circ Cw Aag

theorem lt_of_block' {w : World} {p : Addr} {v : Value} (h : w.cell? p = some v) : p.block < w.heap.size := World.block_lt_of_cell? _ _ h
theorem op_slice_tail (a : Act) (w : World) (g n q : Nat) (t s : Nat) (h : a.tmps.getD t undef = .slice (some ⟨g, 0, none⟩) n q) (h2 : a.tmps.getD s undef = .int .i64 0) (oo : Oper) (ho : oo.op = .slice 36 (.tmp t) (some (.tmp s)) none none) : (execOp a.eval oo).run Tryd.prog w = .ok (.value (.slice (some ⟨g, 0, none⟩) n q)) w := by
  have h' : a.tmps[t]?.getD undef = .slice (some ⟨g, 0, none⟩) n q := by simpa using h
  have h2' : a.tmps[s]?.getD undef = .int .i64 0 := by simpa using h2
  unfold execOp
  rw [ho]
  go_simp
theorem op_field_bytes_Buffer_0 (a : Act) (w : World) (b : Nat) (t : Nat) (h : a.tmps.getD t undef = .pointer (some ⟨b, 0, none⟩)) (oo : Oper) (ho : oo.op = .fieldAddr 58 (.tmp t) 0) : (execOp a.eval oo).run Tryd.prog w = .ok (.value (.pointer (some ⟨b, 0, none⟩))) w := by
  have h' : a.tmps[t]?.getD undef = .pointer (some ⟨b, 0, none⟩) := by simpa using h
  unfold execOp
  rw [ho]
  go_simp
theorem op_load_Luint8 (a : Act) (w : World) (A : Addr) (t : Nat) (v : Value) (h : a.tmps.getD t undef = .pointer (some A)) (hc : w.cell? A = some v) (oo : Oper) (ho : oo.op = .load 36 (.tmp t)) : (execOp a.eval oo).run Tryd.prog w = .ok (.value v) w := by
  have h' : a.tmps[t]?.getD undef = .pointer (some A) := by simpa using h
  unfold execOp
  rw [ho]
  go_simp
theorem op_field_bytes_Buffer_1 (a : Act) (w : World) (b : Nat) (t : Nat) (h : a.tmps.getD t undef = .pointer (some ⟨b, 0, none⟩)) (oo : Oper) (ho : oo.op = .fieldAddr 58 (.tmp t) 1) : (execOp a.eval oo).run Tryd.prog w = .ok (.value (.pointer (some ⟨b, 1, none⟩))) w := by
  have h' : a.tmps[t]?.getD undef = .pointer (some ⟨b, 0, none⟩) := by simpa using h
  unfold execOp
  rw [ho]
  go_simp
/-- what operation j of the region leaves -/
def bytsR (b g n cap : Nat) : Nat → (Nat → Value) → World → Prop
  | 0, f, _ => f 3 = .pointer (some ⟨b, 0, none⟩)
  | 1, f, _ => f 4 = .pointer (some ⟨b, 0, none⟩)
  | 2, f, _ => f 5 = .pointer (some ⟨b, 0, none⟩)
  | 3, f, _ => f 6 = .slice (some ⟨g, 0, none⟩) n cap
  | 4, f, _ => f 7 = .pointer (some ⟨b, 0, none⟩)
  | 5, f, _ => f 8 = .pointer (some ⟨b, 0, none⟩)
  | 6, f, _ => f 9 = .pointer (some ⟨b, 1, none⟩)
  | 7, f, _ => f 10 = .int .i64 0
  | 8, f, _ => f 11 = .slice (some ⟨g, 0, none⟩) n cap
  | 9, f, _ => f 2 = .slice (some ⟨g, 0, none⟩) n cap
  | _, _, _ => True
def bytsM : Nat → List Nat
  | 0 => [3]
  | 1 => [4]
  | 2 => [5]
  | 3 => [6]
  | 4 => [7]
  | 5 => [8]
  | 6 => [9]
  | 7 => [10]
  | 8 => [11]
  | 9 => [2]
  | _ => []
theorem byts_stab {b g n cap : Nat} (jj : Nat) {f f' : Nat → Value} {w w' : World}  (hf : ∀ t ∈ bytsM jj, f' t = f t) (h : bytsR b g n cap jj f w) : bytsR b g n cap jj f' w' := by
  match jj, hf, h with
  | 0, hf, h => exact (hf 3 (by decide)).trans h
  | 1, hf, h => exact (hf 4 (by decide)).trans h
  | 2, hf, h => exact (hf 5 (by decide)).trans h
  | 3, hf, h => exact (hf 6 (by decide)).trans h
  | 4, hf, h => exact (hf 7 (by decide)).trans h
  | 5, hf, h => exact (hf 8 (by decide)).trans h
  | 6, hf, h => exact (hf 9 (by decide)).trans h
  | 7, hf, h => exact (hf 10 (by decide)).trans h
  | 8, hf, h => exact (hf 11 (by decide)).trans h
  | 9, hf, h => exact (hf 2 (by decide)).trans h
  | _ + 10, _, _ => trivial
set_option maxHeartbeats 2000000 in
set_option maxRecDepth 100000 in
theorem bytes_any (B b : Nat) (l : List UInt8) (w : World) (h : WS B b l w) (hl : l ≠ []) :
    Calls Tryd.prog 29 #[.pointer (some ⟨b, 0, none⟩)] w fun e w' => (∃ g cap, e = .returned (.slice (some ⟨g, 0, none⟩) l.length cap) ∧ w'.ownsRow B 5 1 (.slice (some ⟨g, 0, none⟩) l.length cap) l.length (Lib.byteCells l)) ∧ Below w.heap.size w w' := by
  obtain ⟨h1, v, lr, h2, h3, h4⟩ := h
  have hpos : 0 < l.length := List.length_pos_iff.2 hl
  have h30 := h3
  rcases h3.2 with ⟨rfl, hz⟩ | ⟨g, cap, cur, rfl, hbg, hg, hnc, _⟩
  · rw [Lib.byteCells_length] at hz; omega
  rw [Lib.byteCells_length] at hnc h30 h2
  have C0 : Hid (w.cell? ⟨b, 0, none⟩ = some (.slice (some ⟨g, 0, none⟩) l.length cap)) := h2.c0
  have C1 : Hid (w.cell? ⟨b, 1, none⟩ = some (.int .i64 0)) := h2.c1
  have HO := Lib.hid h30
  clear h1 h2 h3 h4 h30 hbg hg hnc
  go_enter Tryd.func29, Tryd.ntmps29
  go_wp2
  refine wp_region_valsD (by kernel_rfl) (by kernel_rfl) bytsM (by kernel_rfl) (by kernel_rfl)
    (fun _ w' => Below w.heap.size w w') (bytsR b g l.length cap) (Below.refl _ _).drew (fun jj f f' w w' hb hf h => byts_stab jj  hf h) ?_ ?_
  · intro i oo d a' w' ho hd hun hdf hok hD K hK hK0
    match i, ho, hd, hD, hK, hK0, hun with
    | 0, ho, hd, hD, hK, hK0, hun =>
      have e := (congrArg Oper.op (Option.some.inj ho)).symm
      obtain rfl := Option.some.inj ho
      exact wp_val (op_move a' w' 0 _ e) (hK _ _ (Below.refl _ _) hok (fun f h1 _ => (h1 _ rfl).trans (hun 0 (by kernel_rfl))))
    | 1, ho, hd, hD, hK, hK0, hun =>
      have e := (congrArg Oper.op (Option.some.inj ho)).symm
      obtain rfl := Option.some.inj ho
      exact wp_val (op_nil a' w' _ 3 (hD 0 (by kernel_rfl)) _ e) (hK _ _ (Below.refl _ _) hok (fun f h1 _ => h1 _ rfl))
    | 2, ho, hd, hD, hK, hK0, hun =>
      have e := (congrArg Oper.op (Option.some.inj ho)).symm
      obtain rfl := Option.some.inj ho
      exact wp_val (op_field_bytes_Buffer_0 a' w' _ 4 (hD 1 (by kernel_rfl)) _ e) (hK _ _ (Below.refl _ _) hok (fun f h1 _ => h1 _ rfl))
    | 3, ho, hd, hD, hK, hK0, hun =>
      have e := (congrArg Oper.op (Option.some.inj ho)).symm
      obtain rfl := Option.some.inj ho
      exact wp_val (op_load_Luint8 a' w' _ 5 _ (hD 2 (by kernel_rfl)) ((hok.cell (lt_of_block' C0.out)).trans C0.out) _ e) (hK _ _ (Below.refl _ _) hok (fun f h1 _ => h1 _ rfl))
    | 4, ho, hd, hD, hK, hK0, hun =>
      have e := (congrArg Oper.op (Option.some.inj ho)).symm
      obtain rfl := Option.some.inj ho
      exact wp_val (op_move a' w' 0 _ e) (hK _ _ (Below.refl _ _) hok (fun f h1 _ => (h1 _ rfl).trans (hun 0 (by kernel_rfl))))
    | 5, ho, hd, hD, hK, hK0, hun =>
      have e := (congrArg Oper.op (Option.some.inj ho)).symm
      obtain rfl := Option.some.inj ho
      exact wp_val (op_nil a' w' _ 7 (hD 4 (by kernel_rfl)) _ e) (hK _ _ (Below.refl _ _) hok (fun f h1 _ => h1 _ rfl))
    | 6, ho, hd, hD, hK, hK0, hun =>
      have e := (congrArg Oper.op (Option.some.inj ho)).symm
      obtain rfl := Option.some.inj ho
      exact wp_val (op_field_bytes_Buffer_1 a' w' _ 8 (hD 5 (by kernel_rfl)) _ e) (hK _ _ (Below.refl _ _) hok (fun f h1 _ => h1 _ rfl))
    | 7, ho, hd, hD, hK, hK0, hun =>
      have e := (congrArg Oper.op (Option.some.inj ho)).symm
      obtain rfl := Option.some.inj ho
      exact wp_val (op_load_int a' w' _ 9 _ (hD 6 (by kernel_rfl)) ((hok.cell (lt_of_block' C1.out)).trans C1.out) _ e) (hK _ _ (Below.refl _ _) hok (fun f h1 _ => h1 _ rfl))
    | 8, ho, hd, hD, hK, hK0, hun =>
      have e := (congrArg Oper.op (Option.some.inj ho)).symm
      obtain rfl := Option.some.inj ho
      exact wp_val (op_slice_tail a' w' g l.length cap 6 10 (hD 3 (by kernel_rfl)) (hD 7 (by kernel_rfl)) _ e) (hK _ _ (Below.refl _ _) hok (fun f h1 _ => h1 _ rfl))
    | 9, ho, hd, hD, hK, hK0, hun =>
      have e := (congrArg Oper.op (Option.some.inj ho)).symm
      obtain rfl := Option.some.inj ho
      exact wp_val (op_assign a' w' 11 _ e) (hK _ _ (Below.refl _ _) hok (fun f h1 _ => (h1 _ rfl).trans (hD 8 (by kernel_rfl))))
    | i + 10, ho, _, _, _, _, _ => exact absurd ho (by simp)
  · intro a' w3 hsz hdf hkt hok hR
    have HF3 := frame_sets [2, 3, 4, 5, 6, 7, 8, 9, 10, 11] (by kernel_rfl) hsz hkt
    obtain ⟨d, hok⟩ := hok
    have h2' : w3 = w3 ∧ vals a' 2 = .slice (some ⟨g, 0, none⟩) l.length cap := ⟨rfl, hR 9 (by decide)⟩
    have h2' := h2'.2
    have HB := Lib.hid hok
    clear hok
    obtain ⟨tm, df⟩ := a'
    obtain rfl : df = _ := hdf
    simp only [List.foldl_cons, List.foldl_nil] at HF3
    clear hkt hR hsz
    replace h2' : tm.getD 2 undef = _ := h2'
    rw [h2'] at HF3
    clear h2'
    generalize tm.getD 3 undef = y3 at HF3
    generalize tm.getD 4 undef = y4 at HF3
    generalize tm.getD 5 undef = y5 at HF3
    generalize tm.getD 6 undef = y6 at HF3
    generalize tm.getD 7 undef = y7 at HF3
    generalize tm.getD 8 undef = y8 at HF3
    generalize tm.getD 9 undef = y9 at HF3
    generalize tm.getD 10 undef = y10 at HF3
    generalize tm.getD 11 undef = y11 at HF3
    simp only [List.setIfInBounds_toArray, List.set_cons_succ, List.set_cons_zero] at HF3
    subst HF3
    go_wp2
    go_ret
    exact ⟨⟨g, cap, rfl, ownsRow_below HO.out HB.out⟩, HB.out⟩
end Go.Proofs.YtpbggngeopjefaaDoor.Aig
namespace Go.Proofs.YtpbggngeopjefaaDoor.Aig
open Go.ChangeShapes Go.WideShapes Go.ChangeAt Go.RowKit Dig Circ Cw Aag Cpy

/-- w' is w and more, but for the block g -/
structure Save (g : Option Nat) (w w' : World) : Prop where
  os : w'.os = w.os
  tape : w'.tape = w.tape
  output : w'.output = w.output
  size : w.heap.size ≤ w'.heap.size
  b : ∀ k, k < w.heap.size → g ≠ some k → w'.heap[k]? = w.heap[k]?
theorem Save.of {g : Option Nat} {w w' : World} (h : Below w.heap.size w w') : Save g w w' := ⟨h.os, h.tape, h.output, h.size, fun k hk _ => h.block k hk⟩
theorem Save.trans {g : Option Nat} {a b c : World} (h : Save g a b) (k : Save g b c) : Save g a c :=
  ⟨k.os.trans h.os, k.tape.trans h.tape, k.output.trans h.output, Nat.le_trans h.size k.size, fun i hi hg => (k.b i (Nat.lt_of_lt_of_le hi h.size) hg).trans (h.b i hi hg)⟩
theorem Save.below {g : Option Nat} {N : Nat} {W w w' : World} (h : Save g w w') (hb : Below N W w) (hN : N ≤ w.heap.size) (hg : ∀ k, g = some k → N ≤ k) : Below N W w' :=
  ⟨h.os.trans hb.os, h.tape.trans hb.tape, h.output.trans hb.output, Nat.le_trans hb.size h.size, fun k hk => (h.b k (by omega) (fun e => by have := hg k e; omega)).trans (hb.block k hk)⟩
theorem save_but {g : Nat} {w w' : World} (h : Cw.But g w w') : Save (some g) w w' := ⟨h.os, h.tape, h.output, Nat.le_of_eq h.z.symm, fun k _ hk => h.b k (fun e => hk (by rw [e]))⟩
theorem own_save {w w' : World} {N : Nat} {e : TypeId} {m n q : Nat} {A : Option Addr} {xs : List (List Value)} {g : Option Nat} (h : OwnC w N e m (.slice A n q) xs) (hs : Save g w w') (hne : ∀ k, A.map Addr.block = some k → g ≠ some k) : OwnC w' N e m (.slice A n q) xs := h.keep_at fun k _ hv => by
  have hk := (h.block_lt k hv).2
  refine hs.b k hk (hne k ?_)
  cases A with
  | none => cases hv
  | some a => exact hv
theorem other_type {w : World} {N : Nat} {e e' : TypeId} {m n q : Nat} {A : Option Addr} {xs : List (List Value)} {g : Nat} {cur : Array Value} (h : OwnC w N e m (.slice A n q) xs) (hg : w.heap[g]? = some (.cells cur e' (0, 0))) (he : e ≠ e') : ∀ k, A.map Addr.block = some k → (some g : Option Nat) ≠ some k := fun k hk e2 => by
  obtain rfl : g = k := by simpa using e2
  obtain ⟨c2, hc⟩ := own_type h (g := g) (by
    cases A with
    | none => cases hk
    | some a => exact hk)
  rw [hg] at hc
  simp only [Option.some.injEq, Obj.cells.injEq] at hc
  exact he hc.2.1.symm
def boxC (c : Cir) (s : Places) : Array Value := #[.int .i64 ((c.ins.length : Int) + c.lats.length + c.ands.length), .slice s.ai c.ins.length s.ki, .slice s.al c.lats.length s.kl, .slice s.ao c.outs.length s.ko, .slice s.ab c.bads.length s.kb, .slice s.ac c.invs.length s.kc, .slice s.aa c.ands.length s.ka, .slice s.an c.names.length s.kn]
/-- the copy's lists while they are written over -/
structure Or (N gd : Nat) (W : World) (c : Cir) (s : Places) (ins outs bads invs : List Int) (lats ands : List Tri) (w : World) : Prop where
  i : OwnC w N 3 1 (.slice s.ai c.ins.length s.ki) (ints ins)
  o : OwnC w N 3 1 (.slice s.ao c.outs.length s.ko) (ints outs)
  d : OwnC w N 3 1 (.slice s.ab c.bads.length s.kb) (ints bads)
  v : OwnC w N 3 1 (.slice s.ac c.invs.length s.kc) (ints invs)
  l : OwnC w N 41 3 (.slice s.al c.lats.length s.kl) (tris lats)
  a : OwnC w N 43 3 (.slice s.aa c.ands.length s.ka) (tris ands)
  n : OwnC w N 45 3 (.slice s.an c.names.length s.kn) (nams c.names)
  x : w.heap[gd]? = some (.cells (boxC c s) 27 (0, 0))
  b : Below N W w
  z : N ≤ w.heap.size
  g : N ≤ gd
section
variable {N gd : Nat} {W w w' : World} {c : Cir} {s : Places} {ins outs bads invs : List Int} {lats ands : List Tri}
theorem Or.below (h : Or N gd W c s ins outs bads invs lats ands w) (hb : Below w.heap.size w w') : Or N gd W c s ins outs bads invs lats ands w' :=
  ⟨h.i.keep hb, h.o.keep hb, h.d.keep hb, h.v.keep hb, h.l.keep hb, h.a.keep hb, h.n.keep hb, (hb.block gd (lt_of_block h.x)).trans h.x, h.b.trans (hb.mono h.z), Nat.le_trans h.z hb.size, h.g⟩
theorem Or.latsTo (h : Or N gd W c s ins outs bads invs lats ands w) {g : Nat} {cur : Array Value} (hg : w.heap[g]? = some (.cells cur 41 (0, 0))) (hN : N ≤ g) (hs : Save (some g) w w') {lats' : List Tri} (hl : OwnC w' N 41 3 (.slice s.al c.lats.length s.kl) (tris lats')) : Or N gd W c s ins outs bads invs lats' ands w' :=
  ⟨own_save h.i hs (other_type h.i hg (by decide)), own_save h.o hs (other_type h.o hg (by decide)), own_save h.d hs (other_type h.d hg (by decide)), own_save h.v hs (other_type h.v hg (by decide)), hl, own_save h.a hs (other_type h.a hg (by decide)), own_save h.n hs (other_type h.n hg (by decide)),
   (hs.b gd (lt_of_block h.x) (fun e => by
      obtain rfl : g = gd := by simpa using e
      rw [h.x] at hg
      simp at hg)).trans h.x, hs.below h.b h.z (fun k e => by obtain rfl : g = k := (by simpa using e); exact hN), Nat.le_trans h.z hs.size, h.g⟩
theorem Or.andsTo (h : Or N gd W c s ins outs bads invs lats ands w) {g : Nat} {cur : Array Value} (hg : w.heap[g]? = some (.cells cur 43 (0, 0))) (hN : N ≤ g) (hs : Save (some g) w w') {ands' : List Tri} (hl : OwnC w' N 43 3 (.slice s.aa c.ands.length s.ka) (tris ands')) : Or N gd W c s ins outs bads invs lats ands' w' :=
  ⟨own_save h.i hs (other_type h.i hg (by decide)), own_save h.o hs (other_type h.o hg (by decide)), own_save h.d hs (other_type h.d hg (by decide)), own_save h.v hs (other_type h.v hg (by decide)), own_save h.l hs (other_type h.l hg (by decide)), hl, own_save h.n hs (other_type h.n hg (by decide)),
   (hs.b gd (lt_of_block h.x) (fun e => by
      obtain rfl : g = gd := by simpa using e
      rw [h.x] at hg
      simp at hg)).trans h.x, hs.below h.b h.z (fun k e => by obtain rfl : g = k := (by simpa using e); exact hN), Nat.le_trans h.z hs.size, h.g⟩
end
theorem own_ge {w : World} {N : Nat} {e : TypeId} {m n q : Nat} {A : Option Addr} {xs : List (List Value)} (h : OwnC w N e m (.slice A n q) xs) : ∀ k, A.map Addr.block = some k → N ≤ k := fun k hk => (h.block_lt k (by
  cases A with
  | none => cases hk
  | some a => exact hk)).1
theorem own_typed {w : World} {N : Nat} {e : TypeId} {m n q : Nat} {A : Option Addr} {xs : List (List Value)} (h : OwnC w N e m (.slice A n q) xs) : ∀ k, A.map Addr.block = some k → ∃ cur, w.heap[k]? = some (.cells cur e (0, 0)) := fun k hk => own_type h (by
  cases A with
  | none => cases hk
  | some a => exact hk)
/-- a list of one type stays where one of another is written over -/
theorem own_part {w w' : World} {N : Nat} {e e' : TypeId} {m n q m' n' q' : Nat} {A A' : Option Addr} {xs xs' : List (List Value)} (h : OwnC w N e m (.slice A n q) xs) (h' : OwnC w N e' m' (.slice A' n' q') xs') (he : e ≠ e') (hs : Save (A'.map Addr.block) w w') : OwnC w' N e m (.slice A n q) xs :=
  own_save h hs fun k hk e2 => by
    obtain ⟨c1, h1⟩ := own_typed h k hk
    obtain ⟨c2, h2⟩ := own_typed h' k e2
    rw [h1] at h2
    simp only [Option.some.injEq, Obj.cells.injEq] at h2
    exact he h2.2.1
theorem sep_ne {A A' : Option Addr} (h : A.map Addr.block = A'.map Addr.block → A = none) : ∀ k, A.map Addr.block = some k → A'.map Addr.block ≠ some k := fun k hk e => by
  have := h (hk.trans e.symm)
  rw [this] at hk; cases hk
theorem sep_ne' {A A' : Option Addr} (h : A.map Addr.block = A'.map Addr.block → A = none) : ∀ k, A'.map Addr.block = some k → A.map Addr.block ≠ some k := fun k hk e => by
  have := h (e.trans hk.symm)
  rw [this] at e; cases e
/-- the first j lists of numbers are written over; the row of the four lists lies in gL -/
def lsts (c : Cir) (s : Places) : Array Value := #[.slice s.ai c.ins.length s.ki, .slice s.ao c.outs.length s.ko, .slice s.ab c.bads.length s.kb, .slice s.ac c.invs.length s.kc]
def one (b : Prop) [Decidable b] (c : Cir) (l : List Int) : List Int := if b then l.map (ren c) else l
def OrL (N gd gL : Nat) (W : World) (c : Cir) (s : Places) (j : Nat) (w : World) : Prop :=
  Or N gd W c s (one (0 < j) c c.ins) (one (1 < j) c c.outs) (one (2 < j) c c.bads) (one (3 < j) c c.invs) c.lats c.ands w ∧ w.heap[gL]? = some (.cells (lsts c s) 22 (0, 0))
theorem box_stays {w w' : World} {N k : Nat} {e e' : TypeId} {m n q : Nat} {A : Option Addr} {xs : List (List Value)} {cur : Array Value} (h : OwnC w N e m (.slice A n q) xs) (hs : Save (A.map Addr.block) w w') (hk : w.heap[k]? = some (.cells cur e' (0, 0))) (he : e' ≠ e) : w'.heap[k]? = some (.cells cur e' (0, 0)) :=
  (hs.b k (lt_of_block hk) fun e2 => by
    obtain ⟨c1, h1⟩ := own_typed h k e2
    rw [hk] at h1
    simp only [Option.some.injEq, Obj.cells.injEq] at h1
    exact he h1.2.1).trans hk
/-- list number j, and what is so once it is written over -/
def PickP (N gd gL : Nat) (W : World) (c : Cir) (s : Places) (j : Nat) (w : World) (A : Option Addr) (q : Nat) (xs : List Int) : Prop :=
  (lsts c s)[j]? = some (.slice A xs.length q) ∧ OwnC w N 3 1 (.slice A xs.length q) (ints xs) ∧ (∀ x ∈ xs, Lits c x) ∧ xs.length ≤ 64 ∧ ∀ w2, OwnC w2 N 3 1 (.slice A xs.length q) (ints (xs.map (ren c))) → Save (A.map Addr.block) w w2 → OrL N gd gL W c s (j + 1) w2
theorem pick (N gd gL : Nat) (W : World) (c : Cir) (s : Places) (j : Nat) (w : World) (hj : j < 4) (h : OrL N gd gL W c s j w) (hl : AllLits c) (hz : c.ins.length ≤ 64 ∧ c.outs.length ≤ 64 ∧ c.bads.length ≤ 64 ∧ c.invs.length ≤ 64) (ha : Apart s) : ∃ A q xs, PickP N gd gL W c s j w A q xs := by
  obtain ⟨h, hL⟩ := h
  match j, hj with
  | 0, _ =>
    have o := h.i
    refine ⟨s.ai, s.ki, c.ins, rfl, o, hl.ins, hz.1, fun w2 h2 hs => ⟨⟨h2, own_save h.o hs (sep_ne' ha.io), own_save h.d hs (sep_ne' ha.ib), own_save h.v hs (sep_ne' ha.ic), own_part h.l o (by decide) hs, own_part h.a o (by decide) hs, own_part h.n o (by decide) hs, box_stays o hs h.x (by decide), hs.below h.b h.z (own_ge o), Nat.le_trans h.z hs.size, h.g⟩, box_stays o hs hL (by decide)⟩⟩
  | 1, _ =>
    have o := h.o
    refine ⟨s.ao, s.ko, c.outs, rfl, o, hl.outs, hz.2.1, fun w2 h2 hs => ⟨⟨own_save h.i hs (sep_ne ha.io), h2, own_save h.d hs (sep_ne' ha.ob), own_save h.v hs (sep_ne' ha.oc), own_part h.l o (by decide) hs, own_part h.a o (by decide) hs, own_part h.n o (by decide) hs, box_stays o hs h.x (by decide), hs.below h.b h.z (own_ge o), Nat.le_trans h.z hs.size, h.g⟩, box_stays o hs hL (by decide)⟩⟩
  | 2, _ =>
    have o := h.d
    refine ⟨s.ab, s.kb, c.bads, rfl, o, hl.bads, hz.2.2.1, fun w2 h2 hs => ⟨⟨own_save h.i hs (sep_ne ha.ib), own_save h.o hs (sep_ne ha.ob), h2, own_save h.v hs (sep_ne' ha.bc), own_part h.l o (by decide) hs, own_part h.a o (by decide) hs, own_part h.n o (by decide) hs, box_stays o hs h.x (by decide), hs.below h.b h.z (own_ge o), Nat.le_trans h.z hs.size, h.g⟩, box_stays o hs hL (by decide)⟩⟩
  | 3, _ =>
    have o := h.v
    refine ⟨s.ac, s.kc, c.invs, rfl, o, hl.invs, hz.2.2.2, fun w2 h2 hs => ⟨⟨own_save h.i hs (sep_ne ha.ic), own_save h.o hs (sep_ne ha.oc), own_save h.d hs (sep_ne ha.bc), h2, own_part h.l o (by decide) hs, own_part h.a o (by decide) hs, own_part h.n o (by decide) hs, box_stays o hs h.x (by decide), hs.below h.b h.z (own_ge o), Nat.le_trans h.z hs.size, h.g⟩, box_stays o hs hL (by decide)⟩⟩
  | j + 4, h => exact absurd h (by omega)
/-- lists of which the first j elements are written over -/
def upto {α : Type} (f : α → α) (l : List α) (j : Nat) : List α := (l.take j).map f ++ l.drop j
theorem upto_zero {α : Type} (f : α → α) (l : List α) : upto f l 0 = l := by simp [upto]
theorem upto_all {α : Type} (f : α → α) (l : List α) : upto f l l.length = l.map f := by simp [upto]
theorem upto_len {α : Type} (f : α → α) (l : List α) (j : Nat) : (upto f l j).length = l.length := by unfold upto; simp; omega
theorem upto_at {α : Type} (f : α → α) (l : List α) (j : Nat) (h : j < l.length) : (upto f l j)[j]'(by rw [upto_len]; exact h) = l[j] := by
  unfold upto
  rw [List.getElem_append_right (by simp; omega)]
  simp [Nat.min_eq_left (Nat.le_of_lt h)]
theorem upto_set {α : Type} (f : α → α) (l : List α) (j : Nat) (h : j < l.length) : (upto f l j).set j (f l[j]) = upto f l (j + 1) := by
  unfold upto
  rw [List.take_succ_eq_append_getElem h, List.map_append, List.map_cons, List.map_nil, List.set_append_right _ _ (by simp; omega)]
  have e : l.drop j = l[j] :: l.drop (j + 1) := (List.getElem_cons_drop h).symm
  rw [show j - ((l.take j).map f).length = 0 by rw [List.length_map, List.length_take]; omega, e, List.set_cons_zero, List.append_assoc]
  rfl
end Go.Proofs.YtpbggngeopjefaaDoor.Aig
