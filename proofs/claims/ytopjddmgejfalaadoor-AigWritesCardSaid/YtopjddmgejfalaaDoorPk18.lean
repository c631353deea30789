/- What stays while aig's Order writes its copy's lists over; no condition. -/
import Derived.Test.YtopjddmgejfalaaDoorPk16
namespace Go.Proofs.YtopjddmgejfalaaDoor.Aig
open Go.ChangeShapes Go.WideShapes Go.ChangeAt Go.RowKit Dig Circ Cw Aag Cpy

/-- w' is w and more, but for the block g -/
structure Save (g : Option Nat) (w w' : World) : Prop where
  os : w'.os = w.os
  tape : w'.tape = w.tape
  output : w'.output = w.output
  size : w.heap.size ≤ w'.heap.size
  b : ∀ k, k < w.heap.size → g ≠ some k → w'.heap[k]? = w.heap[k]?
theorem Save.of {g : Option Nat} {w w' : World} (h : Below w.heap.size w w') : Save g w w' := ⟨h.os, h.tape, h.output, h.size, fun k hk _ => h.block k hk⟩
theorem Save.trans {g : Option Nat} {a b c : World} (h : Save g a b) (k : Save g b c) : Save g a c :=
  ⟨k.os.trans h.os, k.tape.trans h.tape, k.output.trans h.output, Nat.le_trans h.size k.size, fun i hi hg => (k.b i (Nat.lt_of_lt_of_le hi h.size) hg).trans (h.b i hi hg)⟩
theorem Save.below {g : Option Nat} {N : Nat} {W w w' : World} (h : Save g w w') (hb : Below N W w) (hN : N ≤ w.heap.size) (hg : ∀ k, g = some k → N ≤ k) : Below N W w' :=
  ⟨h.os.trans hb.os, h.tape.trans hb.tape, h.output.trans hb.output, Nat.le_trans hb.size h.size, fun k hk => (h.b k (by omega) (fun e => by have := hg k e; omega)).trans (hb.block k hk)⟩
theorem save_but {g : Nat} {w w' : World} (h : Cw.But g w w') : Save (some g) w w' := ⟨h.os, h.tape, h.output, Nat.le_of_eq h.z.symm, fun k _ hk => h.b k (fun e => hk (by rw [e]))⟩
theorem own_save {w w' : World} {N : Nat} {e : TypeId} {m n q : Nat} {A : Option Addr} {xs : List (List Value)} {g : Option Nat} (h : OwnC w N e m (.slice A n q) xs) (hs : Save g w w') (hne : ∀ k, A.map Addr.block = some k → g ≠ some k) : OwnC w' N e m (.slice A n q) xs := h.keep_at fun k _ hv => by
  have hk := (h.block_lt k hv).2
  refine hs.b k hk (hne k ?_)
  cases A with
  | none => cases hv
  | some a => exact hv
theorem other_type {w : World} {N : Nat} {e e' : TypeId} {m n q : Nat} {A : Option Addr} {xs : List (List Value)} {g : Nat} {cur : Array Value} (h : OwnC w N e m (.slice A n q) xs) (hg : w.heap[g]? = some (.cells cur e' (0, 0))) (he : e ≠ e') : ∀ k, A.map Addr.block = some k → (some g : Option Nat) ≠ some k := fun k hk e2 => by
  obtain rfl : g = k := by simpa using e2
  obtain ⟨c2, hc⟩ := own_type h (g := g) (by
    cases A with
    | none => cases hk
    | some a => exact hk)
  rw [hg] at hc
  simp only [Option.some.injEq, Obj.cells.injEq] at hc
  exact he hc.2.1.symm
def boxC (c : Cir) (s : Places) : Array Value := #[.int .i64 ((c.ins.length : Int) + c.lats.length + c.ands.length), .slice s.ai c.ins.length s.ki, .slice s.al c.lats.length s.kl, .slice s.ao c.outs.length s.ko, .slice s.ab c.bads.length s.kb, .slice s.ac c.invs.length s.kc, .slice s.aa c.ands.length s.ka, .slice s.an c.names.length s.kn]
/-- the copy's lists while they are written over -/
structure Or (N gd : Nat) (W : World) (c : Cir) (s : Places) (ins outs bads invs : List Int) (lats ands : List Tri) (w : World) : Prop where
  i : OwnC w N 3 1 (.slice s.ai c.ins.length s.ki) (ints ins)
  o : OwnC w N 3 1 (.slice s.ao c.outs.length s.ko) (ints outs)
  d : OwnC w N 3 1 (.slice s.ab c.bads.length s.kb) (ints bads)
  v : OwnC w N 3 1 (.slice s.ac c.invs.length s.kc) (ints invs)
  l : OwnC w N 41 3 (.slice s.al c.lats.length s.kl) (tris lats)
  a : OwnC w N 43 3 (.slice s.aa c.ands.length s.ka) (tris ands)
  n : OwnC w N 45 3 (.slice s.an c.names.length s.kn) (nams c.names)
  x : w.heap[gd]? = some (.cells (boxC c s) 27 (0, 0))
  b : Below N W w
  z : N ≤ w.heap.size
  g : N ≤ gd
section
variable {N gd : Nat} {W w w' : World} {c : Cir} {s : Places} {ins outs bads invs : List Int} {lats ands : List Tri}
theorem Or.below (h : Or N gd W c s ins outs bads invs lats ands w) (hb : Below w.heap.size w w') : Or N gd W c s ins outs bads invs lats ands w' :=
  ⟨h.i.keep hb, h.o.keep hb, h.d.keep hb, h.v.keep hb, h.l.keep hb, h.a.keep hb, h.n.keep hb, (hb.block gd (lt_of_block h.x)).trans h.x, h.b.trans (hb.mono h.z), Nat.le_trans h.z hb.size, h.g⟩
theorem Or.latsTo (h : Or N gd W c s ins outs bads invs lats ands w) {g : Nat} {cur : Array Value} (hg : w.heap[g]? = some (.cells cur 41 (0, 0))) (hN : N ≤ g) (hs : Save (some g) w w') {lats' : List Tri} (hl : OwnC w' N 41 3 (.slice s.al c.lats.length s.kl) (tris lats')) : Or N gd W c s ins outs bads invs lats' ands w' :=
  ⟨own_save h.i hs (other_type h.i hg (by decide)), own_save h.o hs (other_type h.o hg (by decide)), own_save h.d hs (other_type h.d hg (by decide)), own_save h.v hs (other_type h.v hg (by decide)), hl, own_save h.a hs (other_type h.a hg (by decide)), own_save h.n hs (other_type h.n hg (by decide)),
   (hs.b gd (lt_of_block h.x) (fun e => by
      obtain rfl : g = gd := by simpa using e
      rw [h.x] at hg
      simp at hg)).trans h.x, hs.below h.b h.z (fun k e => by obtain rfl : g = k := (by simpa using e); exact hN), Nat.le_trans h.z hs.size, h.g⟩
theorem Or.andsTo (h : Or N gd W c s ins outs bads invs lats ands w) {g : Nat} {cur : Array Value} (hg : w.heap[g]? = some (.cells cur 43 (0, 0))) (hN : N ≤ g) (hs : Save (some g) w w') {ands' : List Tri} (hl : OwnC w' N 43 3 (.slice s.aa c.ands.length s.ka) (tris ands')) : Or N gd W c s ins outs bads invs lats ands' w' :=
  ⟨own_save h.i hs (other_type h.i hg (by decide)), own_save h.o hs (other_type h.o hg (by decide)), own_save h.d hs (other_type h.d hg (by decide)), own_save h.v hs (other_type h.v hg (by decide)), own_save h.l hs (other_type h.l hg (by decide)), hl, own_save h.n hs (other_type h.n hg (by decide)),
   (hs.b gd (lt_of_block h.x) (fun e => by
      obtain rfl : g = gd := by simpa using e
      rw [h.x] at hg
      simp at hg)).trans h.x, hs.below h.b h.z (fun k e => by obtain rfl : g = k := (by simpa using e); exact hN), Nat.le_trans h.z hs.size, h.g⟩
end
theorem own_ge {w : World} {N : Nat} {e : TypeId} {m n q : Nat} {A : Option Addr} {xs : List (List Value)} (h : OwnC w N e m (.slice A n q) xs) : ∀ k, A.map Addr.block = some k → N ≤ k := fun k hk => (h.block_lt k (by
  cases A with
  | none => cases hk
  | some a => exact hk)).1
theorem own_typed {w : World} {N : Nat} {e : TypeId} {m n q : Nat} {A : Option Addr} {xs : List (List Value)} (h : OwnC w N e m (.slice A n q) xs) : ∀ k, A.map Addr.block = some k → ∃ cur, w.heap[k]? = some (.cells cur e (0, 0)) := fun k hk => own_type h (by
  cases A with
  | none => cases hk
  | some a => exact hk)
/-- a list of one type stays where one of another is written over -/
theorem own_part {w w' : World} {N : Nat} {e e' : TypeId} {m n q m' n' q' : Nat} {A A' : Option Addr} {xs xs' : List (List Value)} (h : OwnC w N e m (.slice A n q) xs) (h' : OwnC w N e' m' (.slice A' n' q') xs') (he : e ≠ e') (hs : Save (A'.map Addr.block) w w') : OwnC w' N e m (.slice A n q) xs :=
  own_save h hs fun k hk e2 => by
    obtain ⟨c1, h1⟩ := own_typed h k hk
    obtain ⟨c2, h2⟩ := own_typed h' k e2
    rw [h1] at h2
    simp only [Option.some.injEq, Obj.cells.injEq] at h2
    exact he h2.2.1
theorem sep_ne {A A' : Option Addr} (h : A.map Addr.block = A'.map Addr.block → A = none) : ∀ k, A.map Addr.block = some k → A'.map Addr.block ≠ some k := fun k hk e => by
  have := h (hk.trans e.symm)
  rw [this] at hk; cases hk
theorem sep_ne' {A A' : Option Addr} (h : A.map Addr.block = A'.map Addr.block → A = none) : ∀ k, A'.map Addr.block = some k → A.map Addr.block ≠ some k := fun k hk e => by
  have := h (e.trans hk.symm)
  rw [this] at e; cases e
/-- the first j lists of numbers are written over; the row of the four lists lies in gL -/
def lsts (c : Cir) (s : Places) : Array Value := #[.slice s.ai c.ins.length s.ki, .slice s.ao c.outs.length s.ko, .slice s.ab c.bads.length s.kb, .slice s.ac c.invs.length s.kc]
def one (b : Prop) [Decidable b] (c : Cir) (l : List Int) : List Int := if b then l.map (ren c) else l
def OrL (N gd gL : Nat) (W : World) (c : Cir) (s : Places) (j : Nat) (w : World) : Prop :=
  Or N gd W c s (one (0 < j) c c.ins) (one (1 < j) c c.outs) (one (2 < j) c c.bads) (one (3 < j) c c.invs) c.lats c.ands w ∧ w.heap[gL]? = some (.cells (lsts c s) 22 (0, 0))
theorem box_stays {w w' : World} {N k : Nat} {e e' : TypeId} {m n q : Nat} {A : Option Addr} {xs : List (List Value)} {cur : Array Value} (h : OwnC w N e m (.slice A n q) xs) (hs : Save (A.map Addr.block) w w') (hk : w.heap[k]? = some (.cells cur e' (0, 0))) (he : e' ≠ e) : w'.heap[k]? = some (.cells cur e' (0, 0)) :=
  (hs.b k (lt_of_block hk) fun e2 => by
    obtain ⟨c1, h1⟩ := own_typed h k e2
    rw [hk] at h1
    simp only [Option.some.injEq, Obj.cells.injEq] at h1
    exact he h1.2.1).trans hk
/-- list number j, and what is so once it is written over -/
def PickP (N gd gL : Nat) (W : World) (c : Cir) (s : Places) (j : Nat) (w : World) (A : Option Addr) (q : Nat) (xs : List Int) : Prop :=
  (lsts c s)[j]? = some (.slice A xs.length q) ∧ OwnC w N 3 1 (.slice A xs.length q) (ints xs) ∧ (∀ x ∈ xs, Lits c x) ∧ xs.length ≤ 64 ∧ ∀ w2, OwnC w2 N 3 1 (.slice A xs.length q) (ints (xs.map (ren c))) → Save (A.map Addr.block) w w2 → OrL N gd gL W c s (j + 1) w2
theorem pick (N gd gL : Nat) (W : World) (c : Cir) (s : Places) (j : Nat) (w : World) (hj : j < 4) (h : OrL N gd gL W c s j w) (hl : AllLits c) (hz : c.ins.length ≤ 64 ∧ c.outs.length ≤ 64 ∧ c.bads.length ≤ 64 ∧ c.invs.length ≤ 64) (ha : Apart s) : ∃ A q xs, PickP N gd gL W c s j w A q xs := by
  obtain ⟨h, hL⟩ := h
  match j, hj with
  | 0, _ =>
    have o := h.i
    refine ⟨s.ai, s.ki, c.ins, rfl, o, hl.ins, hz.1, fun w2 h2 hs => ⟨⟨h2, own_save h.o hs (sep_ne' ha.io), own_save h.d hs (sep_ne' ha.ib), own_save h.v hs (sep_ne' ha.ic), own_part h.l o (by decide) hs, own_part h.a o (by decide) hs, own_part h.n o (by decide) hs, box_stays o hs h.x (by decide), hs.below h.b h.z (own_ge o), Nat.le_trans h.z hs.size, h.g⟩, box_stays o hs hL (by decide)⟩⟩
  | 1, _ =>
    have o := h.o
    refine ⟨s.ao, s.ko, c.outs, rfl, o, hl.outs, hz.2.1, fun w2 h2 hs => ⟨⟨own_save h.i hs (sep_ne ha.io), h2, own_save h.d hs (sep_ne' ha.ob), own_save h.v hs (sep_ne' ha.oc), own_part h.l o (by decide) hs, own_part h.a o (by decide) hs, own_part h.n o (by decide) hs, box_stays o hs h.x (by decide), hs.below h.b h.z (own_ge o), Nat.le_trans h.z hs.size, h.g⟩, box_stays o hs hL (by decide)⟩⟩
  | 2, _ =>
    have o := h.d
    refine ⟨s.ab, s.kb, c.bads, rfl, o, hl.bads, hz.2.2.1, fun w2 h2 hs => ⟨⟨own_save h.i hs (sep_ne ha.ib), own_save h.o hs (sep_ne ha.ob), h2, own_save h.v hs (sep_ne' ha.bc), own_part h.l o (by decide) hs, own_part h.a o (by decide) hs, own_part h.n o (by decide) hs, box_stays o hs h.x (by decide), hs.below h.b h.z (own_ge o), Nat.le_trans h.z hs.size, h.g⟩, box_stays o hs hL (by decide)⟩⟩
  | 3, _ =>
    have o := h.v
    refine ⟨s.ac, s.kc, c.invs, rfl, o, hl.invs, hz.2.2.2, fun w2 h2 hs => ⟨⟨own_save h.i hs (sep_ne ha.ic), own_save h.o hs (sep_ne ha.oc), own_save h.d hs (sep_ne ha.bc), h2, own_part h.l o (by decide) hs, own_part h.a o (by decide) hs, own_part h.n o (by decide) hs, box_stays o hs h.x (by decide), hs.below h.b h.z (own_ge o), Nat.le_trans h.z hs.size, h.g⟩, box_stays o hs hL (by decide)⟩⟩
  | j + 4, h => exact absurd h (by omega)
/-- lists of which the first j elements are written over -/
def upto {α : Type} (f : α → α) (l : List α) (j : Nat) : List α := (l.take j).map f ++ l.drop j
theorem upto_zero {α : Type} (f : α → α) (l : List α) : upto f l 0 = l := by simp [upto]
theorem upto_all {α : Type} (f : α → α) (l : List α) : upto f l l.length = l.map f := by simp [upto]
theorem upto_len {α : Type} (f : α → α) (l : List α) (j : Nat) : (upto f l j).length = l.length := by unfold upto; simp; omega
theorem upto_at {α : Type} (f : α → α) (l : List α) (j : Nat) (h : j < l.length) : (upto f l j)[j]'(by rw [upto_len]; exact h) = l[j] := by
  unfold upto
  rw [List.getElem_append_right (by simp; omega)]
  simp [Nat.min_eq_left (Nat.le_of_lt h)]
theorem upto_set {α : Type} (f : α → α) (l : List α) (j : Nat) (h : j < l.length) : (upto f l j).set j (f l[j]) = upto f l (j + 1) := by
  unfold upto
  rw [List.take_succ_eq_append_getElem h, List.map_append, List.map_cons, List.map_nil, List.set_append_right _ _ (by simp; omega)]
  have e : l.drop j = l[j] :: l.drop (j + 1) := (List.getElem_cons_drop h).symm
  rw [show j - ((l.take j).map f).length = 0 by rw [List.length_map, List.length_take]; omega, e, List.set_cons_zero, List.append_assoc]
  rfl
end Go.Proofs.YtopjddmgejfalaaDoor.Aig
