/- Lists of a call's own whose elements are written over, one by one, and what stays while strash.Hash does so; no condition. -/
import Derived.Test.YtpaneggajjgdlaaPk12
import Derived.Test.YtpaneggajjgdlaaPk15
import Derived.Test.YtpaneggajjgdlaaPk18
namespace Go.Proofs.Ytpaneggajjgdlaa.Str
open Go.ChangeShapes Go.WideShapes Go.ChangeAt Go.RowKit Go.Maps Circ Cw Cpy

theorem own_type {w : World} {base : Nat} {e : TypeId} {m : Nat} {v : Value} {xs : List (List Value)} (h : OwnC w base e m v xs) {g : Nat} (hg : v.ownBlock = some g) : ∃ cur, w.heap[g]? = some (.cells cur e (0, 0)) := by
  obtain ⟨_, h⟩ := h
  rcases h with ⟨rfl, h0⟩ | ⟨g', cap, cur, rfl, hb, hh, _⟩
  · simp [Value.ownBlock] at hg
  · have : g' = g := by simpa [Value.ownBlock] using hg
    subst this
    exact ⟨cur, hh⟩
theorem cells8 {w : World} {g : Nat} {c : Cir} {s : Places} (h : w.heap[g]? = some (.cells (cirC c s) 27 (0, 0))) : w.cell? ⟨g, 0, none⟩ = some (.int .i64 c.max) ∧ w.cell? ⟨g, 1, none⟩ = some (.slice s.ai c.ins.length s.ki) ∧ w.cell? ⟨g, 2, none⟩ = some (.slice s.al c.lats.length s.kl) ∧ w.cell? ⟨g, 3, none⟩ = some (.slice s.ao c.outs.length s.ko) ∧ w.cell? ⟨g, 4, none⟩ = some (.slice s.ab c.bads.length s.kb) ∧ w.cell? ⟨g, 5, none⟩ = some (.slice s.ac c.invs.length s.kc) ∧ w.cell? ⟨g, 6, none⟩ = some (.slice s.aa c.ands.length s.ka) ∧ w.cell? ⟨g, 7, none⟩ = some (.slice s.an c.names.length s.kn) := by
  have e : ∀ i, w.cell? ⟨g, i, none⟩ = (cirC c s)[i]? := fun i => by simp [World.cell?, h]
  exact ⟨e 0, e 1, e 2, e 3, e 4, e 5, e 6, e 7⟩
theorem put_row {w w' : World} {B : Nat} {e : TypeId} {m g q : Nat} {xs : List (List Value)} {cur cur' : Array Value} (h : OwnC w B e m (.slice (some ⟨g, 0, none⟩) xs.length q) xs) (hm : 0 < m) (hx : ∀ y ∈ xs, y.length = m) (i : Nat) (hi : i < xs.length) (ys : List Value) (hy : ys.length = m)
    (hg : w.heap[g]? = some (.cells cur e (0, 0))) (hg' : w'.heap[g]? = some (.cells cur' e (0, 0))) (hsz : cur'.size = cur.size) (hk : ∀ k, k < cur.size → cur'[k]? = if k / m = i then ys[k % m]? else cur[k]?) :
    OwnC w' B e m (.slice (some ⟨g, 0, none⟩) xs.length q) (xs.set i ys) := by
  have hx' : ∀ y ∈ xs.set i ys, y.length = m := fun y hy' => by
    rcases List.mem_or_eq_of_mem_set hy' with h1 | h1
    · exact hx y h1
    · rw [h1]; exact hy
  obtain ⟨h0, h⟩ := h
  rcases h with ⟨hv, _⟩ | ⟨g1, cap, c1, hv, hb, hh, hn, hc, hs, ht⟩
  · simp at hv
  · simp only [Value.slice.injEq, Option.some.injEq, Addr.mk.injEq, and_true, true_and] at hv
    obtain ⟨rfl, rfl⟩ := hv
    rw [hh] at hg
    simp only [Option.some.injEq, Obj.cells.injEq, and_true] at hg
    subst hg
    have hle : xs.length * m ≤ q * m := Nat.mul_le_mul_right _ hn
    refine ⟨by rw [flatten_len m _ hx'], .inr ⟨g, q, cur', by rw [List.length_set], hb, hg', by rw [List.length_set]; exact hn, hc, by rw [hsz]; exact hs, ?_⟩⟩
    apply List.ext_getElem?
    intro k
    rw [List.getElem?_take, List.length_set]
    by_cases hkl : k < xs.length * m
    · rw [if_pos hkl, flatten_at m hm _ hx', Array.getElem?_toList, hk k (by omega)]
      have hkm : k / m < xs.length := Nat.div_lt_of_lt_mul (by rw [Nat.mul_comm]; exact hkl)
      by_cases hki : k / m = i
      · rw [if_pos hki, hki, List.getElem?_set_self hi]; rfl
      · rw [if_neg hki, List.getElem?_set_ne (Ne.symm hki), ← flatten_at m hm xs hx, ← ht, List.getElem?_take, if_pos hkl, Array.getElem?_toList]
    · rw [if_neg hkl, List.getElem?_eq_none]
      rw [flatten_len m _ hx', List.length_set]; omega
theorem own_block {w : World} {B : Nat} {e : TypeId} {m n q : Nat} {A : Option Addr} {xs : List (List Value)} (h : OwnC w B e m (.slice A n q) xs) (hn : 0 < xs.length) : ∃ g cur, A = some ⟨g, 0, none⟩ ∧ n = xs.length ∧ B ≤ g ∧ w.heap[g]? = some (.cells cur e (0, 0)) ∧ xs.length * m ≤ cur.size := by
  obtain ⟨h0, h⟩ := h
  rcases h with ⟨_, hz⟩ | ⟨g, cap, cur, hv, hb, hh, hn', _, hs, _⟩
  · omega
  · simp only [Value.slice.injEq] at hv
    obtain ⟨rfl, rfl, rfl⟩ := hv
    exact ⟨g, cur, rfl, rfl, hb, hh, by rw [hs]; exact Nat.mul_le_mul_right _ hn'⟩
theorem ints_set (l : List Int) (i : Nat) (x : Int) : (ints l).set i [.int .i64 x] = ints (l.set i x) := by unfold ints; rw [List.map_set]
theorem tris_set (l : List Tri) (i : Nat) (x : Tri) : (tris l).set i x.cells = tris (l.set i x) := by unfold tris; rw [List.map_set]
theorem put_int {w w' : World} {B g q : Nat} {l : List Int} {cur : Array Value} (h : OwnC w B 3 1 (.slice (some ⟨g, 0, none⟩) l.length q) (ints l)) (i : Nat) (hi : i < l.length) (x : Int) (hg : w.heap[g]? = some (.cells cur 3 (0, 0))) (hg' : w'.heap[g]? = some (.cells (cur.setIfInBounds i (.int .i64 x)) 3 (0, 0))) :
    OwnC w' B 3 1 (.slice (some ⟨g, 0, none⟩) l.length q) (ints (l.set i x)) := by
  have hl := ints_length l
  rw [← ints_set]
  rw [← hl] at h ⊢
  refine put_row h (by decide) (ints_len l) i (by rw [hl]; exact hi) [.int .i64 x] rfl hg hg' (by simp) (fun k hk => ?_)
  rw [Array.getElem?_setIfInBounds, Nat.div_one, Nat.mod_one]
  by_cases hik : i = k
  · rw [if_pos hik, if_pos hik.symm, if_pos (by omega)]; rfl
  · rw [if_neg hik, if_neg (Ne.symm hik)]
theorem put_tri {w w' : World} {B g q : Nat} {e : TypeId} {l : List Tri} {cur : Array Value} (h : OwnC w B e 3 (.slice (some ⟨g, 0, none⟩) l.length q) (tris l)) (i : Nat) (hi : i < l.length) (t : Tri) (hg : w.heap[g]? = some (.cells cur e (0, 0))) (hs : l.length * 3 ≤ cur.size)
    (hg' : w'.heap[g]? = some (.cells (((cur.setIfInBounds (i * 3) (.int .i64 t.a)).setIfInBounds (i * 3 + 1) (.int .i64 t.b)).setIfInBounds (i * 3 + 2) (.int .i64 t.c)) e (0, 0))) :
    OwnC w' B e 3 (.slice (some ⟨g, 0, none⟩) l.length q) (tris (l.set i t)) := by
  have hl := tris_length l
  rw [← tris_set]
  rw [← hl] at h ⊢
  refine put_row h (by decide) (tris_len l) i (by rw [hl]; exact hi) t.cells rfl hg hg' (by simp) (fun k hk => ?_)
  have h3 : i * 3 + 2 < cur.size := by omega
  rw [Array.getElem?_setIfInBounds, Array.getElem?_setIfInBounds, Array.getElem?_setIfInBounds]
  simp only [Array.size_setIfInBounds]
  by_cases h2 : i * 3 + 2 = k
  · rw [if_pos h2, if_pos h3, if_pos (by omega), show k % 3 = 2 by omega]; rfl
  rw [if_neg h2]
  by_cases h1 : i * 3 + 1 = k
  · rw [if_pos h1, if_pos (by omega), if_pos (by omega), show k % 3 = 1 by omega]; rfl
  rw [if_neg h1]
  by_cases h0 : i * 3 = k
  · rw [if_pos h0, if_pos (by omega), if_pos (by omega), show k % 3 = 0 by omega]; rfl
  rw [if_neg h0, if_neg (by omega)]
theorem own_lrow {w : World} {B : Nat} {e : TypeId} {m : Nat} {A : Option Addr} {n q : Nat} {xs : List (List Value)} (h : OwnC w B e m (.slice A n q) xs) (hm : 0 < m) (hx : ∀ y ∈ xs, y.length = m) : LRow w w.heap.size m A xs ∧ xs.length ≤ q := by
  obtain ⟨A', q', hv, hr, hq, _⟩ := h.row hm hx
  injection hv with h1 h2 h3
  subst h1; subst h3
  exact ⟨hr, hq⟩
structure Save (g : Option Nat) (w w' : World) : Prop where
  os : w'.os = w.os
  tape : w'.tape = w.tape
  output : w'.output = w.output
  size : w.heap.size ≤ w'.heap.size
  b : ∀ k, k < w.heap.size → g ≠ some k → w'.heap[k]? = w.heap[k]?
theorem Save.of {g : Option Nat} {w w' : World} (h : Below w.heap.size w w') : Save g w w' := ⟨h.os, h.tape, h.output, h.size, fun k hk _ => h.block k hk⟩
theorem Save.trans {g : Option Nat} {a b c : World} (h : Save g a b) (k : Save g b c) : Save g a c :=
  ⟨k.os.trans h.os, k.tape.trans h.tape, k.output.trans h.output, Nat.le_trans h.size k.size, fun i hi hg => (k.b i (Nat.lt_of_lt_of_le hi h.size) hg).trans (h.b i hi hg)⟩
theorem Save.below {g : Option Nat} {N : Nat} {W w w' : World} (h : Save g w w') (hb : Below N W w) (hN : N ≤ w.heap.size) (hg : ∀ k, g = some k → N ≤ k) : Below N W w' :=
  ⟨h.os.trans hb.os, h.tape.trans hb.tape, h.output.trans hb.output, Nat.le_trans hb.size h.size, fun k hk => (h.b k (by omega) (fun e => by have := hg k e; omega)).trans (hb.block k hk)⟩
theorem save_but {g : Nat} {w w' : World} (h : Cw.But g w w') : Save (some g) w w' := ⟨h.os, h.tape, h.output, Nat.le_of_eq h.z.symm, fun k _ hk => h.b k (fun e => hk (by rw [e]))⟩
theorem own_save {w w' : World} {N : Nat} {e : TypeId} {m n q : Nat} {A : Option Addr} {xs : List (List Value)} {g : Option Nat} (h : OwnC w N e m (.slice A n q) xs) (hs : Save g w w') (hne : ∀ k, A.map Addr.block = some k → g ≠ some k) : OwnC w' N e m (.slice A n q) xs := h.keep_at fun k _ hv => by
  have hk := (h.block_lt k hv).2
  refine hs.b k hk (hne k ?_)
  cases A with
  | none => cases hv
  | some a => exact hv
theorem other_type {w : World} {N : Nat} {e e' : TypeId} {m n q : Nat} {A : Option Addr} {xs : List (List Value)} {g : Nat} {cur : Array Value} (h : OwnC w N e m (.slice A n q) xs) (hg : w.heap[g]? = some (.cells cur e' (0, 0))) (he : e ≠ e') : ∀ k, A.map Addr.block = some k → (some g : Option Nat) ≠ some k := fun k hk e2 => by
  obtain rfl : g = k := by simpa using e2
  obtain ⟨c2, hc⟩ := own_type h (g := g) (by
    cases A with
    | none => cases hk
    | some a => exact hk)
  rw [hg] at hc
  simp only [Option.some.injEq, Obj.cells.injEq] at hc
  exact he hc.2.1.symm
theorem own_ge {w : World} {N : Nat} {e : TypeId} {m n q : Nat} {A : Option Addr} {xs : List (List Value)} (h : OwnC w N e m (.slice A n q) xs) : ∀ k, A.map Addr.block = some k → N ≤ k := fun k hk => (h.block_lt k (by
  cases A with
  | none => cases hk
  | some a => exact hk)).1
theorem own_typed {w : World} {N : Nat} {e : TypeId} {m n q : Nat} {A : Option Addr} {xs : List (List Value)} (h : OwnC w N e m (.slice A n q) xs) : ∀ k, A.map Addr.block = some k → ∃ cur, w.heap[k]? = some (.cells cur e (0, 0)) := fun k hk => own_type h (by
  cases A with
  | none => cases hk
  | some a => exact hk)
theorem own_part {w w' : World} {N : Nat} {e e' : TypeId} {m n q m' n' q' : Nat} {A A' : Option Addr} {xs xs' : List (List Value)} (h : OwnC w N e m (.slice A n q) xs) (h' : OwnC w N e' m' (.slice A' n' q') xs') (he : e ≠ e') (hs : Save (A'.map Addr.block) w w') : OwnC w' N e m (.slice A n q) xs :=
  own_save h hs fun k hk e2 => by
    obtain ⟨c1, h1⟩ := own_typed h k hk
    obtain ⟨c2, h2⟩ := own_typed h' k e2
    rw [h1] at h2
    simp only [Option.some.injEq, Obj.cells.injEq] at h2
    exact he h2.2.1
theorem sep_ne {A A' : Option Addr} (h : A.map Addr.block = A'.map Addr.block → A = none) : ∀ k, A.map Addr.block = some k → A'.map Addr.block ≠ some k := fun k hk e => by
  have := h (hk.trans e.symm)
  rw [this] at hk; cases hk
theorem sep_ne' {A A' : Option Addr} (h : A.map Addr.block = A'.map Addr.block → A = none) : ∀ k, A'.map Addr.block = some k → A.map Addr.block ≠ some k := fun k hk e => by
  have := h (e.trans hk.symm)
  rw [this] at e; cases e
theorem box_stays {w w' : World} {N k : Nat} {e e' : TypeId} {m n q : Nat} {A : Option Addr} {xs : List (List Value)} {cur : Array Value} (h : OwnC w N e m (.slice A n q) xs) (hs : Save (A.map Addr.block) w w') (hk : w.heap[k]? = some (.cells cur e' (0, 0))) (he : e' ≠ e) : w'.heap[k]? = some (.cells cur e' (0, 0)) :=
  (hs.b k (lt_of_block hk) fun e2 => by
    obtain ⟨c1, h1⟩ := own_typed h k e2
    rw [hk] at h1
    simp only [Option.some.injEq, Obj.cells.injEq] at h1
    exact he h1.2.1).trans hk
def upto {α : Type} (f : α → α) (l : List α) (j : Nat) : List α := (l.take j).map f ++ l.drop j
theorem upto_zero {α : Type} (f : α → α) (l : List α) : upto f l 0 = l := by simp [upto]
theorem upto_all {α : Type} (f : α → α) (l : List α) : upto f l l.length = l.map f := by simp [upto]
theorem upto_len {α : Type} (f : α → α) (l : List α) (j : Nat) : (upto f l j).length = l.length := by unfold upto; simp; omega
theorem upto_at {α : Type} (f : α → α) (l : List α) (j : Nat) (h : j < l.length) : (upto f l j)[j]'(by rw [upto_len]; exact h) = l[j] := by
  unfold upto
  rw [List.getElem_append_right (by simp; omega)]
  simp [Nat.min_eq_left (Nat.le_of_lt h)]
theorem upto_set {α : Type} (f : α → α) (l : List α) (j : Nat) (h : j < l.length) : (upto f l j).set j (f l[j]) = upto f l (j + 1) := by
  unfold upto
  rw [List.take_succ_eq_append_getElem h, List.map_append, List.map_cons, List.map_nil, List.set_append_right _ _ (by simp; omega)]
  have e : l.drop j = l[j] :: l.drop (j + 1) := (List.getElem_cons_drop h).symm
  rw [show j - ((l.take j).map f).length = 0 by rw [List.length_map, List.length_take]; omega, e, List.set_cons_zero, List.append_assoc]
  rfl

theorem HsAt.above {w w' : World} {C p m1 m2 n : Nat} {v : Value} {h : Hs} (H : HsAt w C p m1 m2 v h n) (hb : ∀ k, C ≤ k → k < w.heap.size → w'.heap[k]? = w.heap[k]?) : HsAt w' C p m1 m2 v h n := by
  obtain ⟨l1, l2, l3⟩ := H.lt
  obtain ⟨a, b, c⟩ := H.lo
  exact ⟨(hb p a l1).trans H.box, H.f.keep (hb m1 b l2), H.g.keep (hb m2 c l3), H.st.keep_at (fun g _ hg => hb g (H.st.block_lt g hg).1 (H.st.block_lt g hg).2), H.lo, H.ne, H.own⟩
/-- the copy's box, once its ands are those that stayed -/
def boxH (c : Cir) (s : Places) (va : Value) : Array Value := #[.int .i64 c.max, .slice s.ai c.ins.length s.ki, .slice s.al c.lats.length s.kl, .slice s.ao c.outs.length s.ko, .slice s.ab c.bads.length s.kb, .slice s.ac c.invs.length s.kc, va, .slice s.an c.names.length s.kn]
/-- the copy's lists while they are written over; what is being hashed lies above C -/
structure StH (N gd C p m1 m2 n : Nat) (va : Value) (h : Hs) (W : World) (c : Cir) (s : Places) (outs bads invs : List Int) (lats : List Tri) (w : World) : Prop where
  i : OwnC w N 3 1 (.slice s.ai c.ins.length s.ki) (ints c.ins)
  o : OwnC w N 3 1 (.slice s.ao c.outs.length s.ko) (ints outs)
  d : OwnC w N 3 1 (.slice s.ab c.bads.length s.kb) (ints bads)
  v : OwnC w N 3 1 (.slice s.ac c.invs.length s.kc) (ints invs)
  l : OwnC w N 39 3 (.slice s.al c.lats.length s.kl) (tris lats)
  nm : OwnC w N 73 3 (.slice s.an c.names.length s.kn) (nams c.names)
  x : w.heap[gd]? = some (.cells (boxH c s va) 27 (0, 0))
  hs : HsAt w C p m1 m2 va h n
  b : Below N W w
  z : N ≤ w.heap.size
  g : N ≤ gd
  lo : ∀ k, s.ao.map Addr.block = some k → k < C
  ld : ∀ k, s.ab.map Addr.block = some k → k < C
  lv : ∀ k, s.ac.map Addr.block = some k → k < C
  ll : ∀ k, s.al.map Addr.block = some k → k < C
section
variable {N gd C p m1 m2 n : Nat} {va : Value} {h : Hs} {W w w' : World} {c : Cir} {s : Places} {outs bads invs : List Int} {lats : List Tri}
theorem StH.below (H : StH N gd C p m1 m2 n va h W c s outs bads invs lats w) (hb : Below w.heap.size w w') : StH N gd C p m1 m2 n va h W c s outs bads invs lats w' :=
  ⟨H.i.keep hb, H.o.keep hb, H.d.keep hb, H.v.keep hb, H.l.keep hb, H.nm.keep hb, (hb.block gd (lt_of_block H.x)).trans H.x, H.hs.below hb, H.b.trans (hb.mono H.z), Nat.le_trans H.z hb.size, H.g, H.lo, H.ld, H.lv, H.ll⟩
theorem hs_save {A : Option Addr} (H : HsAt w C p m1 m2 va h n) (hA : ∀ k, A.map Addr.block = some k → k < C) (hs : Save (A.map Addr.block) w w') : HsAt w' C p m1 m2 va h n :=
  H.above fun k hk hl => hs.b k hl (fun e => by have := hA k e; omega)
theorem StH.latsTo (H : StH N gd C p m1 m2 n va h W c s outs bads invs lats w) (hs : Save (s.al.map Addr.block) w w') {lats' : List Tri} (hl : OwnC w' N 39 3 (.slice s.al c.lats.length s.kl) (tris lats')) : StH N gd C p m1 m2 n va h W c s outs bads invs lats' w' :=
  ⟨own_part H.i H.l (by decide) hs, own_part H.o H.l (by decide) hs, own_part H.d H.l (by decide) hs, own_part H.v H.l (by decide) hs, hl, own_part H.nm H.l (by decide) hs, box_stays H.l hs H.x (by decide), hs_save H.hs H.ll hs, hs.below H.b H.z (own_ge H.l), Nat.le_trans H.z hs.size, H.g, H.lo, H.ld, H.lv, H.ll⟩
end
def lstH (c : Cir) (s : Places) : Array Value := #[.slice s.ao c.outs.length s.ko, .slice s.ab c.bads.length s.kb, .slice s.ac c.invs.length s.kc]
def oneH (b : Prop) [Decidable b] (f : Int → Int) (l : List Int) : List Int := if b then l.map f else l
/-- the first j lists of numbers are written over; the row of the three lies in gL -/
def StL (N gd gL C p m1 m2 n : Nat) (va : Value) (h : Hs) (W : World) (c : Cir) (s : Places) (f : Int → Int) (j : Nat) (w : World) : Prop :=
  StH N gd C p m1 m2 n va h W c s (oneH (0 < j) f c.outs) (oneH (1 < j) f c.bads) (oneH (2 < j) f c.invs) c.lats w ∧ w.heap[gL]? = some (.cells (lstH c s) 22 (0, 0))
/-- list number j, and what is so once it is written over -/
def PickH (N gd gL C p m1 m2 n : Nat) (va : Value) (h : Hs) (W : World) (c : Cir) (s : Places) (f : Int → Int) (j : Nat) (w : World) (A : Option Addr) (q : Nat) (xs : List Int) : Prop :=
  (lstH c s)[j]? = some (.slice A xs.length q) ∧ OwnC w N 3 1 (.slice A xs.length q) (ints xs) ∧ (∀ x ∈ xs, I64 x) ∧ xs.length ≤ 64 ∧ (∀ k, A.map Addr.block = some k → k < C) ∧ ∀ w2, OwnC w2 N 3 1 (.slice A xs.length q) (ints (xs.map f)) → Save (A.map Addr.block) w w2 → StL N gd gL C p m1 m2 n va h W c s f (j + 1) w2
theorem pickH (N gd gL C p m1 m2 n : Nat) (va : Value) (h : Hs) (W : World) (c : Cir) (s : Places) (f : Int → Int) (j : Nat) (w : World) (hj : j < 3) (H : StL N gd gL C p m1 m2 n va h W c s f j w) {s0 : Places} (hf : CFits c s0) (hz : c.outs.length ≤ 64 ∧ c.bads.length ≤ 64 ∧ c.invs.length ≤ 64) (ha : Apart s) : ∃ A q xs, PickH N gd gL C p m1 m2 n va h W c s f j w A q xs := by
  obtain ⟨H, hL⟩ := H
  match j, hj with
  | 0, _ =>
    have o := H.o
    refine ⟨s.ao, s.ko, c.outs, rfl, o, hf.outs, hz.1, H.lo, fun w2 h2 hs => ⟨⟨own_save H.i hs (sep_ne ha.io), h2, own_save H.d hs (sep_ne' ha.ob), own_save H.v hs (sep_ne' ha.oc), own_part H.l o (by decide) hs, own_part H.nm o (by decide) hs, box_stays o hs H.x (by decide), hs_save H.hs H.lo hs, hs.below H.b H.z (own_ge o), Nat.le_trans H.z hs.size, H.g, H.lo, H.ld, H.lv, H.ll⟩, box_stays o hs hL (by decide)⟩⟩
  | 1, _ =>
    have o := H.d
    refine ⟨s.ab, s.kb, c.bads, rfl, o, hf.bads, hz.2.1, H.ld, fun w2 h2 hs => ⟨⟨own_save H.i hs (sep_ne ha.ib), own_save H.o hs (sep_ne ha.ob), h2, own_save H.v hs (sep_ne' ha.bc), own_part H.l o (by decide) hs, own_part H.nm o (by decide) hs, box_stays o hs H.x (by decide), hs_save H.hs H.ld hs, hs.below H.b H.z (own_ge o), Nat.le_trans H.z hs.size, H.g, H.lo, H.ld, H.lv, H.ll⟩, box_stays o hs hL (by decide)⟩⟩
  | 2, _ =>
    have o := H.v
    refine ⟨s.ac, s.kc, c.invs, rfl, o, hf.invs, hz.2.2, H.lv, fun w2 h2 hs => ⟨⟨own_save H.i hs (sep_ne ha.ic), own_save H.o hs (sep_ne ha.oc), own_save H.d hs (sep_ne ha.bc), h2, own_part H.l o (by decide) hs, own_part H.nm o (by decide) hs, box_stays o hs H.x (by decide), hs_save H.hs H.lv hs, hs.below H.b H.z (own_ge o), Nat.le_trans H.z hs.size, H.g, H.lo, H.ld, H.lv, H.ll⟩, box_stays o hs hL (by decide)⟩⟩
  | j + 3, h => exact absurd h (by omega)
end Go.Proofs.Ytpaneggajjgdlaa.Str
