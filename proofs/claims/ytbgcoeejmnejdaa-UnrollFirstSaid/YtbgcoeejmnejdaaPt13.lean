/- What is being hashed, as it lies in memory; no condition. What hashed.add does, walked; no condition but that the numbers fit. The walk of strash.hashing; no condition but that the numbers fit. Sorting a list of a call's own, and what is written down while what literals hang on is sought; no condition. The walk of circuit's Cone; no condition. strings.Clone: the same text; no condition but its size. -/
import Derived.Test.YtbgcoeejmnejdaaPt09
import Derived.Test.YtbgcoeejmnejdaaPt11
import Derived.Test.YtbgcoeejmnejdaaPt12
import Derived.Test.YtbgcoeejmnejdaaPt00
namespace Go.Proofs.Ytbgcoeejmnejdaa.Str
open Go.ChangeShapes Go.WideShapes Go.ChangeAt Go.RowKit Go.Maps Circ Cw

/-- block p is a hashed: its maps in blocks m1 and m2, its ands in v; none of them lies below C -/
structure HsAt (w : World) (C p m1 m2 : Nat) (v : Value) (h : Hs) (n : Nat) : Prop where
  box : w.heap[p]? = some (.cells #[.map (some m1), .map (some m2), v] 77 (0, 0))
  f : IsVars w m1 h.F n
  g : IsPairs w m2 h.G n
  st : OwnC w C 43 3 v (tris h.st)
  lo : C ≤ p ∧ C ≤ m1 ∧ C ≤ m2
  ne : m1 ≠ m2
  own : ∀ k, v.ownBlock = some k → k ≠ p ∧ k ≠ m1 ∧ k ≠ m2
theorem HsAt.cells {w : World} {C p m1 m2 n : Nat} {v : Value} {h : Hs} (H : HsAt w C p m1 m2 v h n) : w.cell? ⟨p, 0, none⟩ = some (.map (some m1)) ∧ w.cell? ⟨p, 1, none⟩ = some (.map (some m2)) ∧ w.cell? ⟨p, 2, none⟩ = some v := two_cells H.box
theorem HsAt.apart {w : World} {C p m1 m2 n : Nat} {v : Value} {h : Hs} (H : HsAt w C p m1 m2 v h n) : p ≠ m1 ∧ p ≠ m2 := ⟨H.f.ne_ H.cells.1, H.g.ne_ H.cells.1⟩
theorem HsAt.lt {w : World} {C p m1 m2 n : Nat} {v : Value} {h : Hs} (H : HsAt w C p m1 m2 v h n) : p < w.heap.size ∧ m1 < w.heap.size ∧ m2 < w.heap.size := ⟨(Array.getElem?_eq_some_iff.1 H.box).1, H.f.lt, H.g.lt⟩
theorem HsAt.keep {w w' : World} {C p m1 m2 n : Nat} {v : Value} {h : Hs} (H : HsAt w C p m1 m2 v h n) (hb : ∀ k, k < w.heap.size → w'.heap[k]? = w.heap[k]?) : HsAt w' C p m1 m2 v h n := by
  obtain ⟨l1, l2, l3⟩ := H.lt
  exact ⟨(hb p l1).trans H.box, H.f.keep (hb m1 l2), H.g.keep (hb m2 l3), H.st.keep_at (fun g _ hg => hb g (H.st.block_lt g hg).2), H.lo, H.ne, H.own⟩
theorem HsAt.below {w w' : World} {C p m1 m2 n : Nat} {v : Value} {h : Hs} (H : HsAt w C p m1 m2 v h n) (hb : Below w.heap.size w w') : HsAt w' C p m1 m2 v h n := H.keep fun k hk => hb.block k hk
theorem HsAt.more {w : World} {C p m1 m2 n m : Nat} {v : Value} {h : Hs} (H : HsAt w C p m1 m2 v h n) (hm : n ≤ m) : HsAt w C p m1 m2 v h m := by
  obtain ⟨a, ⟨n1, D1, b1, b2, b3⟩, ⟨n2, D2, c1, c2, c3⟩, d, e, f, g⟩ := H
  exact ⟨a, ⟨n1, D1, b1, Nat.le_trans b2 hm, b3⟩, ⟨n2, D2, c1, Nat.le_trans c2 hm, c3⟩, d, e, f, g⟩
/- one operation changes the world -/
structure Sole (k : Nat) (W0 W1 : World) (d : Nat → Bool) (w : World) : Prop where
  c0 : d k = false → w = W0
  c1 : d k = true → w = W1
theorem Sole.start (k : Nat) (W0 W1 : World) : Sole k W0 W1 (fun _ => false) W0 := ⟨fun _ => rfl, fun h => by cases h⟩
theorem Sole.read {k : Nat} {W0 W1 : World} {d : Nat → Bool} {w : World} (h : Sole k W0 W1 d w) {i : Nat} (hi : k ≠ i) : Sole k W0 W1 (fun j => decide (j = i) || d j) w := by
  obtain ⟨a, b⟩ := h
  constructor <;> simp only [hi, decide_false, Bool.false_or] <;> assumption
theorem Sole.did (k : Nat) (W0 W1 : World) (d : Nat → Bool) : Sole k W0 W1 (fun j => decide (j = k) || d j) W1 := by
  constructor <;> simp
/- three operations change it, one after the other -/
structure Chain (i j k : Nat) (W0 W1 W2 W3 : World) (d : Nat → Bool) (w : World) : Prop where
  c0 : d i = false → w = W0
  c1 : d i = true → d j = false → w = W1
  c2 : d j = true → d k = false → w = W2
  c3 : d k = true → w = W3
  oj : d j = true → d i = true
  ok : d k = true → d j = true
section
variable {i j k : Nat} {W0 W1 W2 W3 : World} {d : Nat → Bool} {w : World}
theorem Chain.start : Chain i j k W0 W1 W2 W3 (fun _ => false) W0 := ⟨fun _ => rfl, (fun h => by cases h), (fun h => by cases h), (fun h => by cases h), (fun h => by cases h), (fun h => by cases h)⟩
theorem Chain.read (h : Chain i j k W0 W1 W2 W3 d w) {x : Nat} (hi : i ≠ x) (hj : j ≠ x) (hk : k ≠ x) : Chain i j k W0 W1 W2 W3 (fun y => decide (y = x) || d y) w := by
  obtain ⟨a, b, c, e, f, g⟩ := h
  constructor <;> simp only [hi, hj, hk, decide_false, Bool.false_or] <;> assumption
theorem Chain.first (hj : d j = false) (hk : d k = false) (e1 : j ≠ i) (e2 : k ≠ i) : Chain i j k W0 W1 W2 W3 (fun y => decide (y = i) || d y) W1 := by
  constructor <;> simp [hj, hk, e1, e2]
theorem Chain.second (hi : d i = true) (hk : d k = false) (e1 : k ≠ j) : Chain i j k W0 W1 W2 W3 (fun y => decide (y = j) || d y) W2 := by
  constructor <;> simp [hi, hk, e1]
end
/- operations -/
theorem op_move (a : Act) (w : World) (t : Nat) (oo : Oper) (ho : oo.op = .move (.tmp t)) : (execOp a.eval oo).run Try.prog w = .ok (.value (a.tmps.getD t undef)) w := by
  unfold execOp
  rw [ho]
  go_simp
theorem op_assign (a : Act) (w : World) (t : Nat) (oo : Oper) (ho : oo.op = .assign (.tmp t)) : (execOp a.eval oo).run Try.prog w = .ok (.value (a.tmps.getD t undef)) w := by
  unfold execOp
  rw [ho]
  go_simp
theorem op_call1 (a : Act) (w : World) (f t T : Nat) (hf : ∀ args w, (callFunc f args).run Try.prog w = .ok (.enter f args) w) (oo : Oper) (ho : oo.op = .call { callee := .value (.func f), args := #[.tmp t], argTypes := #[T] }) : (execOp a.eval oo).run Try.prog w = .ok (.enter f #[a.tmps.getD t undef]) w := by
  unfold execOp
  rw [ho]
  go_simp
end Go.Proofs.Ytbgcoeejmnejdaa.Str
namespace Go.Proofs.Ytbgcoeejmnejdaa.Str
open Go.ChangeShapes Go.WideShapes Go.ChangeAt Go.RowKit Go.Maps Circ Cw

theorem op_field_api_And_0 (a : Act) (w : World) (b : Nat) (t : Nat) (h : a.tmps.getD t undef = .pointer (some ⟨b, 0, none⟩)) (oo : Oper) (ho : oo.op = .fieldAddr 43 (.tmp t) 0) : (execOp a.eval oo).run Try.prog w = .ok (.value (.pointer (some ⟨b, 0, none⟩))) w := by
  have h' : a.tmps[t]?.getD undef = .pointer (some ⟨b, 0, none⟩) := by simpa using h
  unfold execOp
  rw [ho]
  go_simp
theorem op_load_int (a : Act) (w : World) (A : Addr) (t : Nat) (v : Value) (h : a.tmps.getD t undef = .pointer (some A)) (hc : w.cell? A = some v) (oo : Oper) (ho : oo.op = .load 3 (.tmp t)) : (execOp a.eval oo).run Try.prog w = .ok (.value v) w := by
  have h' : a.tmps[t]?.getD undef = .pointer (some A) := by simpa using h
  unfold execOp
  rw [ho]
  go_simp
theorem op_load_Lapi_And (a : Act) (w : World) (A : Addr) (t : Nat) (v : Value) (h : a.tmps.getD t undef = .pointer (some A)) (hc : w.cell? A = some v) (oo : Oper) (ho : oo.op = .load 24 (.tmp t)) : (execOp a.eval oo).run Try.prog w = .ok (.value v) w := by
  have h' : a.tmps[t]?.getD undef = .pointer (some A) := by simpa using h
  unfold execOp
  rw [ho]
  go_simp
end Go.Proofs.Ytbgcoeejmnejdaa.Str
namespace Go.Proofs.Ytbgcoeejmnejdaa.Str
open Go.ChangeShapes Go.WideShapes Go.ChangeAt Go.RowKit Go.Maps Circ Cw

/- one operation changes the world, into one of which P holds -/
structure Last (k : Nat) (W0 : World) (P : World → Prop) (d : Nat → Bool) (w : World) : Prop where
  c0 : d k = false → w = W0
  c1 : d k = true → P w
theorem Last.start (k : Nat) (W0 : World) (P : World → Prop) : Last k W0 P (fun _ => false) W0 := ⟨fun _ => rfl, fun h => by cases h⟩
theorem Last.read {k : Nat} {W0 w : World} {P : World → Prop} {d : Nat → Bool} (h : Last k W0 P d w) {i : Nat} (hi : k ≠ i) : Last k W0 P (fun j => decide (j = i) || d j) w := by
  obtain ⟨a, b⟩ := h
  constructor <;> simp only [hi, decide_false, Bool.false_or] <;> assumption
theorem Last.did {k : Nat} (W0 : World) {w : World} {P : World → Prop} (d : Nat → Bool) (h : P w) : Last k W0 P (fun j => decide (j = k) || d j) w := ⟨(by simp), fun _ => h⟩
theorem op_call2s (a : Act) (w : World) (f t s T S : Nat) (hf : ∀ args w, (callFunc f args).run Try.prog w = .ok (.enter f args) w) (oo : Oper) (ho : oo.op = .call { callee := .value (.func f), args := #[.tmp t, .tmp s], argTypes := #[T, S] }) : (execOp a.eval oo).run Try.prog w = .ok (.enter f #[a.tmps.getD t undef, a.tmps.getD s undef]) w := by
  unfold execOp
  rw [ho]
  go_simp
/- all numbers fit -/
structure FitH (h : Hs) : Prop where
  f : ∀ v s, h.F v = some s → I64 s
  g : ∀ q s, h.G q = some s → I64 s
end Go.Proofs.Ytbgcoeejmnejdaa.Str
namespace Go.Proofs.Ytbgcoeejmnejdaa.Cw
open Go.ChangeShapes Go.WideShapes Go.ChangeAt Go.RowKit Go.Maps Circ

theorem OwnI.mono {w : World} {base C : Nat} {v : Value} {xs : List Int} (h : OwnI w base v xs) (hC : C ≤ base) : OwnI w C v xs := by
  obtain ⟨h0, h⟩ := h
  refine ⟨h0, ?_⟩
  rcases h with h | ⟨g, cap, cur, hv, hg, r⟩
  · exact .inl h
  · exact .inr ⟨g, cap, cur, hv, by omega, r⟩

/-- what is written down behind k of the literals -/
def Got (ands : List Tri) (l : List Int) (k : Nat) (T : List Int) : Prop := T.Nodup ∧ (∀ u ∈ T, Hangs ands l u) ∧ ∀ x ∈ l.take k, cnt x / 2 = 0 ∨ cnt x / 2 ∈ T
def inn (T : List Int) (x : Int) : Prop := cnt x / 2 = 0 ∨ cnt x / 2 ∈ T
theorem inn_put (T : List Int) (x y : Int) (h : inn T y) : inn (put T x) y := by
  rcases h with h | h
  · exact .inl h
  · exact .inr ((mem_put T x _).2 (.inl h))
theorem inn_self (T : List Int) (x : Int) : inn (put T x) x := by
  by_cases h : cnt x / 2 = 0
  · exact .inl h
  · exact .inr ((mem_put T x _).2 (.inr ⟨rfl, h⟩))
theorem Got.zero (ands : List Tri) (l : List Int) : Got ands l 0 [] := ⟨List.nodup_nil, by simp, by simp⟩
theorem Got.put {ands : List Tri} {l : List Int} {k : Nat} {T : List Int} (h : Got ands l k T) (x : Int) (hx : cnt x / 2 ≠ 0 → Hangs ands l (cnt x / 2)) : Got ands l k (put T x) := by
  refine ⟨put_nodup T x h.1, fun u hu => ?_, fun y hy => inn_put T x y (h.2.2 y hy)⟩
  rcases (mem_put T x u).1 hu with h1 | ⟨rfl, h2⟩
  · exact h.2.1 u h1
  · exact hx h2
theorem Got.step {ands : List Tri} {l : List Int} {k : Nat} {T : List Int} (h : Got ands l k T) (hk : k < l.length) : Got ands l (k + 1) (Cw.put T l[k]) := by
  have h1 := h.put l[k] (fun h0 => .start _ (List.getElem_mem _) h0)
  refine ⟨h1.1, h1.2.1, fun y hy => ?_⟩
  rw [List.take_succ_eq_append_getElem hk, List.mem_append, List.mem_singleton] at hy
  rcases hy with hy | rfl
  · exact h1.2.2 y hy
  · exact inn_self T _
theorem Got.len {ands : List Tri} {l : List Int} {k : Nat} {T : List Int} (h : Got ands l k T) : T.length ≤ l.length + 2 * ands.length := hangs_len h.1 h.2.1
/-- the first j of them have been gone through -/
def Clo (ands : List Tri) (j : Nat) (T : List Int) : Prop := ∀ (i : Nat) (h : i < T.length), i < j → ∀ t, andOf ands T[i] = some t → inn T t.b ∧ inn T t.c
theorem Clo.zero (ands : List Tri) (T : List Int) : Clo ands 0 T := fun _ _ h => by omega
theorem Clo.put {ands : List Tri} {j : Nat} {T : List Int} (h : Clo ands j T) (hj : j ≤ T.length) (x : Int) : Clo ands j (Cw.put T x) := fun i hi hij t ht => by
  obtain ⟨_, e⟩ := put_get T x i (by omega)
  rw [e] at ht
  obtain ⟨a, b⟩ := h i (by omega) hij t ht
  exact ⟨inn_put T x _ a, inn_put T x _ b⟩
theorem Clo.skip {ands : List Tri} {j : Nat} {T : List Int} (h : Clo ands j T) (hj : j < T.length) (hn : andOf ands T[j] = none) : Clo ands (j + 1) T := fun i hi hij t ht => by
  by_cases e : i = j
  · subst e; rw [hn] at ht; cases ht
  · exact h i hi (by omega) t ht
theorem Clo.more {ands : List Tri} {j : Nat} {T : List Int} (h : Clo ands j T) (hj : j < T.length) (t : Tri) (hn : andOf ands T[j] = some t) : Clo ands (j + 1) (Cw.put (Cw.put T t.b) t.c) := fun i hi hij t' ht => by
  have h2 := (h.put (by omega) t.b).put (by have := put_len T t.b; omega) t.c
  by_cases e : i = j
  · subst e
    obtain ⟨h3, e1⟩ := put_get T t.b i hj
    obtain ⟨_, e2⟩ := put_get (Cw.put T t.b) t.c i h3
    rw [e2, e1, hn] at ht
    obtain rfl := Option.some.inj ht
    exact ⟨inn_put _ _ _ (inn_self T _), inn_self _ _⟩
  · exact h2 i hi (by omega) t' ht
theorem Clo.done {ands : List Tri} {l T : List Int} (h : Clo ands T.length T) (g : Got ands l l.length T) (u : Int) : u ∈ T ↔ Hangs ands l u := by
  refine ⟨g.2.1 u, fun hu => ?_⟩
  have key : ∀ v ∈ T, ∀ t, andOf ands v = some t → inn T t.b ∧ inn T t.c := fun v hv t ht => by
    obtain ⟨i, hi, rfl⟩ := List.getElem_of_mem hv
    exact h i hi hi t ht
  induction hu with
  | start x hx h0 =>
    rcases g.2.2 x (by rwa [List.take_of_length_le (Nat.le_refl _)]) with h1 | h1
    · exact absurd h1 h0
    · exact h1
  | left v t _ ht h0 ih =>
    rcases (key v ih t ht).1 with h1 | h1
    · exact absurd h1 h0
    · exact h1
  | right v t _ ht h0 ih =>
    rcases (key v ih t ht).2 with h1 | h1
    · exact absurd h1 h0
    · exact h1
end Go.Proofs.Ytbgcoeejmnejdaa.Cw
namespace Go.Proofs.Ytbgcoeejmnejdaa.Cw
open Go.ChangeShapes Go.WideShapes Go.ChangeAt Go.RowKit Go.Maps Circ

end Go.Proofs.Ytbgcoeejmnejdaa.Cw
namespace Go.Proofs.Ytbgcoeejmnejdaa.Cpy
open Go.ChangeShapes Go.WideShapes Go.ChangeAt Go.RowKit Circ Cw

theorem strclone_any (s : ByteArray) (w : World) (hs : s.size ≤ 281474976710656) : Calls Try.prog 96 #[.string s] w fun e w' => e = .returned (.string s) ∧ Below w.heap.size w w' := by
  have C := Lib.hid (Try.stringslite_Clone s w hs)
  go_enter Try.func96, Try.ntmps96
  go_wp2_with fail
  refine C.out.mono ?_
  rintro e w' ⟨rfl, hb⟩
  go_wp2
  go_ret
  exact ⟨rfl, hb⟩
end Go.Proofs.Ytbgcoeejmnejdaa.Cpy
