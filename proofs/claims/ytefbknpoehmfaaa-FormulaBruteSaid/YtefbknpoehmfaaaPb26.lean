/- The setter's another, in memory. Condition: literals of the formula's variables; at most 2^18 of them, 2^20 clauses. -/
import Derived.Test.YtefbknpoehmfaaaPb25
import Derived.Test.YtefbknpoehmfaaaPb05
import Derived.RangeFuncWrites
import Derived.RangeFuncLeaves
import Derived.TacticsInMore
namespace Go.Proofs.Ytefbknpoehmfaaa.For
open Go.ChangeShapes Go.WideShapes Go.ChangeAt Go.RowKit Go.Maps Go.Sort Go.Shelf Circ Cw Cla Rep Str

attribute [local go_sem] Oper.semAt_some

theorem op_call2 (a : Act) (w : World) (f t s T1 T2 : Nat) (hf : ∀ args w, (callFunc f args).run Try.prog w = .ok (.enter f args) w) (oo : Oper) (ho : oo.op = .call { callee := .value (.func f), args := #[.tmp t, .tmp s], argTypes := #[T1, T2] }) : (execOp a.eval oo).run Try.prog w = .ok (.enter f #[a.tmps.getD t undef, a.tmps.getD s undef]) w := by
  unfold execOp
  rw [ho]
  go_simp
def an1R (R b A0 : Nat) (A : Option Addr) (n q : Nat) : Nat → (Nat → Value) → World → Prop
  | 0, f, _ => f 6 = .pointer (some ⟨R, 0, none⟩)
  | 1, f, _ => f 7 = .pointer (some ⟨b, 0, none⟩)
  | 2, f, _ => f 8 = .pointer (some ⟨b, 0, none⟩)
  | 3, f, _ => f 9 = .pointer (some ⟨b, 2, none⟩)
  | 4, f, _ => f 10 = .slice A n q
  | 5, f, _ => f 11 = .func (.func 68) #[] #[.pointer (some ⟨A0 + 1, 0, none⟩), .pointer (some ⟨A0, 0, none⟩)]
  | _, _, _ => True
def an1M : Nat → List Nat
  | 0 => [6]
  | 1 => [7]
  | 2 => [8]
  | 3 => [9]
  | 4 => [10]
  | 5 => [11]
  | _ => []
theorem an1_stab {R b A0 : Nat} {A : Option Addr} {n q : Nat} (jj : Nat) {f f' : Nat → Value} {w w' : World} (hf : ∀ t ∈ an1M jj, f' t = f t) (h : an1R R b A0 A n q jj f w) : an1R R b A0 A n q jj f' w' := by
  match jj, hf, h with
  | 0, hf, h => exact (hf 6 (by decide)).trans h
  | 1, hf, h => exact (hf 7 (by decide)).trans h
  | 2, hf, h => exact (hf 8 (by decide)).trans h
  | 3, hf, h => exact (hf 9 (by decide)).trans h
  | 4, hf, h => exact (hf 10 (by decide)).trans h
  | 5, hf, h => exact (hf 11 (by decide)).trans h
  | _ + 6, _, _ => trivial
def an5R (b j n q : Nat) (A : Option Addr) (x : Int) : Nat → (Nat → Value) → World → Prop
  | 0, f, _ => f 20 = .pointer (some ⟨b, 0, none⟩)
  | 1, f, _ => f 21 = .pointer (some ⟨b, 0, none⟩)
  | 2, f, _ => f 22 = .int .i64 x
  | 3, f, _ => f 23 = .pointer (some ⟨b, 0, none⟩)
  | 4, f, _ => f 24 = .pointer (some ⟨b, 0, none⟩)
  | 5, f, _ => f 25 = .pointer (some ⟨b, 2, none⟩)
  | 6, f, _ => f 26 = .slice A n q
  | 7, f, _ => f 27 = .int .i64 (j : Int)
  | 8, f, _ => f 28 = .int .i64 ((j : Int) + 1)
  | 9, f, _ => f 29 = .slice (tailA A q (j + 1)) (n - (j + 1)) (q - (j + 1))
  | 10, f, _ => f 30 = .pointer (some ⟨b, 0, none⟩)
  | 11, f, _ => f 31 = .pointer (some ⟨b, 1, none⟩)
  | 12, _, _ => True
  | 13, f, _ => f 32 = .pointer (some ⟨b, 0, none⟩)
  | 14, f, _ => f 33 = .pointer (some ⟨b, 2, none⟩)
  | 15, _, _ => True
  | _, _, _ => True
def an5M : Nat → List Nat
  | 0 => [20]
  | 1 => [21]
  | 2 => [22]
  | 3 => [23]
  | 4 => [24]
  | 5 => [25]
  | 6 => [26]
  | 7 => [27]
  | 8 => [28]
  | 9 => [29]
  | 10 => [30]
  | 11 => [31]
  | 12 => []
  | 13 => [32]
  | 14 => [33]
  | 15 => []
  | _ => []
theorem an5_stab {b j n q : Nat} {A : Option Addr} {x : Int} (jj : Nat) {f f' : Nat → Value} {w w' : World} (hf : ∀ t ∈ an5M jj, f' t = f t) (h : an5R b j n q A x jj f w) : an5R b j n q A x jj f' w' := by
  match jj, hf, h with
  | 0, hf, h => exact (hf 20 (by decide)).trans h
  | 1, hf, h => exact (hf 21 (by decide)).trans h
  | 2, hf, h => exact (hf 22 (by decide)).trans h
  | 3, hf, h => exact (hf 23 (by decide)).trans h
  | 4, hf, h => exact (hf 24 (by decide)).trans h
  | 5, hf, h => exact (hf 25 (by decide)).trans h
  | 6, hf, h => exact (hf 26 (by decide)).trans h
  | 7, hf, h => exact (hf 27 (by decide)).trans h
  | 8, hf, h => exact (hf 28 (by decide)).trans h
  | 9, hf, h => exact (hf 29 (by decide)).trans h
  | 10, hf, h => exact (hf 30 (by decide)).trans h
  | 11, hf, h => exact (hf 31 (by decide)).trans h
  | 12, _, _ => trivial
  | 13, hf, h => exact (hf 32 (by decide)).trans h
  | 14, hf, h => exact (hf 33 (by decide)).trans h
  | 15, _, _ => trivial
  | _ + 16, _, _ => trivial
def an6R (R b bw m p g : Nat) (x : Int) (v v2 : Value) : Nat → (Nat → Value) → World → Prop
  | 0, f, _ => f 34 = .pointer (some ⟨R, 0, none⟩)
  | 1, f, _ => f 35 = .pointer (some ⟨R, 0, none⟩)
  | 2, f, _ => f 36 = .pointer (some ⟨R, 2, none⟩)
  | 3, f, _ => f 37 = .slice (some ⟨bw, 0, none⟩) m m
  | 4, f, _ => f 38 = .int .i64 x
  | 5, f, _ => f 39 = .int .i64 (p : Int)
  | 6, f, _ => f 40 = .pointer (some ⟨R, 0, none⟩)
  | 7, f, _ => f 41 = .pointer (some ⟨R, 0, none⟩)
  | 8, f, _ => f 42 = .pointer (some ⟨R, 2, none⟩)
  | 9, f, _ => f 43 = .slice (some ⟨bw, 0, none⟩) m m
  | 10, f, _ => f 44 = .int .i64 x
  | 11, f, _ => f 45 = .int .i64 (p : Int)
  | 12, f, _ => f 46 = .pointer (some ⟨bw, 0 + p, none⟩)
  | 13, f, _ => f 47 = v
  | 14, f, _ => f 48 = .pointer (some ⟨b, 0, none⟩)
  | 15, f, _ => f 49 = .slice (some ⟨g, 0, none⟩) 1 1
  | 16, f, _ => f 50 = v2
  | 17, f, _ => f 51 = .pointer (some ⟨bw, 0 + p, none⟩)
  | 18, _, _ => True
  | _, _, _ => True
def an6M : Nat → List Nat
  | 0 => [34]
  | 1 => [35]
  | 2 => [36]
  | 3 => [37]
  | 4 => [38]
  | 5 => [39]
  | 6 => [40]
  | 7 => [41]
  | 8 => [42]
  | 9 => [43]
  | 10 => [44]
  | 11 => [45]
  | 12 => [46]
  | 13 => [47]
  | 14 => [48]
  | 15 => [49]
  | 16 => [50]
  | 17 => [51]
  | 18 => []
  | _ => []
theorem an6_stab {R b bw m p g : Nat} {x : Int} {v v2 : Value} (jj : Nat) {f f' : Nat → Value} {w w' : World} (hf : ∀ t ∈ an6M jj, f' t = f t) (h : an6R R b bw m p g x v v2 jj f w) : an6R R b bw m p g x v v2 jj f' w' := by
  match jj, hf, h with
  | 0, hf, h => exact (hf 34 (by decide)).trans h
  | 1, hf, h => exact (hf 35 (by decide)).trans h
  | 2, hf, h => exact (hf 36 (by decide)).trans h
  | 3, hf, h => exact (hf 37 (by decide)).trans h
  | 4, hf, h => exact (hf 38 (by decide)).trans h
  | 5, hf, h => exact (hf 39 (by decide)).trans h
  | 6, hf, h => exact (hf 40 (by decide)).trans h
  | 7, hf, h => exact (hf 41 (by decide)).trans h
  | 8, hf, h => exact (hf 42 (by decide)).trans h
  | 9, hf, h => exact (hf 43 (by decide)).trans h
  | 10, hf, h => exact (hf 44 (by decide)).trans h
  | 11, hf, h => exact (hf 45 (by decide)).trans h
  | 12, hf, h => exact (hf 46 (by decide)).trans h
  | 13, hf, h => exact (hf 47 (by decide)).trans h
  | 14, hf, h => exact (hf 48 (by decide)).trans h
  | 15, hf, h => exact (hf 49 (by decide)).trans h
  | 16, hf, h => exact (hf 50 (by decide)).trans h
  | 17, hf, h => exact (hf 51 (by decide)).trans h
  | 18, _, _ => trivial
  | _ + 19, _, _ => trivial
def an7R (R b : Nat) (x : Int) : Nat → (Nat → Value) → World → Prop
  | 0, f, _ => f 52 = .pointer (some ⟨R, 0, none⟩)
  | 1, f, _ => f 53 = .pointer (some ⟨b, 0, none⟩)
  | 2, f, _ => f 54 = .pointer (some ⟨b, 0, none⟩)
  | 3, f, _ => f 55 = .pointer (some ⟨b, 0, none⟩)
  | 4, f, _ => f 56 = .int .i64 x
  | 5, _, _ => True
  | _, _, _ => True
def an7M : Nat → List Nat
  | 0 => [52]
  | 1 => [53]
  | 2 => [54]
  | 3 => [55]
  | 4 => [56]
  | 5 => []
  | _ => []
theorem an7_stab {R b : Nat} {x : Int} (jj : Nat) {f f' : Nat → Value} {w w' : World} (hf : ∀ t ∈ an7M jj, f' t = f t) (h : an7R R b x jj f w) : an7R R b x jj f' w' := by
  match jj, hf, h with
  | 0, hf, h => exact (hf 52 (by decide)).trans h
  | 1, hf, h => exact (hf 53 (by decide)).trans h
  | 2, hf, h => exact (hf 54 (by decide)).trans h
  | 3, hf, h => exact (hf 55 (by decide)).trans h
  | 4, hf, h => exact (hf 56 (by decide)).trans h
  | 5, _, _ => trivial
  | _ + 6, _, _ => trivial
/-- the setter stays while only what is no cells and lies beyond turns -/
theorem mat_from {α : Type} (B n0 : Nat) (hB : B ≤ n0) (W0 : World) (hn : B ≤ W0.heap.size) (M : α → Mem → Prop) (S : α → St) (C : α → Prop) :
    OwnFrom n0 (fun (a : α) W => C a ∧ (∃ M', M a M' ∧ Mat W B M' (S a)) ∧ Below B W0 W) := fun a W W' row ⟨hc, ⟨M', h1, h2⟩, h3⟩ hg hr => by
  have hb : Below B W W' := (Below.refl B W).grown hg (Nat.le_trans hn h3.size) (fun j e => Nat.le_trans hB (hr j e).1)
  refine ⟨hc, ⟨M', h1, h2.keepC (fun k c T z hk => hg.block k (Array.getElem?_eq_some_iff.1 hk).1 fun e => ?_) hb⟩, h3.trans hb⟩
  obtain ⟨_, o, ho, hcc⟩ := hr k e.symm
  rw [hk] at ho
  obtain rfl := Option.some.inj ho
  cases hcc
structure Two (i j : Nat) (W0 W1 W2 : World) (d : Nat → Bool) (w : World) : Prop where
  c0 : d i = false → w = W0
  c1 : d i = true → d j = false → w = W1
  c2 : d j = true → w = W2
  oj : d j = true → d i = true
section
variable {i j : Nat} {W0 W1 W2 : World} {d : Nat → Bool} {w : World}
theorem Two.start : Two i j W0 W1 W2 (fun _ => false) W0 := ⟨fun _ => rfl, (fun h => by cases h), (fun h => by cases h), (fun h => by cases h)⟩
theorem Two.read (h : Two i j W0 W1 W2 d w) {x : Nat} (hi : i ≠ x) (hj : j ≠ x) : Two i j W0 W1 W2 (fun y => decide (y = x) || d y) w := by
  obtain ⟨a, b, c, e⟩ := h
  constructor <;> simp only [hi, hj, decide_false, Bool.false_or] <;> assumption
theorem Two.first (hj : d j = false) (e1 : j ≠ i) : Two i j W0 W1 W2 (fun y => decide (y = i) || d y) W1 := by
  constructor <;> simp [hj, e1]
theorem Two.second (hi : d i = true) : Two i j W0 W1 W2 (fun y => decide (y = j) || d y) W2 := by
  constructor <;> simp [hi]
theorem Two.any (h : Two i j W0 W1 W2 d w) (hj : d j = false) : w = W0 ∨ w = W1 := by
  cases hi : d i with
  | false => exact .inl (h.c0 hi)
  | true => exact .inr (h.c1 hi hj)
end
theorem post_put {B : Nat} {W : World} {M : Mem} {s : St} {r : Option St} {e : Ending} {WE : World} {D : Nat} {x : Option (List Deferred)} (h : Post B W M s r e WE) (hD : WE.heap[D]? = some (.deferred x)) (hB : B ≤ D) (o : Obj) : Post B W M s r e (WE.putObj D o) := by
  have hg := grownBy_putObj' WE D o
  have hDl := at_heap hD
  have hb : Below B WE (WE.putObj D o) := (Below.refl B WE).grown hg (by omega) (fun j e => by cases e; exact hB)
  refine ⟨fun hr => ⟨(h.1 hr).1, (h.1 hr).2.trans hb⟩, fun s' hs => ?_⟩
  obtain ⟨h1, ⟨M', h2, h3⟩, h4⟩ := h.2 s' hs
  refine ⟨h1, ⟨M', h2.keepC (fun k c T z hk => hg.block k (at_heap hk) fun e => ?_) hb, h3⟩, h4.trans hb⟩
  obtain rfl : k = D := Option.some.inj e
  rw [hk] at hD
  cases hD
/-- where the loop over the literals that may be true ends early -/
def Stops {set l : List Int} (kept : Int) (pre : List (Opens set l)) : Prop := ∃ a x, pre = a ++ [x] ∧ (∀ y ∈ a, y.1.2 = kept) ∧ x.1.2 ≠ kept
/-- what the clause then waits for -/
def nextS {set l : List Int} (s : St) (i : Nat) (kept : Int) (rest : List Int) (pre : List (Opens set l)) : St := match pre.getLast? with
  | some x => { s with ws := s.ws.set i ⟨kept, x.1.2, rest.drop (x.1.1 + 1)⟩, waits := s.waits.set (plc x.1.2) (waitsOf s x.1.2 ++ [i]) }
  | none => s
def Moved {set l : List Int} (M : Mem) (pre : List (Opens set l)) (M' : Mem) : Prop := M'.R = M.R ∧ M'.bs = M.bs ∧ M'.bw = M.bw ∧ M'.bl = M.bl ∧ ∀ p, (∀ x, pre.getLast? = some x → plc x.1.2 ≠ p) → M'.vs[p]? = M.vs[p]?
theorem stops_next {set l : List Int} {kept : Int} {pre : List (Opens set l)} (hp : pre.map Subtype.val <+: opensL set 0 l) (hs : Stops kept pre) : ∃ x, pre.getLast? = some x ∧ findP set kept l = some (x.1.2, l.drop (x.1.1 + 1)) := by
  obtain ⟨a, x, rfl, ha, hx⟩ := hs
  obtain ⟨t, ht⟩ := hp
  rw [List.map_append, List.map_singleton, List.append_assoc] at ht
  obtain ⟨-, -, h3⟩ := opens_some (a := a.map Subtype.val) (b := t) (j := x.1.1) (n := x.1.2) ht.symm (fun y hy => by
    obtain ⟨z, hz, rfl⟩ := List.mem_map.1 hy
    exact ha z hz) hx
  exact ⟨x, by simp, h3⟩
set_option maxHeartbeats 32000000 in
set_option maxRecDepth 100000 in
theorem another_mem (W : World) (B : Nat) (M : Mem) (s : St) (i : Nat) (h : Mat W B M s) (hB : B ≤ W.heap.size) (hi : i < s.ws.length) (hN : s.set.length ≤ 262145) (hq : s.queue.length ≤ 1048576)
    (hlit : ∀ y, (y = (s.ws.getD i default).kept ∨ y ∈ (s.ws.getD i default).rest) → y.natAbs < s.set.length) (hpl : ∀ x ∈ (s.ws.getD i default).rest, plc x < s.waits.length) (hll : ∀ x ∈ (s.ws.getD i default).rest, (s.waits.getD (plc x) []).length ≤ 1099511627776) :
    Calls Try.prog 48 #[.pointer (some ⟨M.R, 0, none⟩), .pointer (some ⟨M.bl.getD i 0, 0, none⟩)] W (Post B W M s (anotherP s i)) := by
  obtain ⟨w, hw⟩ : ∃ w, s.ws[i]? = some w := ⟨_, List.getElem?_eq_getElem hi⟩
  have hgd : s.ws.getD i default = w := getD_some hw
  rw [hgd] at hlit hll hpl
  obtain ⟨A, q, hbx, hrest, hcap⟩ := (h.wat i w hw).box
  have hAN : anotherP s i = match findP s.set w.kept w.rest with
    | none => setsP s w.kept
    | some (x, r) => some { s with ws := s.ws.set i ⟨w.kept, x, r⟩, waits := s.waits.set (plc x) (waitsOf s x ++ [i]) } := by
    unfold anotherP; rw [hgd]; rfl
  obtain ⟨kept, other, rest⟩ := w
  simp only at hlit hbx hrest hcap hAN hll hpl
  obtain ⟨b, hbeq⟩ : ∃ b, M.bl.getD i 0 = b := ⟨_, rfl⟩
  rw [hbeq] at hbx ⊢
  obtain ⟨W1, hW1⟩ : ∃ y, W.alloc (.cells #[.pointer (some ⟨M.R, 0, none⟩)] 79) = y := ⟨_, rfl⟩
  have b1 : Below W.heap.size W W1 := by rw [← hW1]; exact (Below.refl _ _).alloc (Nat.le_refl _) _
  have s1 : W1.heap.size = W.heap.size + 1 := by rw [← hW1]; simp
  have g1 : W1.heap[W.heap.size]? = some (.cells #[.pointer (some ⟨M.R, 0, none⟩)] 79 (0, 0)) := by rw [← hW1]; exact Array.getElem?_push_size
  obtain ⟨W2, hW2⟩ : ∃ y, W1.alloc (.cells #[.pointer (some ⟨b, 0, none⟩)] 81) = y := ⟨_, rfl⟩
  have b2 : Below W1.heap.size W1 W2 := by rw [← hW2]; exact (Below.refl _ _).alloc (Nat.le_refl _) _
  have s2 : W2.heap.size = W.heap.size + 2 := by rw [← hW2]; simp [s1]
  have g2 : W2.heap[W.heap.size]? = some (.cells #[.pointer (some ⟨M.R, 0, none⟩)] 79 (0, 0)) := (b2.block _ (by omega)).trans g1
  have g3 : W2.heap[W.heap.size + 1]? = some (.cells #[.pointer (some ⟨b, 0, none⟩)] 81 (0, 0)) := by rw [← hW2, ← s1]; exact Array.getElem?_push_size
  obtain ⟨WD, hWD⟩ : ∃ y, W2.drew = y := ⟨_, rfl⟩
  have bD : Below W2.heap.size W2 WD := by rw [← hWD]; exact (Below.refl _ _).drew
  have sD : WD.heap.size = W.heap.size + 2 := by rw [← hWD]; exact s2
  have BD : Below W.heap.size W WD := (b1.trans (b2.mono (by omega))).trans (bD.mono (by omega))
  have gD2 : WD.heap[W.heap.size]? = some (.cells #[.pointer (some ⟨M.R, 0, none⟩)] 79 (0, 0)) := (bD.block _ (by omega)).trans g2
  have gD3 : WD.heap[W.heap.size + 1]? = some (.cells #[.pointer (some ⟨b, 0, none⟩)] 81 (0, 0)) := (bD.block _ (by omega)).trans g3
  have gDb := (BD.block b (at_heap hbx)).trans hbx
  obtain ⟨W3, hW3⟩ : ∃ y, (WD.alloc (.cells #[.pointer (some ⟨M.R, 0, none⟩)] 79)).alloc (.cells #[.slice A rest.length q] 25) = y := ⟨_, rfl⟩
  have s3 : W3.heap.size = W.heap.size + 4 := by rw [← hW3]; simp [sD]
  have b3 : Below WD.heap.size WD W3 := by rw [← hW3]; exact ((Below.refl _ _).alloc (Nat.le_refl _) _).alloc (by simp) _
  have B3 : Below W.heap.size W W3 := BD.trans (b3.mono (by omega))
  have g34 : W3.heap[W.heap.size + 2]? = some (.cells #[.pointer (some ⟨M.R, 0, none⟩)] 79 (0, 0)) := by
    rw [← hW3]
    refine (Below.heap_alloc _ _ _ (by simp [sD])).trans ?_
    rw [← sD]; exact Array.getElem?_push_size
  have g35 : W3.heap[W.heap.size + 3]? = some (.cells #[.slice A rest.length q] 25 (0, 0)) := by
    rw [← hW3, show W.heap.size + 3 = (WD.alloc (.cells #[.pointer (some ⟨M.R, 0, none⟩)] 79)).heap.size by simp [sD]]
    exact Array.getElem?_push_size
  have HM3 := Lib.hid (h.keep hB B3)
  have HP2 : Hid (WD.cell? ⟨W.heap.size, 0, none⟩ = some (.pointer (some ⟨M.R, 0, none⟩))) := by unfold Hid; simp [World.cell?, gD2]
  have HP3 : Hid (WD.cell? ⟨W.heap.size + 1, 0, none⟩ = some (.pointer (some ⟨b, 0, none⟩))) := by unfold Hid; simp [World.cell?, gD3]
  have HP4 : Hid (WD.cell? ⟨b, 2, none⟩ = some (.slice A rest.length q)) := (cells3 gDb).2.2
  have EVO : Hid (∀ args w, (callFunc 61 args).run Try.prog w = .ok (.enter 61 args) w) := enters_of Try.func61 (by kernel_rfl) rfl
  have OPN := Lib.hid (open_any M.R A rest.length q WD)
  rw [hW3] at OPN
  have HWD := Lib.hid hWD
  have HG2 : Hid (W3.heap[W.heap.size]? = some (.cells #[.pointer (some ⟨M.R, 0, none⟩)] 79 (0, 0))) := (b3.block _ (by omega)).trans gD2
  have HG3 : Hid (W3.heap[W.heap.size + 1]? = some (.cells #[.pointer (some ⟨b, 0, none⟩)] 81 (0, 0))) := (b3.block _ (by omega)).trans gD3
  have HGB : Hid (W3.heap[b]? = some (.cells #[.int .i64 kept, .int .i64 other, .slice A rest.length q] 83 (0, 0))) := (b3.block _ (by have := at_heap gDb; omega)).trans gDb
  have H := Lib.hid h
  have HRE := Lib.hid hrest
  have HAN := Lib.hid hAN
  have HLIT := Lib.hid hlit
  have HS3 := Lib.hid s3
  have HB3w := Lib.hid B3
  have HG34 := Lib.hid g34
  have HG35 := Lib.hid g35
  have HSD := Lib.hid sD
  have HCAP := Lib.hid hcap
  have HBW : Hid (b < W.heap.size) := at_heap hbx
  rw [sD] at OPN
  clear h hbx hrest hAN hlit b1 g1 b2 g2 g3 bD sD BD gD2 gD3 gDb s3 b3 B3 g34 g35 hWD hcap hW3
  refine (callsIn_wide (n := 9)).1 (callsIn_of_wp_marks Try.func48 rfl trivial ?_ rfl)
  simp only [Try.ntmps48, List.size_toArray, List.length_cons, List.length_nil, Nat.reduceAdd, Nat.reduceSub, Array.replicate_succ, Array.replicate_zero, List.push_toArray, List.append_toArray, List.nil_append, List.cons_append]
  gi_wp2_with fail
  refine wpIn_wide.2 ?_
  refine wp_region_valsE (by kernel_rfl) (by kernel_rfl) an1M (by kernel_rfl) (by kernel_rfl)
    (Sole 5 WD W3) (an1R M.R b (W.heap.size + 2) A rest.length q) (by rw [HWD.out]; exact Sole.start _ _ _) (fun jj f f' w w' _ hf h => an1_stab jj hf h) ?_ ?_
  · intro i oo d a' w' ho hd hun hdf hok hDE K hK hK0
    match i, ho, hd, hDE, hK, hK0, hun with
    | 0, ho, hd, hD, hK, hK0, hun =>
      have e := (congrArg Oper.op (Option.some.inj ho)).symm
      obtain rfl := Option.some.inj ho
      exact wp_val (op_cell_setter a' w' _ 2 _ (hun 2 (by kernel_rfl)) (by rw [(hok.c0 (hd 5 (by kernel_rfl)))]; exact HP2.out) _ e) (hK0 _ _ (hok.read (by decide)) (fun f h1 _ => h1 _ rfl) (fun j f _ hf hq => an1_stab j hf hq))
    | 1, ho, hd, hD, hK, hK0, hun =>
      have e := (congrArg Oper.op (Option.some.inj ho)).symm
      obtain rfl := Option.some.inj ho
      exact wp_val (op_cell_waiting a' w' _ 3 _ (hun 3 (by kernel_rfl)) (by rw [(hok.c0 (hd 5 (by kernel_rfl)))]; exact HP3.out) _ e) (hK0 _ _ (hok.read (by decide)) (fun f h1 _ => h1 _ rfl) (fun j f _ hf hq => an1_stab j hf hq))
    | 2, ho, hd, hD, hK, hK0, hun =>
      have e := (congrArg Oper.op (Option.some.inj ho)).symm
      obtain rfl := Option.some.inj ho
      exact wp_val (op_nilc a' w' _ 7 (hDE 1 (by kernel_rfl)).2 _ e) (hK0 _ _ (hok.read (by decide)) (fun f h1 _ => h1 _ rfl) (fun j f _ hf hq => an1_stab j hf hq))
    | 3, ho, hd, hD, hK, hK0, hun =>
      have e := (congrArg Oper.op (Option.some.inj ho)).symm
      obtain rfl := Option.some.inj ho
      exact wp_val (op_fld_waiting_2 a' w' b 8 (hDE 2 (by kernel_rfl)).2 _ e) (hK0 _ _ (hok.read (by decide)) (fun f h1 _ => h1 _ rfl) (fun j f _ hf hq => an1_stab j hf hq))
    | 4, ho, hd, hD, hK, hK0, hun =>
      have e := (congrArg Oper.op (Option.some.inj ho)).symm
      obtain rfl := Option.some.inj ho
      exact wp_val (op_cell_ints a' w' _ 9 _ (hDE 3 (by kernel_rfl)).2 (by rw [(hok.c0 (hd 5 (by kernel_rfl)))]; exact HP4.out) _ e) (hK0 _ _ (hok.read (by decide)) (fun f h1 _ => h1 _ rfl) (fun j f _ hf hq => an1_stab j hf hq))
    | 5, ho, hd, hD, hK, hK0, hun =>
      have e := (congrArg Oper.op (Option.some.inj ho)).symm
      obtain rfl := Option.some.inj ho
      have hw' := (hok.c0 (hd 5 (by kernel_rfl)))
      rw [hw']
      refine wp_enter (op_call2 a' WD 61 6 10 79 25 EVO.out _ e) ?_
      rw [show a'.tmps.getD 6 undef = .pointer (some ⟨M.R, 0, none⟩) from (hDE 0 (by kernel_rfl)).2, show a'.tmps.getD 10 undef = .slice A rest.length q from (hDE 4 (by kernel_rfl)).2]
      refine OPN.out.mono ?_
      rintro ee w2 ⟨rfl, rfl⟩
      exact .inl ⟨_, rfl, hK0 _ _ (Sole.did _ _ _ _) (fun f h1 _ => h1 _ rfl) (fun j f _ hf hq => an1_stab j hf hq)⟩
    | i + 6, ho, _, _, _, _, _ => exact absurd ho (by simp)
  · intro a' w3 hsz hdf hkt hok hR
    have HF3 := frame_sets [6, 7, 8, 9, 10, 11] (by kernel_rfl) hsz hkt
    obtain ⟨d, hok, hall⟩ := hok
    have hw3 : W3 = w3 := (hok.c1 (hall 5 (by decide))).symm
    subst hw3
    have h11 := hR 5 (by decide)
    clear hok hall
    obtain ⟨tm, df⟩ := a'
    obtain rfl : df = _ := hdf
    simp only [List.foldl_cons, List.foldl_nil] at HF3
    clear hkt hR hsz
    replace h11 : tm.getD 11 undef = _ := h11
    rw [h11] at HF3
    clear h11
    generalize tm.getD 6 undef = y6 at HF3
    generalize tm.getD 7 undef = y7 at HF3
    generalize tm.getD 8 undef = y8 at HF3
    generalize tm.getD 9 undef = y9 at HF3
    generalize tm.getD 10 undef = y10 at HF3
    simp only [List.setIfInBounds_toArray, List.set_cons_succ, List.set_cons_zero] at HF3
    subst HF3
    gi_wp2_with fail
    have HSET : SetAt W3.heap.size (W.heap.size + 2) M.R M.bs s.set.length s.set W3 := by
      have hR := at_heap HM3.out.box
      have hS := at_heap HM3.out.set
      refine ⟨rfl, fun W' hb => ?_, fun W' hb => ?_, fun W' hb v hv => ?_⟩
      · have := (hb.block _ (at_heap HG34.out)).trans HG34.out
        simp [World.cell?, this]
      · exact (cells3 ((hb.block _ hR).trans HM3.out.box)).1
      · rw [Nat.zero_add]
        exact nums_cell ((hb.block _ hS).trans HM3.out.set) hv
    have HC35 : W3.cell? ⟨W.heap.size + 3, 0, none⟩ = some (.slice A rest.length q) := by simp [World.cell?, show W3.heap[W.heap.size + 3]? = _ from HG35.out]
    have HLR : LRow W3 W3.heap.size 1 A (ints rest) := (HRE.out.row.below (HB3w.out.mono hB)).more (by rw [HS3.out]; omega)
    refine wpIn_rangeFunc_ownG rfl (by decide) (gf := 68) (lb := #[.pointer (some ⟨W.heap.size + 2 + 1, 0, none⟩), .pointer (some ⟨W.heap.size + 2, 0, none⟩)]) rfl trivial (enters_of Try.func68 (by kernel_rfl) rfl)
      (open_stops 8 (W.heap.size + 2 + 1) (W.heap.size + 2) M.R M.bs s.set.length W3.heap.size A q rest s.set W3 (by rw [HS3.out]; omega) (Nat.le_refl _) HRE.out.len hN (fun x hx => HLIT.out x (.inr hx)) HC35 HLR HSET) belowK_t (belowK_b (Nat.le_refl _)) (Below.refl _ _) (fun _ => rfl)
      (fun pre W' => (∀ y ∈ pre, y.1.2 = kept) ∧ Below W3.heap.size W3 W')
      (fun c pre W' => (c = .ret ∧ Stops kept pre) ∧ (∃ M', Moved M pre M' ∧ Mat W' B M' (nextS s i kept rest pre)) ∧ Below B W W')
      (OwnFrom.and (fun _ _ _ _ hs _ _ => hs) (ownFrom_below (Nat.le_refl _) (Nat.le_refl _)))
      (fun c => mat_from B W3.heap.size (by rw [HS3.out]; omega) W hB (Moved M) (nextS s i kept rest) (fun pre => c = .ret ∧ Stops kept pre))
      ⟨(fun y hy => absurd hy List.not_mem_nil), Below.refl _ _⟩
      (fun x => { tmps := #[.pointer (some ⟨M.R, 0, none⟩), .pointer (some ⟨b, 0, none⟩), .pointer (some ⟨W.heap.size, 0, none⟩), .pointer (some ⟨W.heap.size + 1, 0, none⟩), .int .i64 (x.1.1 : Int), .int .i64 x.1.2, y6, y7, y8, y9, y10, .func (.func 68) #[] #[.pointer (some ⟨W.heap.size + 2 + 1, 0, none⟩), .pointer (some ⟨W.heap.size + 2, 0, none⟩)], .int .i64 (x.1.1 : Int), .int .i64 x.1.2, undef, undef, undef, undef, undef, undef, undef, undef, undef, undef, undef, undef, undef, undef, undef, undef, undef, undef, undef, undef, undef, undef, undef, undef, undef, undef, undef, undef, undef, undef, undef, undef, undef, undef, undef, undef, undef, undef, undef, undef, undef, undef, undef, undef], defers := [] }) ?assign ?body ?done ?stop
    case assign =>
      intro l x W K hK
      gi_wp2
      exact hK
    case body =>
      rintro y pre ⟨⟨j, x⟩, hx⟩ Wr ⟨hpre, hBr⟩ hlt
      obtain ⟨hj0, hj1, hxm⟩ := opens_mem hx
      simp only at hj0 hj1 hxm
      have hxN := HLIT.out x (.inr hxm)
      have hr2 := (hBr.block _ (at_heap HG2.out)).trans HG2.out
      have hr3 := (hBr.block _ (at_heap HG3.out)).trans HG3.out
      have hrb := (hBr.block _ (at_heap HGB.out)).trans HGB.out
      have hc3 : Wr.cell? ⟨W.heap.size + 1, 0, none⟩ = some (.pointer (some ⟨b, 0, none⟩)) := by simp [World.cell?, hr3]
      obtain ⟨hcb0, hcb1, hcb2⟩ := cells3 hrb
      have HPRE := Lib.hid hpre
      have HBR := Lib.hid hBr
      have HX := Lib.hid hx
      by_cases hk : x = kept
      · have hd : (x == kept) = true := by simpa using hk
        gi_wp2
        refine ⟨KeepsFrom.refl _ _, Below.refl _ _, fun z hz => ?_, HBR.out⟩
        rcases List.mem_append.1 hz with hz | hz
        · exact HPRE.out z hz
        · rw [List.mem_singleton.1 hz]; exact hk
      · have hd : (x == kept) = false := by simpa using hk
        gi_wp2_with fail
        clear hc3 hcb0 hcb1 hcb2
        obtain ⟨V0, hV0⟩ : ∃ y, Wr.drew = y := ⟨_, rfl⟩
        have bV0 : Below W3.heap.size W3 V0 := HBR.out.trans (by rw [← hV0]; exact (Below.refl _ _).drew)
        have hb3 : B ≤ W3.heap.size := by rw [HS3.out]; omega
        have HMV := HM3.out.keep hb3 bV0
        have hBV0 : B ≤ V0.heap.size := Nat.le_trans hb3 bV0.size
        have v2 := (bV0.block _ (at_heap HG2.out)).trans HG2.out
        have v3 := (bV0.block _ (at_heap HG3.out)).trans HG3.out
        have vb := (bV0.block _ (at_heap HGB.out)).trans HGB.out
        have hbge : B ≤ b := by rw [← hbeq]; exact HMV.geb _ (bl_at (by rw [HMV.bll]; exact hi)).1
        have hnb2 : W.heap.size ≠ b := Nat.ne_of_gt HBW.out
        have hnb3 : W.heap.size + 1 ≠ b := by have := HBW.out; omega
        obtain ⟨V1, hV1⟩ : ∃ y, V0.setCell ⟨b, 1, none⟩ (.int .i64 x) = y := ⟨_, rfl⟩
        have vb1 : V1.heap[b]? = some (.cells #[.int .i64 kept, .int .i64 x, .slice A rest.length q] 83 (0, 0)) := by rw [← hV1, set_cells vb]; rfl
        have o1 : ∀ k, k ≠ b → V1.heap[k]? = V0.heap[k]? := fun k hk => by rw [← hV1]; exact set_others V0 b 1 _ k hk
        obtain ⟨V2, hV2⟩ : ∃ y, V1.setCell ⟨b, 2, none⟩ (.slice (tailA A q (j + 1)) (rest.length - (j + 1)) (q - (j + 1))) = y := ⟨_, rfl⟩
        have vb2 : V2.heap[b]? = some (.cells #[.int .i64 kept, .int .i64 x, .slice (tailA A q (j + 1)) (rest.length - (j + 1)) (q - (j + 1))] 83 (0, 0)) := by rw [← hV2, set_cells vb1]; rfl
        have o2 : ∀ k, k ≠ b → V2.heap[k]? = V0.heap[k]? := fun k hk => by rw [← hV2]; exact (set_others V1 b 2 _ k hk).trans (o1 k hk)
        have bV1 : Below B V0 V1 := by rw [← hV1]; exact (Below.refl _ _).setCell (by exact hbge) _
        have bV2 : Below B V0 V2 := by rw [← hV2]; exact bV1.setCell (by exact hbge) _
        have HB3 : Hid (∀ w', w' = V0 ∨ w' = V1 → w'.cell? ⟨W.heap.size + 1, 0, none⟩ = some (.pointer (some ⟨b, 0, none⟩))) := fun w' hw' => by
          rcases hw' with rfl | rfl
          · simp [World.cell?, v3]
          · simp [World.cell?, (o1 _ hnb3).trans v3]
        have HR2 : Hid (∀ w', w' = V0 ∨ w' = V1 → w'.cell? ⟨b, 2, none⟩ = some (.slice A rest.length q)) := fun w' hw' => by
          rcases hw' with rfl | rfl
          · exact (cells3 vb).2.2
          · exact (cells3 vb1).2.2
        have HC1 := Lib.hid (cells3 vb).2.1
        have HZ1 := Lib.hid (thaw3 vb 1)
        have HC2 := Lib.hid (cells3 vb1).2.2
        have HZ2 := Lib.hid (thaw3 vb1 2)
        have HV1 := Lib.hid hV1
        have HV2 := Lib.hid hV2
        have hlen := HRE.out.len
        have HJ1 : Hid (IntKind.i64.wrap ((j : Int) + 1) = (j : Int) + 1) := IntWalk.i64_in _ (by omega)
        have HJL : Hid (j + 1 ≤ rest.length) := by unfold Hid; omega
        have KO2 : KeepsOthers Wr V2 := by
          have h1 : KeepsOthers Wr V0 := by rw [← hV0]; exact KeepsOthers.drew Wr
          rw [← hV2, ← hV1]
          exact (h1.trans (KeepsOthers.setCell _ _ _)).trans (KeepsOthers.setCell _ _ _)
        have hWT : WtAt V2 B b ⟨kept, x, rest.drop (j + 1)⟩ := by
          refine ⟨tailA A q (j + 1), q - (j + 1), by rw [vb2, List.length_drop], ⟨?_, fun y hy => HRE.out.fits y (List.mem_of_mem_drop hy), by rw [List.length_drop]; omega⟩, by rw [List.length_drop]; have := HCAP.out; omega⟩
          exact tail_row (((HRE.out.row.below (HB3w.out.mono hB)).below (bV0.mono hb3)).below bV2) HCAP.out
        have HM2 := HMV.turn hi ⟨kept, x, rest.drop (j + 1)⟩ (by rw [hbeq]; exact o2) bV2 (by rw [hbeq]; exact hWT)
        obtain ⟨U0, hU0⟩ : ∃ y, V2.drew = y := ⟨_, rfl⟩
        have bU0 : Below V2.heap.size V2 U0 := by rw [← hU0]; exact (Below.refl _ _).drew
        have hBV2 : B ≤ V2.heap.size := Nat.le_trans hBV0 bV2.size
        have HMU := HM2.keep hBV2 bU0
        have hBU0 : B ≤ U0.heap.size := Nat.le_trans hBV2 bU0.size
        have u2 := ((bU0.block _ (at_heap ((o2 _ hnb2).trans v2))).trans (o2 _ hnb2)).trans v2
        have u3 := ((bU0.block _ (at_heap ((o2 _ hnb3).trans v3))).trans (o2 _ hnb3)).trans v3
        have hpl2 : plc x < s.waits.length := hpl x hxm
        have hpv : plc x < M.vs.length := by rw [HMU.vl]; exact hpl2
        obtain ⟨v, hv⟩ : ∃ v, M.vs[plc x]? = some v := ⟨_, List.getElem?_eq_getElem hpv⟩
        obtain ⟨U1, hU1⟩ : ∃ y, U0.alloc (.cells #[.pointer (some ⟨b, 0, none⟩)] 81) = y := ⟨_, rfl⟩
        have bU1 : Below U0.heap.size U0 U1 := by rw [← hU1]; exact (Below.refl _ _).alloc (Nat.le_refl _) _
        have gU1 : U1.heap[U0.heap.size]? = some (.cells #[.pointer (some ⟨M.bl.getD i 0, 0, none⟩)] 81 (0, 0)) := by rw [← hU1, hbeq]; exact Array.getElem?_push_size
        have hrv := HMU.row _ v hv
        simp only at hrv
        obtain ⟨v', U2, hrun, hown, hgr, hloc⟩ := ptr_runs U1 B v M.bl (s.waits.getD (plc x) []) i U0.heap.size 1 (hrv.keep bU1) gU1 (hll x hxm) (Nat.le_trans hBU0 bU1.size)
        rw [← hU1] at hgr hloc
        obtain ⟨HM3x, bU3, -⟩ := HMU.pushW hBU0 hv (by rw [HMU.bll]; simp only [List.length_set]; exact hi) hown hgr hloc
        obtain ⟨A', q', rfl, -, -, -⟩ := hown.row (by decide) (fun y hy => by
          unfold ptrs at hy
          obtain ⟨z, -, rfl⟩ := List.mem_map.1 hy
          rfl)
        have hvlt : ∀ g, v.ownBlock = some g → g < W.heap.size := fun g hg => ((H.out.row _ v hv).block_lt g hg).2
        have k12 : ∀ k, k < U0.heap.size → v.ownBlock ≠ some k → U2.heap[k]? = U0.heap[k]? := fun k hk hne => (hgr.block k (by rw [World.size_alloc]; omega) (fun e => hne e.symm)).trans (Below.heap_alloc U0 _ k (by omega))
        have uw := HMU.wts
        have w2 := (k12 _ (at_heap u2) (fun e => Nat.lt_irrefl _ (hvlt _ e))).trans u2
        have w3 := (k12 _ (at_heap u3) (fun e => by have := hvlt _ e; omega)).trans u3
        have wR := (k12 _ (at_heap HMU.box) (hrv.ne_block HMU.box (by decide))).trans HMU.box
        have wW := (k12 _ (at_heap uw) (hrv.ne_block uw (by decide))).trans uw
        have a1 : ∀ {k : Nat} {o : Obj}, U0.heap[k]? = some o → U1.heap[k]? = some o := fun {k o} hk => (bU1.block k (at_heap hk)).trans hk
        have HB2 : Hid (∀ w', w' = U0 ∨ w' = U1 ∨ w' = U2 → w'.cell? ⟨W.heap.size, 0, none⟩ = some (.pointer (some ⟨M.R, 0, none⟩))) := fun w' hw' => by
          rcases hw' with rfl | rfl | rfl
          · simp [World.cell?, u2]
          · simp [World.cell?, a1 u2]
          · simp [World.cell?, w2]
        have HB36 : Hid (∀ w', w' = U0 ∨ w' = U1 ∨ w' = U2 → w'.cell? ⟨W.heap.size + 1, 0, none⟩ = some (.pointer (some ⟨b, 0, none⟩))) := fun w' hw' => by
          rcases hw' with rfl | rfl | rfl
          · simp [World.cell?, u3]
          · simp [World.cell?, a1 u3]
          · simp [World.cell?, w3]
        have HBW : Hid (∀ w', w' = U0 ∨ w' = U1 ∨ w' = U2 → w'.cell? ⟨M.R, 2, none⟩ = some (.slice (some ⟨M.bw, 0, none⟩) s.waits.length s.waits.length)) := fun w' hw' => by
          rcases hw' with rfl | rfl | rfl
          · exact (cells3 HMU.box).2.2
          · exact (cells3 (a1 HMU.box)).2.2
          · exact (cells3 wR).2.2
        have vat : ∀ {Y : World}, Y.heap[M.bw]? = some (.cells M.vs.toArray 85 (0, 0)) → Y.cell? ⟨M.bw, 0 + plc x, none⟩ = some v := fun {Y} hY => by
          rw [Nat.zero_add]
          simp [World.cell?, hY, hv]
        have HVP : Hid (∀ w', w' = U0 ∨ w' = U1 → w'.cell? ⟨M.bw, 0 + plc x, none⟩ = some v) := fun w' hw' => by
          rcases hw' with rfl | rfl
          · exact vat uw
          · exact vat (a1 uw)
        have HC3 := Lib.hid (vat wW)
        have HZ3 := Lib.hid (thaw3 wW (0 + plc x))
        have HRUN := Lib.hid hrun
        have HPL := Lib.hid hpl2
        have HU1 := Lib.hid hU1
        obtain ⟨U3, hU3⟩ : ∃ y, U2.setCell ⟨M.bw, 0 + plc x, none⟩ (.slice A' (ptrs M.bl (s.waits.getD (plc x) [] ++ [i])).length q') = y := ⟨_, rfl⟩
        have HU3 := Lib.hid hU3
        rw [Nat.zero_add] at hU3
        rw [hU3] at HM3x bU3
        have HMF := Lib.hid HM3x
        have HBF : Hid (Below B W U3) := (((HB3w.out.mono hB).trans (bV0.mono hb3)).trans bV2).trans ((bU0.mono hBV2).trans bU3)
        have KO3 : KeepsOthers Wr U3 := by
          have h1 : KeepsOthers V2 U0 := by rw [← hU0]; exact KeepsOthers.drew V2
          rw [← hU3]
          refine (((KO2.trans h1).trans (KeepsOthers.alloc U0 _)).trans (KeepsOthers.of_grownBy hgr fun j2 o hj2 ho => ?_)).trans (KeepsOthers.setCell _ _ _)
          rcases hrv.2 with ⟨rfl, _⟩ | ⟨g3, _, cur, rfl, _, hh, _⟩
          · simp [Value.ownBlock] at hj2
          · obtain rfl : g3 = j2 := by simpa [Value.ownBlock] using hj2
            rw [hU1, a1 hh] at ho
            obtain rfl := Option.some.inj ho
            rfl
        have HKO := Lib.hid KO3
        have EVP : Hid (∀ args w, (callFunc 27 args).run Try.prog w = .ok (.enter 27 args) w) := enters_of Try.func27 (by kernel_rfl) rfl
        have PL := Lib.hid (fun w => place_any x w (by omega))
        have HMVD : Hid (Moved M (pre ++ [(⟨(j, x), HX.out⟩ : Opens s.set rest)]) { M with vs := M.vs.set (plc x) (.slice A' (ptrs M.bl (s.waits.getD (plc x) [] ++ [i])).length q') }) := by
          refine ⟨rfl, rfl, rfl, rfl, fun p hp => ?_⟩
          exact List.getElem?_set_ne (hp ⟨(j, x), HX.out⟩ (by simp))
        have HNX : Hid (nextS s i kept rest (pre ++ [(⟨(j, x), HX.out⟩ : Opens s.set rest)]) = { s with ws := s.ws.set i ⟨kept, x, rest.drop (j + 1)⟩, waits := s.waits.set (plc x) (s.waits.getD (plc x) [] ++ [i]) }) := by
          unfold Hid nextS
          simp [waitsOf]
        have HSTOP : Hid (Stops kept (pre ++ [(⟨(j, x), HX.out⟩ : Opens s.set rest)])) := ⟨pre, _, rfl, HPRE.out, hk⟩
        have HV0 := Lib.hid hV0
        have HU0 := Lib.hid hU0
        clear HMV v2 v3 vb hV1 vb1 o1 hV2 vb2 o2 bV1 bV2 hWT HM2 bU0 HMU u2 u3 hU1 bU1 gU1 hrv hrun hown hgr hloc HM3x bU3 k12 uw w2 w3 wR wW hU3 KO2 KO3 hvlt vat a1 hr2 hr3 hrb hV0 hU0
        refine wpIn_region_valsE (by kernel_rfl) (by kernel_rfl) (by kernel_rfl) an5M (by kernel_rfl) (by kernel_rfl)
          (Two 12 15 V0 V1 V2) (an5R b j rest.length q A x) (by rw [HV0.out]; exact Two.start) (fun jj f f' w w' _ hf h => an5_stab jj hf h) ?_ ?_
        · intro i oo d a' w' ho hd hun hdf hok hDE K hK hK0
          match i, ho, hd, hDE, hK, hK0, hun with
          | 0, ho, hd, hD, hK, hK0, hun =>
            have e := (congrArg Oper.op (Option.some.inj ho)).symm
            obtain rfl := Option.some.inj ho
            exact wp_val (op_cell_waiting a' w' _ 3 _ (hun 3 (by kernel_rfl)) (HB3.out w' (hok.any (hd 15 (by kernel_rfl)))) _ e) (hK0 _ _ (hok.read (by decide) (by decide)) (fun f h1 _ => h1 _ rfl) (fun j f _ hf hq => an5_stab j hf hq))
          | 1, ho, hd, hD, hK, hK0, hun =>
            have e := (congrArg Oper.op (Option.some.inj ho)).symm
            obtain rfl := Option.some.inj ho
            exact wp_val (op_cell_waiting a' w' _ 3 _ (hun 3 (by kernel_rfl)) (HB3.out w' (hok.any (hd 15 (by kernel_rfl)))) _ e) (hK0 _ _ (hok.read (by decide) (by decide)) (fun f h1 _ => h1 _ rfl) (fun j f _ hf hq => an5_stab j hf hq))
          | 2, ho, hd, hD, hK, hK0, hun =>
            have e := (congrArg Oper.op (Option.some.inj ho)).symm
            obtain rfl := Option.some.inj ho
            exact wp_val (op_mv a' w' 5 _ e) (hK0 _ _ (hok.read (by decide) (by decide)) (fun f h1 _ => (h1 _ rfl).trans (hun 5 (by kernel_rfl))) (fun j f _ hf hq => an5_stab j hf hq))
          | 3, ho, hd, hD, hK, hK0, hun =>
            have e := (congrArg Oper.op (Option.some.inj ho)).symm
            obtain rfl := Option.some.inj ho
            exact wp_val (op_cell_waiting a' w' _ 3 _ (hun 3 (by kernel_rfl)) (HB3.out w' (hok.any (hd 15 (by kernel_rfl)))) _ e) (hK0 _ _ (hok.read (by decide) (by decide)) (fun f h1 _ => h1 _ rfl) (fun j f _ hf hq => an5_stab j hf hq))
          | 4, ho, hd, hD, hK, hK0, hun =>
            have e := (congrArg Oper.op (Option.some.inj ho)).symm
            obtain rfl := Option.some.inj ho
            exact wp_val (op_nilc a' w' _ 23 (hDE 3 (by kernel_rfl)).2 _ e) (hK0 _ _ (hok.read (by decide) (by decide)) (fun f h1 _ => h1 _ rfl) (fun j f _ hf hq => an5_stab j hf hq))
          | 5, ho, hd, hD, hK, hK0, hun =>
            have e := (congrArg Oper.op (Option.some.inj ho)).symm
            obtain rfl := Option.some.inj ho
            exact wp_val (op_fld_waiting_2 a' w' b 24 (hDE 4 (by kernel_rfl)).2 _ e) (hK0 _ _ (hok.read (by decide) (by decide)) (fun f h1 _ => h1 _ rfl) (fun j f _ hf hq => an5_stab j hf hq))
          | 6, ho, hd, hD, hK, hK0, hun =>
            have e := (congrArg Oper.op (Option.some.inj ho)).symm
            obtain rfl := Option.some.inj ho
            exact wp_val (op_cell_ints a' w' _ 25 _ (hDE 5 (by kernel_rfl)).2 (HR2.out w' (hok.any (hd 15 (by kernel_rfl)))) _ e) (hK0 _ _ (hok.read (by decide) (by decide)) (fun f h1 _ => h1 _ rfl) (fun j f _ hf hq => an5_stab j hf hq))
          | 7, ho, hd, hD, hK, hK0, hun =>
            have e := (congrArg Oper.op (Option.some.inj ho)).symm
            obtain rfl := Option.some.inj ho
            exact wp_val (op_mv a' w' 4 _ e) (hK0 _ _ (hok.read (by decide) (by decide)) (fun f h1 _ => (h1 _ rfl).trans (hun 4 (by kernel_rfl))) (fun j f _ hf hq => an5_stab j hf hq))
          | 8, ho, hd, hD, hK, hK0, hun =>
            have e := (congrArg Oper.op (Option.some.inj ho)).symm
            obtain rfl := Option.some.inj ho
            exact wp_val (op_plus1 a' w' (j : Int) 27 (hDE 7 (by kernel_rfl)).2 HJ1.out _ e) (hK0 _ _ (hok.read (by decide) (by decide)) (fun f h1 _ => h1 _ rfl) (fun j f _ hf hq => an5_stab j hf hq))
          | 9, ho, hd, hD, hK, hK0, hun =>
            have e := (congrArg Oper.op (Option.some.inj ho)).symm
            obtain rfl := Option.some.inj ho
            exact wp_val (op_slice_lo a' w' A rest.length q (j + 1) 26 28 (hDE 6 (by kernel_rfl)).2 (((hDE 8 (by kernel_rfl)).2).trans (by rw [Int.natCast_add]; rfl)) HJL.out HCAP.out _ e) (hK0 _ _ (hok.read (by decide) (by decide)) (fun f h1 _ => h1 _ rfl) (fun j f _ hf hq => an5_stab j hf hq))
          | 10, ho, hd, hD, hK, hK0, hun =>
            have e := (congrArg Oper.op (Option.some.inj ho)).symm
            obtain rfl := Option.some.inj ho
            exact wp_val (op_nilc a' w' _ 20 (hDE 0 (by kernel_rfl)).2 _ e) (hK0 _ _ (hok.read (by decide) (by decide)) (fun f h1 _ => h1 _ rfl) (fun j f _ hf hq => an5_stab j hf hq))
          | 11, ho, hd, hD, hK, hK0, hun =>
            have e := (congrArg Oper.op (Option.some.inj ho)).symm
            obtain rfl := Option.some.inj ho
            exact wp_val (op_fld_waiting_1 a' w' b 30 (hDE 10 (by kernel_rfl)).2 _ e) (hK0 _ _ (hok.read (by decide) (by decide)) (fun f h1 _ => h1 _ rfl) (fun j f _ hf hq => an5_stab j hf hq))
          | 12, ho, hd, hD, hK, hK0, hun =>
            have e := (congrArg Oper.op (Option.some.inj ho)).symm
            obtain rfl := Option.some.inj ho
            have hw' := hok.c0 (hd 12 (by kernel_rfl))
            rw [hw']
            exact wp_skip' ((op_put_int a' V0 b 1 _ x 31 22 (hDE 11 (by kernel_rfl)).2 (hDE 2 (by kernel_rfl)).2 HC1.out HZ1.out _ e).trans (by rw [HV1.out])) (hK0 _ _ (Two.first (hd 15 (by kernel_rfl)) (by decide)) (fun _ _ _ => trivial) (fun j f _ hf hq => an5_stab j hf hq))
          | 13, ho, hd, hD, hK, hK0, hun =>
            have e := (congrArg Oper.op (Option.some.inj ho)).symm
            obtain rfl := Option.some.inj ho
            exact wp_val (op_nilc a' w' _ 21 (hDE 1 (by kernel_rfl)).2 _ e) (hK0 _ _ (hok.read (by decide) (by decide)) (fun f h1 _ => h1 _ rfl) (fun j f _ hf hq => an5_stab j hf hq))
          | 14, ho, hd, hD, hK, hK0, hun =>
            have e := (congrArg Oper.op (Option.some.inj ho)).symm
            obtain rfl := Option.some.inj ho
            exact wp_val (op_fld_waiting_2 a' w' b 32 (hDE 13 (by kernel_rfl)).2 _ e) (hK0 _ _ (hok.read (by decide) (by decide)) (fun f h1 _ => h1 _ rfl) (fun j f _ hf hq => an5_stab j hf hq))
          | 15, ho, hd, hD, hK, hK0, hun =>
            have e := (congrArg Oper.op (Option.some.inj ho)).symm
            obtain rfl := Option.some.inj ho
            have hw' := hok.c1 (hDE 12 (by kernel_rfl)).1 (hd 15 (by kernel_rfl))
            rw [hw']
            exact wp_skip' ((op_put_ints a' V1 b 2 _ _ _ _ 33 29 (hDE 14 (by kernel_rfl)).2 (hDE 9 (by kernel_rfl)).2 HC2.out HZ2.out _ e).trans (by rw [HV2.out])) (hK0 _ _ (Two.second (hDE 12 (by kernel_rfl)).1) (fun _ _ _ => trivial) (fun j f _ hf hq => an5_stab j hf hq))
          | i + 16, ho, _, _, _, _, _ => exact absurd ho (by simp)
        · intro a' w3 hsz hdf hkt hok hR
          have HF3 := frame_sets [20, 21, 22, 23, 24, 25, 26, 27, 28, 29, 30, 31, 32, 33] (by kernel_rfl) hsz hkt
          obtain ⟨d, hok, hall⟩ := hok
          have hw3 : V2 = w3 := (hok.c2 (hall 15 (by decide))).symm
          subst hw3
          clear hok hall
          obtain ⟨tm, df⟩ := a'
          obtain rfl : df = _ := hdf
          simp only [List.foldl_cons, List.foldl_nil] at HF3
          clear hkt hR hsz
          generalize tm.getD 20 undef = y20 at HF3
          generalize tm.getD 21 undef = y21 at HF3
          generalize tm.getD 22 undef = y22 at HF3
          generalize tm.getD 23 undef = y23 at HF3
          generalize tm.getD 24 undef = y24 at HF3
          generalize tm.getD 25 undef = y25 at HF3
          generalize tm.getD 26 undef = y26 at HF3
          generalize tm.getD 27 undef = y27 at HF3
          generalize tm.getD 28 undef = y28 at HF3
          generalize tm.getD 29 undef = y29 at HF3
          generalize tm.getD 30 undef = y30 at HF3
          generalize tm.getD 31 undef = y31 at HF3
          generalize tm.getD 32 undef = y32 at HF3
          generalize tm.getD 33 undef = y33 at HF3
          simp only [List.setIfInBounds_toArray, List.set_cons_succ, List.set_cons_zero] at HF3
          subst HF3
          clear HB3
          have HB3 := Lib.hid HB36.out
          gi_wp2_with fail
          refine wpIn_region_valsE (by kernel_rfl) (by kernel_rfl) (by kernel_rfl) an6M (by kernel_rfl) (by kernel_rfl)
            (Chain 15 16 18 U0 U1 U2 U3) (an6R M.R b M.bw s.waits.length (plc x) U0.heap.size x v (.slice A' (ptrs M.bl (s.waits.getD (plc x) [] ++ [i])).length q')) (by rw [HU0.out]; exact Chain.start) (fun jj f f' w w' _ hf h => an6_stab jj hf h) ?_ ?_
          · intro i oo d a' w' ho hd hun hdf hok hDE K hK hK0
            match i, ho, hd, hDE, hK, hK0, hun with
            | 0, ho, hd, hD, hK, hK0, hun =>
              have e := (congrArg Oper.op (Option.some.inj ho)).symm
              obtain rfl := Option.some.inj ho
              exact wp_val (op_cell_setter a' w' _ 2 _ (hun 2 (by kernel_rfl)) (HB2.out w' (hok.any (hd 18 (by kernel_rfl)))) _ e) (hK0 _ _ (hok.read (by decide) (by decide) (by decide)) (fun f h1 _ => h1 _ rfl) (fun j f _ hf hq => an6_stab j hf hq))
            | 1, ho, hd, hD, hK, hK0, hun =>
              have e := (congrArg Oper.op (Option.some.inj ho)).symm
              obtain rfl := Option.some.inj ho
              exact wp_val (op_nilc a' w' _ 34 (hDE 0 (by kernel_rfl)).2 _ e) (hK0 _ _ (hok.read (by decide) (by decide) (by decide)) (fun f h1 _ => h1 _ rfl) (fun j f _ hf hq => an6_stab j hf hq))
            | 2, ho, hd, hD, hK, hK0, hun =>
              have e := (congrArg Oper.op (Option.some.inj ho)).symm
              obtain rfl := Option.some.inj ho
              exact wp_val (op_fld_setter_2 a' w' _ 35 (hDE 1 (by kernel_rfl)).2 _ e) (hK0 _ _ (hok.read (by decide) (by decide) (by decide)) (fun f h1 _ => h1 _ rfl) (fun j f _ hf hq => an6_stab j hf hq))
            | 3, ho, hd, hD, hK, hK0, hun =>
              have e := (congrArg Oper.op (Option.some.inj ho)).symm
              obtain rfl := Option.some.inj ho
              exact wp_val (op_cell_lists a' w' _ 36 _ (hDE 2 (by kernel_rfl)).2 (HBW.out w' (hok.any (hd 18 (by kernel_rfl)))) _ e) (hK0 _ _ (hok.read (by decide) (by decide) (by decide)) (fun f h1 _ => h1 _ rfl) (fun j f _ hf hq => an6_stab j hf hq))
            | 4, ho, hd, hD, hK, hK0, hun =>
              have e := (congrArg Oper.op (Option.some.inj ho)).symm
              obtain rfl := Option.some.inj ho
              exact wp_val (op_mv a' w' 5 _ e) (hK0 _ _ (hok.read (by decide) (by decide) (by decide)) (fun f h1 _ => (h1 _ rfl).trans (hun 5 (by kernel_rfl))) (fun j f _ hf hq => an6_stab j hf hq))
            | 5, ho, hd, hD, hK, hK0, hun =>
              have e := (congrArg Oper.op (Option.some.inj ho)).symm
              obtain rfl := Option.some.inj ho
              refine wp_enter (op_call1 a' w' 27 38 3 EVP.out _ e) ?_
              rw [show a'.tmps.getD 38 undef = .int .i64 x from (hDE 4 (by kernel_rfl)).2]
              refine (PL.out w').mono ?_
              rintro ee w2 ⟨rfl, rfl⟩
              exact .inl ⟨_, rfl, hK0 _ _ (hok.read (by decide) (by decide) (by decide)) (fun f h1 _ => h1 _ rfl) (fun j f _ hf hq => an6_stab j hf hq)⟩
            | 6, ho, hd, hD, hK, hK0, hun =>
              have e := (congrArg Oper.op (Option.some.inj ho)).symm
              obtain rfl := Option.some.inj ho
              exact wp_val (op_cell_setter a' w' _ 2 _ (hun 2 (by kernel_rfl)) (HB2.out w' (hok.any (hd 18 (by kernel_rfl)))) _ e) (hK0 _ _ (hok.read (by decide) (by decide) (by decide)) (fun f h1 _ => h1 _ rfl) (fun j f _ hf hq => an6_stab j hf hq))
            | 7, ho, hd, hD, hK, hK0, hun =>
              have e := (congrArg Oper.op (Option.some.inj ho)).symm
              obtain rfl := Option.some.inj ho
              exact wp_val (op_nilc a' w' _ 40 (hDE 6 (by kernel_rfl)).2 _ e) (hK0 _ _ (hok.read (by decide) (by decide) (by decide)) (fun f h1 _ => h1 _ rfl) (fun j f _ hf hq => an6_stab j hf hq))
            | 8, ho, hd, hD, hK, hK0, hun =>
              have e := (congrArg Oper.op (Option.some.inj ho)).symm
              obtain rfl := Option.some.inj ho
              exact wp_val (op_fld_setter_2 a' w' _ 41 (hDE 7 (by kernel_rfl)).2 _ e) (hK0 _ _ (hok.read (by decide) (by decide) (by decide)) (fun f h1 _ => h1 _ rfl) (fun j f _ hf hq => an6_stab j hf hq))
            | 9, ho, hd, hD, hK, hK0, hun =>
              have e := (congrArg Oper.op (Option.some.inj ho)).symm
              obtain rfl := Option.some.inj ho
              exact wp_val (op_cell_lists a' w' _ 42 _ (hDE 8 (by kernel_rfl)).2 (HBW.out w' (hok.any (hd 18 (by kernel_rfl)))) _ e) (hK0 _ _ (hok.read (by decide) (by decide) (by decide)) (fun f h1 _ => h1 _ rfl) (fun j f _ hf hq => an6_stab j hf hq))
            | 10, ho, hd, hD, hK, hK0, hun =>
              have e := (congrArg Oper.op (Option.some.inj ho)).symm
              obtain rfl := Option.some.inj ho
              exact wp_val (op_mv a' w' 5 _ e) (hK0 _ _ (hok.read (by decide) (by decide) (by decide)) (fun f h1 _ => (h1 _ rfl).trans (hun 5 (by kernel_rfl))) (fun j f _ hf hq => an6_stab j hf hq))
            | 11, ho, hd, hD, hK, hK0, hun =>
              have e := (congrArg Oper.op (Option.some.inj ho)).symm
              obtain rfl := Option.some.inj ho
              refine wp_enter (op_call1 a' w' 27 44 3 EVP.out _ e) ?_
              rw [show a'.tmps.getD 44 undef = .int .i64 x from (hDE 10 (by kernel_rfl)).2]
              refine (PL.out w').mono ?_
              rintro ee w2 ⟨rfl, rfl⟩
              exact .inl ⟨_, rfl, hK0 _ _ (hok.read (by decide) (by decide) (by decide)) (fun f h1 _ => h1 _ rfl) (fun j f _ hf hq => an6_stab j hf hq)⟩
            | 12, ho, hd, hD, hK, hK0, hun =>
              have e := (congrArg Oper.op (Option.some.inj ho)).symm
              obtain rfl := Option.some.inj ho
              exact wp_val (op_at_lists a' w' M.bw 0 s.waits.length s.waits.length (plc x) 43 45 (hDE 9 (by kernel_rfl)).2 (hDE 11 (by kernel_rfl)).2 HPL.out _ e) (hK0 _ _ (hok.read (by decide) (by decide) (by decide)) (fun f h1 _ => h1 _ rfl) (fun j f _ hf hq => an6_stab j hf hq))
            | 13, ho, hd, hD, hK, hK0, hun =>
              have e := (congrArg Oper.op (Option.some.inj ho)).symm
              obtain rfl := Option.some.inj ho
              exact wp_val (op_cell_list a' w' _ 46 _ (hDE 12 (by kernel_rfl)).2 (HVP.out w' (hok.two (hd 16 (by kernel_rfl)))) _ e) (hK0 _ _ (hok.read (by decide) (by decide) (by decide)) (fun f h1 _ => h1 _ rfl) (fun j f _ hf hq => an6_stab j hf hq))
            | 14, ho, hd, hD, hK, hK0, hun =>
              have e := (congrArg Oper.op (Option.some.inj ho)).symm
              obtain rfl := Option.some.inj ho
              exact wp_val (op_cell_waiting a' w' _ 3 _ (hun 3 (by kernel_rfl)) (HB3.out w' (hok.any (hd 18 (by kernel_rfl)))) _ e) (hK0 _ _ (hok.read (by decide) (by decide) (by decide)) (fun f h1 _ => h1 _ rfl) (fun j f _ hf hq => an6_stab j hf hq))
            | 15, ho, hd, hD, hK, hK0, hun =>
              have e := (congrArg Oper.op (Option.some.inj ho)).symm
              obtain rfl := Option.some.inj ho
              have hw' := hok.c0 (hd 15 (by kernel_rfl))
              rw [hw']
              exact wp_val ((op_one_ptr a' U0 _ 48 _ rfl (hDE 14 (by kernel_rfl)).2 _ e).trans (by rw [HU1.out])) (hK0 _ _ (Chain.first (hd 16 (by kernel_rfl)) (hd 18 (by kernel_rfl)) (by decide) (by decide)) (fun f h1 _ => h1 _ rfl) (fun j f _ hf hq => an6_stab j hf hq))
            | 16, ho, hd, hD, hK, hK0, hun =>
              have e := (congrArg Oper.op (Option.some.inj ho)).symm
              obtain rfl := Option.some.inj ho
              have hw' := hok.c1 (hDE 15 (by kernel_rfl)).1 (hd 16 (by kernel_rfl))
              rw [hw']
              exact wp_val (op_apps a' U1 U2 85 47 49 _ _ _ (hDE 13 (by kernel_rfl)).2 (hDE 15 (by kernel_rfl)).2 _ HRUN.out e) (hK0 _ _ (Chain.second (hDE 15 (by kernel_rfl)).1 (hd 18 (by kernel_rfl)) (by decide)) (fun f h1 _ => h1 _ rfl) (fun j f _ hf hq => an6_stab j hf hq))
            | 17, ho, hd, hD, hK, hK0, hun =>
              have e := (congrArg Oper.op (Option.some.inj ho)).symm
              obtain rfl := Option.some.inj ho
              exact wp_val (op_at_lists a' w' M.bw 0 s.waits.length s.waits.length (plc x) 37 39 (hDE 3 (by kernel_rfl)).2 (hDE 5 (by kernel_rfl)).2 HPL.out _ e) (hK0 _ _ (hok.read (by decide) (by decide) (by decide)) (fun f h1 _ => h1 _ rfl) (fun j f _ hf hq => an6_stab j hf hq))
            | 18, ho, hd, hD, hK, hK0, hun =>
              have e := (congrArg Oper.op (Option.some.inj ho)).symm
              obtain rfl := Option.some.inj ho
              have hw' := hok.c2 (hDE 16 (by kernel_rfl)).1 (hd 18 (by kernel_rfl))
              rw [hw']
              exact wp_skip' ((op_put_list a' U2 M.bw (0 + plc x) _ _ _ _ 51 50 (hDE 17 (by kernel_rfl)).2 (hDE 16 (by kernel_rfl)).2 HC3.out HZ3.out _ e).trans (by rw [HU3.out])) (hK0 _ _ (hok.third (hDE 16 (by kernel_rfl)).1) (fun _ _ _ => trivial) (fun j f _ hf hq => an6_stab j hf hq))
            | i + 19, ho, _, _, _, _, _ => exact absurd ho (by simp)
          · intro a' w3 hsz hdf hkt hok hR
            obtain ⟨d, hok, hall⟩ := hok
            have hw3 : U3 = w3 := (hok.c3 (hall 18 (by decide))).symm
            subst hw3
            gi_wp2
            refine ⟨HKO.out.from _, ⟨rfl, HSTOP.out⟩, ⟨_, HMVD.out, ?_⟩, HBF.out⟩
            rw [HNX.out]
            exact HMF.out
    case done =>
      rintro D xs WE hD hxs ⟨hall, hBE⟩ hK
      have hnone : findP s.set kept rest = none := opens_none (k := 0) fun y hy => by
        rw [← hxs] at hy
        obtain ⟨z, hz, rfl⟩ := List.mem_map.1 hy
        exact hall z hz
      have HANN : Hid (anotherP s i = setsP s kept) := by unfold Hid; rw [HAN.out, hnone]
      obtain ⟨WQ, hWQ⟩ : ∃ y, WE.drew = y := ⟨_, rfl⟩
      have hbQ : Below W3.heap.size W3 WQ := hBE.trans (by rw [← hWQ]; exact (Below.refl _ _).drew)
      have HMQ := HM3.out.keep (by rw [HS3.out]; omega) hbQ
      have HQ2 : Hid (WQ.cell? ⟨W.heap.size, 0, none⟩ = some (.pointer (some ⟨M.R, 0, none⟩))) := by
        have := (hbQ.block _ (at_heap HG2.out)).trans HG2.out
        unfold Hid
        simp [World.cell?, this]
      have HQ3 : Hid (WQ.cell? ⟨W.heap.size + 1, 0, none⟩ = some (.pointer (some ⟨b, 0, none⟩))) := by
        have := (hbQ.block _ (at_heap HG3.out)).trans HG3.out
        unfold Hid
        simp [World.cell?, this]
      have HQ4 : Hid (WQ.cell? ⟨b, 0, none⟩ = some (.int .i64 kept)) := (cells3 ((hbQ.block _ (at_heap HGB.out)).trans HGB.out)).1
      have HKQ : Hid (WQ.heap[D]? = some (.deferred (some []))) := by unfold Hid; rw [← hWQ]; exact hK
      have EVS : Hid (∀ args w, (callFunc 28 args).run Try.prog w = .ok (.enter 28 args) w) := enters_of Try.func28 (by kernel_rfl) rfl
      have HBQ : Hid (Below B W WQ) := (HB3w.out.mono hB).trans (hbQ.mono (by rw [HS3.out]; omega))
      have HBD : Hid (B ≤ D) := by have := HS3.out; unfold Hid; omega
      have SETS := Lib.hid (sets_mem WQ B M s kept HMQ (Nat.le_trans (by rw [HS3.out]; omega) hbQ.size) (HLIT.out kept (.inl rfl)) hN hq)
      gi_wp2_with fail
      refine wpIn_wide.2 ?_
      refine wp_region_valsE (by kernel_rfl) (by kernel_rfl) an7M (by kernel_rfl) (by kernel_rfl)
        (fun d w' => (d 5 = false → w' = WQ) ∧ (d 5 = true → ∃ s2 M2, setsP s kept = some s2 ∧ Mat w' B M2 s2 ∧ (M2.R = M.R ∧ M2.bs = M.bs ∧ M2.bw = M.bw ∧ (∃ t, M2.bl = M.bl ++ t) ∧ ∀ p, s2.waits.getD p [] = s.waits.getD p [] → M2.vs[p]? = M.vs[p]?) ∧ Below B W w' ∧ w'.heap[D]? = some (.deferred (some [])))) (an7R M.R b kept) ⟨fun _ => hWQ, (fun h => by cases h)⟩ (fun jj f f' w w' _ hf h => an7_stab jj hf h) ?_ ?_
      · intro i oo d a' w' ho hd hun hdf hok hDE K hK hK0
        match i, ho, hd, hDE, hK, hK0, hun with
        | 0, ho, hd, hD, hK, hK0, hun =>
          have e := (congrArg Oper.op (Option.some.inj ho)).symm
          obtain rfl := Option.some.inj ho
          exact wp_val (op_cell_setter a' w' _ 2 _ (hun 2 (by kernel_rfl)) (by rw [(hok.1 (hd 5 (by kernel_rfl)))]; exact HQ2.out) _ e) (hK0 _ _ ⟨fun h => hok.1 (by simpa using h), fun h => by have h5 := hd 5 (by kernel_rfl); simp [h5] at h⟩ (fun f h1 _ => h1 _ rfl) (fun j f _ hf hq => an7_stab j hf hq))
        | 1, ho, hd, hD, hK, hK0, hun =>
          have e := (congrArg Oper.op (Option.some.inj ho)).symm
          obtain rfl := Option.some.inj ho
          exact wp_val (op_cell_waiting a' w' _ 3 _ (hun 3 (by kernel_rfl)) (by rw [(hok.1 (hd 5 (by kernel_rfl)))]; exact HQ3.out) _ e) (hK0 _ _ ⟨fun h => hok.1 (by simpa using h), fun h => by have h5 := hd 5 (by kernel_rfl); simp [h5] at h⟩ (fun f h1 _ => h1 _ rfl) (fun j f _ hf hq => an7_stab j hf hq))
        | 2, ho, hd, hD, hK, hK0, hun =>
          have e := (congrArg Oper.op (Option.some.inj ho)).symm
          obtain rfl := Option.some.inj ho
          exact wp_val (op_nilc a' w' _ 53 (hDE 1 (by kernel_rfl)).2 _ e) (hK0 _ _ ⟨fun h => hok.1 (by simpa using h), fun h => by have h5 := hd 5 (by kernel_rfl); simp [h5] at h⟩ (fun f h1 _ => h1 _ rfl) (fun j f _ hf hq => an7_stab j hf hq))
        | 3, ho, hd, hD, hK, hK0, hun =>
          have e := (congrArg Oper.op (Option.some.inj ho)).symm
          obtain rfl := Option.some.inj ho
          exact wp_val (op_fld_waiting_0 a' w' b 54 (hDE 2 (by kernel_rfl)).2 _ e) (hK0 _ _ ⟨fun h => hok.1 (by simpa using h), fun h => by have h5 := hd 5 (by kernel_rfl); simp [h5] at h⟩ (fun f h1 _ => h1 _ rfl) (fun j f _ hf hq => an7_stab j hf hq))
        | 4, ho, hd, hD, hK, hK0, hun =>
          have e := (congrArg Oper.op (Option.some.inj ho)).symm
          obtain rfl := Option.some.inj ho
          exact wp_val (op_cell_int a' w' _ 55 _ (hDE 3 (by kernel_rfl)).2 (by rw [(hok.1 (hd 5 (by kernel_rfl)))]; exact HQ4.out) _ e) (hK0 _ _ ⟨fun h => hok.1 (by simpa using h), fun h => by have h5 := hd 5 (by kernel_rfl); simp [h5] at h⟩ (fun f h1 _ => h1 _ rfl) (fun j f _ hf hq => an7_stab j hf hq))
        | 5, ho, hd, hD, hK, hK0, hun =>
          have e := (congrArg Oper.op (Option.some.inj ho)).symm
          obtain rfl := Option.some.inj ho
          have hw' := (hok.1 (hd 5 (by kernel_rfl)))
          rw [hw']
          refine wp_enter (op_call2 a' WQ 28 52 56 79 3 EVS.out _ e) ?_
          rw [show a'.tmps.getD 52 undef = .pointer (some ⟨M.R, 0, none⟩) from (hDE 0 (by kernel_rfl)).2, show a'.tmps.getD 56 undef = .int .i64 kept from (hDE 4 (by kernel_rfl)).2]
          refine SETS.out.mono ?_
          rintro ee w2 ⟨⟨hn2, hs2⟩, hko⟩
          have hK2 : w2.heap[D]? = some (.deferred (some [])) := hko.same D _ HKQ.out rfl
          cases hsP : setsP s kept with
          | none =>
            obtain ⟨rfl, hb2⟩ := hn2 hsP
            refine .inr ⟨_, rfl, ?_⟩
            show LeavesInM Fence.wide 9 Try.prog Try.f48 a'.tmps _ a'.defers (.panicking (faultI 0)) w2
            rw [hdf]
            refine ⟨by simp, .inl ⟨_, _, rfl, run_takeDeferred hK2, ?_⟩⟩
            exact post_put (B := B) (by rw [HANN.out, hsP]; exact ⟨fun _ => ⟨rfl, HBQ.out.trans hb2⟩, (fun s' h => by cases h)⟩) hK2 HBD.out _
          | some s2 =>
            obtain ⟨rfl, ⟨M2, hm2, hr2⟩, hb2⟩ := hs2 s2 hsP
            exact .inl ⟨_, rfl, hK0 _ _ ⟨(fun h => by simp at h), fun _ => ⟨s2, M2, hsP, hm2, hr2, HBQ.out.trans hb2, hK2⟩⟩ (fun _ _ _ => trivial) (fun j f _ hf hq => an7_stab j hf hq)⟩
        | i + 6, ho, _, _, _, _, _ => exact absurd ho (by simp)
      · intro a' w3 hsz hdf hkt hok hR
        obtain ⟨d, hok, hall⟩ := hok
        obtain ⟨s2, M2, hsP, hm2, hr2, hb2, hK2⟩ := hok.2 (hall 5 (by decide))
        show LeavesInM Fence.wide 9 Try.prog Try.f48 a'.tmps _ a'.defers .returning w3
        rw [hdf]
        refine ⟨by simp, .inl ⟨_, _, rfl, run_takeDeferred hK2, ?_⟩⟩
        refine ⟨_, results_none rfl _ _ _, ?_⟩
        exact post_put (B := B) (by rw [HANN.out, hsP]; exact ⟨(fun h => by cases h), fun s' h => by obtain rfl := Option.some.inj h; exact ⟨rfl, ⟨M2, hm2, hr2⟩, hb2⟩⟩) hK2 HBD.out _
    case stop =>
      rintro D c pre WE hD hpre ⟨⟨rfl, hst⟩, ⟨M', hmv, hm⟩, hbl⟩ hK
      obtain ⟨x, hx1, hx2⟩ := stops_next hpre hst
      have hpx : plc x.1.2 < s.waits.length := hpl _ (opens_mem x.2).2.2
      have hnx : nextS s i kept rest pre = { s with ws := s.ws.set i ⟨kept, x.1.2, rest.drop (x.1.1 + 1)⟩, waits := s.waits.set (plc x.1.2) (waitsOf s x.1.2 ++ [i]) } := by unfold nextS; rw [hx1]
      have hANX : anotherP s i = some (nextS s i kept rest pre) := by rw [HAN.out, hx2, hnx]
      have hBD : B ≤ D := by have := HS3.out; omega
      gi_wp2
      refine ⟨by simp, .inl ⟨_, _, rfl, run_takeDeferred hK, ?_⟩⟩
      refine ⟨_, results_none rfl _ _ _, ?_⟩
      refine post_put (B := B) (by
        rw [hANX]
        refine ⟨(fun h => by cases h), fun s' h => ?_⟩
        obtain rfl := Option.some.inj h
        refine ⟨rfl, ⟨M', hm, hmv.1, hmv.2.1, hmv.2.2.1, ⟨[], by rw [hmv.2.2.2.1, List.append_nil]⟩, fun p hp => hmv.2.2.2.2 p fun y hy e => ?_⟩, hbl⟩
        rw [hx1] at hy
        obtain rfl := Option.some.inj hy
        rw [hnx] at hp
        simp only at hp
        rw [← e, getD_set_self _ _ hpx] at hp
        have := congrArg List.length hp
        unfold waitsOf at this
        simp at this) hK hBD _
end Go.Proofs.Ytefbknpoehmfaaa.For
