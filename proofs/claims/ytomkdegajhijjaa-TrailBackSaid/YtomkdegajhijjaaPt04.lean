/- circuit.Kind, and the pages' own: what they tell of any circuit and variable; no condition. The pages' own words of circuits, walked: kinds, and literals that are known; no condition. The pages' own words of circuits, walked: literals that are known; no condition. The page's example of circuits, as the laws call it: it holds. No condition. The pages' own words of circuits, walked: names; no condition. The pages' own look at a circuit, walked: whether it may be; no condition. Lists of any elements that a call makes itself: what appending leaves; no condition. Appending to a list of any elements that a call makes itself; no condition. interlockplain.Ints, interlockref10.Abs, Is, One; condition: lists lie in memory, texts are as long as Go's may be. What the laws of layer 15 ask of the program's own trail: an abstract one (its variables, what is set in its order, its level, which blocks are its own). A region that draws its order, by what each operation leaves in its own slot, whatever came before it; no condition. Stores of whole values, cell by cell, into one block: the worlds between, and what is as it was; no condition. A region that draws its order, once more: an operation also hears that what it waits for has run; no condition. A region that draws its order, where what is told of the world may speak of slots; no condition. -/
import Derived.Test.YtomkdegajhijjaaPt03
import Derived.Deep.Draws
import Derived.Laws.EntriesVeiled
import Derived.BigQuiet
import Derived.Test.YtomkdegajhijjaaPt00
namespace Go.Proofs.Ytomkdegajhijjaa.Cw
open Go.ChangeShapes Go.WideShapes Go.ChangeAt Go.RowKit Circ

end Go.Proofs.Ytomkdegajhijjaa.Cw
namespace Go.Proofs.Ytomkdegajhijjaa.Cw
open Go.ChangeShapes Go.WideShapes Go.ChangeAt Go.RowKit Circ

end Go.Proofs.Ytomkdegajhijjaa.Cw
namespace Go.Proofs.Ytomkdegajhijjaa.Cw
open Go.ChangeShapes Go.WideShapes Go.ChangeAt Go.RowKit Circ

/-- a world that is as W was below block B -/
structure Wd (B : Nat) (W : World) where
  w : World
  ok : Below B W w
instance (B : Nat) (W : World) : Nonempty (Wd B W) := ⟨⟨W, Below.refl _ _⟩⟩

/-- A region that draws its order, whose operations read what lies below B, and whose callees turn nothing there: one walk, in the order of the text. -/
theorem wp_region_wd {P : Program} {id : Nat} {Q : Exit → Act → World → Prop} {a : Act} {w : World} {l : List Oper} (hm : P.follows .mixedOrders = true) (hB : Region.lexB .any l.toArray = true)
    (h : wpQuiet P l.toArray (fun w' => ∃ u : Wd w.heap.size w, w' = u.w) (fun a' => ∀ w', (∃ u : Wd w.heap.size w, w' = u.w) → Q .normal a' w') l a) : (Code.region id l.toArray true).wp P Q a w :=
  wp_region_quiet (C := fun w' => ∃ u : Wd w.heap.size w, w' = u.w) hm hB ⟨⟨_, (Below.refl _ _).drew⟩, rfl⟩ (by simpa using h)

theorem Calls.in_wd {P : Program} {f : FuncId} {args : Array Value} {B : Nat} {W : World} {v : Value} (u : Wd B W)
    (h : Calls P f args u.w fun e w' => e = .returned v ∧ Below u.w.heap.size u.w w') (hB : B ≤ W.heap.size) : Calls P f args u.w fun e w'' => e = .returned v ∧ ∃ u' : Wd B W, w'' = u'.w :=
  h.mono fun _ w' ⟨he, hb⟩ => ⟨he, ⟨w', u.ok.trans (hb.mono (Nat.le_trans hB u.ok.size))⟩, rfl⟩
theorem Wd.cell {W : World} {p : Addr} {v : Value} (h : W.cell? p = some v) (u : Wd W.heap.size W) : u.w.cell? p = some v := cell_later u.ok h

end Go.Proofs.Ytomkdegajhijjaa.Cw
namespace Go.Proofs.Ytomkdegajhijjaa.Cw
open Go.ChangeShapes Go.WideShapes Go.ChangeAt Go.RowKit Go.Maps Circ

def c0 : Cir := ⟨1, [], [⟨2, 2, 0⟩], [], [], [], [], []⟩
end Go.Proofs.Ytomkdegajhijjaa.Cw
namespace Go.Proofs.Ytomkdegajhijjaa.Cw
open Go.ChangeShapes Go.WideShapes Go.ChangeAt Go.RowKit Circ

end Go.Proofs.Ytomkdegajhijjaa.Cw
namespace Go.Proofs.Ytomkdegajhijjaa.Cw
open Go.ChangeShapes Go.WideShapes Go.ChangeAt Go.RowKit Go.Maps Circ

theorem OwnI.cell {w : World} {base : Nat} {v : Value} {xs : List Int} (h : OwnI w base v xs) {k : Nat} (hk : k < xs.length) : ∃ b o q, v = .slice (some ⟨b, o, none⟩) xs.length q ∧ xs.length ≤ q ∧ q ≤ 9223372036854775807 ∧ w.cell? ⟨b, o + k, none⟩ = some (.int .i64 xs[k]) ∧ LRow w w.heap.size 1 (some ⟨b, o, none⟩) (ints xs) := by
  obtain ⟨A, q, hv, hr, hq, hq2⟩ := h.row
  obtain ⟨b, o, rfl, hb, hc⟩ := hr.int hk
  exact ⟨b, o, q, hv, hq, hq2, hc, hr⟩
theorem LRow.take {w : World} {B : Nat} {A : Option Addr} {l : List Int} (h : LRow w B 1 A (ints l)) (i : Nat) : LRow w B 1 A (ints (l.take i)) := by
  rcases h with h | ⟨b, o, e, hb, hc⟩
  · left; simp [ints] at h; subst h; simp [ints]
  · refine .inr ⟨b, o, e, hb, fun j ys hj k u hk => ?_⟩
    refine hc j ys ?_ k u hk
    unfold ints at hj ⊢
    rw [List.map_take, List.getElem?_take] at hj
    split at hj
    · exact hj
    · cases hj

/-- the row of one number that a call lays for an append -/
theorem one_row (w : World) (x : Int) (t : TypeId) : LRow (w.alloc (.cells #[.int .i64 x] t)) (w.heap.size + 1) 1 (some ⟨w.heap.size, 0, none⟩) (ints [x]) :=
  .inr ⟨_, 0, rfl, Nat.lt_succ_self _, fun i ys hi j u hj => by
    match i, hi with
    | 0, hi =>
      obtain rfl : [Value.int .i64 x] = ys := by simpa [ints] using hi
      match j, hj with
      | 0, hj =>
        obtain rfl : Value.int .i64 x = u := by simpa using hj
        rw [new_cell]; rfl⟩
end Go.Proofs.Ytomkdegajhijjaa.Cw
namespace Go.Proofs.Ytomkdegajhijjaa.Cw
open Go.ChangeShapes Go.WideShapes Go.ChangeAt Go.RowKit Go.Maps Circ

theorem flatten_at {α : Type} (m : Nat) (hm : 0 < m) : ∀ (xs : List (List α)) (_ : ∀ y ∈ xs, y.length = m) (j : Nat), xs.flatten[j]? = (xs[j / m]?).bind (·[j % m]?)
  | [], _, j => by simp
  | y :: ys, h, j => by
    have hy : y.length = m := h y List.mem_cons_self
    rw [List.flatten_cons]
    by_cases hj : j < m
    · rw [List.getElem?_append_left (by omega), Nat.div_eq_of_lt hj, Nat.mod_eq_of_lt hj]; rfl
    · rw [List.getElem?_append_right (by omega), hy, flatten_at m hm ys (fun z hz => h z (List.mem_cons_of_mem _ hz)) (j - m)]
      obtain ⟨k, rfl⟩ : ∃ k, j = k + m := ⟨j - m, by omega⟩
      rw [Nat.add_sub_cancel, Nat.add_div_right _ hm, Nat.add_mod_right]
      rfl
/-- the slice v, made from block base on, holds the elements xs of m cells each -/
def OwnC (w : World) (base : Nat) (e : TypeId) (m : Nat) (v : Value) (xs : List (List Value)) : Prop := w.ownsRow base e m v xs.length xs.flatten
theorem OwnC.nil (w : World) (base : Nat) (e : TypeId) (m : Nat) : OwnC w base e m (.slice none 0 0) [] := ⟨by simp, .inl ⟨rfl, rfl⟩⟩
theorem OwnC.row {w : World} {base : Nat} {e : TypeId} {m : Nat} {v : Value} {xs : List (List Value)} (h : OwnC w base e m v xs) (hm : 0 < m) (hx : ∀ y ∈ xs, y.length = m) : ∃ A q, v = .slice A xs.length q ∧ LRow w w.heap.size m A xs ∧ xs.length ≤ q ∧ q ≤ 9223372036854775807 := by
  obtain ⟨_, h⟩ := h
  rcases h with ⟨rfl, h0⟩ | ⟨g, cap, cur, rfl, _, hg, hn, hmx, hs, ht⟩
  · have hx0 : xs = [] := List.eq_nil_of_length_eq_zero h0
    subst hx0
    exact ⟨none, 0, rfl, .inl rfl, Nat.le_refl _, by decide⟩
  · refine ⟨_, cap, rfl, .inr ⟨g, 0, rfl, (Array.getElem?_eq_some_iff.1 hg).1, fun i ys hi j u hj => ?_⟩, hn, by unfold maxLen at hmx; exact hmx⟩
    have hil : i < xs.length := (List.getElem?_eq_some_iff.1 hi).1
    have hjl : j < m := by
      have h1 := (List.getElem?_eq_some_iff.1 hj).1
      have h2 := hx ys (List.mem_of_getElem? hi)
      omega
    have hlt : i * m + j < xs.length * m := by
      have : (i + 1) * m ≤ xs.length * m := Nat.mul_le_mul_right _ hil
      rw [Nat.add_mul] at this; omega
    have e := congrArg (fun l : List Value => l[i * m + j]?) ht
    simp only [List.getElem?_take] at e
    rw [if_pos hlt, flatten_at m hm xs hx, show (i * m + j) / m = i by rw [Nat.mul_comm, Nat.mul_add_div hm, Nat.div_eq_of_lt hjl, Nat.add_zero], show (i * m + j) % m = j by rw [Nat.mul_comm, Nat.mul_add_mod, Nat.mod_eq_of_lt hjl], hi] at e
    simp only [Option.bind_some] at e
    rw [hj] at e
    simp [World.cell?, hg]
    simpa using e
theorem OwnC.block_lt {w : World} {base : Nat} {e : TypeId} {m : Nat} {v : Value} {xs : List (List Value)} (h : OwnC w base e m v xs) (g : Nat) (hg : v.ownBlock = some g) : base ≤ g ∧ g < w.heap.size := by
  obtain ⟨_, h⟩ := h
  rcases h with ⟨rfl, h0⟩ | ⟨g', cap, cur, rfl, hb, hh, _⟩
  · simp [Value.ownBlock] at hg
  · have : g' = g := by simpa [Value.ownBlock] using hg
    subst this
    exact ⟨hb, (Array.getElem?_eq_some_iff.1 hh).1⟩
theorem OwnC.keep_at {w w' : World} {base : Nat} {e : TypeId} {m : Nat} {v : Value} {xs : List (List Value)} (h : OwnC w base e m v xs) (hb : ∀ g, base ≤ g → v.ownBlock = some g → w'.heap[g]? = w.heap[g]?) : OwnC w' base e m v xs := by
  obtain ⟨h0, h⟩ := h
  refine ⟨h0, ?_⟩
  rcases h with h | ⟨g, cap, cur, hv, hg, hh, r⟩
  · exact .inl h
  · exact .inr ⟨g, cap, cur, hv, hg, (hb g hg (by rw [hv]; rfl)).trans hh, r⟩
theorem OwnC.keep {w w' : World} {base : Nat} {e : TypeId} {m : Nat} {v : Value} {xs : List (List Value)} (h : OwnC w base e m v xs) (hb : Below w.heap.size w w') : OwnC w' base e m v xs := h.keep_at fun g _ hg => hb.block g (h.block_lt g hg).2

end Go.Proofs.Ytomkdegajhijjaa.Cw
namespace Go.Proofs.Ytomkdegajhijjaa.Cw
open Go.ChangeShapes Go.WideShapes Go.ChangeAt Go.RowKit Go.Maps Circ

end Go.Proofs.Ytomkdegajhijjaa.Cw
namespace Go.Proofs.Ytomkdegajhijjaa.Cla
open Go.ChangeShapes Go.WideShapes Go.ChangeAt Go.RowKit Go.Maps Circ Cw

/-- a list of numbers in memory below block B -/
structure ILies (w : World) (B : Nat) (A : Option Addr) (l : List Int) : Prop where
  row : LRow w B 1 A (ints l)
  fits : ∀ x ∈ l, I64 x
  len : l.length ≤ 9223372036854775807
section
variable {w w' : World} {B B' : Nat} {A : Option Addr} {l : List Int}
theorem ILies.below (h : ILies w B A l) (hb : Below B w w') : ILies w' B A l := ⟨h.row.below hb, h.fits, h.len⟩
theorem ILies.more (h : ILies w B A l) (hB : B ≤ B') : ILies w B' A l := ⟨h.row.more hB, h.fits, h.len⟩
theorem ILies.nil (w : World) (B : Nat) (A : Option Addr) : ILies w B A [] := ⟨.inl rfl, fun x hx => (List.not_mem_nil hx).elim, by decide⟩
end
/-- the first k numbers of two lists are one -/
theorem same_take {a b : List Int} (hl : a.length = b.length) (h : ∀ k, k < a.length → a[k]? = b[k]?) : a = b := by
  apply List.ext_getElem?
  intro i
  by_cases hi : i < a.length
  · exact h i hi
  · rw [List.getElem?_eq_none (by omega), List.getElem?_eq_none (by omega)]
set_option maxHeartbeats 16000000 in
set_option maxRecDepth 100000 in
theorem ints_any (a b : List Int) (A B : Option Addr) (q r : Nat) (w : World) (ha : ILies w w.heap.size A a) (hb : ILies w w.heap.size B b) :
    Calls Try.prog 20 #[.slice A a.length q, .slice B b.length r] w fun e w' => e = .returned (.bool (decide (a = b))) ∧ Below w.heap.size w w' := by
  have HA := Lib.hid ha
  have HB := Lib.hid hb
  have hal := ha.len
  clear ha hb
  by_cases hn : a.length = b.length
  · have hbe : ((a.length : Int) != (b.length : Int)) = false := by rw [bne_eq_false_iff_eq]; omega
    have HN := Lib.hid hn
    go_enter Try.func20, Try.ntmps20
    go_wp2
    clear hn
    go_loopw [5] (fun i wr => ∃ k : Nat, k ≤ a.length ∧ i = .int .i64 k ∧ (∀ j, j < k → a[j]? = b[j]?) ∧ Below w.heap.size w wr) (fun i _ => a.length - (intOf i).toNat)
    case atStart => exact ⟨0, Nat.zero_le _, rfl, fun j h => absurd h (Nat.not_lt_zero _), Below.refl _ _⟩
    case round =>
      obtain ⟨k, hk, rfl, hs, hbw⟩ := hrel
      have HS := Lib.hid hs
      have HW := Lib.hid hbw
      clear hs hbw
      by_cases hlt : k < a.length
      · have hlb : k < b.length := by have := HN.out; omega
        obtain ⟨b1, o1, hA1, -, c1⟩ := LRow.int ((HA.out.below HW.out).more HW.out.size).row hlt
        obtain ⟨b2, o2, hA2, -, c2⟩ := LRow.int ((HB.out.below HW.out).more HW.out.size).row hlb
        have hz0 : (0 : Int) ≤ (k : Int) := by omega
        have hz : (k : Int) < (a.length : Int) := by omega
        have hz2 : (k : Int) < (b.length : Int) := by omega
        have NXT : Hid (a[k] = b[k] → ∀ j, j < k + 1 → a[j]? = b[j]?) := fun h j hj => by
          by_cases e : j = k
          · subst e; rw [List.getElem?_eq_getElem hlt, List.getElem?_eq_getElem hlb, h]
          · exact HS.out j (by omega)
        have BAD : Hid (a[k] ≠ b[k] → ¬ a = b) := fun h e => h (by subst e; rfl)
        subst hA1 hA2
        generalize a[k] = x at *
        generalize b[k] = y at *
        by_cases h1 : x = y
        · have b9 : (x != y) = false := bne_eq_false_iff_eq.2 h1
          have HX := Lib.hid (NXT.out h1)
          clear NXT BAD h1
          go_wp2
          have u1 := Wd.cell c1
          have u2 := Wd.cell c2
          refine wp_region_wd (by kernel_rfl) (by kernel_rfl) ?_
          repeat (first | go_big_quiet_skip | (go_big_quiet_want; go_big_quiet_op; go_big_quiet_on))
          refine wpQuiet_nil ?_
          intro wz9 hw'
          obtain ⟨⟨_, hb9⟩, hw''⟩ := hw'
          subst hw''
          have BN : Hid (Below w.heap.size w wz9) := HW.out.trans (hb9.mono HW.out.size)
          clear hb9 u1 u2 c1 c2
          go_wp2
          go_roundw
          case rel => exact ⟨k + 1, by omega, by go_num, HX.out, BN.out⟩
          case measure => simp [intOf]; omega
        · have b9 : (x != y) = true := bne_iff_ne.2 h1
          have HX := Lib.hid (decide_eq_false (BAD.out h1))
          clear NXT BAD h1
          go_wp2
          have u1 := Wd.cell c1
          have u2 := Wd.cell c2
          refine wp_region_wd (by kernel_rfl) (by kernel_rfl) ?_
          repeat (first | go_big_quiet_skip | (go_big_quiet_want; go_big_quiet_op; go_big_quiet_on))
          refine wpQuiet_nil ?_
          intro wz9 hw'
          obtain ⟨⟨_, hb9⟩, hw''⟩ := hw'
          subst hw''
          have BN : Hid (Below w.heap.size w wz9) := HW.out.trans (hb9.mono HW.out.size)
          clear hb9 u1 u2 c1 c2
          go_wp2
          go_ret
          exact ⟨by rw [HX.out]; rfl, BN.out⟩
      · obtain rfl : k = a.length := by omega
        have HX : Hid (decide (a = b) = true) := decide_eq_true (same_take HN.out HS.out)
        go_wp2
        go_ret
        exact ⟨by rw [HX.out]; rfl, HW.out⟩
  · have hbe : ((a.length : Int) != (b.length : Int)) = true := by rw [bne_iff_ne]; omega
    have HX : Hid (decide (a = b) = false) := decide_eq_false (fun e => hn (by rw [e]))
    clear hn
    go_enter Try.func20, Try.ntmps20
    go_wp2
    go_ret
    exact ⟨by rw [HX.out]; rfl, Below.refl _ _⟩
/-- the greater of two numbers, as Go's builtin tells -/
theorem max2 {w : World} (ts : Array TypeId) (t : TypeId) (x y : Int) :
    (Builtin.max_ ts t #[.int .i64 x, .int .i64 y]).run Try.prog w = .ok (.int .i64 (if x < y then y else x)) w := by
  simp [Builtin.max_, Builtin.max2]
theorem neg_is {x : Int} (h : I64 x) : wrap64 (-x) = negW x := by
  unfold I64 at h
  unfold negW wrap64
  split <;> omega
theorem abs_is {x : Int} (_h : I64 x) : (if x < negW x then negW x else x) = absW x := by
  unfold absW
  split <;> split <;> omega
theorem abs_fits {x : Int} (h : I64 x) : I64 (absW x) := by
  unfold I64 at *
  unfold absW negW
  split <;> split <;> omega
set_option maxRecDepth 100000 in
theorem abs_any (x : Int) (w : World) (hx : I64 x) :
    Calls Try.prog 8 #[.int .i64 x] w fun e w' => e = .returned (.int .i64 (absW x)) ∧ w = w' := by
  have hm : ∀ (ts : Array TypeId) (t : TypeId) (W : World), (Builtin.max_ ts t #[.int .i64 x, .int .i64 (wrap64 (-x))]).run Try.prog W = .ok (.int .i64 (absW x)) W := fun ts t W => by
    rw [max2, neg_is hx, abs_is hx]
  clear hx
  generalize absW x = y at *
  go_enter Try.func8, Try.ntmps8
  go_wp2
  go_ret
  exact ⟨rfl, rfl⟩
end Go.Proofs.Ytomkdegajhijjaa.Cla
namespace Go.Proofs.Ytomkdegajhijjaa.Tra
open Go.ChangeShapes Go.WideShapes Go.ChangeAt Go.RowKit Go.Maps Circ Cw Cla

/-- a variable's -/
def atM (L : List Tri) (v : Int) : Option Tri := L.find? fun s => decide (absW s.a = v)
def mayPut (vars : Int) (L : List Tri) (l : Int) : Bool := (decide (1 ≤ absW l) && decide (absW l ≤ vars)) && (atM L (absW l)).isNone
def putL (vars : Int) (L : List Tri) (d l r : Int) : List Tri := if mayPut vars L l = true then L ++ [⟨l, d, r⟩] else L
def valM (L : List Tri) (l : Int) : Int := match atM L (absW l) with
  | some s => if s.a = l then 1 else -1
  | none => 0
def levM (L : List Tri) (v : Int) : Int := match atM L v with
  | some s => s.b
  | none => -1
def reaM (L : List Tri) (v : Int) : Int := match atM L v with
  | some s => s.c
  | none => 0
def placeM (L : List Tri) (i : Int) : Int := if 0 ≤ i then match L[i.toNat]? with
  | some s => s.a
  | none => 0 else 0
def lvlM (x : Int) : Int := if x < 0 then 0 else x
def backL (L : List Tri) (d x : Int) : List Tri := if lvlM x < d then L.filter fun s => decide (s.b ≤ lvlM x) else L
def backD (d x : Int) : Int := if lvlM x < d then lvlM x else d
/-- a trail: in block b; its variables, what is set, its level; which blocks are its own -/
structure TrailI where
  At : World → Nat → Int → List Tri → Int → Prop
  own : World → Nat → Nat → Prop
/-- a call of it turns its own blocks only -/
structure Eff (I : TrailI) (w : World) (b : Nat) (w' : World) : Prop where
  os : w'.os = w.os
  tape : w'.tape = w.tape
  output : w'.output = w.output
  size : w.heap.size ≤ w'.heap.size
  other : ∀ k, k < w.heap.size → ¬ I.own w b k → w'.heap[k]? = w.heap[k]?
  own : ∀ k, I.own w' b k → I.own w b k ∨ w.heap.size ≤ k
/-- a list that is handed out: in a block that is no trail's -/
def Fresh (I : TrailI) (w : World) (b : Nat) (w' : World) (A : Option Addr) (l : List Int) : Prop := l = [] ∨ ∃ g o, A = some ⟨g, o, none⟩ ∧ w.heap.size ≤ g ∧ ¬ I.own w' b g ∧ LRow w' w'.heap.size 1 A (ints l)
/-- all that the laws ask of the program's own trail: of at most 2^10 variables, at most 2^60 levels -/
structure Prog15 (I : TrailI) : Prop where
  keep : ∀ (w w' : World) (b : Nat) (vars : Int) (L : List Tri) (d : Int), I.At w b vars L d → w.heap.size ≤ w'.heap.size → (∀ k, I.own w b k → w'.heap[k]? = w.heap[k]?) → I.At w' b vars L d ∧ ∀ k, I.own w' b k → I.own w b k
  lt : ∀ (w : World) (b : Nat) (vars : Int) (L : List Tri) (d : Int) (k : Nat), I.At w b vars L d → I.own w b k → k < w.heap.size
  new : ∀ (n : Int) (w : World), 0 ≤ n → n ≤ 1000 →
    Calls Try.prog 7 #[.int .i64 n] w fun e w' => (∃ b, e = .returned (.pointer (some ⟨b, 0, none⟩)) ∧ I.At w' b n [] 0 ∧ ∀ k, I.own w' b k → w.heap.size ≤ k) ∧ Below w.heap.size w w'
  put : ∀ (w : World) (b : Nat) (vars : Int) (L : List Tri) (d l r : Int), I.At w b vars L d → I64 l → I64 r →
    Calls Try.prog 10 #[.pointer (some ⟨b, 0, none⟩), .int .i64 l, .int .i64 r] w fun e w' => e = .returned (.bool (mayPut vars L l)) ∧ I.At w' b vars (putL vars L d l r) d ∧ Eff I w b w'
  deeper : ∀ (w : World) (b : Nat) (vars : Int) (L : List Tri) (d : Int), I.At w b vars L d → d < 1152921504606846976 →
    Calls Try.prog 11 #[.pointer (some ⟨b, 0, none⟩)] w fun e w' => e = .returned (.int .i64 (d + 1)) ∧ I.At w' b vars L (d + 1) ∧ Eff I w b w'
  back : ∀ (w : World) (b : Nat) (vars : Int) (L : List Tri) (d x : Int), I.At w b vars L d → I64 x →
    Calls Try.prog 12 #[.pointer (some ⟨b, 0, none⟩), .int .i64 x] w fun e w' => e = .returned (.tuple #[]) ∧ I.At w' b vars (backL L d x) (backD d x) ∧ Eff I w b w'
  value : ∀ (w : World) (b : Nat) (vars : Int) (L : List Tri) (d l : Int), I.At w b vars L d → I64 l →
    Calls Try.prog 15 #[.pointer (some ⟨b, 0, none⟩), .int .i64 l] w fun e w' => e = .returned (.int .i64 (valM L l)) ∧ Below w.heap.size w w'
  level : ∀ (w : World) (b : Nat) (vars : Int) (L : List Tri) (d v : Int), I.At w b vars L d → I64 v →
    Calls Try.prog 16 #[.pointer (some ⟨b, 0, none⟩), .int .i64 v] w fun e w' => e = .returned (.int .i64 (levM L v)) ∧ Below w.heap.size w w'
  reason : ∀ (w : World) (b : Nat) (vars : Int) (L : List Tri) (d v : Int), I.At w b vars L d → I64 v →
    Calls Try.prog 17 #[.pointer (some ⟨b, 0, none⟩), .int .i64 v] w fun e w' => e = .returned (.int .i64 (reaM L v)) ∧ Below w.heap.size w w'
  lits : ∀ (w : World) (b : Nat) (vars : Int) (L : List Tri) (d : Int), I.At w b vars L d →
    Calls Try.prog 21 #[.pointer (some ⟨b, 0, none⟩)] w fun e w' => (∃ A q, e = .returned (.slice A L.length q) ∧ L.length ≤ 9223372036854775807 ∧ Fresh I w b w' A (L.map Tri.a)) ∧ Below w.heap.size w w'
  depth : ∀ (w : World) (b : Nat) (vars : Int) (L : List Tri) (d : Int), I.At w b vars L d →
    Calls Try.prog 18 #[.pointer (some ⟨b, 0, none⟩)] w fun e w' => e = .returned (.int .i64 d) ∧ Below w.heap.size w w'
  len : ∀ (w : World) (b : Nat) (vars : Int) (L : List Tri) (d : Int), I.At w b vars L d →
    Calls Try.prog 19 #[.pointer (some ⟨b, 0, none⟩)] w fun e w' => e = .returned (.int .i64 (L.length : Int)) ∧ Below w.heap.size w w'
  at_ : ∀ (w : World) (b : Nat) (vars : Int) (L : List Tri) (d i : Int), I.At w b vars L d → I64 i →
    Calls Try.prog 14 #[.pointer (some ⟨b, 0, none⟩), .int .i64 i] w fun e w' => e = .returned (.int .i64 (placeM L i)) ∧ Below w.heap.size w w'
  grow : ∀ (w : World) (b : Nat) (vars : Int) (L : List Tri) (d n : Int), I.At w b vars L d → 0 ≤ n → n ≤ 2 → vars ≤ 1000 →
    Calls Try.prog 13 #[.pointer (some ⟨b, 0, none⟩), .int .i64 n] w fun e w' => e = .returned (.tuple #[]) ∧ I.At w' b (vars + n) L d ∧ Eff I w b w'
theorem own3_keep {w w' : World} {base : Nat} {e : TypeId} {v : Value} {xs : List (List Value)} (h : OwnC w base e 3 v xs) (hb : ∀ g, v.ownBlock = some g → w'.heap[g]? = w.heap[g]?) : OwnC w' base e 3 v xs := h.keep_at fun g _ hg => hb g hg
/-- the law's own list beside the trail, which holds hs -/
structure Inv (I : TrailI) (w0 : World) (b : Nat) (vars : Int) (hs L : List Tri) (d : Int) (vs : Value) (w : World) : Prop where
  at_ : I.At w b vars hs d
  os : OwnC w w0.heap.size 31 3 vs (tris L)
  ss : ∀ g, vs.ownBlock = some g → ¬ I.own w b g
  bl : Below w0.heap.size w0 w
  ob : ∀ k, I.own w b k → w0.heap.size ≤ k
section
variable {I : TrailI} {w0 w w' : World} {b : Nat} {vars vars' : Int} {hs L hs' L' : List Tri} {d d' : Int} {vs v : Value}
theorem Inv.later (P : Prog15 I) (h : Inv I w0 b vars hs L d vs w) (hb : Below w.heap.size w w') : Inv I w0 b vars hs L d vs w' := by
  obtain ⟨h1, h2⟩ := P.keep w w' b vars hs d h.at_ hb.size (fun k hk => hb.block k (P.lt w b vars hs d k h.at_ hk))
  exact ⟨h1, h.os.keep hb, fun g hg hk => h.ss g hg (h2 g hk), h.bl.trans (hb.mono h.bl.size), fun k hk => h.ob k (h2 k hk)⟩
/-- behind a call that turns the trail -/
theorem Inv.eff (h : Inv I w0 b vars hs L d vs w) (ha : I.At w' b vars' hs' d') (he : Eff I w b w') : Inv I w0 b vars' hs' L d' vs w' := by
  have l1 := fun g (hg : vs.ownBlock = some g) => (h.os.block_lt g hg).2
  refine ⟨ha, own3_keep h.os fun g hg => he.other g (l1 g hg) (h.ss g hg), fun g hg hk => ?_, ?_, fun k hk => ?_⟩
  · rcases he.own g hk with h1 | h1
    · exact h.ss g hg h1
    · have := l1 g hg; omega
  · exact ⟨he.os.trans h.bl.os, he.tape.trans h.bl.tape, he.output.trans h.bl.output, Nat.le_trans h.bl.size he.size, fun k hk => (he.other k (Nat.lt_of_lt_of_le hk h.bl.size) (fun ho => by have := h.ob k ho; omega)).trans (h.bl.block k hk)⟩
  · rcases he.own k hk with h1 | h1
    · exact h.ob k h1
    · exact Nat.le_trans h.bl.size h1
/-- the law's list, lengthened -/
theorem Inv.push (P : Prog15 I) (h : Inv I w0 b vars hs L d vs w) (ho : OwnC w' w0.heap.size 31 3 v (tris L')) (hb : Below w0.heap.size w w') (hk : ∀ k, k < w.heap.size → some k ≠ vs.ownBlock → w'.heap[k]? = w.heap[k]?) (hl : ∀ g, v.ownBlock = some g → vs.ownBlock = some g ∨ w.heap.size ≤ g) : Inv I w0 b vars hs L' d v w' := by
  obtain ⟨h1, h2⟩ := P.keep w w' b vars hs d h.at_ hb.size (fun k hk' => hk k (P.lt w b vars hs d k h.at_ hk') (fun e => h.ss k e.symm hk'))
  refine ⟨h1, ho, fun g hg hk' => ?_, h.bl.trans hb, fun k hk' => h.ob k (h2 k hk')⟩
  rcases hl g hg with e | e
  · exact h.ss g e (h2 g hk')
  · have := P.lt w b vars hs d g h.at_ (h2 g hk')
    omega
/-- the law's list, made anew -/
theorem Inv.made (P : Prog15 I) (h : Inv I w0 b vars hs L d vs w) (ho : OwnC w' w.heap.size 31 3 v (tris L')) (hb : Below w.heap.size w w') : Inv I w0 b vars hs L' d v w' := by
  have h' := h.later P hb
  obtain ⟨h0, hc⟩ := ho
  refine ⟨h'.at_, ⟨h0, ?_⟩, fun g hg hk => ?_, h'.bl, h'.ob⟩
  · rcases hc with hc | ⟨g, cap, cur, hv, hg, r⟩
    · exact .inl hc
    · exact .inr ⟨g, cap, cur, hv, Nat.le_trans h.bl.size hg, r⟩
  · have h1 := (OwnC.block_lt ⟨h0, hc⟩ g hg).1
    obtain ⟨-, h2⟩ := P.keep w w' b vars hs d h.at_ hb.size (fun k hk => hb.block k (P.lt w b vars hs d k h.at_ hk))
    have := P.lt w b vars hs d g h.at_ (h2 g hk)
    omega
theorem Inv.start (ha : I.At w b vars hs d) (ho : ∀ k, I.own w b k → w0.heap.size ≤ k) (hb : Below w0.heap.size w0 w) : Inv I w0 b vars hs [] d (.slice none 0 0) w :=
  ⟨ha, OwnC.nil _ _ _ _, fun g hg => by simp [Value.ownBlock] at hg, hb, ho⟩
end
end Go.Proofs.Ytomkdegajhijjaa.Tra
namespace Go.Proofs.Ytomkdegajhijjaa.Cw
open Go.ChangeShapes Go.WideShapes Go.ChangeAt Go.RowKit

end Go.Proofs.Ytomkdegajhijjaa.Cw
namespace Go.Proofs.Ytomkdegajhijjaa.Cw
open Go.ChangeShapes Go.WideShapes Go.ChangeAt Go.RowKit

/-- w' is w but for block g -/
structure But (g : Nat) (w w' : World) : Prop where
  b : ∀ k, k ≠ g → w'.heap[k]? = w.heap[k]?
  z : w'.heap.size = w.heap.size
  os : w'.os = w.os
  tape : w'.tape = w.tape
  output : w'.output = w.output
theorem But.refl (g : Nat) (w : World) : But g w w := ⟨fun _ _ => rfl, rfl, rfl, rfl, rfl⟩
theorem But.trans {g : Nat} {a b c : World} (h : But g a b) (k : But g b c) : But g a c := ⟨fun i hi => (k.b i hi).trans (h.b i hi), k.z.trans h.z, k.os.trans h.os, k.tape.trans h.tape, k.output.trans h.output⟩
theorem But.set (w : World) (g i : Nat) (v : Value) : But g w (w.setCell ⟨g, i, none⟩ v) := ⟨fun _ hk => Below.heap_setCell _ _ _ _ hk, by simp [World.setCell], rfl, rfl, rfl⟩
theorem But.below {g B : Nat} {W w w' : World} (h : But g w w') (hb : Below B W w) (hg : B ≤ g) : Below B W w' :=
  ⟨h.os.trans hb.os, h.tape.trans hb.tape, h.output.trans hb.output, by rw [h.z]; exact hb.size, fun k hk => (h.b k (by omega)).trans (hb.block k hk)⟩
theorem But.block {g k : Nat} {w w' : World} (h : But g w w') {x : Option Obj} (hx : w.heap[k]? = x) (hk : k ≠ g) : w'.heap[k]? = x := (h.b k hk).trans hx
theorem step_set {g : Nat} {e : TypeId} (w : World) (z : Array Value) (i : Nat) (v : Value) (hg : w.heap[g]? = some (.cells z e (0, 0))) (hi : i < z.size) : ∃ Z u, (w.setCell ⟨g, i, none⟩ v = Z ∧ w.cell? ⟨g, i, none⟩ = some u ∧ w.frozen? ⟨g, i, none⟩ = false) ∧ Z.heap[g]? = some (.cells (z.setIfInBounds i v) e (0, 0)) ∧ But g w Z :=
  ⟨_, z[i], ⟨rfl, by simp [World.cell?, hg, hi], by simp [World.frozen?, hg]⟩, by simp [World.setCell, Array.getElem?_modify, hg], But.set w g i v⟩
end Go.Proofs.Ytomkdegajhijjaa.Cw
namespace Go.Proofs.Ytomkdegajhijjaa.Cw
open Go.ChangeShapes Go.WideShapes Go.ChangeAt Go.RowKit

end Go.Proofs.Ytomkdegajhijjaa.Cw
namespace Go.Proofs.Ytomkdegajhijjaa.Cla
open Go.ChangeShapes Go.WideShapes Go.ChangeAt Go.RowKit Go.Maps Circ Cw

end Go.Proofs.Ytomkdegajhijjaa.Cla
