/- circuit.Kind, and the pages' own: what they tell of any circuit and variable; no condition. The pages' own words of circuits, walked: kinds, and literals that are known; no condition. The pages' own words of circuits, walked: literals that are known; no condition. interlockplain.Ints, interlockref10.Abs, Is, One; condition: lists lie in memory, texts are as long as Go's may be. The page's example of circuits, as the laws call it: it holds. No condition. The pages' own words of circuits, walked: names; no condition. The pages' own look at a circuit, walked: whether it may be; no condition. Lists of any elements that a call makes itself: what appending leaves; no condition. -/
import Derived.Test.YtoifogbfhlnlaaaPt04
import Derived.Deep.Draws
import Derived.Laws.EntriesVeiled
import Derived.BigQuiet
import Derived.Test.YtoifogbfhlnlaaaPt00
namespace Go.Proofs.Ytoifogbfhlnlaaa.Cw
open Go.ChangeShapes Go.WideShapes Go.ChangeAt Go.RowKit Circ

end Go.Proofs.Ytoifogbfhlnlaaa.Cw
namespace Go.Proofs.Ytoifogbfhlnlaaa.Cw
open Go.ChangeShapes Go.WideShapes Go.ChangeAt Go.RowKit Circ

end Go.Proofs.Ytoifogbfhlnlaaa.Cw
namespace Go.Proofs.Ytoifogbfhlnlaaa.Cw
open Go.ChangeShapes Go.WideShapes Go.ChangeAt Go.RowKit Circ

/-- a world that is as W was below block B -/
structure Wd (B : Nat) (W : World) where
  w : World
  ok : Below B W w
instance (B : Nat) (W : World) : Nonempty (Wd B W) := ⟨⟨W, Below.refl _ _⟩⟩

/-- A region that draws its order, whose operations read what lies below B, and whose callees turn nothing there: one walk, in the order of the text. -/
theorem wp_region_wd {P : Program} {id : Nat} {Q : Exit → Act → World → Prop} {a : Act} {w : World} {l : List Oper} (hm : P.follows .mixedOrders = true) (hB : Region.lexB .any l.toArray = true)
    (h : wpQuiet P l.toArray (fun w' => ∃ u : Wd w.heap.size w, w' = u.w) (fun a' => ∀ w', (∃ u : Wd w.heap.size w, w' = u.w) → Q .normal a' w') l a) : (Code.region id l.toArray true).wp P Q a w :=
  wp_region_quiet (C := fun w' => ∃ u : Wd w.heap.size w, w' = u.w) hm hB ⟨⟨_, (Below.refl _ _).drew⟩, rfl⟩ (by simpa using h)

theorem Wd.cell {W : World} {p : Addr} {v : Value} (h : W.cell? p = some v) (u : Wd W.heap.size W) : u.w.cell? p = some v := cell_later u.ok h

end Go.Proofs.Ytoifogbfhlnlaaa.Cw
namespace Go.Proofs.Ytoifogbfhlnlaaa.Cla
open Go.ChangeShapes Go.WideShapes Go.ChangeAt Go.RowKit Go.Maps Circ Cw

/-- a list of numbers in memory below block B -/
structure ILies (w : World) (B : Nat) (A : Option Addr) (l : List Int) : Prop where
  row : LRow w B 1 A (ints l)
  fits : ∀ x ∈ l, I64 x
  len : l.length ≤ 9223372036854775807
section
variable {w w' : World} {B B' : Nat} {A : Option Addr} {l : List Int}
theorem ILies.below (h : ILies w B A l) (hb : Below B w w') : ILies w' B A l := ⟨h.row.below hb, h.fits, h.len⟩
theorem ILies.more (h : ILies w B A l) (hB : B ≤ B') : ILies w B' A l := ⟨h.row.more hB, h.fits, h.len⟩
theorem ILies.nil (w : World) (B : Nat) (A : Option Addr) : ILies w B A [] := ⟨.inl rfl, fun x hx => (List.not_mem_nil hx).elim, by decide⟩
end
/-- the first k numbers of two lists are one -/
theorem same_take {a b : List Int} (hl : a.length = b.length) (h : ∀ k, k < a.length → a[k]? = b[k]?) : a = b := by
  apply List.ext_getElem?
  intro i
  by_cases hi : i < a.length
  · exact h i hi
  · rw [List.getElem?_eq_none (by omega), List.getElem?_eq_none (by omega)]
set_option maxHeartbeats 16000000 in
set_option maxRecDepth 100000 in
theorem ints_any (a b : List Int) (A B : Option Addr) (q r : Nat) (w : World) (ha : ILies w w.heap.size A a) (hb : ILies w w.heap.size B b) :
    Calls Try.prog 12 #[.slice A a.length q, .slice B b.length r] w fun e w' => e = .returned (.bool (decide (a = b))) ∧ Below w.heap.size w w' := by
  have HA := Lib.hid ha
  have HB := Lib.hid hb
  have hal := ha.len
  clear ha hb
  by_cases hn : a.length = b.length
  · have hbe : ((a.length : Int) != (b.length : Int)) = false := by rw [bne_eq_false_iff_eq]; omega
    have HN := Lib.hid hn
    go_enter Try.func12, Try.ntmps12
    go_wp2
    clear hn
    go_loopw [5] (fun i wr => ∃ k : Nat, k ≤ a.length ∧ i = .int .i64 k ∧ (∀ j, j < k → a[j]? = b[j]?) ∧ Below w.heap.size w wr) (fun i _ => a.length - (intOf i).toNat)
    case atStart => exact ⟨0, Nat.zero_le _, rfl, fun j h => absurd h (Nat.not_lt_zero _), Below.refl _ _⟩
    case round =>
      obtain ⟨k, hk, rfl, hs, hbw⟩ := hrel
      have HS := Lib.hid hs
      have HW := Lib.hid hbw
      clear hs hbw
      by_cases hlt : k < a.length
      · have hlb : k < b.length := by have := HN.out; omega
        obtain ⟨b1, o1, hA1, -, c1⟩ := LRow.int ((HA.out.below HW.out).more HW.out.size).row hlt
        obtain ⟨b2, o2, hA2, -, c2⟩ := LRow.int ((HB.out.below HW.out).more HW.out.size).row hlb
        have hz0 : (0 : Int) ≤ (k : Int) := by omega
        have hz : (k : Int) < (a.length : Int) := by omega
        have hz2 : (k : Int) < (b.length : Int) := by omega
        have NXT : Hid (a[k] = b[k] → ∀ j, j < k + 1 → a[j]? = b[j]?) := fun h j hj => by
          by_cases e : j = k
          · subst e; rw [List.getElem?_eq_getElem hlt, List.getElem?_eq_getElem hlb, h]
          · exact HS.out j (by omega)
        have BAD : Hid (a[k] ≠ b[k] → ¬ a = b) := fun h e => h (by subst e; rfl)
        subst hA1 hA2
        generalize a[k] = x at *
        generalize b[k] = y at *
        by_cases h1 : x = y
        · have b9 : (x != y) = false := bne_eq_false_iff_eq.2 h1
          have HX := Lib.hid (NXT.out h1)
          clear NXT BAD h1
          go_wp2
          have u1 := Wd.cell c1
          have u2 := Wd.cell c2
          refine wp_region_wd (by kernel_rfl) (by kernel_rfl) ?_
          repeat (first | go_big_quiet_skip | (go_big_quiet_want; go_big_quiet_op; go_big_quiet_on))
          refine wpQuiet_nil ?_
          intro wz9 hw'
          obtain ⟨⟨_, hb9⟩, hw''⟩ := hw'
          subst hw''
          have BN : Hid (Below w.heap.size w wz9) := HW.out.trans (hb9.mono HW.out.size)
          clear hb9 u1 u2 c1 c2
          go_wp2
          go_roundw
          case rel => exact ⟨k + 1, by omega, by go_num, HX.out, BN.out⟩
          case measure => simp [intOf]; omega
        · have b9 : (x != y) = true := bne_iff_ne.2 h1
          have HX := Lib.hid (decide_eq_false (BAD.out h1))
          clear NXT BAD h1
          go_wp2
          have u1 := Wd.cell c1
          have u2 := Wd.cell c2
          refine wp_region_wd (by kernel_rfl) (by kernel_rfl) ?_
          repeat (first | go_big_quiet_skip | (go_big_quiet_want; go_big_quiet_op; go_big_quiet_on))
          refine wpQuiet_nil ?_
          intro wz9 hw'
          obtain ⟨⟨_, hb9⟩, hw''⟩ := hw'
          subst hw''
          have BN : Hid (Below w.heap.size w wz9) := HW.out.trans (hb9.mono HW.out.size)
          clear hb9 u1 u2 c1 c2
          go_wp2
          go_ret
          exact ⟨by rw [HX.out]; rfl, BN.out⟩
      · obtain rfl : k = a.length := by omega
        have HX : Hid (decide (a = b) = true) := decide_eq_true (same_take HN.out HS.out)
        go_wp2
        go_ret
        exact ⟨by rw [HX.out]; rfl, HW.out⟩
  · have hbe : ((a.length : Int) != (b.length : Int)) = true := by rw [bne_iff_ne]; omega
    have HX : Hid (decide (a = b) = false) := decide_eq_false (fun e => hn (by rw [e]))
    clear hn
    go_enter Try.func12, Try.ntmps12
    go_wp2
    go_ret
    exact ⟨by rw [HX.out]; rfl, Below.refl _ _⟩
/-- the greater of two numbers, as Go's builtin tells -/
theorem max2 {w : World} (ts : Array TypeId) (t : TypeId) (x y : Int) :
    (Builtin.max_ ts t #[.int .i64 x, .int .i64 y]).run Try.prog w = .ok (.int .i64 (if x < y then y else x)) w := by
  simp [Builtin.max_, Builtin.max2]
theorem neg_is {x : Int} (h : I64 x) : wrap64 (-x) = negW x := by
  unfold I64 at h
  unfold negW wrap64
  split <;> omega
theorem abs_is {x : Int} (_h : I64 x) : (if x < negW x then negW x else x) = absW x := by
  unfold absW
  split <;> split <;> omega
theorem abs_fits {x : Int} (h : I64 x) : I64 (absW x) := by
  unfold I64 at *
  unfold absW negW
  split <;> split <;> omega
set_option maxRecDepth 100000 in
theorem abs_any (x : Int) (w : World) (hx : I64 x) :
    Calls Try.prog 32 #[.int .i64 x] w fun e w' => e = .returned (.int .i64 (absW x)) ∧ w = w' := by
  have hm : ∀ (ts : Array TypeId) (t : TypeId) (W : World), (Builtin.max_ ts t #[.int .i64 x, .int .i64 (wrap64 (-x))]).run Try.prog W = .ok (.int .i64 (absW x)) W := fun ts t W => by
    rw [max2, neg_is hx, abs_is hx]
  clear hx
  generalize absW x = y at *
  go_enter Try.func32, Try.ntmps32
  go_wp2
  go_ret
  exact ⟨rfl, rfl⟩
set_option maxHeartbeats 16000000 in
set_option maxRecDepth 100000 in
theorem is_any (m : ByteArray) (x : Int) (w : World) (hm : m.size ≤ 9223372036854775807) (hx : I64 x) :
    Calls Try.prog 23 #[.string m, .int .i64 x] w fun e w' => e = .returned (.bool (isM m x)) ∧ w = w' := by
  have AB := Lib.hid (fun w => abs_any x w hx)
  have hf := abs_fits hx
  unfold isM
  by_cases h1 : 1 ≤ absW x
  · by_cases h2 : absW x ≤ (m.size : Int)
    · obtain ⟨k, hk⟩ : ∃ k : Nat, absW x = (k : Int) + 1 := ⟨(absW x - 1).toNat, by omega⟩
      have hkm : k < m.size := by omega
      have e1 : m.data.toList.getD (absW x - 1).toNat 0 = m[k]'hkm := by
        have hl : k < m.data.toList.length := by simpa using hkm
        rw [hk, show ((k : Int) + 1 - 1).toNat = k from by omega, List.getD_eq_getElem?_getD, List.getElem?_eq_getElem hl, Option.getD_some, Array.getElem_toList]; rfl
      rw [decide_eq_true h1, decide_eq_true h2, e1, Bool.true_and, Bool.true_and]
      have hd1 : decide (1 ≤ (k : Int) + 1) = true := decide_eq_true (by omega)
      have hd2 : decide ((k : Int) + 1 ≤ (m.size : Int)) = true := decide_eq_true (by omega)
      have hk0 : (0 : Int) ≤ (k : Int) := by omega
      have hkz : (k : Int) < (m.size : Int) := by omega
      have hk1 : (1 : Int) ≤ (k : Int) + 1 := by omega
      have hk2 : (k : Int) + 1 ≤ (m.size : Int) := by omega
      rw [hk] at AB
      have hsub : (k : Int) + 1 - 1 = (k : Int) := by omega
      have HE : Hid (decide ((m[k]'hkm).toNat = 49) = (((m[k]'hkm).toNat : Int) == 49)) := by
        unfold Hid
        rw [Bool.eq_iff_iff, decide_eq_true_eq, beq_iff_eq]; omega
      rw [HE.out]
      clear hx hf h1 h2 hk e1 HE
      go_enter Try.func23, Try.ntmps23
      go_wp2_with fail
      refine (AB.out w).mono ?_
      rintro e w' ⟨rfl, rfl⟩
      go_wp2_with fail
      refine (AB.out w).mono ?_
      rintro e w' ⟨rfl, rfl⟩
      go_wp2_with fail
      refine (AB.out w).mono ?_
      rintro e w' ⟨rfl, rfl⟩
      go_wp2
      go_ret
      exact ⟨rfl, rfl⟩
    · have hd2 : decide (absW x ≤ (m.size : Int)) = false := decide_eq_false h2
      have hd1 : decide (1 ≤ absW x) = true := decide_eq_true h1
      rw [hd1, hd2]
      generalize absW x = y at *
      clear hx hf
      go_enter Try.func23, Try.ntmps23
      go_wp2_with fail
      refine (AB.out w).mono ?_
      rintro e w' ⟨rfl, rfl⟩
      go_wp2_with fail
      refine (AB.out w).mono ?_
      rintro e w' ⟨rfl, rfl⟩
      go_wp2
      go_ret
      exact ⟨rfl, rfl⟩
  · have hd1 : decide (1 ≤ absW x) = false := decide_eq_false h1
    rw [hd1]
    generalize absW x = y at *
    clear hx hf
    go_enter Try.func23, Try.ntmps23
    go_wp2_with fail
    refine (AB.out w).mono ?_
    rintro e w' ⟨rfl, rfl⟩
    go_wp2
    go_ret
    exact ⟨rfl, rfl⟩
set_option maxHeartbeats 16000000 in
set_option maxRecDepth 100000 in
theorem one_any (m : ByteArray) (l : List Int) (A : Option Addr) (q : Nat) (w : World) (hm : m.size ≤ 9223372036854775807) (hl : ILies w w.heap.size A l) :
    Calls Try.prog 9 #[.string m, .slice A l.length q] w fun e w' => e = .returned (.bool (oneM m l)) ∧ w = w' := by
  have HL := Lib.hid hl
  have hll := hl.len
  clear hl
  go_enter Try.func9, Try.ntmps9
  go_wp2
  go_loop [5] (fun i => ∃ k : Nat, k ≤ l.length ∧ i = .int .i64 k ∧ (l.take k).any (isM m) = false) (fun i => l.length - (intOf i).toNat)
  case atStart => exact ⟨0, Nat.zero_le _, rfl, rfl⟩
  case round =>
    obtain ⟨k, hk, rfl, ha⟩ := hrel
    have HA := Lib.hid ha
    clear ha
    by_cases hlt : k < l.length
    · obtain ⟨b, o, hA, -, hc⟩ := LRow.int HL.out.row hlt
      have IS := Lib.hid (is_any m l[k] w hm (HL.out.fits _ (List.getElem_mem hlt)))
      have HT : Hid ((l.take (k + 1)).any (isM m) = isM m l[k]) := by
        unfold Hid
        rw [List.take_succ_eq_append_getElem hlt, List.any_append, HA.out]; simp
      have HM := Lib.hid (List.getElem_mem hlt)
      have hkz : (k : Int) < (l.length : Int) := by omega
      subst hA
      generalize l[k] = x at *
      cases hq : isM m x with
      | false =>
        rw [hq] at IS HT
        clear hq
        go_wp2_with fail
        refine IS.out.mono ?_
        rintro e w' ⟨rfl, rfl⟩
        go_wp2
        go_round
        case rel => exact ⟨k + 1, by omega, by go_num, HT.out⟩
        case measure => simp [intOf]; omega
      | true =>
        rw [hq] at IS
        have HX : Hid (oneM m l = true) := (one_iff m l).2 ⟨x, HM.out, hq⟩
        clear hq HT
        go_wp2_with fail
        refine IS.out.mono ?_
        rintro e w' ⟨rfl, rfl⟩
        go_wp2
        go_ret
        exact ⟨by rw [HX.out]; rfl, rfl⟩
    · obtain rfl : k = l.length := by omega
      have HX : Hid (oneM m l = false) := by have h := HA.out; rw [List.take_length] at h; exact h
      go_wp2
      go_ret
      exact ⟨by rw [HX.out]; rfl, rfl⟩
end Go.Proofs.Ytoifogbfhlnlaaa.Cla
namespace Go.Proofs.Ytoifogbfhlnlaaa.Cw
open Go.ChangeShapes Go.WideShapes Go.ChangeAt Go.RowKit Go.Maps Circ

def c0 : Cir := ⟨1, [], [⟨2, 2, 0⟩], [], [], [], [], []⟩
end Go.Proofs.Ytoifogbfhlnlaaa.Cw
namespace Go.Proofs.Ytoifogbfhlnlaaa.Cw
open Go.ChangeShapes Go.WideShapes Go.ChangeAt Go.RowKit Circ

end Go.Proofs.Ytoifogbfhlnlaaa.Cw
namespace Go.Proofs.Ytoifogbfhlnlaaa.Cw
open Go.ChangeShapes Go.WideShapes Go.ChangeAt Go.RowKit Go.Maps Circ

theorem OwnI.cell {w : World} {base : Nat} {v : Value} {xs : List Int} (h : OwnI w base v xs) {k : Nat} (hk : k < xs.length) : ∃ b o q, v = .slice (some ⟨b, o, none⟩) xs.length q ∧ xs.length ≤ q ∧ q ≤ 9223372036854775807 ∧ w.cell? ⟨b, o + k, none⟩ = some (.int .i64 xs[k]) ∧ LRow w w.heap.size 1 (some ⟨b, o, none⟩) (ints xs) := by
  obtain ⟨A, q, hv, hr, hq, hq2⟩ := h.row
  obtain ⟨b, o, rfl, hb, hc⟩ := hr.int hk
  exact ⟨b, o, q, hv, hq, hq2, hc, hr⟩
theorem LRow.take {w : World} {B : Nat} {A : Option Addr} {l : List Int} (h : LRow w B 1 A (ints l)) (i : Nat) : LRow w B 1 A (ints (l.take i)) := by
  rcases h with h | ⟨b, o, e, hb, hc⟩
  · left; simp [ints] at h; subst h; simp [ints]
  · refine .inr ⟨b, o, e, hb, fun j ys hj k u hk => ?_⟩
    refine hc j ys ?_ k u hk
    unfold ints at hj ⊢
    rw [List.map_take, List.getElem?_take] at hj
    split at hj
    · exact hj
    · cases hj

/-- the row of one number that a call lays for an append -/
theorem one_row (w : World) (x : Int) (t : TypeId) : LRow (w.alloc (.cells #[.int .i64 x] t)) (w.heap.size + 1) 1 (some ⟨w.heap.size, 0, none⟩) (ints [x]) :=
  .inr ⟨_, 0, rfl, Nat.lt_succ_self _, fun i ys hi j u hj => by
    match i, hi with
    | 0, hi =>
      obtain rfl : [Value.int .i64 x] = ys := by simpa [ints] using hi
      match j, hj with
      | 0, hj =>
        obtain rfl : Value.int .i64 x = u := by simpa using hj
        rw [new_cell]; rfl⟩
theorem own_below {w w' : World} {base : Nat} {v : Value} {xs : List Int} (h : OwnI w base v xs) (hg : w.grownBy w' v.ownBlock) (hb : base ≤ w.heap.size) : Below base w w' :=
  ⟨hg.os, hg.tape, hg.output, hg.size, fun k hk => hg.block k (by omega) (fun e => by have := h.block_lt k e.symm; omega)⟩
end Go.Proofs.Ytoifogbfhlnlaaa.Cw
namespace Go.Proofs.Ytoifogbfhlnlaaa.Cw
open Go.ChangeShapes Go.WideShapes Go.ChangeAt Go.RowKit Go.Maps Circ

theorem flatten_at {α : Type} (m : Nat) (hm : 0 < m) : ∀ (xs : List (List α)) (_ : ∀ y ∈ xs, y.length = m) (j : Nat), xs.flatten[j]? = (xs[j / m]?).bind (·[j % m]?)
  | [], _, j => by simp
  | y :: ys, h, j => by
    have hy : y.length = m := h y List.mem_cons_self
    rw [List.flatten_cons]
    by_cases hj : j < m
    · rw [List.getElem?_append_left (by omega), Nat.div_eq_of_lt hj, Nat.mod_eq_of_lt hj]; rfl
    · rw [List.getElem?_append_right (by omega), hy, flatten_at m hm ys (fun z hz => h z (List.mem_cons_of_mem _ hz)) (j - m)]
      obtain ⟨k, rfl⟩ : ∃ k, j = k + m := ⟨j - m, by omega⟩
      rw [Nat.add_sub_cancel, Nat.add_div_right _ hm, Nat.add_mod_right]
      rfl
/-- the slice v, made from block base on, holds the elements xs of m cells each -/
def OwnC (w : World) (base : Nat) (e : TypeId) (m : Nat) (v : Value) (xs : List (List Value)) : Prop := w.ownsRow base e m v xs.length xs.flatten
theorem OwnC.nil (w : World) (base : Nat) (e : TypeId) (m : Nat) : OwnC w base e m (.slice none 0 0) [] := ⟨by simp, .inl ⟨rfl, rfl⟩⟩
theorem OwnC.row {w : World} {base : Nat} {e : TypeId} {m : Nat} {v : Value} {xs : List (List Value)} (h : OwnC w base e m v xs) (hm : 0 < m) (hx : ∀ y ∈ xs, y.length = m) : ∃ A q, v = .slice A xs.length q ∧ LRow w w.heap.size m A xs ∧ xs.length ≤ q ∧ q ≤ 9223372036854775807 := by
  obtain ⟨_, h⟩ := h
  rcases h with ⟨rfl, h0⟩ | ⟨g, cap, cur, rfl, _, hg, hn, hmx, hs, ht⟩
  · have hx0 : xs = [] := List.eq_nil_of_length_eq_zero h0
    subst hx0
    exact ⟨none, 0, rfl, .inl rfl, Nat.le_refl _, by decide⟩
  · refine ⟨_, cap, rfl, .inr ⟨g, 0, rfl, (Array.getElem?_eq_some_iff.1 hg).1, fun i ys hi j u hj => ?_⟩, hn, by unfold maxLen at hmx; exact hmx⟩
    have hil : i < xs.length := (List.getElem?_eq_some_iff.1 hi).1
    have hjl : j < m := by
      have h1 := (List.getElem?_eq_some_iff.1 hj).1
      have h2 := hx ys (List.mem_of_getElem? hi)
      omega
    have hlt : i * m + j < xs.length * m := by
      have : (i + 1) * m ≤ xs.length * m := Nat.mul_le_mul_right _ hil
      rw [Nat.add_mul] at this; omega
    have e := congrArg (fun l : List Value => l[i * m + j]?) ht
    simp only [List.getElem?_take] at e
    rw [if_pos hlt, flatten_at m hm xs hx, show (i * m + j) / m = i by rw [Nat.mul_comm, Nat.mul_add_div hm, Nat.div_eq_of_lt hjl, Nat.add_zero], show (i * m + j) % m = j by rw [Nat.mul_comm, Nat.mul_add_mod, Nat.mod_eq_of_lt hjl], hi] at e
    simp only [Option.bind_some] at e
    rw [hj] at e
    simp [World.cell?, hg]
    simpa using e
theorem OwnC.block_lt {w : World} {base : Nat} {e : TypeId} {m : Nat} {v : Value} {xs : List (List Value)} (h : OwnC w base e m v xs) (g : Nat) (hg : v.ownBlock = some g) : base ≤ g ∧ g < w.heap.size := by
  obtain ⟨_, h⟩ := h
  rcases h with ⟨rfl, h0⟩ | ⟨g', cap, cur, rfl, hb, hh, _⟩
  · simp [Value.ownBlock] at hg
  · have : g' = g := by simpa [Value.ownBlock] using hg
    subst this
    exact ⟨hb, (Array.getElem?_eq_some_iff.1 hh).1⟩
theorem OwnC.keep_at {w w' : World} {base : Nat} {e : TypeId} {m : Nat} {v : Value} {xs : List (List Value)} (h : OwnC w base e m v xs) (hb : ∀ g, base ≤ g → v.ownBlock = some g → w'.heap[g]? = w.heap[g]?) : OwnC w' base e m v xs := by
  obtain ⟨h0, h⟩ := h
  refine ⟨h0, ?_⟩
  rcases h with h | ⟨g, cap, cur, hv, hg, hh, r⟩
  · exact .inl h
  · exact .inr ⟨g, cap, cur, hv, hg, (hb g hg (by rw [hv]; rfl)).trans hh, r⟩
theorem OwnC.keep {w w' : World} {base : Nat} {e : TypeId} {m : Nat} {v : Value} {xs : List (List Value)} (h : OwnC w base e m v xs) (hb : Below w.heap.size w w') : OwnC w' base e m v xs := h.keep_at fun g _ hg => hb.block g (h.block_lt g hg).2

end Go.Proofs.Ytoifogbfhlnlaaa.Cw
