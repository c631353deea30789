/- interlockplain.Ints, interlockref10.Abs, Is, One; condition: lists lie in memory, texts are as long as Go's may be. Appending to a list of any elements that a call makes itself; no condition. Stores of whole values, cell by cell, into one block: the worlds between, and what is as it was; no condition. The walks of slices.Clone over a circuit's lists; no condition. -/
import Derived.Test.YtefbknpoehmfaaaPb04
import Derived.Test.YtefbknpoehmfaaaPb00
import Derived.Lib.SliceRun
namespace Go.Proofs.Ytefbknpoehmfaaa.Cla
open Go.ChangeShapes Go.WideShapes Go.ChangeAt Go.RowKit Go.Maps Circ Cw

/-- a list of numbers in memory below block B -/
structure ILies (w : World) (B : Nat) (A : Option Addr) (l : List Int) : Prop where
  row : LRow w B 1 A (ints l)
  fits : ∀ x ∈ l, I64 x
  len : l.length ≤ 9223372036854775807
section
variable {w w' : World} {B B' : Nat} {A : Option Addr} {l : List Int}
theorem ILies.below (h : ILies w B A l) (hb : Below B w w') : ILies w' B A l := ⟨h.row.below hb, h.fits, h.len⟩
theorem ILies.more (h : ILies w B A l) (hB : B ≤ B') : ILies w B' A l := ⟨h.row.more hB, h.fits, h.len⟩
theorem ILies.nil (w : World) (B : Nat) (A : Option Addr) : ILies w B A [] := ⟨.inl rfl, fun x hx => (List.not_mem_nil hx).elim, by decide⟩
end
/-- the first k numbers of two lists are one -/
theorem same_take {a b : List Int} (hl : a.length = b.length) (h : ∀ k, k < a.length → a[k]? = b[k]?) : a = b := by
  apply List.ext_getElem?
  intro i
  by_cases hi : i < a.length
  · exact h i hi
  · rw [List.getElem?_eq_none (by omega), List.getElem?_eq_none (by omega)]
set_option maxHeartbeats 16000000 in
set_option maxRecDepth 100000 in
theorem ints_any (a b : List Int) (A B : Option Addr) (q r : Nat) (w : World) (ha : ILies w w.heap.size A a) (hb : ILies w w.heap.size B b) :
    Calls Try.prog 9 #[.slice A a.length q, .slice B b.length r] w fun e w' => e = .returned (.bool (decide (a = b))) ∧ Below w.heap.size w w' := by
  have HA := Lib.hid ha
  have HB := Lib.hid hb
  have hal := ha.len
  clear ha hb
  by_cases hn : a.length = b.length
  · have hbe : ((a.length : Int) != (b.length : Int)) = false := by rw [bne_eq_false_iff_eq]; omega
    have HN := Lib.hid hn
    go_enter Try.func9, Try.ntmps9
    go_wp2
    clear hn
    go_loopw [5] (fun i wr => ∃ k : Nat, k ≤ a.length ∧ i = .int .i64 k ∧ (∀ j, j < k → a[j]? = b[j]?) ∧ Below w.heap.size w wr) (fun i _ => a.length - (intOf i).toNat)
    case atStart => exact ⟨0, Nat.zero_le _, rfl, fun j h => absurd h (Nat.not_lt_zero _), Below.refl _ _⟩
    case round =>
      obtain ⟨k, hk, rfl, hs, hbw⟩ := hrel
      have HS := Lib.hid hs
      have HW := Lib.hid hbw
      clear hs hbw
      by_cases hlt : k < a.length
      · have hlb : k < b.length := by have := HN.out; omega
        obtain ⟨b1, o1, hA1, -, c1⟩ := LRow.int ((HA.out.below HW.out).more HW.out.size).row hlt
        obtain ⟨b2, o2, hA2, -, c2⟩ := LRow.int ((HB.out.below HW.out).more HW.out.size).row hlb
        have hz0 : (0 : Int) ≤ (k : Int) := by omega
        have hz : (k : Int) < (a.length : Int) := by omega
        have hz2 : (k : Int) < (b.length : Int) := by omega
        have NXT : Hid (a[k] = b[k] → ∀ j, j < k + 1 → a[j]? = b[j]?) := fun h j hj => by
          by_cases e : j = k
          · subst e; rw [List.getElem?_eq_getElem hlt, List.getElem?_eq_getElem hlb, h]
          · exact HS.out j (by omega)
        have BAD : Hid (a[k] ≠ b[k] → ¬ a = b) := fun h e => h (by subst e; rfl)
        subst hA1 hA2
        generalize a[k] = x at *
        generalize b[k] = y at *
        by_cases h1 : x = y
        · have b9 : (x != y) = false := bne_eq_false_iff_eq.2 h1
          have HX := Lib.hid (NXT.out h1)
          clear NXT BAD h1
          go_wp2
          have u1 := Wd.cell c1
          have u2 := Wd.cell c2
          refine wp_region_wd (by kernel_rfl) (by kernel_rfl) ?_
          repeat (first | go_big_quiet_skip | (go_big_quiet_want; go_big_quiet_op; go_big_quiet_on))
          refine wpQuiet_nil ?_
          intro wz9 hw'
          obtain ⟨⟨_, hb9⟩, hw''⟩ := hw'
          subst hw''
          have BN : Hid (Below w.heap.size w wz9) := HW.out.trans (hb9.mono HW.out.size)
          clear hb9 u1 u2 c1 c2
          go_wp2
          go_roundw
          case rel => exact ⟨k + 1, by omega, by go_num, HX.out, BN.out⟩
          case measure => simp [intOf]; omega
        · have b9 : (x != y) = true := bne_iff_ne.2 h1
          have HX := Lib.hid (decide_eq_false (BAD.out h1))
          clear NXT BAD h1
          go_wp2
          have u1 := Wd.cell c1
          have u2 := Wd.cell c2
          refine wp_region_wd (by kernel_rfl) (by kernel_rfl) ?_
          repeat (first | go_big_quiet_skip | (go_big_quiet_want; go_big_quiet_op; go_big_quiet_on))
          refine wpQuiet_nil ?_
          intro wz9 hw'
          obtain ⟨⟨_, hb9⟩, hw''⟩ := hw'
          subst hw''
          have BN : Hid (Below w.heap.size w wz9) := HW.out.trans (hb9.mono HW.out.size)
          clear hb9 u1 u2 c1 c2
          go_wp2
          go_ret
          exact ⟨by rw [HX.out]; rfl, BN.out⟩
      · obtain rfl : k = a.length := by omega
        have HX : Hid (decide (a = b) = true) := decide_eq_true (same_take HN.out HS.out)
        go_wp2
        go_ret
        exact ⟨by rw [HX.out]; rfl, HW.out⟩
  · have hbe : ((a.length : Int) != (b.length : Int)) = true := by rw [bne_iff_ne]; omega
    have HX : Hid (decide (a = b) = false) := decide_eq_false (fun e => hn (by rw [e]))
    clear hn
    go_enter Try.func9, Try.ntmps9
    go_wp2
    go_ret
    exact ⟨by rw [HX.out]; rfl, Below.refl _ _⟩
/-- the greater of two numbers, as Go's builtin tells -/
theorem max2 {w : World} (ts : Array TypeId) (t : TypeId) (x y : Int) :
    (Builtin.max_ ts t #[.int .i64 x, .int .i64 y]).run Try.prog w = .ok (.int .i64 (if x < y then y else x)) w := by
  simp [Builtin.max_, Builtin.max2]
theorem neg_is {x : Int} (h : I64 x) : wrap64 (-x) = negW x := by
  unfold I64 at h
  unfold negW wrap64
  split <;> omega
theorem abs_is {x : Int} (_h : I64 x) : (if x < negW x then negW x else x) = absW x := by
  unfold absW
  split <;> split <;> omega
theorem abs_fits {x : Int} (h : I64 x) : I64 (absW x) := by
  unfold I64 at *
  unfold absW negW
  split <;> split <;> omega
set_option maxRecDepth 100000 in
theorem abs_any (x : Int) (w : World) (hx : I64 x) :
    Calls Try.prog 32 #[.int .i64 x] w fun e w' => e = .returned (.int .i64 (absW x)) ∧ w = w' := by
  have hm : ∀ (ts : Array TypeId) (t : TypeId) (W : World), (Builtin.max_ ts t #[.int .i64 x, .int .i64 (wrap64 (-x))]).run Try.prog W = .ok (.int .i64 (absW x)) W := fun ts t W => by
    rw [max2, neg_is hx, abs_is hx]
  clear hx
  generalize absW x = y at *
  go_enter Try.func32, Try.ntmps32
  go_wp2
  go_ret
  exact ⟨rfl, rfl⟩
set_option maxHeartbeats 16000000 in
set_option maxRecDepth 100000 in
theorem is_any (m : ByteArray) (x : Int) (w : World) (hm : m.size ≤ 9223372036854775807) (hx : I64 x) :
    Calls Try.prog 20 #[.string m, .int .i64 x] w fun e w' => e = .returned (.bool (isM m x)) ∧ w = w' := by
  have AB := Lib.hid (fun w => abs_any x w hx)
  have hf := abs_fits hx
  unfold isM
  by_cases h1 : 1 ≤ absW x
  · by_cases h2 : absW x ≤ (m.size : Int)
    · obtain ⟨k, hk⟩ : ∃ k : Nat, absW x = (k : Int) + 1 := ⟨(absW x - 1).toNat, by omega⟩
      have hkm : k < m.size := by omega
      have e1 : m.data.toList.getD (absW x - 1).toNat 0 = m[k]'hkm := by
        have hl : k < m.data.toList.length := by simpa using hkm
        rw [hk, show ((k : Int) + 1 - 1).toNat = k from by omega, List.getD_eq_getElem?_getD, List.getElem?_eq_getElem hl, Option.getD_some, Array.getElem_toList]; rfl
      rw [decide_eq_true h1, decide_eq_true h2, e1, Bool.true_and, Bool.true_and]
      have hd1 : decide (1 ≤ (k : Int) + 1) = true := decide_eq_true (by omega)
      have hd2 : decide ((k : Int) + 1 ≤ (m.size : Int)) = true := decide_eq_true (by omega)
      have hk0 : (0 : Int) ≤ (k : Int) := by omega
      have hkz : (k : Int) < (m.size : Int) := by omega
      have hk1 : (1 : Int) ≤ (k : Int) + 1 := by omega
      have hk2 : (k : Int) + 1 ≤ (m.size : Int) := by omega
      rw [hk] at AB
      have hsub : (k : Int) + 1 - 1 = (k : Int) := by omega
      have HE : Hid (decide ((m[k]'hkm).toNat = 49) = (((m[k]'hkm).toNat : Int) == 49)) := by
        unfold Hid
        rw [Bool.eq_iff_iff, decide_eq_true_eq, beq_iff_eq]; omega
      rw [HE.out]
      clear hx hf h1 h2 hk e1 HE
      go_enter Try.func20, Try.ntmps20
      go_wp2_with fail
      refine (AB.out w).mono ?_
      rintro e w' ⟨rfl, rfl⟩
      go_wp2_with fail
      refine (AB.out w).mono ?_
      rintro e w' ⟨rfl, rfl⟩
      go_wp2_with fail
      refine (AB.out w).mono ?_
      rintro e w' ⟨rfl, rfl⟩
      go_wp2
      go_ret
      exact ⟨rfl, rfl⟩
    · have hd2 : decide (absW x ≤ (m.size : Int)) = false := decide_eq_false h2
      have hd1 : decide (1 ≤ absW x) = true := decide_eq_true h1
      rw [hd1, hd2]
      generalize absW x = y at *
      clear hx hf
      go_enter Try.func20, Try.ntmps20
      go_wp2_with fail
      refine (AB.out w).mono ?_
      rintro e w' ⟨rfl, rfl⟩
      go_wp2_with fail
      refine (AB.out w).mono ?_
      rintro e w' ⟨rfl, rfl⟩
      go_wp2
      go_ret
      exact ⟨rfl, rfl⟩
  · have hd1 : decide (1 ≤ absW x) = false := decide_eq_false h1
    rw [hd1]
    generalize absW x = y at *
    clear hx hf
    go_enter Try.func20, Try.ntmps20
    go_wp2_with fail
    refine (AB.out w).mono ?_
    rintro e w' ⟨rfl, rfl⟩
    go_wp2
    go_ret
    exact ⟨rfl, rfl⟩
set_option maxHeartbeats 16000000 in
set_option maxRecDepth 100000 in
theorem one_any (m : ByteArray) (l : List Int) (A : Option Addr) (q : Nat) (w : World) (hm : m.size ≤ 9223372036854775807) (hl : ILies w w.heap.size A l) :
    Calls Try.prog 21 #[.string m, .slice A l.length q] w fun e w' => e = .returned (.bool (oneM m l)) ∧ w = w' := by
  have HL := Lib.hid hl
  have hll := hl.len
  clear hl
  go_enter Try.func21, Try.ntmps21
  go_wp2
  go_loop [5] (fun i => ∃ k : Nat, k ≤ l.length ∧ i = .int .i64 k ∧ (l.take k).any (isM m) = false) (fun i => l.length - (intOf i).toNat)
  case atStart => exact ⟨0, Nat.zero_le _, rfl, rfl⟩
  case round =>
    obtain ⟨k, hk, rfl, ha⟩ := hrel
    have HA := Lib.hid ha
    clear ha
    by_cases hlt : k < l.length
    · obtain ⟨b, o, hA, -, hc⟩ := LRow.int HL.out.row hlt
      have IS := Lib.hid (is_any m l[k] w hm (HL.out.fits _ (List.getElem_mem hlt)))
      have HT : Hid ((l.take (k + 1)).any (isM m) = isM m l[k]) := by
        unfold Hid
        rw [List.take_succ_eq_append_getElem hlt, List.any_append, HA.out]; simp
      have HM := Lib.hid (List.getElem_mem hlt)
      have hkz : (k : Int) < (l.length : Int) := by omega
      subst hA
      generalize l[k] = x at *
      cases hq : isM m x with
      | false =>
        rw [hq] at IS HT
        clear hq
        go_wp2_with fail
        refine IS.out.mono ?_
        rintro e w' ⟨rfl, rfl⟩
        go_wp2
        go_round
        case rel => exact ⟨k + 1, by omega, by go_num, HT.out⟩
        case measure => simp [intOf]; omega
      | true =>
        rw [hq] at IS
        have HX : Hid (oneM m l = true) := (one_iff m l).2 ⟨x, HM.out, hq⟩
        clear hq HT
        go_wp2_with fail
        refine IS.out.mono ?_
        rintro e w' ⟨rfl, rfl⟩
        go_wp2
        go_ret
        exact ⟨by rw [HX.out]; rfl, rfl⟩
    · obtain rfl : k = l.length := by omega
      have HX : Hid (oneM m l = false) := by have h := HA.out; rw [List.take_length] at h; exact h
      go_wp2
      go_ret
      exact ⟨by rw [HX.out]; rfl, rfl⟩
end Go.Proofs.Ytefbknpoehmfaaa.Cla
namespace Go.Proofs.Ytefbknpoehmfaaa.Cw
open Go.ChangeShapes Go.WideShapes Go.ChangeAt Go.RowKit Go.Maps Circ

theorem wpList_push {ops : Array Oper} {rest : List Oper} {o : Oper} {a : Act} {Q : Exit → Act → World → Prop} (w : World) (hgd : o.guard = none) (s x : Operand) (T : TypeId)
    (ho : o.op = .call { callee := .builtin .append, args := #[s, x], argTypes := #[T, T] })
    (e m bytes : Nat) (z : Value) (hT : Try.prog.underlying T = some (.slice e)) (hi : (Try.prog.info? e).map (fun i => (i.zero, i.size, i.bytes)) = some (some z, m, bytes)) (hzs : z.cells.size = m) (hm : 0 < m)
    (base : Nat) (v : Value) (xs : List (List Value)) (hown : OwnC w base e m v xs) (hs : a.eval s = v) (g : Nat) (c : Nat) (hx : a.eval x = .slice (some ⟨g, 0, none⟩) 1 c) (y : List Value) (hy : ∀ j u, y[j]? = some u → w.cell? ⟨g, j, none⟩ = some u)
    (hlen : y.length = m) (hone : ∀ u ∈ y, u.oneCell' = true) (hbytes : (xs.length + 1) * bytes ≤ 140737488355328) (hmax : xs.length + 1 ≤ 9223372036854775807) (hbase : base ≤ w.heap.size)
    (h : ∀ v' w', OwnC w' base e m v' (xs ++ [y]) → Below base w w' → (∀ k, k < w.heap.size → some k ≠ v.ownBlock → w'.heap[k]? = w.heap[k]?) → wpList Try.prog ops Q rest (a.put o.dst v') w') : wpList Try.prog ops Q (o :: rest) a w := by
  obtain ⟨i0, hi0, hz0, hz1, hz2⟩ := info_parts hi
  obtain ⟨v', w', h1, h2, h3, _, h5⟩ := run_append_own_at (P := Try.prog) w base T o.type e i0 z m bytes hT hi0 hz0 hz1 hz2 hzs hm v xs.length xs.flatten hown ⟨g, 0, none⟩ 1 c y (by rw [Nat.one_mul]; exact hlen) (fun j u hj => by
    have e : (⟨g, 0, none⟩ : Addr).add j = ⟨g, j, none⟩ := by unfold Addr.add; by_cases hz : j = 0 <;> simp [hz]
    rw [e]; exact hy j u hj) hone (by unfold maxLen; omega) hbytes hbase
  refine wpList_plain hgd fun K hK => ?_
  unfold Oper.wp execOp
  simp only [ho, resolve, invoke, builtin, Sem.run_bind, Sem.run_pure, Result.andThen_ok, List.map_toArray, List.map_cons, List.map_nil, hs, hx, h1]
  refine hK _ _ (h v' w' ?_ ?_ ?_)
  · unfold OwnC
    simpa using h2
  · exact ⟨h3.os, h3.tape, h3.output, h3.size, fun k hk => h3.block k (by omega) (fun e => by have := hown.block_lt k e.symm; omega)⟩
  · exact fun k hk hne => h3.block k hk hne
end Go.Proofs.Ytefbknpoehmfaaa.Cw
namespace Go.Proofs.Ytefbknpoehmfaaa.Cw
open Go.ChangeShapes Go.WideShapes Go.ChangeAt Go.RowKit

/-- w' is w but for block g -/
structure But (g : Nat) (w w' : World) : Prop where
  b : ∀ k, k ≠ g → w'.heap[k]? = w.heap[k]?
  z : w'.heap.size = w.heap.size
  os : w'.os = w.os
  tape : w'.tape = w.tape
  output : w'.output = w.output
theorem But.refl (g : Nat) (w : World) : But g w w := ⟨fun _ _ => rfl, rfl, rfl, rfl, rfl⟩
theorem But.trans {g : Nat} {a b c : World} (h : But g a b) (k : But g b c) : But g a c := ⟨fun i hi => (k.b i hi).trans (h.b i hi), k.z.trans h.z, k.os.trans h.os, k.tape.trans h.tape, k.output.trans h.output⟩
theorem But.set (w : World) (g i : Nat) (v : Value) : But g w (w.setCell ⟨g, i, none⟩ v) := ⟨fun _ hk => Below.heap_setCell _ _ _ _ hk, by simp [World.setCell], rfl, rfl, rfl⟩
theorem But.below {g B : Nat} {W w w' : World} (h : But g w w') (hb : Below B W w) (hg : B ≤ g) : Below B W w' :=
  ⟨h.os.trans hb.os, h.tape.trans hb.tape, h.output.trans hb.output, by rw [h.z]; exact hb.size, fun k hk => (h.b k (by omega)).trans (hb.block k hk)⟩
theorem But.block {g k : Nat} {w w' : World} (h : But g w w') {x : Option Obj} (hx : w.heap[k]? = x) (hk : k ≠ g) : w'.heap[k]? = x := (h.b k hk).trans hx
theorem step_set {g : Nat} {e : TypeId} (w : World) (z : Array Value) (i : Nat) (v : Value) (hg : w.heap[g]? = some (.cells z e (0, 0))) (hi : i < z.size) : ∃ Z u, (w.setCell ⟨g, i, none⟩ v = Z ∧ w.cell? ⟨g, i, none⟩ = some u ∧ w.frozen? ⟨g, i, none⟩ = false) ∧ Z.heap[g]? = some (.cells (z.setIfInBounds i v) e (0, 0)) ∧ But g w Z :=
  ⟨_, z[i], ⟨rfl, by simp [World.cell?, hg, hi], by simp [World.frozen?, hg]⟩, by simp [World.setCell, Array.getElem?_modify, hg], But.set w g i v⟩
theorem set_all2 (z : Array Value) (hz : z.size = 2) (x0 x1 : Value) : (z.setIfInBounds 0 x0).setIfInBounds 1 x1 = #[x0, x1] := by
  obtain ⟨l⟩ := z
  have hz' : l.length = 2 := by simpa using hz
  clear hz
  rcases l with _ | ⟨a0, l⟩ <;> simp only [List.length_cons, List.length_nil] at hz'
  · omega
  rcases l with _ | ⟨a1, l⟩ <;> simp only [List.length_cons, List.length_nil] at hz'
  · omega
  obtain rfl : l = [] := List.eq_nil_of_length_eq_zero (by omega)
  simp
theorem store2 {w : World} {g : Nat} {z : Array Value} {e : TypeId} (hg : w.heap[g]? = some (.cells z e (0, 0))) (hz : z.size = 2) (x0 x1 : Value) :
    ∃ Z1 Z2 : World, ∃ u0 u1 : Value, (w.setCell ⟨g, 0, none⟩ x0 = Z1 ∧ w.cell? ⟨g, 0, none⟩ = some u0 ∧ w.frozen? ⟨g, 0, none⟩ = false) ∧ (Z1.setCell ⟨g, 1, none⟩ x1 = Z2 ∧ Z1.cell? ⟨g, 1, none⟩ = some u1 ∧ Z1.frozen? ⟨g, 1, none⟩ = false) ∧ Z2.heap[g]? = some (.cells #[x0, x1] e (0, 0)) ∧ But g w Z2 := by
  obtain ⟨Z1, u0, r0, g0, b0⟩ := step_set w z 0 x0 hg (by omega)
  obtain ⟨Z2, u1, r1, g1, b1⟩ := step_set Z1 _ 1 x1 g0 (by simp; omega)
  rw [set_all2 z hz] at g1
  exact ⟨Z1, Z2, u0, u1, r0, r1, g1, b0.trans (b1)⟩
theorem set_all3 (z : Array Value) (hz : z.size = 3) (x0 x1 x2 : Value) : ((z.setIfInBounds 0 x0).setIfInBounds 1 x1).setIfInBounds 2 x2 = #[x0, x1, x2] := by
  obtain ⟨l⟩ := z
  have hz' : l.length = 3 := by simpa using hz
  clear hz
  rcases l with _ | ⟨a0, l⟩ <;> simp only [List.length_cons, List.length_nil] at hz'
  · omega
  rcases l with _ | ⟨a1, l⟩ <;> simp only [List.length_cons, List.length_nil] at hz'
  · omega
  rcases l with _ | ⟨a2, l⟩ <;> simp only [List.length_cons, List.length_nil] at hz'
  · omega
  obtain rfl : l = [] := List.eq_nil_of_length_eq_zero (by omega)
  simp
theorem store3 {w : World} {g : Nat} {z : Array Value} {e : TypeId} (hg : w.heap[g]? = some (.cells z e (0, 0))) (hz : z.size = 3) (x0 x1 x2 : Value) :
    ∃ Z1 Z2 Z3 : World, ∃ u0 u1 u2 : Value, (w.setCell ⟨g, 0, none⟩ x0 = Z1 ∧ w.cell? ⟨g, 0, none⟩ = some u0 ∧ w.frozen? ⟨g, 0, none⟩ = false) ∧ (Z1.setCell ⟨g, 1, none⟩ x1 = Z2 ∧ Z1.cell? ⟨g, 1, none⟩ = some u1 ∧ Z1.frozen? ⟨g, 1, none⟩ = false) ∧ (Z2.setCell ⟨g, 2, none⟩ x2 = Z3 ∧ Z2.cell? ⟨g, 2, none⟩ = some u2 ∧ Z2.frozen? ⟨g, 2, none⟩ = false) ∧ Z3.heap[g]? = some (.cells #[x0, x1, x2] e (0, 0)) ∧ But g w Z3 := by
  obtain ⟨Z1, u0, r0, g0, b0⟩ := step_set w z 0 x0 hg (by omega)
  obtain ⟨Z2, u1, r1, g1, b1⟩ := step_set Z1 _ 1 x1 g0 (by simp; omega)
  obtain ⟨Z3, u2, r2, g2, b2⟩ := step_set Z2 _ 2 x2 g1 (by simp; omega)
  rw [set_all3 z hz] at g2
  exact ⟨Z1, Z2, Z3, u0, u1, u2, r0, r1, r2, g2, b0.trans (b1.trans (b2))⟩
end Go.Proofs.Ytefbknpoehmfaaa.Cw
namespace Go.Proofs.Ytefbknpoehmfaaa.Cw
open Go.ChangeShapes Go.WideShapes Go.ChangeAt Go.RowKit Go.Maps Circ

theorem own_empty (w : World) (base : Nat) (e : TypeId) (m : Nat) (hb : base ≤ w.heap.size) : OwnC (w.alloc (.cells #[] e)) base e m (.slice (some ⟨w.heap.size, 0, none⟩) 0 0) [] :=
  ⟨by simp, .inr ⟨w.heap.size, 0, #[], rfl, hb, Array.getElem?_push_size, Nat.le_refl _, by decide, by simp, by simp⟩⟩
theorem ints_len (l : List Int) : ∀ y ∈ ints l, y.length = 1 := fun y hy => by obtain ⟨x, _, rfl⟩ := List.mem_map.1 hy; rfl
theorem ints_one (l : List Int) : ∀ y ∈ ints l, ∀ u ∈ y, u.oneCell' = true := fun y hy u hu => by
  obtain ⟨x, _, rfl⟩ := List.mem_map.1 hy
  simp at hu; subst hu; rfl
theorem ints_length (l : List Int) : (ints l).length = l.length := by simp [ints]
theorem infoI : (Try.prog.info? 3).map (fun i => (i.zero, i.size, i.bytes)) = some (some (.int .i64 0), 1, 8) := by kernel_rfl
set_option maxRecDepth 100000 in
set_option maxHeartbeats 1000000 in
theorem clone22_any (l : List Int) (A : Option Addr) (q : Nat) (w : World) (hr : LRow w w.heap.size 1 A (ints l)) (hl : l.length * 8 ≤ 140737488355328) :
    Calls Try.prog 42 #[.slice A l.length q] w fun e w' => (∃ v, e = .returned v ∧ OwnC w' w.heap.size 3 1 v (ints l)) ∧ Below w.heap.size w w' := by
  have qT : ∀ (w : World) (a : Option Addr) (n c n' c' : Nat), (binOp .eql 25 (.slice a n c) (.slice none n' c')).run Try.prog w = .ok (.bool a.isNone) w := fun w a n c n' c' => Lib.run_eql_slice_nil w _ _ a n c n' c' Try.underlying25
  rcases A with _ | ad
  · have h0 : l = [] := by
      rcases hr with h | ⟨b, o, h, _⟩
      · simpa [ints] using h
      · cases h
    subst h0
    go_enter Try.func42, Try.ntmps42
    go_wp2
    go_ret
    exact ⟨⟨_, rfl, OwnC.nil _ _ _ _⟩, Below.refl _ _⟩
  · have hb1 : Below w.heap.size w (w.alloc (.cells #[] 3)) := (Below.refl _ _).alloc (Nat.le_refl _) _
    have HO := Lib.hid (own_empty w w.heap.size 3 1 (Nat.le_refl _))
    have HR := Lib.hid (hr.below hb1)
    have HB := Lib.hid hb1
    have HL : Hid ((ints l).length * 8 ≤ 140737488355328) := by unfold Hid; rw [ints_length]; exact hl
    clear hr hb1
    go_enter Try.func42, Try.ntmps42
    go_wp2_with (at_builtin; refine wpList_fill _ rfl (.tmp 5) (.tmp 6) 25 rfl 3 1 8 _ Try.underlying25 infoI rfl (by decide) w.heap.size w.heap.size _ HO.out w.heap.size (ints l) rfl rfl (some ad) l.length q (ints_length l).symm rfl HR.out (ints_len l) (ints_one l) HL.out HB.out.size (by have := HL.out; omega) ?_)
    intro v' w' hown hg hloc
    have hb2 : Below w.heap.size w w' := HB.out.trans ⟨hg.os, hg.tape, hg.output, hg.size, fun k hk => hg.block k (by have := HB.out.size; omega) (fun e => by simp [Value.ownBlock] at e; omega)⟩
    have HOW := Lib.hid hown
    have HB2 := Lib.hid hb2
    clear hown hg hloc hb2
    go_wp2
    go_ret
    exact ⟨⟨_, rfl, HOW.out⟩, HB2.out⟩

end Go.Proofs.Ytefbknpoehmfaaa.Cw
