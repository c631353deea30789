/- The walks of package lits' functions as circuits use them, and of slices' search for the first number of a kind; no condition. -/
import Derived.Test.YtckdlbfndmmjjaaGreatDoorChecked
import Derived.Test.YtckdlbfndmmjjaaGreatDoorCirc
import Derived.WalkKit
import Derived.ProofKit
import Derived.WalkSpells
import Derived.WalkLawsBesides
import Derived.Outline
import Derived.Lib.Hide
import Derived.LoopTactic
import Derived.OneCell
import Derived.Deep.QuietTactic
import Derived.BigQuiet
import Derived.Shelf.Abstract
namespace Go.Proofs.YtckdlbfndmmjjaaGreatDoor.Cw
open Go.ChangeShapes Go.WideShapes Go.ChangeAt Go.RowKit Circ

theorem ret_int {k : IntKind} {a b : Int} (h : a = b) : Ending.returned (.int k a) = .returned (.int k b) := by rw [h]
theorem ret_bool {a b : Bool} (h : a = b) : Ending.returned (.bool a) = .returned (.bool b) := by rw [h]
theorem ret_str {a b : ByteArray} (h : a = b) : Ending.returned (.string a) = .returned (.string b) := by rw [h]
theorem bcell {W w1 : World} (hb : Below W.heap.size W w1) : (∀ b o, b < W.heap.size → w1.cell? ⟨b, o, none⟩ = W.cell? ⟨b, o, none⟩) ∧ (∀ b o, b < W.heap.size → w1.frozen? ⟨b, o, none⟩ = W.frozen? ⟨b, o, none⟩) :=
  ⟨fun b o h => hb.cell (p := ⟨b, o, none⟩) h, fun b o h => hb.frozen (p := ⟨b, o, none⟩) h⟩

/-- what a number counts as in the place of a literal -/
def cnt (x : Int) : Int := if x < 0 then 0 else x
theorem cnt_bd (x : Int) (h1 : x ≤ 9223372036854775807) : 0 ≤ cnt x ∧ cnt x ≤ 9223372036854775807 := by unfold cnt; split <;> omega
theorem cnt_pos (x : Int) (h : 0 ≤ x) : cnt x = x := if_neg (by omega)
theorem cnt_neg (x : Int) (h : x < 0) : cnt x = 0 := if_pos h

theorem counted_any (x : Int) (w : World) :
    Calls Tryz.prog 68 #[.int .i64 x] w fun e w' => e = .returned (.int .i64 (cnt x)) ∧ w = w' := by
  unfold cnt
  by_cases h : x < 0
  · go_enter Tryz.func68, Tryz.ntmps68
    go_wp2
    go_ret
    exact ⟨rfl, rfl⟩
  · go_enter Tryz.func68, Tryz.ntmps68
    go_wp2
    go_ret
    exact ⟨rfl, rfl⟩
theorem var_any (x : Int) (w : World) (h1 : x ≤ 9223372036854775807) :
    Calls Tryz.prog 47 #[.int .i64 x] w fun e w' => e = .returned (.int .i64 (cnt x / 2)) ∧ w = w' := by
  obtain ⟨b0, b1⟩ := cnt_bd x h1
  go_enter Tryz.func47, Tryz.ntmps47
  go_wp2_with (go_at_call 68; refine (counted_any _ _).mono ?_; rintro e w' ⟨rfl, rfl⟩)
  go_ret
  exact ⟨rfl, rfl⟩

theorem neg_any (x : Int) (w : World) (h1 : x ≤ 9223372036854775807) :
    Calls Tryz.prog 50 #[.int .i64 x] w fun e w' => e = .returned (.bool (decide (cnt x % 2 = 1))) ∧ w = w' := by
  obtain ⟨b0, b1⟩ := cnt_bd x h1
  go_enter Tryz.func50, Tryz.ntmps50
  go_wp2_with (go_at_call 68; refine (counted_any _ _).mono ?_; rintro e w' ⟨rfl, rfl⟩)
  go_ret
  exact ⟨ret_bool (by simp [Bool.beq_eq_decide_eq]), rfl⟩

/-- Make of a variable that a circuit may have -/
theorem make_any (v : Int) (w : World) (h0 : 0 ≤ v) (h1 : v ≤ 2048) :
    Calls Tryz.prog 88 #[.int .i64 v, .bool true] w fun e w' => e = .returned (.int .i64 (2 * v + 1)) ∧ w = w' := by
  have h : ¬ v < 0 := by omega
  have h' : ¬ 1099511627776 < v := by omega
  go_enter Tryz.func88, Tryz.ntmps88
  go_wp2
  go_ret
  exact ⟨rfl, rfl⟩

/-- the greatest literal of variables up to m -/
def great (m : Int) : Int := if m < 0 ∨ 2048 < m then -1 else 2 * m + 1
theorem great_any (m : Int) (w : World) :
    Calls Tryz.prog 69 #[.int .i64 m] w fun e w' => e = .returned (.int .i64 (great m)) ∧ w = w' := by
  unfold great
  rcases (show m < 0 ∨ (¬ m < 0 ∧ 2048 < m) ∨ (¬ m < 0 ∧ ¬ 2048 < m) from by omega) with h | ⟨h, h'⟩ | ⟨h, h'⟩
  · go_enter Tryz.func69, Tryz.ntmps69
    go_wp2
    go_ret
    exact ⟨ret_int (by simp), rfl⟩
  · go_enter Tryz.func69, Tryz.ntmps69
    go_wp2
    go_ret
    exact ⟨ret_int (by simp), rfl⟩
  · have M := Lib.hid (fun w => make_any m w (by omega) (by omega))
    go_enter Tryz.func69, Tryz.ntmps69
    go_wp2_with (go_at_call 88; refine (M.out _).mono ?_; rintro e w' ⟨rfl, rfl⟩)
    go_ret
    exact ⟨ret_int (by simp), rfl⟩

/-- what a closure answers on one element, whatever was made from block B on -/
def Says (k : FuncId) (cap : Array Value) (B : Nat) (W : World) (x : Value) (b : Bool) : Prop :=
  ∀ w, Below B W w → Calls Tryz.prog k (#[x] ++ cap) w fun e w' => e = .returned (.bool b) ∧ Below B W w'

theorem any_take {α : Type} (l : List α) (p : α → Bool) (k : Nat) (hk : k < l.length) : (l.take (k + 1)).any p = ((l.take k).any p || p l[k]) := by
  rw [List.take_succ_eq_append_getElem hk, List.any_append]; simp
theorem any_of {α : Type} (l : List α) (p : α → Bool) (k : Nat) (hk : k < l.length) (h : p l[k] = true) : l.any p = true :=
  List.any_eq_true.2 ⟨l[k], List.getElem_mem _, h⟩

def triV (t : Tri) : Value := .agg #[.int .i64 t.a, .int .i64 t.b, .int .i64 t.c]

set_option maxHeartbeats 400000 in
theorem index72_any (k : FuncId) (cap : Array Value) (l : List Int) (A : Option Addr) (c : Nat) (p : Int → Bool) (W : World) (hl : l.length ≤ 9223372036854775807)
    (hk : ∀ args w, (callFunc k args).run Tryz.prog w = .ok (.enter k args) w) (hr : LRow W W.heap.size 1 A (ints l))
    (hs : ∀ (i : Nat) (h : i < l.length), Says k cap W.heap.size W (.int .i64 l[i]) (p l[i])) :
    Calls Tryz.prog 89 #[.slice A l.length c, .func (.func k) #[] cap] W fun e w' => (∃ i : Int, e = .returned (.int .i64 i) ∧ -1 ≤ i ∧ i ≤ 9223372036854775807 ∧ decide (0 ≤ i) = l.any p) ∧ Below W.heap.size W w' := by
  go_enter Tryz.func89, Tryz.ntmps89
  go_wp2
  go_loopw [8] (fun i wr => ∃ j : Nat, j ≤ l.length ∧ i = .int .i64 j ∧ (l.take j).any p = false ∧ Below W.heap.size W wr) (fun i _ => l.length - (intOf i).toNat)
  case atStart => exact ⟨0, Nat.zero_le _, rfl, by simp, Below.refl _ _⟩
  case round =>
    obtain ⟨j, hj, rfl, hno, hb⟩ := hrel
    have HN := Lib.hid hno; clear hno
    by_cases hlt : j < l.length
    · obtain ⟨b, o, rfl, hbb, hc⟩ := (hr.below hb).int hlt
      have HX := Lib.hid (any_take l p j hlt)
      have HS := Lib.hid (any_of l p j hlt)
      have HE := Lib.hid (hs j hlt)
      clear hs hr
      generalize l[j] = x at *
      generalize hq : p x = q at *
      go_wp2_with fail
      refine (HE.out _ hb).mono ?_
      rintro e w' ⟨rfl, hb'⟩
      cases q
      · go_wp2
        go_roundw
        case rel => exact ⟨j + 1, by omega, by go_num, by rw [HX.out, HN.out]; rfl, hb'⟩
        case measure => simp [intOf]; omega
      · go_wp2
        go_ret
        exact ⟨⟨j, rfl, by omega, by omega, by rw [HS.out (by trivial)]; simp⟩, hb'⟩
    · obtain rfl : j = l.length := by omega
      rw [List.take_of_length_le (Nat.le_refl _)] at HN
      go_wp2
      go_ret
      exact ⟨⟨-1, rfl, by decide, by decide, by rw [HN.out]; rfl⟩, hb⟩

theorem contains52_any (k : FuncId) (cap : Array Value) (l : List Int) (A : Option Addr) (c : Nat) (p : Int → Bool) (W : World) (hl : l.length ≤ 9223372036854775807)
    (hk : ∀ args w, (callFunc k args).run Tryz.prog w = .ok (.enter k args) w) (hr : LRow W W.heap.size 1 A (ints l))
    (hs : ∀ (i : Nat) (h : i < l.length), Says k cap W.heap.size W (.int .i64 l[i]) (p l[i])) :
    Calls Tryz.prog 70 #[.slice A l.length c, .func (.func k) #[] cap] W fun e w' => e = .returned (.bool (l.any p)) ∧ Below W.heap.size W w' := by
  have I := Lib.hid (index72_any k cap l A c p W hl hk hr hs)
  clear hs hr
  go_enter Tryz.func70, Tryz.ntmps70
  go_wp2_with fail
  refine I.out.mono ?_
  rintro e w' ⟨⟨i, rfl, i0, i1, hi⟩, hb⟩
  have HI := Lib.hid hi; clear hi
  go_wp2
  go_ret
  exact ⟨ret_bool (by rw [← HI.out]), hb⟩
/-- a number that is no literal of a variable up to m -/
def outside (m x : Int) : Bool := decide (x < 0) || decide (great m < x)
theorem check1_any (x m : Int) (g : Nat) (w : World) (hc : w.cell? ⟨g, 0, none⟩ = some (.int .i64 m)) :
    Calls Tryz.prog 71 #[.int .i64 x, .pointer (some ⟨g, 0, none⟩)] w fun e w' => e = .returned (.bool (decide (x < 0) || decide (m < x))) ∧ w = w' := by
  by_cases h : x < 0
  · go_enter Tryz.func71, Tryz.ntmps71
    go_wp2
    go_ret
    exact ⟨ret_bool (by simp; try omega), rfl⟩
  · go_enter Tryz.func71, Tryz.ntmps71
    go_wp2
    go_ret
    exact ⟨ret_bool (by simp; try omega), rfl⟩

theorem lcheck_any (m : Int) (l : List Int) (A : Option Addr) (c : Nat) (w : World) (hl : l.length ≤ 9223372036854775807) (hr : LRow w w.heap.size 1 A (ints l)) :
    Calls Tryz.prog 49 #[.int .i64 m, .slice A l.length c] w fun e w' => e = .returned (.int .i64 (if l.any (outside m) = true then 4 else 0)) ∧ Below w.heap.size w w' := by
  have hmf : ∀ (fn : Fn) (first cap : Array Value) (w : World), (Instr.makeFunc fn first cap).run Tryz.prog w = .ok (.func fn first cap) w := fun _ _ _ _ => rfl
  have hb0 : Below w.heap.size w (w.alloc (.cells #[.int .i64 (great m)] 3)) := (Below.refl _ _).alloc (Nat.le_refl _) _
  have hsz : (w.alloc (.cells #[.int .i64 (great m)] 3)).heap.size = w.heap.size + 1 := by simp
  have C := contains52_any 71 #[.pointer (some ⟨w.heap.size, 0, none⟩)] l A c (outside m) (w.alloc (.cells #[.int .i64 (great m)] 3)) hl (enters_of Tryz.func71 (by kernel_rfl) rfl)
    ((hr.below hb0).more (by rw [hsz]; omega)) (fun i h w' hb => (check1_any l[i] (great m) w.heap.size w' (by rw [hb.cell (by rw [hsz]; exact Nat.lt_succ_self _)]; simp)).mono (by rintro e w'' ⟨rfl, rfl⟩; exact ⟨rfl, hb⟩))
  have HC := Lib.hid C
  generalize l.any (outside m) = q at *
  clear C hr
  go_enter Tryz.func49, Tryz.ntmps49
  go_wp2_with (go_at_call 69; refine (great_any _ _).mono ?_; rintro e w' ⟨rfl, rfl⟩)
  refine HC.out.mono ?_
  rintro e w' ⟨rfl, hb⟩
  have hbel := hb0.trans (hb.mono (by rw [hsz]; omega))
  cases q
  all_goals
    go_wp2
    go_ret
    exact ⟨rfl, hbel⟩
end Go.Proofs.YtckdlbfndmmjjaaGreatDoor.Cw
