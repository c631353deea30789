/- The walks of package lits' functions as circuits use them, and of slices' search for the first number of a kind; no condition. What literals hang on within one step, purely: which variables there are, and that a rising list of them is one. No program is named here. The walks of circuit's looks at sizes and texts, and of what panics where a circuit may not be; no condition. Ands hashed on plain lists, and what they do; no program is named here, no condition. What hangs on what is told, of ands in order; hashed again they stay; no program is named here, no condition. -/
import Derived.Test.YtfglgapocmnfpaaChecked
import Derived.Test.YtfglgapocmnfpaaPt02
import Derived.WalkKit
import Derived.ProofKit
import Derived.WalkSpells
import Derived.WalkLawsBesides
import Derived.Outline
import Derived.Lib.Hide
import Derived.LoopTactic
import Derived.OneCell
import Derived.Deep.QuietTactic
import Derived.BigQuiet
import Derived.Shelf.Abstract
namespace Go.Proofs.Ytfglgapocmnfpaa.Cw
open Go.ChangeShapes Go.WideShapes Go.ChangeAt Go.RowKit Circ

theorem ret_int {k : IntKind} {a b : Int} (h : a = b) : Ending.returned (.int k a) = .returned (.int k b) := by rw [h]
theorem ret_bool {a b : Bool} (h : a = b) : Ending.returned (.bool a) = .returned (.bool b) := by rw [h]
theorem ret_str {a b : ByteArray} (h : a = b) : Ending.returned (.string a) = .returned (.string b) := by rw [h]
/-- what a number counts as in the place of a literal -/
def cnt (x : Int) : Int := if x < 0 then 0 else x
theorem cnt_bd (x : Int) (h1 : x ≤ 9223372036854775807) : 0 ≤ cnt x ∧ cnt x ≤ 9223372036854775807 := by unfold cnt; split <;> omega
theorem cnt_pos (x : Int) (h : 0 ≤ x) : cnt x = x := if_neg (by omega)
theorem cnt_neg (x : Int) (h : x < 0) : cnt x = 0 := if_pos h

theorem counted_any (x : Int) (w : World) :
    Calls Try.prog 99 #[.int .i64 x] w fun e w' => e = .returned (.int .i64 (cnt x)) ∧ w = w' := by
  unfold cnt
  by_cases h : x < 0
  · go_enter Try.func99, Try.ntmps99
    go_wp2
    go_ret
    exact ⟨rfl, rfl⟩
  · go_enter Try.func99, Try.ntmps99
    go_wp2
    go_ret
    exact ⟨rfl, rfl⟩
theorem var_any (x : Int) (w : World) (h1 : x ≤ 9223372036854775807) :
    Calls Try.prog 57 #[.int .i64 x] w fun e w' => e = .returned (.int .i64 (cnt x / 2)) ∧ w = w' := by
  obtain ⟨b0, b1⟩ := cnt_bd x h1
  go_enter Try.func57, Try.ntmps57
  go_wp2_with (go_at_call 99; refine (counted_any _ _).mono ?_; rintro e w' ⟨rfl, rfl⟩)
  go_ret
  exact ⟨rfl, rfl⟩

theorem neg_any (x : Int) (w : World) (h1 : x ≤ 9223372036854775807) :
    Calls Try.prog 92 #[.int .i64 x] w fun e w' => e = .returned (.bool (decide (cnt x % 2 = 1))) ∧ w = w' := by
  obtain ⟨b0, b1⟩ := cnt_bd x h1
  go_enter Try.func92, Try.ntmps92
  go_wp2_with (go_at_call 99; refine (counted_any _ _).mono ?_; rintro e w' ⟨rfl, rfl⟩)
  go_ret
  exact ⟨ret_bool (by simp [Bool.beq_eq_decide_eq]), rfl⟩

/-- Make of a variable that a circuit may have -/
theorem make_any (v : Int) (w : World) (h0 : 0 ≤ v) (h1 : v ≤ 2048) :
    Calls Try.prog 138 #[.int .i64 v, .bool true] w fun e w' => e = .returned (.int .i64 (2 * v + 1)) ∧ w = w' := by
  have h : ¬ v < 0 := by omega
  have h' : ¬ 1099511627776 < v := by omega
  go_enter Try.func138, Try.ntmps138
  go_wp2
  go_ret
  exact ⟨rfl, rfl⟩

/-- the greatest literal of variables up to m -/
def great (m : Int) : Int := if m < 0 ∨ 2048 < m then -1 else 2 * m + 1
theorem great_any (m : Int) (w : World) :
    Calls Try.prog 128 #[.int .i64 m] w fun e w' => e = .returned (.int .i64 (great m)) ∧ w = w' := by
  unfold great
  rcases (show m < 0 ∨ (¬ m < 0 ∧ 2048 < m) ∨ (¬ m < 0 ∧ ¬ 2048 < m) from by omega) with h | ⟨h, h'⟩ | ⟨h, h'⟩
  · go_enter Try.func128, Try.ntmps128
    go_wp2
    go_ret
    exact ⟨ret_int (by simp), rfl⟩
  · go_enter Try.func128, Try.ntmps128
    go_wp2
    go_ret
    exact ⟨ret_int (by simp), rfl⟩
  · have M := Lib.hid (fun w => make_any m w (by omega) (by omega))
    go_enter Try.func128, Try.ntmps128
    go_wp2_with (go_at_call 138; refine (M.out _).mono ?_; rintro e w' ⟨rfl, rfl⟩)
    go_ret
    exact ⟨ret_int (by simp), rfl⟩

/-- what a closure answers on one element, whatever was made from block B on -/
def Says (k : FuncId) (cap : Array Value) (B : Nat) (W : World) (x : Value) (b : Bool) : Prop :=
  ∀ w, Below B W w → Calls Try.prog k (#[x] ++ cap) w fun e w' => e = .returned (.bool b) ∧ Below B W w'

theorem any_take {α : Type} (l : List α) (p : α → Bool) (k : Nat) (hk : k < l.length) : (l.take (k + 1)).any p = ((l.take k).any p || p l[k]) := by
  rw [List.take_succ_eq_append_getElem hk, List.any_append]; simp
theorem any_of {α : Type} (l : List α) (p : α → Bool) (k : Nat) (hk : k < l.length) (h : p l[k] = true) : l.any p = true :=
  List.any_eq_true.2 ⟨l[k], List.getElem_mem _, h⟩

def triV (t : Tri) : Value := .agg #[.int .i64 t.a, .int .i64 t.b, .int .i64 t.c]

set_option maxHeartbeats 400000 in
theorem index72_any (k : FuncId) (cap : Array Value) (l : List Int) (A : Option Addr) (c : Nat) (p : Int → Bool) (W : World) (hl : l.length ≤ 9223372036854775807)
    (hk : ∀ args w, (callFunc k args).run Try.prog w = .ok (.enter k args) w) (hr : LRow W W.heap.size 1 A (ints l))
    (hs : ∀ (i : Nat) (h : i < l.length), Says k cap W.heap.size W (.int .i64 l[i]) (p l[i])) :
    Calls Try.prog 105 #[.slice A l.length c, .func (.func k) #[] cap] W fun e w' => (∃ i : Int, e = .returned (.int .i64 i) ∧ -1 ≤ i ∧ i ≤ 9223372036854775807 ∧ decide (0 ≤ i) = l.any p) ∧ Below W.heap.size W w' := by
  go_enter Try.func105, Try.ntmps105
  go_wp2
  go_loopw [8] (fun i wr => ∃ j : Nat, j ≤ l.length ∧ i = .int .i64 j ∧ (l.take j).any p = false ∧ Below W.heap.size W wr) (fun i _ => l.length - (intOf i).toNat)
  case atStart => exact ⟨0, Nat.zero_le _, rfl, by simp, Below.refl _ _⟩
  case round =>
    obtain ⟨j, hj, rfl, hno, hb⟩ := hrel
    have HN := Lib.hid hno; clear hno
    by_cases hlt : j < l.length
    · obtain ⟨b, o, rfl, hbb, hc⟩ := (hr.below hb).int hlt
      have HX := Lib.hid (any_take l p j hlt)
      have HS := Lib.hid (any_of l p j hlt)
      have HE := Lib.hid (hs j hlt)
      clear hs hr
      generalize l[j] = x at *
      generalize hq : p x = q at *
      go_wp2_with fail
      refine (HE.out _ hb).mono ?_
      rintro e w' ⟨rfl, hb'⟩
      cases q
      · go_wp2
        go_roundw
        case rel => exact ⟨j + 1, by omega, by go_num, by rw [HX.out, HN.out]; rfl, hb'⟩
        case measure => simp [intOf]; omega
      · go_wp2
        go_ret
        exact ⟨⟨j, rfl, by omega, by omega, by rw [HS.out (by trivial)]; simp⟩, hb'⟩
    · obtain rfl : j = l.length := by omega
      rw [List.take_of_length_le (Nat.le_refl _)] at HN
      go_wp2
      go_ret
      exact ⟨⟨-1, rfl, by decide, by decide, by rw [HN.out]; rfl⟩, hb⟩

theorem contains52_any (k : FuncId) (cap : Array Value) (l : List Int) (A : Option Addr) (c : Nat) (p : Int → Bool) (W : World) (hl : l.length ≤ 9223372036854775807)
    (hk : ∀ args w, (callFunc k args).run Try.prog w = .ok (.enter k args) w) (hr : LRow W W.heap.size 1 A (ints l))
    (hs : ∀ (i : Nat) (h : i < l.length), Says k cap W.heap.size W (.int .i64 l[i]) (p l[i])) :
    Calls Try.prog 66 #[.slice A l.length c, .func (.func k) #[] cap] W fun e w' => e = .returned (.bool (l.any p)) ∧ Below W.heap.size W w' := by
  have I := Lib.hid (index72_any k cap l A c p W hl hk hr hs)
  clear hs hr
  go_enter Try.func66, Try.ntmps66
  go_wp2_with fail
  refine I.out.mono ?_
  rintro e w' ⟨⟨i, rfl, i0, i1, hi⟩, hb⟩
  have HI := Lib.hid hi; clear hi
  go_wp2
  go_ret
  exact ⟨ret_bool (by rw [← HI.out]), hb⟩
/-- a number that is no literal of a variable up to m -/
def outside (m x : Int) : Bool := decide (x < 0) || decide (great m < x)
theorem check1_any (x m : Int) (g : Nat) (w : World) (hc : w.cell? ⟨g, 0, none⟩ = some (.int .i64 m)) :
    Calls Try.prog 129 #[.int .i64 x, .pointer (some ⟨g, 0, none⟩)] w fun e w' => e = .returned (.bool (decide (x < 0) || decide (m < x))) ∧ w = w' := by
  by_cases h : x < 0
  · go_enter Try.func129, Try.ntmps129
    go_wp2
    go_ret
    exact ⟨ret_bool (by simp; try omega), rfl⟩
  · go_enter Try.func129, Try.ntmps129
    go_wp2
    go_ret
    exact ⟨ret_bool (by simp; try omega), rfl⟩

theorem lcheck_any (m : Int) (l : List Int) (A : Option Addr) (c : Nat) (w : World) (hl : l.length ≤ 9223372036854775807) (hr : LRow w w.heap.size 1 A (ints l)) :
    Calls Try.prog 113 #[.int .i64 m, .slice A l.length c] w fun e w' => e = .returned (.int .i64 (if l.any (outside m) = true then 4 else 0)) ∧ Below w.heap.size w w' := by
  have hmf : ∀ (fn : Fn) (first cap : Array Value) (w : World), (Instr.makeFunc fn first cap).run Try.prog w = .ok (.func fn first cap) w := fun _ _ _ _ => rfl
  have hb0 : Below w.heap.size w (w.alloc (.cells #[.int .i64 (great m)] 3)) := (Below.refl _ _).alloc (Nat.le_refl _) _
  have hsz : (w.alloc (.cells #[.int .i64 (great m)] 3)).heap.size = w.heap.size + 1 := by simp
  have C := contains52_any 129 #[.pointer (some ⟨w.heap.size, 0, none⟩)] l A c (outside m) (w.alloc (.cells #[.int .i64 (great m)] 3)) hl (enters_of Try.func129 (by kernel_rfl) rfl)
    ((hr.below hb0).more (by rw [hsz]; omega)) (fun i h w' hb => (check1_any l[i] (great m) w.heap.size w' (by rw [hb.cell (by rw [hsz]; exact Nat.lt_succ_self _)]; simp)).mono (by rintro e w'' ⟨rfl, rfl⟩; exact ⟨rfl, hb⟩))
  have HC := Lib.hid C
  generalize l.any (outside m) = q at *
  clear C hr
  go_enter Try.func113, Try.ntmps113
  go_wp2_with (go_at_call 128; refine (great_any _ _).mono ?_; rintro e w' ⟨rfl, rfl⟩)
  refine HC.out.mono ?_
  rintro e w' ⟨rfl, hb⟩
  have hbel := hb0.trans (hb.mono (by rw [hsz]; omega))
  cases q
  all_goals
    go_wp2
    go_ret
    exact ⟨rfl, hbel⟩
end Go.Proofs.Ytfglgapocmnfpaa.Cw
namespace Go.Proofs.Ytfglgapocmnfpaa.Cw
open Circ

/-- the first gate of a variable -/
def andOf (ands : List Tri) (v : Int) : Option Tri := ands.find? fun t => decide (cnt t.a / 2 = v)
theorem andOf_mem {ands : List Tri} {v : Int} {t : Tri} (h : andOf ands v = some t) : t ∈ ands := List.mem_of_find?_eq_some h
/-- the variables that the literals hang on -/
inductive Hangs (ands : List Tri) (l : List Int) : Int → Prop
  | start (x : Int) : x ∈ l → cnt x / 2 ≠ 0 → Hangs ands l (cnt x / 2)
  | left (v : Int) (t : Tri) : Hangs ands l v → andOf ands v = some t → cnt t.b / 2 ≠ 0 → Hangs ands l (cnt t.b / 2)
  | right (v : Int) (t : Tri) : Hangs ands l v → andOf ands v = some t → cnt t.c / 2 ≠ 0 → Hangs ands l (cnt t.c / 2)

/-- one more variable, if it is not there -/
def put (T : List Int) (x : Int) : List Int := if T.contains (cnt x / 2) || decide (cnt x / 2 = 0) then T else T ++ [cnt x / 2]
theorem mem_put (T : List Int) (x v : Int) : v ∈ put T x ↔ v ∈ T ∨ (v = cnt x / 2 ∧ v ≠ 0) := by
  unfold put
  split
  · rename_i h
    simp only [Bool.or_eq_true, List.contains_iff_mem, decide_eq_true_eq] at h
    constructor
    · exact .inl
    · rintro (h1 | ⟨rfl, h2⟩)
      · exact h1
      · rcases h with h | h
        · exact h
        · exact absurd h h2
  · rename_i h
    simp only [Bool.or_eq_true, List.contains_iff_mem, decide_eq_true_eq, not_or] at h
    simp only [List.mem_append, List.mem_singleton]
    constructor
    · rintro (h1 | rfl)
      · exact .inl h1
      · exact .inr ⟨rfl, h.2⟩
    · rintro (h1 | ⟨rfl, _⟩)
      · exact .inl h1
      · exact .inr rfl
theorem put_nodup (T : List Int) (x : Int) (h : T.Nodup) : (put T x).Nodup := by
  unfold put
  split
  · exact h
  · rename_i h2
    simp only [Bool.or_eq_true, List.contains_iff_mem, decide_eq_true_eq, not_or] at h2
    rw [List.nodup_append]
    refine ⟨h, by simp, ?_⟩
    intro a ha b hb
    simp at hb
    subst hb
    rintro rfl
    exact h2.1 ha
theorem put_get (T : List Int) (x : Int) (k : Nat) (hk : k < T.length) : ∃ h : k < (put T x).length, (put T x)[k] = T[k] := by
  unfold put
  split
  · exact ⟨hk, rfl⟩
  · exact ⟨by simp; omega, by rw [List.getElem_append_left hk]⟩
theorem put_len (T : List Int) (x : Int) : T.length ≤ (put T x).length := by
  unfold put; split
  · exact Nat.le_refl _
  · simp

theorem nodup_len : ∀ (a b : List Int), a.Nodup → (∀ x ∈ a, x ∈ b) → a.length ≤ b.length
  | [], _, _, _ => Nat.zero_le _
  | x :: a, b, h, hs => by
    rw [List.nodup_cons] at h
    have hx : x ∈ b := hs x (List.mem_cons_self)
    have := nodup_len a (b.erase x) h.2 (fun y hy => by
      have hne : y ≠ x := by rintro rfl; exact h.1 hy
      exact (List.mem_erase_of_ne hne).2 (hs y (List.mem_cons_of_mem _ hy)))
    rw [List.length_erase_of_mem hx] at this
    have hp : 0 < b.length := List.length_pos_of_mem hx
    simp only [List.length_cons]
    omega

def pool (ands : List Tri) (l : List Int) : List Int := l.map (fun x => cnt x / 2) ++ (ands.map (fun t => cnt t.b / 2) ++ ands.map (fun t => cnt t.c / 2))
theorem pool_len (ands : List Tri) (l : List Int) : (pool ands l).length = l.length + 2 * ands.length := by simp [pool]; omega
theorem hangs_pool {ands : List Tri} {l : List Int} {v : Int} (h : Hangs ands l v) : v ∈ pool ands l := by
  unfold pool
  cases h with
  | start x hx _ => exact List.mem_append_left _ (List.mem_map.2 ⟨x, hx, rfl⟩)
  | left u t _ ht _ => exact List.mem_append_right _ (List.mem_append_left _ (List.mem_map.2 ⟨t, andOf_mem ht, rfl⟩))
  | right u t _ ht _ => exact List.mem_append_right _ (List.mem_append_right _ (List.mem_map.2 ⟨t, andOf_mem ht, rfl⟩))
theorem hangs_len {ands : List Tri} {l T : List Int} (hn : T.Nodup) (h : ∀ v ∈ T, Hangs ands l v) : T.length ≤ l.length + 2 * ands.length := by
  rw [← pool_len ands l]
  exact nodup_len _ _ hn fun x hx => hangs_pool (h x hx)
end Go.Proofs.Ytfglgapocmnfpaa.Cw
namespace Go.Proofs.Ytfglgapocmnfpaa.Cw
open Go.ChangeShapes Go.WideShapes Go.ChangeAt Go.RowKit Circ

def fault : List PanicEntry := [{ v := .iface 109 (.agg #[.int .i64 9]), recovered := false }]
def told (b : Bool) : Ending := if b then .returned (.tuple #[]) else .panicked fault

theorem need_any (b : Bool) (w : World) : Calls Try.prog 110 #[.bool b] w fun e w' => e = told b ∧ w = w' := by
  cases b
  · go_enter Try.func110, Try.ntmps110
    go_wp2
    exact ⟨rfl, rfl, rfl⟩
  · go_enter Try.func110, Try.ntmps110
    go_wp2
    go_end0
    exact ⟨rfl, rfl⟩
theorem need_yes (w : World) : Calls Try.prog 110 #[.bool true] w fun e w' => e = .returned (.tuple #[]) ∧ w = w' := need_any true w
theorem need_no (w : World) : Calls Try.prog 110 #[.bool false] w fun e w' => e = .panicked fault ∧ w = w' := need_any false w

def lens (c : Cir) : List Int := [c.ins.length, c.lats.length, c.outs.length, c.bads.length, c.invs.length]
def sizesOk (c : Cir) : Bool := decide (0 ≤ c.max) && decide (c.max ≤ 2048) && (lens c).all fun n => decide (n ≤ 64)

theorem all_take {α : Type} (l : List α) (p : α → Bool) (k : Nat) (hk : k < l.length) : (l.take (k + 1)).all p = ((l.take k).all p && p l[k]) := by
  rw [List.take_succ_eq_append_getElem hk, List.all_append]; simp
theorem all_not {α : Type} (l : List α) (p : α → Bool) (k : Nat) (hk : k < l.length) (h : p l[k] = false) : l.all p = false := by
  rw [List.all_eq_false]; exact ⟨l[k], List.getElem_mem _, by simp [h]⟩

theorem new_cell (w : World) (cs : Array Value) (t : TypeId) (k : Nat) : (w.alloc (.cells cs t)).cell? ⟨w.heap.size, k, none⟩ = cs[k]? := by simp

set_option maxHeartbeats 1000000 in
theorem sizes_any (c : Cir) (s : Places) (w : World) :
    Calls Try.prog 81 #[cirV c s] w fun e w' => e = told (sizesOk c) ∧ Below w.heap.size w w' := by
  have hb1 : Below w.heap.size w (w.alloc (.cells (cirC c s) 27)) := (Below.refl _ _).alloc (Nat.le_refl _) _
  have hb2 : Below w.heap.size w ((w.alloc (.cells (cirC c s) 27)).alloc (.cells #[.int .i64 c.ins.length, .int .i64 c.lats.length, .int .i64 c.outs.length, .int .i64 c.bads.length, .int .i64 c.invs.length] 3)) := hb1.alloc hb1.size _
  have hcell : ∀ (k : Nat) (hk : k < (lens c).length), ((w.alloc (.cells (cirC c s) 27)).alloc (.cells #[.int .i64 c.ins.length, .int .i64 c.lats.length, .int .i64 c.outs.length, .int .i64 c.bads.length, .int .i64 c.invs.length] 3)).cell? ⟨w.heap.size + 1, k, none⟩ = some (.int .i64 (lens c)[k]) := by
    intro k hk
    have := new_cell (w.alloc (.cells (cirC c s) 27)) #[.int .i64 c.ins.length, .int .i64 c.lats.length, .int .i64 c.outs.length, .int .i64 c.bads.length, .int .i64 c.invs.length] 3 k
    rw [show (w.alloc (.cells (cirC c s) 27)).heap.size = w.heap.size + 1 by simp] at this
    rw [this]
    match k, hk with
    | 0, _ => rfl
    | 1, _ => rfl
    | 2, _ => rfl
    | 3, _ => rfl
    | 4, _ => rfl
  have HC := Lib.hid hcell; clear hcell
  unfold cirV cirC at *
  by_cases h0 : 0 ≤ c.max
  case neg =>
    have hq : sizesOk c = false := by unfold sizesOk; simp [h0]
    have hq' : decide (0 ≤ c.max) = false := by simpa using h0
    have HQ := Lib.hid hq; clear hq
    go_enter Try.func81, Try.ntmps81
    go_wp2_with (go_at_call 110; refine (need_no _).mono ?_; rintro e w' ⟨rfl, rfl⟩)
    exact ⟨rfl, by rw [HQ.out]; rfl, hb1⟩
  case pos =>
  by_cases h1 : c.max ≤ 2048
  case neg =>
    have hq : sizesOk c = false := by unfold sizesOk; simp [h1]
    have hq' : decide (c.max ≤ 2048) = false := by simpa using h1
    have HQ := Lib.hid hq; clear hq
    go_enter Try.func81, Try.ntmps81
    go_wp2_with (go_at_call 110; refine (need_no _).mono ?_; rintro e w' ⟨rfl, rfl⟩)
    exact ⟨rfl, by rw [HQ.out]; rfl, hb1⟩
  case pos =>
  have hs : sizesOk c = (lens c).all fun n => decide (n ≤ 64) := by unfold sizesOk; simp [h0, h1]
  have HQ := Lib.hid hs; clear hs
  go_enter Try.func81, Try.ntmps81
  go_wp2_with (go_at_call 110; refine (need_yes _).mono ?_; rintro e w' ⟨rfl, rfl⟩)
  go_loop [30] (fun i => ∃ k : Nat, k ≤ 5 ∧ i = .int .i64 k ∧ ((lens c).take k).all (fun n => decide (n ≤ 64)) = true) (fun i => 5 - (intOf i).toNat)
  case atStart => exact ⟨0, Nat.zero_le _, rfl, rfl⟩
  case round =>
    obtain ⟨k, hk, rfl, hno⟩ := hrel
    have HN := Lib.hid hno; clear hno
    by_cases hlt : k < 5
    · have hk5 : k < (lens c).length := hlt
      have hc := HC.out k hk5
      have HX := Lib.hid (all_take (lens c) (fun n => decide (n ≤ 64)) k hk5)
      have HS := Lib.hid (all_not (lens c) (fun n => decide (n ≤ 64)) k hk5)
      generalize (lens c)[k] = x at *
      by_cases hx : x ≤ 64
      · go_wp2_with (go_at_call 110; refine (need_yes _).mono ?_; rintro e w' ⟨rfl, rfl⟩)
        go_round
        case rel => exact ⟨k + 1, by omega, by go_num, by rw [HX.out, HN.out]; simpa using hx⟩
        case measure => simp [intOf]; omega
      · have hx' : decide (x ≤ 64) = false := by simpa using hx
        go_wp2_with (go_at_call 110; refine (need_no _).mono ?_; rintro e w' ⟨rfl, rfl⟩)
        exact ⟨rfl, by rw [HQ.out, HS.out (by simpa using hx)]; rfl, hb2⟩
    · obtain rfl : k = 5 := by omega
      rw [List.take_of_length_le (Nat.le_refl 5)] at HN
      go_wp2
      go_end0
      exact ⟨by rw [HQ.out, HN.out]; rfl, hb2⟩
end Go.Proofs.Ytfglgapocmnfpaa.Cw
namespace Go.Proofs.Ytfglgapocmnfpaa.Str
open Circ Cw

/- what is hashed -/
def opp (x : Int) : Int := if x % 2 = 0 then x + 1 else x - 1
def plainM (a b : Int) : Option Int :=
  if cnt a = 0 ∨ cnt b = 0 ∨ cnt a = opp (cnt b) then some 0
  else if cnt a = 1 ∨ cnt a = cnt b then some (cnt b)
  else if cnt b = 1 then some (cnt a) else none
def ofM (F : Int → Option Int) (l : Int) : Int := match F (cnt l / 2) with
  | none => l
  | some s => if cnt l % 2 = 1 then opp (cnt s) else s
def pairM (b c : Int) : Int × Int := (min b c, max b c)
structure Hs where
  F : Int → Option Int
  G : Int × Int → Option Int
  st : List Tri
def goneM (h : Hs) (b c : Int) : Option Int := (plainM b c).or (h.G (pairM b c))
def stepM (h : Hs) (t : Tri) : Hs := match goneM h (ofM h.F t.b) (ofM h.F t.c) with
  | some s => ⟨fun v => if v = cnt t.a / 2 then some s else h.F v, h.G, h.st⟩
  | none => ⟨h.F, fun p => if p = pairM (ofM h.F t.b) (ofM h.F t.c) then some t.a else h.G p, h.st ++ [⟨t.a, ofM h.F t.b, ofM h.F t.c⟩]⟩
def hs0 : Hs := ⟨fun _ => none, fun _ => none, []⟩
/- ands in order, of what is known ahead of them -/
def Seen (B : Int → Prop) (l : List Tri) (v : Int) : Prop := B v ∨ ∃ u ∈ l, u.a = 2 * v
theorem Seen.more {B : Int → Prop} {l : List Tri} {v : Int} (h : Seen B l v) (m : List Tri) : Seen B (l ++ m) v := by
  rcases h with h | ⟨u, hu, e⟩
  · exact .inl h
  · exact .inr ⟨u, List.mem_append_left _ hu, e⟩
inductive Good (B : Int → Prop) : List Tri → Prop
  | nil : Good B []
  | snoc (l : List Tri) (t : Tri) : Good B l → 2 ≤ t.a → t.a % 2 = 0 → (∀ u ∈ l, u.a < t.a) → 0 ≤ t.b → t.b < t.a → 0 ≤ t.c → t.c < t.a → Seen B l (t.b / 2) → Seen B l (t.c / 2) → ¬ B (t.a / 2) → Good B (l ++ [t])
/- what hashing keeps -/
structure Inv (B : Int → Prop) (l : List Tri) (h : Hs) : Prop where
  sub : (h.st.map Tri.a).Sublist (l.map Tri.a)
  dom : ∀ v s, h.F v = some s → 0 ≤ s ∧ s < 2 * v ∧ (∃ t ∈ l, t.a = 2 * v) ∧ Seen B h.st (s / 2)
  seen : ∀ t ∈ l, (h.F (t.a / 2)).isSome ∨ ∃ u ∈ h.st, u.a = t.a
  good : Good B h.st
  plain : ∀ t ∈ h.st, plainM t.b t.c = none
  pairs : ∀ p x, h.G p = some x → ∃ t ∈ h.st, t.a = x ∧ p = pairM t.b t.c
  found : ∀ t ∈ h.st, (h.G (pairM t.b t.c)).isSome
  dist : h.st.Pairwise fun s t => pairM s.b s.c ≠ pairM t.b t.c
/- values -/
def bitM (V : Int → Bool) (l : Int) : Bool := V (l / 2) != decide (l % 2 = 1)
def setM (V : Int → Bool) (v : Int) (b : Bool) : Int → Bool := fun x => if x = v then b else V x
def evalM (V : Int → Bool) (l : List Tri) : Int → Bool := l.foldl (fun V t => setM V (t.a / 2) (bitM V t.b && bitM V t.c)) V
theorem eval_snoc (V : Int → Bool) (l : List Tri) (t : Tri) : evalM V (l ++ [t]) = setM (evalM V l) (t.a / 2) (bitM (evalM V l) t.b && bitM (evalM V l) t.c) := by unfold evalM; rw [List.foldl_append]; rfl
end Go.Proofs.Ytfglgapocmnfpaa.Str
namespace Go.Proofs.Ytfglgapocmnfpaa.Str
open Circ Cw

/-- the ands whose variables P tells -/
def those (P : Int → Prop) [DecidablePred P] (l : List Tri) : List Tri := l.filter fun t => decide (P (cnt t.a / 2))
/- the first and of a variable is the only one -/
end Go.Proofs.Ytfglgapocmnfpaa.Str
