/- The walks of package lits' functions as circuits use them, and of slices' search for the first number of a kind; no condition. What literals hang on within one step, purely: which variables there are, and that a rising list of them is one. No program is named here. The walks of circuit's looks at sizes and texts, and of what panics where a circuit may not be; no condition. The walks of circuit's looks at kinds and texts of names, and at what pins there are; of the pages' own count and rank; no condition. Ands hashed on plain lists, and what they do; no program is named here, no condition. What hangs on what is told, of ands in order; hashed again they stay; no program is named here, no condition. -/
import Derived.Test.YtbgcoeejmnejdaaChecked
import Derived.Test.YtbgcoeejmnejdaaPt02
import Derived.WalkKit
import Derived.ProofKit
import Derived.WalkSpells
import Derived.WalkLawsBesides
import Derived.Outline
import Derived.Lib.Hide
import Derived.LoopTactic
import Derived.OneCell
import Derived.Deep.QuietTactic
import Derived.BigQuiet
import Derived.Shelf.Abstract
namespace Go.Proofs.Ytbgcoeejmnejdaa.Cw
open Go.ChangeShapes Go.WideShapes Go.ChangeAt Go.RowKit Circ

theorem ret_int {k : IntKind} {a b : Int} (h : a = b) : Ending.returned (.int k a) = .returned (.int k b) := by rw [h]
theorem ret_bool {a b : Bool} (h : a = b) : Ending.returned (.bool a) = .returned (.bool b) := by rw [h]
theorem ret_str {a b : ByteArray} (h : a = b) : Ending.returned (.string a) = .returned (.string b) := by rw [h]
/-- what a number counts as in the place of a literal -/
def cnt (x : Int) : Int := if x < 0 then 0 else x
theorem cnt_bd (x : Int) (h1 : x ≤ 9223372036854775807) : 0 ≤ cnt x ∧ cnt x ≤ 9223372036854775807 := by unfold cnt; split <;> omega
theorem cnt_pos (x : Int) (h : 0 ≤ x) : cnt x = x := if_neg (by omega)
theorem cnt_neg (x : Int) (h : x < 0) : cnt x = 0 := if_pos h

theorem counted_any (x : Int) (w : World) :
    Calls Try.prog 105 #[.int .i64 x] w fun e w' => e = .returned (.int .i64 (cnt x)) ∧ w = w' := by
  unfold cnt
  by_cases h : x < 0
  · go_enter Try.func105, Try.ntmps105
    go_wp2
    go_ret
    exact ⟨rfl, rfl⟩
  · go_enter Try.func105, Try.ntmps105
    go_wp2
    go_ret
    exact ⟨rfl, rfl⟩
theorem var_any (x : Int) (w : World) (h1 : x ≤ 9223372036854775807) :
    Calls Try.prog 59 #[.int .i64 x] w fun e w' => e = .returned (.int .i64 (cnt x / 2)) ∧ w = w' := by
  obtain ⟨b0, b1⟩ := cnt_bd x h1
  go_enter Try.func59, Try.ntmps59
  go_wp2_with (go_at_call 105; refine (counted_any _ _).mono ?_; rintro e w' ⟨rfl, rfl⟩)
  go_ret
  exact ⟨rfl, rfl⟩

theorem neg_any (x : Int) (w : World) (h1 : x ≤ 9223372036854775807) :
    Calls Try.prog 98 #[.int .i64 x] w fun e w' => e = .returned (.bool (decide (cnt x % 2 = 1))) ∧ w = w' := by
  obtain ⟨b0, b1⟩ := cnt_bd x h1
  go_enter Try.func98, Try.ntmps98
  go_wp2_with (go_at_call 105; refine (counted_any _ _).mono ?_; rintro e w' ⟨rfl, rfl⟩)
  go_ret
  exact ⟨ret_bool (by simp [Bool.beq_eq_decide_eq]), rfl⟩

/-- Make of a variable that a circuit may have -/
theorem make_any (v : Int) (w : World) (h0 : 0 ≤ v) (h1 : v ≤ 2048) :
    Calls Try.prog 117 #[.int .i64 v, .bool true] w fun e w' => e = .returned (.int .i64 (2 * v + 1)) ∧ w = w' := by
  have h : ¬ v < 0 := by omega
  have h' : ¬ 1099511627776 < v := by omega
  go_enter Try.func117, Try.ntmps117
  go_wp2
  go_ret
  exact ⟨rfl, rfl⟩

/-- the greatest literal of variables up to m -/
def great (m : Int) : Int := if m < 0 ∨ 2048 < m then -1 else 2 * m + 1
theorem great_any (m : Int) (w : World) :
    Calls Try.prog 145 #[.int .i64 m] w fun e w' => e = .returned (.int .i64 (great m)) ∧ w = w' := by
  unfold great
  rcases (show m < 0 ∨ (¬ m < 0 ∧ 2048 < m) ∨ (¬ m < 0 ∧ ¬ 2048 < m) from by omega) with h | ⟨h, h'⟩ | ⟨h, h'⟩
  · go_enter Try.func145, Try.ntmps145
    go_wp2
    go_ret
    exact ⟨ret_int (by simp), rfl⟩
  · go_enter Try.func145, Try.ntmps145
    go_wp2
    go_ret
    exact ⟨ret_int (by simp), rfl⟩
  · have M := Lib.hid (fun w => make_any m w (by omega) (by omega))
    go_enter Try.func145, Try.ntmps145
    go_wp2_with (go_at_call 117; refine (M.out _).mono ?_; rintro e w' ⟨rfl, rfl⟩)
    go_ret
    exact ⟨ret_int (by simp), rfl⟩

/-- what a closure answers on one element, whatever was made from block B on -/
def Says (k : FuncId) (cap : Array Value) (B : Nat) (W : World) (x : Value) (b : Bool) : Prop :=
  ∀ w, Below B W w → Calls Try.prog k (#[x] ++ cap) w fun e w' => e = .returned (.bool b) ∧ Below B W w'

theorem any_take {α : Type} (l : List α) (p : α → Bool) (k : Nat) (hk : k < l.length) : (l.take (k + 1)).any p = ((l.take k).any p || p l[k]) := by
  rw [List.take_succ_eq_append_getElem hk, List.any_append]; simp
theorem any_of {α : Type} (l : List α) (p : α → Bool) (k : Nat) (hk : k < l.length) (h : p l[k] = true) : l.any p = true :=
  List.any_eq_true.2 ⟨l[k], List.getElem_mem _, h⟩

def triV (t : Tri) : Value := .agg #[.int .i64 t.a, .int .i64 t.b, .int .i64 t.c]

set_option maxHeartbeats 400000 in
theorem index72_any (k : FuncId) (cap : Array Value) (l : List Int) (A : Option Addr) (c : Nat) (p : Int → Bool) (W : World) (hl : l.length ≤ 9223372036854775807)
    (hk : ∀ args w, (callFunc k args).run Try.prog w = .ok (.enter k args) w) (hr : LRow W W.heap.size 1 A (ints l))
    (hs : ∀ (i : Nat) (h : i < l.length), Says k cap W.heap.size W (.int .i64 l[i]) (p l[i])) :
    Calls Try.prog 111 #[.slice A l.length c, .func (.func k) #[] cap] W fun e w' => (∃ i : Int, e = .returned (.int .i64 i) ∧ -1 ≤ i ∧ i ≤ 9223372036854775807 ∧ decide (0 ≤ i) = l.any p) ∧ Below W.heap.size W w' := by
  go_enter Try.func111, Try.ntmps111
  go_wp2
  go_loopw [8] (fun i wr => ∃ j : Nat, j ≤ l.length ∧ i = .int .i64 j ∧ (l.take j).any p = false ∧ Below W.heap.size W wr) (fun i _ => l.length - (intOf i).toNat)
  case atStart => exact ⟨0, Nat.zero_le _, rfl, by simp, Below.refl _ _⟩
  case round =>
    obtain ⟨j, hj, rfl, hno, hb⟩ := hrel
    have HN := Lib.hid hno; clear hno
    by_cases hlt : j < l.length
    · obtain ⟨b, o, rfl, hbb, hc⟩ := (hr.below hb).int hlt
      have HX := Lib.hid (any_take l p j hlt)
      have HS := Lib.hid (any_of l p j hlt)
      have HE := Lib.hid (hs j hlt)
      clear hs hr
      generalize l[j] = x at *
      generalize hq : p x = q at *
      go_wp2_with fail
      refine (HE.out _ hb).mono ?_
      rintro e w' ⟨rfl, hb'⟩
      cases q
      · go_wp2
        go_roundw
        case rel => exact ⟨j + 1, by omega, by go_num, by rw [HX.out, HN.out]; rfl, hb'⟩
        case measure => simp [intOf]; omega
      · go_wp2
        go_ret
        exact ⟨⟨j, rfl, by omega, by omega, by rw [HS.out (by trivial)]; simp⟩, hb'⟩
    · obtain rfl : j = l.length := by omega
      rw [List.take_of_length_le (Nat.le_refl _)] at HN
      go_wp2
      go_ret
      exact ⟨⟨-1, rfl, by decide, by decide, by rw [HN.out]; rfl⟩, hb⟩

theorem contains52_any (k : FuncId) (cap : Array Value) (l : List Int) (A : Option Addr) (c : Nat) (p : Int → Bool) (W : World) (hl : l.length ≤ 9223372036854775807)
    (hk : ∀ args w, (callFunc k args).run Try.prog w = .ok (.enter k args) w) (hr : LRow W W.heap.size 1 A (ints l))
    (hs : ∀ (i : Nat) (h : i < l.length), Says k cap W.heap.size W (.int .i64 l[i]) (p l[i])) :
    Calls Try.prog 68 #[.slice A l.length c, .func (.func k) #[] cap] W fun e w' => e = .returned (.bool (l.any p)) ∧ Below W.heap.size W w' := by
  have I := Lib.hid (index72_any k cap l A c p W hl hk hr hs)
  clear hs hr
  go_enter Try.func68, Try.ntmps68
  go_wp2_with fail
  refine I.out.mono ?_
  rintro e w' ⟨⟨i, rfl, i0, i1, hi⟩, hb⟩
  have HI := Lib.hid hi; clear hi
  go_wp2
  go_ret
  exact ⟨ret_bool (by rw [← HI.out]), hb⟩
/-- a number that is no literal of a variable up to m -/
def outside (m x : Int) : Bool := decide (x < 0) || decide (great m < x)
theorem check1_any (x m : Int) (g : Nat) (w : World) (hc : w.cell? ⟨g, 0, none⟩ = some (.int .i64 m)) :
    Calls Try.prog 146 #[.int .i64 x, .pointer (some ⟨g, 0, none⟩)] w fun e w' => e = .returned (.bool (decide (x < 0) || decide (m < x))) ∧ w = w' := by
  by_cases h : x < 0
  · go_enter Try.func146, Try.ntmps146
    go_wp2
    go_ret
    exact ⟨ret_bool (by simp; try omega), rfl⟩
  · go_enter Try.func146, Try.ntmps146
    go_wp2
    go_ret
    exact ⟨ret_bool (by simp; try omega), rfl⟩

theorem lcheck_any (m : Int) (l : List Int) (A : Option Addr) (c : Nat) (w : World) (hl : l.length ≤ 9223372036854775807) (hr : LRow w w.heap.size 1 A (ints l)) :
    Calls Try.prog 126 #[.int .i64 m, .slice A l.length c] w fun e w' => e = .returned (.int .i64 (if l.any (outside m) = true then 4 else 0)) ∧ Below w.heap.size w w' := by
  have hmf : ∀ (fn : Fn) (first cap : Array Value) (w : World), (Instr.makeFunc fn first cap).run Try.prog w = .ok (.func fn first cap) w := fun _ _ _ _ => rfl
  have hb0 : Below w.heap.size w (w.alloc (.cells #[.int .i64 (great m)] 3)) := (Below.refl _ _).alloc (Nat.le_refl _) _
  have hsz : (w.alloc (.cells #[.int .i64 (great m)] 3)).heap.size = w.heap.size + 1 := by simp
  have C := contains52_any 146 #[.pointer (some ⟨w.heap.size, 0, none⟩)] l A c (outside m) (w.alloc (.cells #[.int .i64 (great m)] 3)) hl (enters_of Try.func146 (by kernel_rfl) rfl)
    ((hr.below hb0).more (by rw [hsz]; omega)) (fun i h w' hb => (check1_any l[i] (great m) w.heap.size w' (by rw [hb.cell (by rw [hsz]; exact Nat.lt_succ_self _)]; simp)).mono (by rintro e w'' ⟨rfl, rfl⟩; exact ⟨rfl, hb⟩))
  have HC := Lib.hid C
  generalize l.any (outside m) = q at *
  clear C hr
  go_enter Try.func126, Try.ntmps126
  go_wp2_with (go_at_call 145; refine (great_any _ _).mono ?_; rintro e w' ⟨rfl, rfl⟩)
  refine HC.out.mono ?_
  rintro e w' ⟨rfl, hb⟩
  have hbel := hb0.trans (hb.mono (by rw [hsz]; omega))
  cases q
  all_goals
    go_wp2
    go_ret
    exact ⟨rfl, hbel⟩
end Go.Proofs.Ytbgcoeejmnejdaa.Cw
namespace Go.Proofs.Ytbgcoeejmnejdaa.Cw
open Circ

/-- the first gate of a variable -/
def andOf (ands : List Tri) (v : Int) : Option Tri := ands.find? fun t => decide (cnt t.a / 2 = v)
theorem andOf_mem {ands : List Tri} {v : Int} {t : Tri} (h : andOf ands v = some t) : t ∈ ands := List.mem_of_find?_eq_some h
theorem andOf_snoc (ands : List Tri) (k : Nat) (hk : k < ands.length) (v : Int) :
    andOf (ands.take (k + 1)) v = (andOf (ands.take k) v).or (if cnt ands[k].a / 2 = v then some ands[k] else none) := by
  unfold andOf
  rw [List.take_succ_eq_append_getElem hk, List.find?_append]
  congr 1
  by_cases e : cnt ands[k].a / 2 = v
  · simp [e]
  · simp [e]

/-- the variables that the literals hang on -/
inductive Hangs (ands : List Tri) (l : List Int) : Int → Prop
  | start (x : Int) : x ∈ l → cnt x / 2 ≠ 0 → Hangs ands l (cnt x / 2)
  | left (v : Int) (t : Tri) : Hangs ands l v → andOf ands v = some t → cnt t.b / 2 ≠ 0 → Hangs ands l (cnt t.b / 2)
  | right (v : Int) (t : Tri) : Hangs ands l v → andOf ands v = some t → cnt t.c / 2 ≠ 0 → Hangs ands l (cnt t.c / 2)

/-- one more variable, if it is not there -/
def put (T : List Int) (x : Int) : List Int := if T.contains (cnt x / 2) || decide (cnt x / 2 = 0) then T else T ++ [cnt x / 2]
theorem mem_put (T : List Int) (x v : Int) : v ∈ put T x ↔ v ∈ T ∨ (v = cnt x / 2 ∧ v ≠ 0) := by
  unfold put
  split
  · rename_i h
    simp only [Bool.or_eq_true, List.contains_iff_mem, decide_eq_true_eq] at h
    constructor
    · exact .inl
    · rintro (h1 | ⟨rfl, h2⟩)
      · exact h1
      · rcases h with h | h
        · exact h
        · exact absurd h h2
  · rename_i h
    simp only [Bool.or_eq_true, List.contains_iff_mem, decide_eq_true_eq, not_or] at h
    simp only [List.mem_append, List.mem_singleton]
    constructor
    · rintro (h1 | rfl)
      · exact .inl h1
      · exact .inr ⟨rfl, h.2⟩
    · rintro (h1 | ⟨rfl, _⟩)
      · exact .inl h1
      · exact .inr rfl
theorem put_nodup (T : List Int) (x : Int) (h : T.Nodup) : (put T x).Nodup := by
  unfold put
  split
  · exact h
  · rename_i h2
    simp only [Bool.or_eq_true, List.contains_iff_mem, decide_eq_true_eq, not_or] at h2
    rw [List.nodup_append]
    refine ⟨h, by simp, ?_⟩
    intro a ha b hb
    simp at hb
    subst hb
    rintro rfl
    exact h2.1 ha
theorem put_get (T : List Int) (x : Int) (k : Nat) (hk : k < T.length) : ∃ h : k < (put T x).length, (put T x)[k] = T[k] := by
  unfold put
  split
  · exact ⟨hk, rfl⟩
  · exact ⟨by simp; omega, by rw [List.getElem_append_left hk]⟩
theorem put_len (T : List Int) (x : Int) : T.length ≤ (put T x).length := by
  unfold put; split
  · exact Nat.le_refl _
  · simp

theorem nodup_len : ∀ (a b : List Int), a.Nodup → (∀ x ∈ a, x ∈ b) → a.length ≤ b.length
  | [], _, _, _ => Nat.zero_le _
  | x :: a, b, h, hs => by
    rw [List.nodup_cons] at h
    have hx : x ∈ b := hs x (List.mem_cons_self)
    have := nodup_len a (b.erase x) h.2 (fun y hy => by
      have hne : y ≠ x := by rintro rfl; exact h.1 hy
      exact (List.mem_erase_of_ne hne).2 (hs y (List.mem_cons_of_mem _ hy)))
    rw [List.length_erase_of_mem hx] at this
    have hp : 0 < b.length := List.length_pos_of_mem hx
    simp only [List.length_cons]
    omega

def pool (ands : List Tri) (l : List Int) : List Int := l.map (fun x => cnt x / 2) ++ (ands.map (fun t => cnt t.b / 2) ++ ands.map (fun t => cnt t.c / 2))
theorem pool_len (ands : List Tri) (l : List Int) : (pool ands l).length = l.length + 2 * ands.length := by simp [pool]; omega
theorem hangs_pool {ands : List Tri} {l : List Int} {v : Int} (h : Hangs ands l v) : v ∈ pool ands l := by
  unfold pool
  cases h with
  | start x hx _ => exact List.mem_append_left _ (List.mem_map.2 ⟨x, hx, rfl⟩)
  | left u t _ ht _ => exact List.mem_append_right _ (List.mem_append_left _ (List.mem_map.2 ⟨t, andOf_mem ht, rfl⟩))
  | right u t _ ht _ => exact List.mem_append_right _ (List.mem_append_right _ (List.mem_map.2 ⟨t, andOf_mem ht, rfl⟩))
theorem hangs_len {ands : List Tri} {l T : List Int} (hn : T.Nodup) (h : ∀ v ∈ T, Hangs ands l v) : T.length ≤ l.length + 2 * ands.length := by
  rw [← pool_len ands l]
  exact nodup_len _ _ hn fun x hx => hangs_pool (h x hx)
end Go.Proofs.Ytbgcoeejmnejdaa.Cw
namespace Go.Proofs.Ytbgcoeejmnejdaa.Cw
open Go.ChangeShapes Go.WideShapes Go.ChangeAt Go.RowKit Circ

def fault : List PanicEntry := [{ v := .iface 108 (.agg #[.int .i64 9]), recovered := false }]
def told (b : Bool) : Ending := if b then .returned (.tuple #[]) else .panicked fault

theorem need_any (b : Bool) (w : World) : Calls Try.prog 123 #[.bool b] w fun e w' => e = told b ∧ w = w' := by
  cases b
  · go_enter Try.func123, Try.ntmps123
    go_wp2
    exact ⟨rfl, rfl, rfl⟩
  · go_enter Try.func123, Try.ntmps123
    go_wp2
    go_end0
    exact ⟨rfl, rfl⟩
theorem need_yes (w : World) : Calls Try.prog 123 #[.bool true] w fun e w' => e = .returned (.tuple #[]) ∧ w = w' := need_any true w
theorem need_no (w : World) : Calls Try.prog 123 #[.bool false] w fun e w' => e = .panicked fault ∧ w = w' := need_any false w

def lens (c : Cir) : List Int := [c.ins.length, c.lats.length, c.outs.length, c.bads.length, c.invs.length]
def sizesOk (c : Cir) : Bool := decide (0 ≤ c.max) && decide (c.max ≤ 2048) && (lens c).all fun n => decide (n ≤ 64)

theorem all_take {α : Type} (l : List α) (p : α → Bool) (k : Nat) (hk : k < l.length) : (l.take (k + 1)).all p = ((l.take k).all p && p l[k]) := by
  rw [List.take_succ_eq_append_getElem hk, List.all_append]; simp
theorem all_not {α : Type} (l : List α) (p : α → Bool) (k : Nat) (hk : k < l.length) (h : p l[k] = false) : l.all p = false := by
  rw [List.all_eq_false]; exact ⟨l[k], List.getElem_mem _, by simp [h]⟩

theorem new_cell (w : World) (cs : Array Value) (t : TypeId) (k : Nat) : (w.alloc (.cells cs t)).cell? ⟨w.heap.size, k, none⟩ = cs[k]? := by simp

set_option maxHeartbeats 1000000 in
theorem sizes_any (c : Cir) (s : Places) (w : World) :
    Calls Try.prog 86 #[cirV c s] w fun e w' => e = told (sizesOk c) ∧ Below w.heap.size w w' := by
  have hb1 : Below w.heap.size w (w.alloc (.cells (cirC c s) 27)) := (Below.refl _ _).alloc (Nat.le_refl _) _
  have hb2 : Below w.heap.size w ((w.alloc (.cells (cirC c s) 27)).alloc (.cells #[.int .i64 c.ins.length, .int .i64 c.lats.length, .int .i64 c.outs.length, .int .i64 c.bads.length, .int .i64 c.invs.length] 3)) := hb1.alloc hb1.size _
  have hcell : ∀ (k : Nat) (hk : k < (lens c).length), ((w.alloc (.cells (cirC c s) 27)).alloc (.cells #[.int .i64 c.ins.length, .int .i64 c.lats.length, .int .i64 c.outs.length, .int .i64 c.bads.length, .int .i64 c.invs.length] 3)).cell? ⟨w.heap.size + 1, k, none⟩ = some (.int .i64 (lens c)[k]) := by
    intro k hk
    have := new_cell (w.alloc (.cells (cirC c s) 27)) #[.int .i64 c.ins.length, .int .i64 c.lats.length, .int .i64 c.outs.length, .int .i64 c.bads.length, .int .i64 c.invs.length] 3 k
    rw [show (w.alloc (.cells (cirC c s) 27)).heap.size = w.heap.size + 1 by simp] at this
    rw [this]
    match k, hk with
    | 0, _ => rfl
    | 1, _ => rfl
    | 2, _ => rfl
    | 3, _ => rfl
    | 4, _ => rfl
  have HC := Lib.hid hcell; clear hcell
  unfold cirV cirC at *
  by_cases h0 : 0 ≤ c.max
  case neg =>
    have hq : sizesOk c = false := by unfold sizesOk; simp [h0]
    have hq' : decide (0 ≤ c.max) = false := by simpa using h0
    have HQ := Lib.hid hq; clear hq
    go_enter Try.func86, Try.ntmps86
    go_wp2_with (go_at_call 123; refine (need_no _).mono ?_; rintro e w' ⟨rfl, rfl⟩)
    exact ⟨rfl, by rw [HQ.out]; rfl, hb1⟩
  case pos =>
  by_cases h1 : c.max ≤ 2048
  case neg =>
    have hq : sizesOk c = false := by unfold sizesOk; simp [h1]
    have hq' : decide (c.max ≤ 2048) = false := by simpa using h1
    have HQ := Lib.hid hq; clear hq
    go_enter Try.func86, Try.ntmps86
    go_wp2_with (go_at_call 123; refine (need_no _).mono ?_; rintro e w' ⟨rfl, rfl⟩)
    exact ⟨rfl, by rw [HQ.out]; rfl, hb1⟩
  case pos =>
  have hs : sizesOk c = (lens c).all fun n => decide (n ≤ 64) := by unfold sizesOk; simp [h0, h1]
  have HQ := Lib.hid hs; clear hs
  go_enter Try.func86, Try.ntmps86
  go_wp2_with (go_at_call 123; refine (need_yes _).mono ?_; rintro e w' ⟨rfl, rfl⟩)
  go_loop [30] (fun i => ∃ k : Nat, k ≤ 5 ∧ i = .int .i64 k ∧ ((lens c).take k).all (fun n => decide (n ≤ 64)) = true) (fun i => 5 - (intOf i).toNat)
  case atStart => exact ⟨0, Nat.zero_le _, rfl, rfl⟩
  case round =>
    obtain ⟨k, hk, rfl, hno⟩ := hrel
    have HN := Lib.hid hno; clear hno
    by_cases hlt : k < 5
    · have hk5 : k < (lens c).length := hlt
      have hc := HC.out k hk5
      have HX := Lib.hid (all_take (lens c) (fun n => decide (n ≤ 64)) k hk5)
      have HS := Lib.hid (all_not (lens c) (fun n => decide (n ≤ 64)) k hk5)
      generalize (lens c)[k] = x at *
      by_cases hx : x ≤ 64
      · go_wp2_with (go_at_call 123; refine (need_yes _).mono ?_; rintro e w' ⟨rfl, rfl⟩)
        go_round
        case rel => exact ⟨k + 1, by omega, by go_num, by rw [HX.out, HN.out]; simpa using hx⟩
        case measure => simp [intOf]; omega
      · have hx' : decide (x ≤ 64) = false := by simpa using hx
        go_wp2_with (go_at_call 123; refine (need_no _).mono ?_; rintro e w' ⟨rfl, rfl⟩)
        exact ⟨rfl, by rw [HQ.out, HS.out (by simpa using hx)]; rfl, hb2⟩
    · obtain rfl : k = 5 := by omega
      rw [List.take_of_length_le (Nat.le_refl 5)] at HN
      go_wp2
      go_end0
      exact ⟨by rw [HQ.out, HN.out]; rfl, hb2⟩
end Go.Proofs.Ytbgcoeejmnejdaa.Cw
namespace Go.Proofs.Ytbgcoeejmnejdaa.Cw
open Go.ChangeShapes Go.WideShapes Go.ChangeAt Go.RowKit Circ

def kinds : List ByteArray := [⟨#[105]⟩, ⟨#[108]⟩, ⟨#[111]⟩, ⟨#[98]⟩, ⟨#[99]⟩]
def kindCells : Array Value := #[.string ⟨#[105]⟩, .string ⟨#[108]⟩, .string ⟨#[111]⟩, .string ⟨#[98]⟩, .string ⟨#[99]⟩]
/-- where names of a kind stand among those of others; -1: nowhere -/
def rankV (t : ByteArray) : Int := match kinds.findIdx? fun x => x.toList == t.toList with
  | some k => k
  | none => -1

theorem find_hit {α : Type} (l : List α) (p : α → Bool) (k : Nat) (hk : k < l.length) (h0 : (l.take k).any p = false) (h1 : p l[k] = true) : l.findIdx? p = some k := by
  rw [List.findIdx?_eq_some_iff_getElem]
  refine ⟨hk, h1, fun j hj => ?_⟩
  rw [List.any_eq_false] at h0
  have := h0 l[j] (List.mem_take_iff_getElem.2 ⟨j, by omega, rfl⟩)
  simpa using this
theorem find_none {α : Type} (l : List α) (p : α → Bool) (h0 : l.any p = false) : l.findIdx? p = none := by
  rw [List.findIdx?_eq_none_iff]
  rw [List.any_eq_false] at h0
  intro x hx; simpa using h0 x hx
theorem rank_hit (t : ByteArray) (k : Nat) (hk : k < 5) (h0 : (kinds.take k).any (fun x => x.toList == t.toList) = false) (h1 : (kinds[k]'hk).toList == t.toList) : rankV t = k := by
  unfold rankV; rw [find_hit kinds _ k hk h0 h1]
theorem rank_none (t : ByteArray) (h0 : kinds.any (fun x => x.toList == t.toList) = false) : rankV t = -1 := by
  unfold rankV; rw [find_none kinds _ h0]

theorem kind_cell (w : World) (k : Nat) (hk : k < 5) : (w.alloc (.cells kindCells 9)).cell? ⟨w.heap.size, k, none⟩ = some (.string (kinds[k]'hk)) := by
  rw [new_cell]
  match k, hk with
  | 0, _ => rfl
  | 1, _ => rfl
  | 2, _ => rfl
  | 3, _ => rfl
  | 4, _ => rfl

theorem beq_swap (a b : List UInt8) : (a == b) = (b == a) := by rw [Bool.eq_iff_iff]; simp; exact ⟨Eq.symm, Eq.symm⟩

set_option maxHeartbeats 400000 in
theorem rank_any (t : ByteArray) (w : World) :
    Calls Try.prog 103 #[.string t] w fun e w' => e = .returned (.int .i64 (rankV t)) ∧ Below w.heap.size w w' := by
  have hb1 : Below w.heap.size w (w.alloc (.cells kindCells 9)) := (Below.refl _ _).alloc (Nat.le_refl _) _
  have HC := Lib.hid (kind_cell w)
  unfold kindCells at *
  go_enter Try.func103, Try.ntmps103
  go_wp2
  go_loop [4] (fun i => ∃ k : Nat, k ≤ 5 ∧ i = .int .i64 k ∧ (kinds.take k).any (fun x => x.toList == t.toList) = false) (fun i => 5 - (intOf i).toNat)
  case atStart => exact ⟨0, Nat.zero_le _, rfl, rfl⟩
  case round =>
    obtain ⟨k, hk, rfl, hno⟩ := hrel
    have HN := Lib.hid hno; clear hno
    by_cases hlt : k < 5
    · have hc := HC.out k hlt
      have HX := Lib.hid (any_take kinds (fun x => x.toList == t.toList) k hlt)
      have HS := Lib.hid (rank_hit t k hlt HN.out)
      generalize kinds[k]'hlt = x at *
      cases hq : x.toList == t.toList
      · go_wp2
        go_round
        case rel => exact ⟨k + 1, by omega, by go_num, by rw [HX.out, HN.out, hq]; rfl⟩
        case measure => simp [intOf]; omega
      · go_wp2
        go_ret
        exact ⟨ret_int (HS.out (by first | trivial | exact hq)).symm, hb1⟩
    · obtain rfl : k = 5 := by omega
      go_wp2
      go_ret
      exact ⟨ret_int (rank_none t HN.out).symm, hb1⟩

set_option maxHeartbeats 400000 in
theorem index91_any (t : ByteArray) (w0 w : World) (hw : w = w0.alloc (.cells kindCells 9)) :
    Calls Try.prog 147 #[.slice (some ⟨w0.heap.size, 0, none⟩) 5 5, .string t] w fun e w' => e = .returned (.int .i64 (rankV t)) ∧ w = w' := by
  have HC := Lib.hid (kind_cell w0)
  rw [← hw] at HC
  clear hw
  go_enter Try.func147, Try.ntmps147
  go_wp2
  go_loop [8] (fun i => ∃ k : Nat, k ≤ 5 ∧ i = .int .i64 k ∧ (kinds.take k).any (fun x => x.toList == t.toList) = false) (fun i => 5 - (intOf i).toNat)
  case atStart => exact ⟨0, Nat.zero_le _, rfl, rfl⟩
  case round =>
    obtain ⟨k, hk, rfl, hno⟩ := hrel
    have HN := Lib.hid hno; clear hno
    by_cases hlt : k < 5
    · have hc := HC.out k hlt
      have HX := Lib.hid (any_take kinds (fun x => x.toList == t.toList) k hlt)
      have HS := Lib.hid (rank_hit t k hlt HN.out)
      generalize kinds[k]'hlt = x at *
      cases hq : t.toList == x.toList
      · go_wp2
        go_round
        case rel => exact ⟨k + 1, by omega, by go_num, by rw [HX.out, HN.out, beq_swap, hq]; rfl⟩
        case measure => simp [intOf]; omega
      · go_wp2
        go_ret
        exact ⟨ret_int (HS.out (by rw [beq_swap]; exact hq)).symm, rfl⟩
    · obtain rfl : k = 5 := by omega
      go_wp2
      go_ret
      exact ⟨ret_int (rank_none t HN.out).symm, rfl⟩

theorem rankof_any (t : ByteArray) (w : World) :
    Calls Try.prog 127 #[.string t] w fun e w' => e = .returned (.int .i64 (rankV t)) ∧ Below w.heap.size w w' := by
  have hb1 : Below w.heap.size w (w.alloc (.cells kindCells 9)) := (Below.refl _ _).alloc (Nat.le_refl _) _
  have I := Lib.hid (index91_any t w _ rfl)
  unfold kindCells at *
  go_enter Try.func127, Try.ntmps127
  go_wp2_with fail
  refine I.out.mono ?_
  rintro e w' ⟨rfl, rfl⟩
  go_wp2
  go_ret
  exact ⟨rfl, hb1⟩

/-- how many of a kind there are; -1: there is no such kind -/
def countV (c : Cir) (t : ByteArray) : Int :=
  if (t.toList == [105]) = true then c.ins.length else if (t.toList == [108]) = true then c.lats.length else if (t.toList == [111]) = true then c.outs.length
  else if (t.toList == [98]) = true then c.bads.length else if (t.toList == [99]) = true then c.invs.length else -1

set_option maxHeartbeats 400000 in
theorem count_any (c : Cir) (s : Places) (t : ByteArray) (w : World): 
    Calls Try.prog 102 #[cirV c s, .string t] w fun e w' => e = .returned (.int .i64 (countV c t)) ∧ Below w.heap.size w w' := by
  have hb1 : Below w.heap.size w (w.alloc (.cells (cirC c s) 27)) := (Below.refl _ _).alloc (Nat.le_refl _) _
  unfold cirV cirC countV at *
  go_enter Try.func102, Try.ntmps102
  go_wp2
  all_goals
    go_ret
    exact ⟨ret_int (by simp [*]), hb1⟩

/-- the literals of a kind's pins; a kind that is no other's is the invars' -/
def kindLits (c : Cir) (t : ByteArray) : List Int :=
  if (t.toList == [105]) = true then c.ins else if (t.toList == [108]) = true then c.lats.map Tri.a else if (t.toList == [111]) = true then c.outs
  else if (t.toList == [98]) = true then c.bads else c.invs
theorem lit76_any (l : List Int) (A : Option Addr) (c g k : Nat) (w : World) (hc : w.cell? ⟨g, 0, none⟩ = some (.slice A l.length c)) (_hl : l.length ≤ 9223372036854775807) (hr : LRow w w.heap.size 1 A (ints l)) (hk : k < l.length) :
    Calls Try.prog 149 #[.int .i64 k, .pointer (some ⟨g, 0, none⟩)] w fun e w' => e = .returned (.int .i64 l[k]) ∧ w = w' := by
  obtain ⟨b, o, rfl, hbb, hx⟩ := hr.int hk
  generalize l[k] = x at *
  go_enter Try.func149, Try.ntmps149
  go_wp2
  go_ret
  exact ⟨rfl, rfl⟩
theorem lit77_any (l : List Tri) (A : Option Addr) (c g k : Nat) (w : World) (hc : w.cell? ⟨g, 2, none⟩ = some (.slice A l.length c)) (_hl : l.length ≤ 9223372036854775807) (hr : LRow w w.heap.size 3 A (tris l)) (hk : k < l.length) :
    Calls Try.prog 150 #[.int .i64 k, .pointer (some ⟨g, 0, none⟩)] w fun e w' => e = .returned (.int .i64 l[k].a) ∧ w = w' := by
  obtain ⟨b, o, rfl, hbb, hx, -, -⟩ := hr.tri hk
  generalize l[k].a = x at *
  go_enter Try.func150, Try.ntmps150
  go_wp2
  go_ret
  exact ⟨rfl, rfl⟩

/-- what pins tells: how many there are, and a function that gives the literal of each -/
def Pinned (c : Cir) (t : ByteArray) (W : World) (e : Ending) (w' : World) : Prop :=
  ∃ k cap, e = .returned (.tuple #[.int .i64 (kindLits c t).length, .func (.func k) #[] cap]) ∧ Below W.heap.size W w' ∧ Enters Try.prog k ∧
    ∀ (i : Nat) (h : i < (kindLits c t).length) (w2 : World), Below w'.heap.size w' w2 → Calls Try.prog k (#[.int .i64 i] ++ cap) w2 fun e w3 => e = .returned (.int .i64 (kindLits c t)[i]) ∧ w2 = w3

theorem enters76 : Enters Try.prog 149 := enters_of Try.func149 (by kernel_rfl) rfl
theorem enters77 : Enters Try.prog 150 := enters_of Try.func150 (by kernel_rfl) rfl

theorem pinned_list (c : Cir) (s : Places) (t : ByteArray) (w : World) (l : List Int) (A : Option Addr) (q : Nat) (hl : kindLits c t = l) (hle : l.length * 8 ≤ 140737488355328) (hr : LRow w w.heap.size 1 A (ints l)) :
    Pinned c t w (.returned (.tuple #[.int .i64 l.length, .func (.func 149) #[] #[.pointer (some ⟨w.heap.size + 1, 0, none⟩)]])) ((w.alloc (.cells (cirC c s) 27)).alloc (.cells #[.slice A l.length q] 22)) := by
  have hb1 : Below w.heap.size w (w.alloc (.cells (cirC c s) 27)) := (Below.refl _ _).alloc (Nat.le_refl _) _
  have hb2 := hb1.alloc hb1.size (.cells #[.slice A l.length q] 22)
  subst hl
  refine ⟨149, _, rfl, hb2, enters76, fun i h w2 hb => ?_⟩
  have hs : ((w.alloc (.cells (cirC c s) 27)).alloc (.cells #[.slice A (kindLits c t).length q] 22)).heap.size = w.heap.size + 2 := by simp
  refine lit76_any _ A q _ i w2 ?_ (by omega) ((hr.below (hb2.trans (hb.mono (by rw [hs]; omega)))).more (by have := hb.size; rw [hs] at this; omega)) h
  rw [hb.cell (by rw [hs]; exact Nat.lt_succ_self _)]
  have := new_cell (w.alloc (.cells (cirC c s) 27)) #[.slice A (kindLits c t).length q] 22 0
  rw [show (w.alloc (.cells (cirC c s) 27)).heap.size = w.heap.size + 1 by simp] at this
  exact this

theorem pinned_lats (c : Cir) (s : Places) (t : ByteArray) (w : World) (hl : kindLits c t = c.lats.map Tri.a) (hle : c.lats.length * 24 ≤ 140737488355328) (hr : LRow w w.heap.size 3 s.al (tris c.lats)) :
    Pinned c t w (.returned (.tuple #[.int .i64 c.lats.length, .func (.func 150) #[] #[.pointer (some ⟨w.heap.size, 0, none⟩)]])) (w.alloc (.cells (cirC c s) 27)) := by
  have hb1 : Below w.heap.size w (w.alloc (.cells (cirC c s) 27)) := (Below.refl _ _).alloc (Nat.le_refl _) _
  refine ⟨150, _, by rw [hl, List.length_map], hb1, enters77, fun i h w2 hb => ?_⟩
  have hs : (w.alloc (.cells (cirC c s) 27)).heap.size = w.heap.size + 1 := by simp
  have h' : i < c.lats.length := by rw [hl, List.length_map] at h; exact h
  refine (lit77_any c.lats s.al s.kl w.heap.size i w2 ?_ (by omega) ((hr.below (hb1.trans (hb.mono (by rw [hs]; omega)))).more (by have := hb.size; rw [hs] at this; omega)) h').mono ?_
  · rw [hb.cell (by rw [hs]; exact Nat.lt_succ_self _), new_cell]
    rfl
  · rintro e w3 ⟨rfl, rfl⟩
    refine ⟨ret_int ?_, rfl⟩
    simp [hl]

set_option maxHeartbeats 1000000 in
theorem pins_any (c : Cir) (s : Places) (t : ByteArray) (w : World) (h : CLies w w.heap.size c s) (hf : CFits c s) :
    Calls Try.prog 128 #[cirV c s, .string t] w (Pinned c t w) := by
  have hmf : ∀ (fn : Fn) (first cap : Array Value) (w : World), (Instr.makeFunc fn first cap).run Try.prog w = .ok (.func fn first cap) w := fun _ _ _ _ => rfl
  have P1 := Lib.hid (fun hl => pinned_list c s t w c.ins s.ai s.ki hl hf.li h.ins)
  have P2 := Lib.hid (fun hl => pinned_lats c s t w hl hf.ll h.lats)
  have P3 := Lib.hid (fun hl => pinned_list c s t w c.outs s.ao s.ko hl hf.lo h.outs)
  have P4 := Lib.hid (fun hl => pinned_list c s t w c.bads s.ab s.kb hl hf.lb h.bads)
  have P5 := Lib.hid (fun hl => pinned_list c s t w c.invs s.ac s.kc hl hf.lc h.invs)
  clear h hf
  unfold cirV cirC at *
  go_enter Try.func128, Try.ntmps128
  go_wp2
  all_goals go_ret2
  · exact P1.out (by unfold kindLits; simp [*])
  · exact P2.out (by unfold kindLits; simp [*])
  · exact P3.out (by unfold kindLits; simp [*])
  · exact P4.out (by unfold kindLits; simp [*])
  · exact P5.out (by unfold kindLits; simp [*])
end Go.Proofs.Ytbgcoeejmnejdaa.Cw
namespace Go.Proofs.Ytbgcoeejmnejdaa.Str
open Circ Cw

/- what is hashed -/
def opp (x : Int) : Int := if x % 2 = 0 then x + 1 else x - 1
def plainM (a b : Int) : Option Int :=
  if cnt a = 0 ∨ cnt b = 0 ∨ cnt a = opp (cnt b) then some 0
  else if cnt a = 1 ∨ cnt a = cnt b then some (cnt b)
  else if cnt b = 1 then some (cnt a) else none
def ofM (F : Int → Option Int) (l : Int) : Int := match F (cnt l / 2) with
  | none => l
  | some s => if cnt l % 2 = 1 then opp (cnt s) else s
def pairM (b c : Int) : Int × Int := (min b c, max b c)
structure Hs where
  F : Int → Option Int
  G : Int × Int → Option Int
  st : List Tri
def goneM (h : Hs) (b c : Int) : Option Int := (plainM b c).or (h.G (pairM b c))
def stepM (h : Hs) (t : Tri) : Hs := match goneM h (ofM h.F t.b) (ofM h.F t.c) with
  | some s => ⟨fun v => if v = cnt t.a / 2 then some s else h.F v, h.G, h.st⟩
  | none => ⟨h.F, fun p => if p = pairM (ofM h.F t.b) (ofM h.F t.c) then some t.a else h.G p, h.st ++ [⟨t.a, ofM h.F t.b, ofM h.F t.c⟩]⟩
def hs0 : Hs := ⟨fun _ => none, fun _ => none, []⟩
def runM (l : List Tri) : Hs := l.foldl stepM hs0
/- ands in order, of what is known ahead of them -/
def Seen (B : Int → Prop) (l : List Tri) (v : Int) : Prop := B v ∨ ∃ u ∈ l, u.a = 2 * v
theorem Seen.more {B : Int → Prop} {l : List Tri} {v : Int} (h : Seen B l v) (m : List Tri) : Seen B (l ++ m) v := by
  rcases h with h | ⟨u, hu, e⟩
  · exact .inl h
  · exact .inr ⟨u, List.mem_append_left _ hu, e⟩
inductive Good (B : Int → Prop) : List Tri → Prop
  | nil : Good B []
  | snoc (l : List Tri) (t : Tri) : Good B l → 2 ≤ t.a → t.a % 2 = 0 → (∀ u ∈ l, u.a < t.a) → 0 ≤ t.b → t.b < t.a → 0 ≤ t.c → t.c < t.a → Seen B l (t.b / 2) → Seen B l (t.c / 2) → ¬ B (t.a / 2) → Good B (l ++ [t])
theorem Good.mem {B : Int → Prop} : ∀ {l : List Tri}, Good B l → ∀ t ∈ l, 2 ≤ t.a ∧ t.a % 2 = 0 ∧ 0 ≤ t.b ∧ t.b < t.a ∧ 0 ≤ t.c ∧ t.c < t.a ∧ Seen B l (t.b / 2) ∧ Seen B l (t.c / 2) ∧ ¬ B (t.a / 2) := by
  intro l h
  induction h with
  | nil => simp
  | snoc l t _ h2 h3 _ h5 h6 h7 h8 h9 h10 h11 ih =>
    intro u hu
    rcases List.mem_append.1 hu with hu | hu
    · obtain ⟨a, b, c, d, e, f, g, i, j⟩ := ih u hu
      exact ⟨a, b, c, d, e, f, g.more _, i.more _, j⟩
    · rw [List.mem_singleton.1 hu]
      exact ⟨h2, h3, h5, h6, h7, h8, h9.more _, h10.more _, h11⟩

/- what hashing keeps -/
structure Inv (B : Int → Prop) (l : List Tri) (h : Hs) : Prop where
  sub : (h.st.map Tri.a).Sublist (l.map Tri.a)
  dom : ∀ v s, h.F v = some s → 0 ≤ s ∧ s < 2 * v ∧ (∃ t ∈ l, t.a = 2 * v) ∧ Seen B h.st (s / 2)
  seen : ∀ t ∈ l, (h.F (t.a / 2)).isSome ∨ ∃ u ∈ h.st, u.a = t.a
  good : Good B h.st
  plain : ∀ t ∈ h.st, plainM t.b t.c = none
  pairs : ∀ p x, h.G p = some x → ∃ t ∈ h.st, t.a = x ∧ p = pairM t.b t.c
  found : ∀ t ∈ h.st, (h.G (pairM t.b t.c)).isSome
  dist : h.st.Pairwise fun s t => pairM s.b s.c ≠ pairM t.b t.c
/- values -/
def bitM (V : Int → Bool) (l : Int) : Bool := V (l / 2) != decide (l % 2 = 1)
def setM (V : Int → Bool) (v : Int) (b : Bool) : Int → Bool := fun x => if x = v then b else V x
def evalM (V : Int → Bool) (l : List Tri) : Int → Bool := l.foldl (fun V t => setM V (t.a / 2) (bitM V t.b && bitM V t.c)) V
theorem eval_snoc (V : Int → Bool) (l : List Tri) (t : Tri) : evalM V (l ++ [t]) = setM (evalM V l) (t.a / 2) (bitM (evalM V l) t.b && bitM (evalM V l) t.c) := by unfold evalM; rw [List.foldl_append]; rfl
theorem bit_set_other {V : Int → Bool} {v x : Int} {b : Bool} (h : x / 2 ≠ v) : bitM (setM V v b) x = bitM V x := by unfold bitM setM; rw [if_neg h]
theorem seen_lt {B : Int → Prop} {l : List Tri} {t : Tri} (h3 : ∀ u ∈ l, u.a < t.a) (hB : ¬ B (t.a / 2)) (he : t.a % 2 = 0) {v : Int} (hs : Seen B l v) : v ≠ t.a / 2 := by
  rintro rfl
  rcases hs with hs | ⟨u, hu, e⟩
  · exact hB hs
  · have := h3 u hu; omega
/-- each and is the and of its two -/
theorem eval_and {B : Int → Prop} (V : Int → Bool) {l : List Tri} (hg : Good B l) : ∀ t ∈ l, evalM V l (t.a / 2) = (bitM (evalM V l) t.b && bitM (evalM V l) t.c) := by
  induction hg with
  | nil => simp
  | snoc l t h1 h2 h3 h4 h5 h6 h7 h8 h9 h10 h11 ih =>
    intro u hu
    rw [eval_snoc]
    rcases List.mem_append.1 hu with hu | hu
    · obtain ⟨a, b, c, d, e, f, g, i, j⟩ := h1.mem u hu
      have hl := h4 u hu
      rw [bit_set_other (by omega), bit_set_other (by omega), ← ih u hu]
      unfold setM
      rw [if_neg (by omega)]
    · rw [List.mem_singleton.1 hu]
      rw [bit_set_other (seen_lt h4 h11 h3 h9), bit_set_other (seen_lt h4 h11 h3 h10)]
      unfold setM
      rw [if_pos rfl]
theorem eval_low {B : Int → Prop} (V : Int → Bool) {l : List Tri} (hg : Good B l) {v : Int} (hv : B v) : evalM V l v = V v := by
  induction hg with
  | nil => rfl
  | snoc l t h1 h2 h3 h4 h5 h6 h7 h8 h9 h10 h11 ih =>
    rw [eval_snoc]
    unfold setM
    rw [if_neg (fun e => h11 (by rw [← e]; exact hv)), ih]
end Go.Proofs.Ytbgcoeejmnejdaa.Str
namespace Go.Proofs.Ytbgcoeejmnejdaa.Str
open Circ Cw

/-- the ands whose variables P tells -/
def those (P : Int → Prop) [DecidablePred P] (l : List Tri) : List Tri := l.filter fun t => decide (P (cnt t.a / 2))
/- the first and of a variable is the only one -/
end Go.Proofs.Ytbgcoeejmnejdaa.Str
