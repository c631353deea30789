/- The walks of circuit's looks at sizes and texts, and of what panics where a circuit may not be; no condition. -/
import Derived.Test.YtckdlbfndmmjjaaGreatDoorLits
namespace Go.Proofs.YtckdlbfndmmjjaaGreatDoor.Cw
open Go.ChangeShapes Go.WideShapes Go.ChangeAt Go.RowKit Circ

def fault : List PanicEntry := [{ v := .iface 71 (.agg #[.int .i64 9]), recovered := false }]
def told (b : Bool) : Ending := if b then .returned (.tuple #[]) else .panicked fault

theorem need_any (b : Bool) (w : World) : Calls Tryz.prog 45 #[.bool b] w fun e w' => e = told b ∧ w = w' := by
  cases b
  · go_enter Tryz.func45, Tryz.ntmps45
    go_wp2
    exact ⟨rfl, rfl, rfl⟩
  · go_enter Tryz.func45, Tryz.ntmps45
    go_wp2
    go_end0
    exact ⟨rfl, rfl⟩
theorem need_yes (w : World) : Calls Tryz.prog 45 #[.bool true] w fun e w' => e = .returned (.tuple #[]) ∧ w = w' := need_any true w
theorem need_no (w : World) : Calls Tryz.prog 45 #[.bool false] w fun e w' => e = .panicked fault ∧ w = w' := need_any false w

def lens (c : Cir) : List Int := [c.ins.length, c.lats.length, c.outs.length, c.bads.length, c.invs.length]
def sizesOk (c : Cir) : Bool := decide (0 ≤ c.max) && decide (c.max ≤ 2048) && (lens c).all fun n => decide (n ≤ 64)

theorem all_take {α : Type} (l : List α) (p : α → Bool) (k : Nat) (hk : k < l.length) : (l.take (k + 1)).all p = ((l.take k).all p && p l[k]) := by
  rw [List.take_succ_eq_append_getElem hk, List.all_append]; simp
theorem all_not {α : Type} (l : List α) (p : α → Bool) (k : Nat) (hk : k < l.length) (h : p l[k] = false) : l.all p = false := by
  rw [List.all_eq_false]; exact ⟨l[k], List.getElem_mem _, by simp [h]⟩

theorem new_cell (w : World) (cs : Array Value) (t : TypeId) (k : Nat) : (w.alloc (.cells cs t)).cell? ⟨w.heap.size, k, none⟩ = cs[k]? := by simp

set_option maxHeartbeats 1000000 in
theorem sizes_any (c : Cir) (s : Places) (w : World) :
    Calls Tryz.prog 26 #[cirV c s] w fun e w' => e = told (sizesOk c) ∧ Below w.heap.size w w' := by
  have hb1 : Below w.heap.size w (w.alloc (.cells (cirC c s) 27)) := (Below.refl _ _).alloc (Nat.le_refl _) _
  have hb2 : Below w.heap.size w ((w.alloc (.cells (cirC c s) 27)).alloc (.cells #[.int .i64 c.ins.length, .int .i64 c.lats.length, .int .i64 c.outs.length, .int .i64 c.bads.length, .int .i64 c.invs.length] 3)) := hb1.alloc hb1.size _
  have hcell : ∀ (k : Nat) (hk : k < (lens c).length), ((w.alloc (.cells (cirC c s) 27)).alloc (.cells #[.int .i64 c.ins.length, .int .i64 c.lats.length, .int .i64 c.outs.length, .int .i64 c.bads.length, .int .i64 c.invs.length] 3)).cell? ⟨w.heap.size + 1, k, none⟩ = some (.int .i64 (lens c)[k]) := by
    intro k hk
    have := new_cell (w.alloc (.cells (cirC c s) 27)) #[.int .i64 c.ins.length, .int .i64 c.lats.length, .int .i64 c.outs.length, .int .i64 c.bads.length, .int .i64 c.invs.length] 3 k
    rw [show (w.alloc (.cells (cirC c s) 27)).heap.size = w.heap.size + 1 by simp] at this
    rw [this]
    match k, hk with
    | 0, _ => rfl
    | 1, _ => rfl
    | 2, _ => rfl
    | 3, _ => rfl
    | 4, _ => rfl
  have HC := Lib.hid hcell; clear hcell
  unfold cirV cirC at *
  by_cases h0 : 0 ≤ c.max
  case neg =>
    have hq : sizesOk c = false := by unfold sizesOk; simp [h0]
    have hq' : decide (0 ≤ c.max) = false := by simpa using h0
    have HQ := Lib.hid hq; clear hq
    go_enter Tryz.func26, Tryz.ntmps26
    go_wp2_with (go_at_call 45; refine (need_no _).mono ?_; rintro e w' ⟨rfl, rfl⟩)
    exact ⟨rfl, by rw [HQ.out]; rfl, hb1⟩
  case pos =>
  by_cases h1 : c.max ≤ 2048
  case neg =>
    have hq : sizesOk c = false := by unfold sizesOk; simp [h1]
    have hq' : decide (c.max ≤ 2048) = false := by simpa using h1
    have HQ := Lib.hid hq; clear hq
    go_enter Tryz.func26, Tryz.ntmps26
    go_wp2_with (go_at_call 45; refine (need_no _).mono ?_; rintro e w' ⟨rfl, rfl⟩)
    exact ⟨rfl, by rw [HQ.out]; rfl, hb1⟩
  case pos =>
  have hs : sizesOk c = (lens c).all fun n => decide (n ≤ 64) := by unfold sizesOk; simp [h0, h1]
  have HQ := Lib.hid hs; clear hs
  go_enter Tryz.func26, Tryz.ntmps26
  go_wp2_with (go_at_call 45; refine (need_yes _).mono ?_; rintro e w' ⟨rfl, rfl⟩)
  go_loop [30] (fun i => ∃ k : Nat, k ≤ 5 ∧ i = .int .i64 k ∧ ((lens c).take k).all (fun n => decide (n ≤ 64)) = true) (fun i => 5 - (intOf i).toNat)
  case atStart => exact ⟨0, Nat.zero_le _, rfl, rfl⟩
  case round =>
    obtain ⟨k, hk, rfl, hno⟩ := hrel
    have HN := Lib.hid hno; clear hno
    by_cases hlt : k < 5
    · have hk5 : k < (lens c).length := hlt
      have hc := HC.out k hk5
      have HX := Lib.hid (all_take (lens c) (fun n => decide (n ≤ 64)) k hk5)
      have HS := Lib.hid (all_not (lens c) (fun n => decide (n ≤ 64)) k hk5)
      generalize (lens c)[k] = x at *
      by_cases hx : x ≤ 64
      · go_wp2_with (go_at_call 45; refine (need_yes _).mono ?_; rintro e w' ⟨rfl, rfl⟩)
        go_round
        case rel => exact ⟨k + 1, by omega, by go_num, by rw [HX.out, HN.out]; simpa using hx⟩
        case measure => simp [intOf]; omega
      · have hx' : decide (x ≤ 64) = false := by simpa using hx
        go_wp2_with (go_at_call 45; refine (need_no _).mono ?_; rintro e w' ⟨rfl, rfl⟩)
        exact ⟨rfl, by rw [HQ.out, HS.out (by simpa using hx)]; rfl, hb2⟩
    · obtain rfl : k = 5 := by omega
      rw [List.take_of_length_le (Nat.le_refl 5)] at HN
      go_wp2
      go_end0
      exact ⟨by rw [HQ.out, HN.out]; rfl, hb2⟩
end Go.Proofs.YtckdlbfndmmjjaaGreatDoor.Cw
