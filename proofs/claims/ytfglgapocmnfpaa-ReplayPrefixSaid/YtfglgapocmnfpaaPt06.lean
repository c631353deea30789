/- The walks of circuit's looks at kinds and texts of names, and at what pins there are; of the pages' own count and rank; no condition. -/
import Derived.Test.YtfglgapocmnfpaaPt03
namespace Go.Proofs.Ytfglgapocmnfpaa.Cw
open Go.ChangeShapes Go.WideShapes Go.ChangeAt Go.RowKit Circ

def kinds : List ByteArray := [⟨#[105]⟩, ⟨#[108]⟩, ⟨#[111]⟩, ⟨#[98]⟩, ⟨#[99]⟩]
def kindCells : Array Value := #[.string ⟨#[105]⟩, .string ⟨#[108]⟩, .string ⟨#[111]⟩, .string ⟨#[98]⟩, .string ⟨#[99]⟩]
/-- where names of a kind stand among those of others; -1: nowhere -/
def rankV (t : ByteArray) : Int := match kinds.findIdx? fun x => x.toList == t.toList with
  | some k => k
  | none => -1

theorem find_hit {α : Type} (l : List α) (p : α → Bool) (k : Nat) (hk : k < l.length) (h0 : (l.take k).any p = false) (h1 : p l[k] = true) : l.findIdx? p = some k := by
  rw [List.findIdx?_eq_some_iff_getElem]
  refine ⟨hk, h1, fun j hj => ?_⟩
  rw [List.any_eq_false] at h0
  have := h0 l[j] (List.mem_take_iff_getElem.2 ⟨j, by omega, rfl⟩)
  simpa using this
theorem find_none {α : Type} (l : List α) (p : α → Bool) (h0 : l.any p = false) : l.findIdx? p = none := by
  rw [List.findIdx?_eq_none_iff]
  rw [List.any_eq_false] at h0
  intro x hx; simpa using h0 x hx
theorem rank_hit (t : ByteArray) (k : Nat) (hk : k < 5) (h0 : (kinds.take k).any (fun x => x.toList == t.toList) = false) (h1 : (kinds[k]'hk).toList == t.toList) : rankV t = k := by
  unfold rankV; rw [find_hit kinds _ k hk h0 h1]
theorem rank_none (t : ByteArray) (h0 : kinds.any (fun x => x.toList == t.toList) = false) : rankV t = -1 := by
  unfold rankV; rw [find_none kinds _ h0]

theorem kind_cell (w : World) (k : Nat) (hk : k < 5) : (w.alloc (.cells kindCells 9)).cell? ⟨w.heap.size, k, none⟩ = some (.string (kinds[k]'hk)) := by
  rw [new_cell]
  match k, hk with
  | 0, _ => rfl
  | 1, _ => rfl
  | 2, _ => rfl
  | 3, _ => rfl
  | 4, _ => rfl

theorem beq_swap (a b : List UInt8) : (a == b) = (b == a) := by rw [Bool.eq_iff_iff]; simp; exact ⟨Eq.symm, Eq.symm⟩

set_option maxHeartbeats 400000 in
theorem rank_any (t : ByteArray) (w : World) :
    Calls Try.prog 97 #[.string t] w fun e w' => e = .returned (.int .i64 (rankV t)) ∧ Below w.heap.size w w' := by
  have hb1 : Below w.heap.size w (w.alloc (.cells kindCells 9)) := (Below.refl _ _).alloc (Nat.le_refl _) _
  have HC := Lib.hid (kind_cell w)
  unfold kindCells at *
  go_enter Try.func97, Try.ntmps97
  go_wp2
  go_loop [4] (fun i => ∃ k : Nat, k ≤ 5 ∧ i = .int .i64 k ∧ (kinds.take k).any (fun x => x.toList == t.toList) = false) (fun i => 5 - (intOf i).toNat)
  case atStart => exact ⟨0, Nat.zero_le _, rfl, rfl⟩
  case round =>
    obtain ⟨k, hk, rfl, hno⟩ := hrel
    have HN := Lib.hid hno; clear hno
    by_cases hlt : k < 5
    · have hc := HC.out k hlt
      have HX := Lib.hid (any_take kinds (fun x => x.toList == t.toList) k hlt)
      have HS := Lib.hid (rank_hit t k hlt HN.out)
      generalize kinds[k]'hlt = x at *
      cases hq : x.toList == t.toList
      · go_wp2
        go_round
        case rel => exact ⟨k + 1, by omega, by go_num, by rw [HX.out, HN.out, hq]; rfl⟩
        case measure => simp [intOf]; omega
      · go_wp2
        go_ret
        exact ⟨ret_int (HS.out (by first | trivial | exact hq)).symm, hb1⟩
    · obtain rfl : k = 5 := by omega
      go_wp2
      go_ret
      exact ⟨ret_int (rank_none t HN.out).symm, hb1⟩

set_option maxHeartbeats 400000 in
theorem index91_any (t : ByteArray) (w0 w : World) (hw : w = w0.alloc (.cells kindCells 9)) :
    Calls Try.prog 130 #[.slice (some ⟨w0.heap.size, 0, none⟩) 5 5, .string t] w fun e w' => e = .returned (.int .i64 (rankV t)) ∧ w = w' := by
  have HC := Lib.hid (kind_cell w0)
  rw [← hw] at HC
  clear hw
  go_enter Try.func130, Try.ntmps130
  go_wp2
  go_loop [8] (fun i => ∃ k : Nat, k ≤ 5 ∧ i = .int .i64 k ∧ (kinds.take k).any (fun x => x.toList == t.toList) = false) (fun i => 5 - (intOf i).toNat)
  case atStart => exact ⟨0, Nat.zero_le _, rfl, rfl⟩
  case round =>
    obtain ⟨k, hk, rfl, hno⟩ := hrel
    have HN := Lib.hid hno; clear hno
    by_cases hlt : k < 5
    · have hc := HC.out k hlt
      have HX := Lib.hid (any_take kinds (fun x => x.toList == t.toList) k hlt)
      have HS := Lib.hid (rank_hit t k hlt HN.out)
      generalize kinds[k]'hlt = x at *
      cases hq : t.toList == x.toList
      · go_wp2
        go_round
        case rel => exact ⟨k + 1, by omega, by go_num, by rw [HX.out, HN.out, beq_swap, hq]; rfl⟩
        case measure => simp [intOf]; omega
      · go_wp2
        go_ret
        exact ⟨ret_int (HS.out (by rw [beq_swap]; exact hq)).symm, rfl⟩
    · obtain rfl : k = 5 := by omega
      go_wp2
      go_ret
      exact ⟨ret_int (rank_none t HN.out).symm, rfl⟩

theorem rankof_any (t : ByteArray) (w : World) :
    Calls Try.prog 114 #[.string t] w fun e w' => e = .returned (.int .i64 (rankV t)) ∧ Below w.heap.size w w' := by
  have hb1 : Below w.heap.size w (w.alloc (.cells kindCells 9)) := (Below.refl _ _).alloc (Nat.le_refl _) _
  have I := Lib.hid (index91_any t w _ rfl)
  unfold kindCells at *
  go_enter Try.func114, Try.ntmps114
  go_wp2_with fail
  refine I.out.mono ?_
  rintro e w' ⟨rfl, rfl⟩
  go_wp2
  go_ret
  exact ⟨rfl, hb1⟩

/-- how many of a kind there are; -1: there is no such kind -/
def countV (c : Cir) (t : ByteArray) : Int :=
  if (t.toList == [105]) = true then c.ins.length else if (t.toList == [108]) = true then c.lats.length else if (t.toList == [111]) = true then c.outs.length
  else if (t.toList == [98]) = true then c.bads.length else if (t.toList == [99]) = true then c.invs.length else -1

set_option maxHeartbeats 400000 in
theorem count_any (c : Cir) (s : Places) (t : ByteArray) (w : World): 
    Calls Try.prog 96 #[cirV c s, .string t] w fun e w' => e = .returned (.int .i64 (countV c t)) ∧ Below w.heap.size w w' := by
  have hb1 : Below w.heap.size w (w.alloc (.cells (cirC c s) 27)) := (Below.refl _ _).alloc (Nat.le_refl _) _
  unfold cirV cirC countV at *
  go_enter Try.func96, Try.ntmps96
  go_wp2
  all_goals
    go_ret
    exact ⟨ret_int (by simp [*]), hb1⟩

/-- the literals of a kind's pins; a kind that is no other's is the invars' -/
def kindLits (c : Cir) (t : ByteArray) : List Int :=
  if (t.toList == [105]) = true then c.ins else if (t.toList == [108]) = true then c.lats.map Tri.a else if (t.toList == [111]) = true then c.outs
  else if (t.toList == [98]) = true then c.bads else c.invs
theorem lit76_any (l : List Int) (A : Option Addr) (c g k : Nat) (w : World) (hc : w.cell? ⟨g, 0, none⟩ = some (.slice A l.length c)) (_hl : l.length ≤ 9223372036854775807) (hr : LRow w w.heap.size 1 A (ints l)) (hk : k < l.length) :
    Calls Try.prog 132 #[.int .i64 k, .pointer (some ⟨g, 0, none⟩)] w fun e w' => e = .returned (.int .i64 l[k]) ∧ w = w' := by
  obtain ⟨b, o, rfl, hbb, hx⟩ := hr.int hk
  generalize l[k] = x at *
  go_enter Try.func132, Try.ntmps132
  go_wp2
  go_ret
  exact ⟨rfl, rfl⟩
theorem lit77_any (l : List Tri) (A : Option Addr) (c g k : Nat) (w : World) (hc : w.cell? ⟨g, 2, none⟩ = some (.slice A l.length c)) (_hl : l.length ≤ 9223372036854775807) (hr : LRow w w.heap.size 3 A (tris l)) (hk : k < l.length) :
    Calls Try.prog 133 #[.int .i64 k, .pointer (some ⟨g, 0, none⟩)] w fun e w' => e = .returned (.int .i64 l[k].a) ∧ w = w' := by
  obtain ⟨b, o, rfl, hbb, hx, -, -⟩ := hr.tri hk
  generalize l[k].a = x at *
  go_enter Try.func133, Try.ntmps133
  go_wp2
  go_ret
  exact ⟨rfl, rfl⟩

/-- what pins tells: how many there are, and a function that gives the literal of each -/
def Pinned (c : Cir) (t : ByteArray) (W : World) (e : Ending) (w' : World) : Prop :=
  ∃ k cap, e = .returned (.tuple #[.int .i64 (kindLits c t).length, .func (.func k) #[] cap]) ∧ Below W.heap.size W w' ∧ Enters Try.prog k ∧
    ∀ (i : Nat) (h : i < (kindLits c t).length) (w2 : World), Below w'.heap.size w' w2 → Calls Try.prog k (#[.int .i64 i] ++ cap) w2 fun e w3 => e = .returned (.int .i64 (kindLits c t)[i]) ∧ w2 = w3

theorem enters76 : Enters Try.prog 132 := enters_of Try.func132 (by kernel_rfl) rfl
theorem enters77 : Enters Try.prog 133 := enters_of Try.func133 (by kernel_rfl) rfl

theorem pinned_list (c : Cir) (s : Places) (t : ByteArray) (w : World) (l : List Int) (A : Option Addr) (q : Nat) (hl : kindLits c t = l) (hle : l.length * 8 ≤ 140737488355328) (hr : LRow w w.heap.size 1 A (ints l)) :
    Pinned c t w (.returned (.tuple #[.int .i64 l.length, .func (.func 132) #[] #[.pointer (some ⟨w.heap.size + 1, 0, none⟩)]])) ((w.alloc (.cells (cirC c s) 27)).alloc (.cells #[.slice A l.length q] 22)) := by
  have hb1 : Below w.heap.size w (w.alloc (.cells (cirC c s) 27)) := (Below.refl _ _).alloc (Nat.le_refl _) _
  have hb2 := hb1.alloc hb1.size (.cells #[.slice A l.length q] 22)
  subst hl
  refine ⟨132, _, rfl, hb2, enters76, fun i h w2 hb => ?_⟩
  have hs : ((w.alloc (.cells (cirC c s) 27)).alloc (.cells #[.slice A (kindLits c t).length q] 22)).heap.size = w.heap.size + 2 := by simp
  refine lit76_any _ A q _ i w2 ?_ (by omega) ((hr.below (hb2.trans (hb.mono (by rw [hs]; omega)))).more (by have := hb.size; rw [hs] at this; omega)) h
  rw [hb.cell (by rw [hs]; exact Nat.lt_succ_self _)]
  have := new_cell (w.alloc (.cells (cirC c s) 27)) #[.slice A (kindLits c t).length q] 22 0
  rw [show (w.alloc (.cells (cirC c s) 27)).heap.size = w.heap.size + 1 by simp] at this
  exact this

theorem pinned_lats (c : Cir) (s : Places) (t : ByteArray) (w : World) (hl : kindLits c t = c.lats.map Tri.a) (hle : c.lats.length * 24 ≤ 140737488355328) (hr : LRow w w.heap.size 3 s.al (tris c.lats)) :
    Pinned c t w (.returned (.tuple #[.int .i64 c.lats.length, .func (.func 133) #[] #[.pointer (some ⟨w.heap.size, 0, none⟩)]])) (w.alloc (.cells (cirC c s) 27)) := by
  have hb1 : Below w.heap.size w (w.alloc (.cells (cirC c s) 27)) := (Below.refl _ _).alloc (Nat.le_refl _) _
  refine ⟨133, _, by rw [hl, List.length_map], hb1, enters77, fun i h w2 hb => ?_⟩
  have hs : (w.alloc (.cells (cirC c s) 27)).heap.size = w.heap.size + 1 := by simp
  have h' : i < c.lats.length := by rw [hl, List.length_map] at h; exact h
  refine (lit77_any c.lats s.al s.kl w.heap.size i w2 ?_ (by omega) ((hr.below (hb1.trans (hb.mono (by rw [hs]; omega)))).more (by have := hb.size; rw [hs] at this; omega)) h').mono ?_
  · rw [hb.cell (by rw [hs]; exact Nat.lt_succ_self _), new_cell]
    rfl
  · rintro e w3 ⟨rfl, rfl⟩
    refine ⟨ret_int ?_, rfl⟩
    simp [hl]

set_option maxHeartbeats 1000000 in
theorem pins_any (c : Cir) (s : Places) (t : ByteArray) (w : World) (h : CLies w w.heap.size c s) (hf : CFits c s) :
    Calls Try.prog 115 #[cirV c s, .string t] w (Pinned c t w) := by
  have hmf : ∀ (fn : Fn) (first cap : Array Value) (w : World), (Instr.makeFunc fn first cap).run Try.prog w = .ok (.func fn first cap) w := fun _ _ _ _ => rfl
  have P1 := Lib.hid (fun hl => pinned_list c s t w c.ins s.ai s.ki hl hf.li h.ins)
  have P2 := Lib.hid (fun hl => pinned_lats c s t w hl hf.ll h.lats)
  have P3 := Lib.hid (fun hl => pinned_list c s t w c.outs s.ao s.ko hl hf.lo h.outs)
  have P4 := Lib.hid (fun hl => pinned_list c s t w c.bads s.ab s.kb hl hf.lb h.bads)
  have P5 := Lib.hid (fun hl => pinned_list c s t w c.invs s.ac s.kc hl hf.lc h.invs)
  clear h hf
  unfold cirV cirC at *
  go_enter Try.func115, Try.ntmps115
  go_wp2
  all_goals go_ret2
  · exact P1.out (by unfold kindLits; simp [*])
  · exact P2.out (by unfold kindLits; simp [*])
  · exact P3.out (by unfold kindLits; simp [*])
  · exact P4.out (by unfold kindLits; simp [*])
  · exact P5.out (by unfold kindLits; simp [*])
end Go.Proofs.Ytfglgapocmnfpaa.Cw
