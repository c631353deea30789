/- interlockref01.Var, Neg and bit: a literal's value among values that lie in a row; no condition but that the literal's variable has one. -/
import Derived.Test.YtjlnffkieocihaaPt31
import Derived.Deep.OwnRows
namespace Go.Proofs.Ytjlnffkieocihaa.Str
open Go.ChangeShapes Go.WideShapes Go.ChangeAt Go.RowKit Go.Maps Circ Cw

structure IsBits (w : World) (g n : Nat) (V : Int → Bool) : Prop where
  blk : ∃ cur, w.heap[g]? = some (.cells cur 4 (0, 0)) ∧ cur.size = n ∧ ∀ k : Nat, k < n → cur[k]? = some (.bool (V k))
theorem IsBits.keep {w w' : World} {g n : Nat} {V : Int → Bool} (h : IsBits w g n V) (hk : w'.heap[g]? = w.heap[g]?) : IsBits w' g n V := by
  obtain ⟨cur, h1, h2⟩ := h.blk
  exact ⟨cur, hk.trans h1, h2⟩
theorem IsBits.lt {w : World} {g n : Nat} {V : Int → Bool} (h : IsBits w g n V) : g < w.heap.size := by
  obtain ⟨cur, h1, h2⟩ := h.blk
  exact lt_of_block h1
theorem IsBits.below {w w' : World} {g n : Nat} {V : Int → Bool} (h : IsBits w g n V) (hb : Below w.heap.size w w') : IsBits w' g n V := h.keep (hb.block _ h.lt)
theorem IsBits.cell {w : World} {g n : Nat} {V : Int → Bool} (h : IsBits w g n V) {k : Nat} (hk : k < n) : w.cell? ⟨g, k, none⟩ = some (.bool (V k)) := by
  obtain ⟨cur, h1, h2, h3⟩ := h.blk
  rw [Lib.cell_of_heap h1]
  exact h3 k hk
theorem rvar_any (x : Int) (h0 : 0 ≤ x) (hx : I64 x) (w : World) : Calls Try.prog 53 #[.int .i64 x] w fun e w' => e = .returned (.int .i64 (x / 2)) ∧ w = w' := by
  obtain ⟨h1, h2⟩ := hx
  have ht : x.tdiv 2 = x / 2 := Int.tdiv_eq_ediv_of_nonneg h0
  have hn : ¬ x < 0 := by omega
  have hd : decide (x < 0) = false := decide_eq_false hn
  go_enter Try.func53, Try.ntmps53
  go_wp2
  go_ret
  exact ⟨rfl, rfl⟩
theorem rneg_any (x : Int) (h0 : 0 ≤ x) (hx : I64 x) (w : World) : Calls Try.prog 54 #[.int .i64 x] w fun e w' => e = .returned (.bool (decide (x % 2 = 1))) ∧ w = w' := by
  obtain ⟨h1, h2⟩ := hx
  have ht : x.tmod 2 = x % 2 := Int.tmod_eq_emod_of_nonneg h0
  by_cases hz : 0 < x
  · have hd : decide (0 < x) = true := decide_eq_true hz
    go_enter Try.func54, Try.ntmps54
    go_wp2
    go_ret
    exact ⟨rfl, rfl⟩
  · obtain rfl : x = 0 := by omega
    go_enter Try.func54, Try.ntmps54
    go_wp2
    go_ret
    exact ⟨rfl, rfl⟩
theorem bit_any (g n : Nat) (V : Int → Bool) (l : Int) (w : World) (h : IsBits w g n V) (hn : n ≤ 1048576) (h0 : 0 ≤ l) (hl : l / 2 < n) :
    Calls Try.prog 18 #[.slice (some ⟨g, 0, none⟩) n n, .int .i64 l] w fun e w' => e = .returned (.bool (bitM V l)) ∧ ∃ q, w' = w.drewN q := by
  obtain ⟨k, hk⟩ : ∃ k : Nat, l / 2 = (k : Int) := ⟨(l / 2).toNat, by omega⟩
  have hkn : k < n := by omega
  have hI : I64 l := by constructor <;> omega
  have RV := Lib.hid (rvar_any l h0 hI w)
  rw [hk] at RV
  have hc := h.cell hkn
  have hd : decide ((k : Int) < n) = true := decide_eq_true (by omega)
  have hd2 : decide (k < n) = true := decide_eq_true hkn
  have RN := Lib.hid (fun w => rneg_any l h0 hI w)
  have HB : Hid (V k = V (l / 2)) := by unfold Hid; rw [hk]
  unfold bitM
  rw [← HB.out]
  clear h hl hI hk h0 HB
  generalize V (k : Int) = b at *
  generalize decide (l % 2 = 1) = c at *
  go_enter Try.func18, Try.ntmps18
  go_wp2_with fail
  refine RV.out.mono ?_
  rintro e w' ⟨rfl, rfl⟩
  clear RV
  go_wp2
  go_quiet ((go_at_call 54; exact Calls.quiet_of_same ((RN.out _).mono (by rintro e w' ⟨rfl, rfl⟩; exact ⟨rfl, rfl⟩))))
  go_wp2
  go_ret
  exact ⟨ret_bool (by cases b <;> cases c <;> rfl), nq, rfl⟩
end Go.Proofs.Ytjlnffkieocihaa.Str
