/- interlockref01.Var, Neg and bit: a literal's value among values that lie in a row; no condition but that the literal's variable has one. values: what the literals' variables are, where inputs and latches are as bits say; condition: the circuit may be. -/
import Derived.Test.YtbgcoeejmnejdaaPt26
import Derived.Deep.OwnRows
import Derived.Test.YtbgcoeejmnejdaaPt19
import Derived.Test.YtbgcoeejmnejdaaPt21
namespace Go.Proofs.Ytbgcoeejmnejdaa.Str
open Go.ChangeShapes Go.WideShapes Go.ChangeAt Go.RowKit Go.Maps Circ Cw

structure IsBits (w : World) (g n : Nat) (V : Int → Bool) : Prop where
  blk : ∃ cur, w.heap[g]? = some (.cells cur 4 (0, 0)) ∧ cur.size = n ∧ ∀ k : Nat, k < n → cur[k]? = some (.bool (V k))
theorem IsBits.keep {w w' : World} {g n : Nat} {V : Int → Bool} (h : IsBits w g n V) (hk : w'.heap[g]? = w.heap[g]?) : IsBits w' g n V := by
  obtain ⟨cur, h1, h2⟩ := h.blk
  exact ⟨cur, hk.trans h1, h2⟩
theorem IsBits.lt {w : World} {g n : Nat} {V : Int → Bool} (h : IsBits w g n V) : g < w.heap.size := by
  obtain ⟨cur, h1, h2⟩ := h.blk
  exact lt_of_block h1
theorem IsBits.below {w w' : World} {g n : Nat} {V : Int → Bool} (h : IsBits w g n V) (hb : Below w.heap.size w w') : IsBits w' g n V := h.keep (hb.block _ h.lt)
theorem IsBits.cell {w : World} {g n : Nat} {V : Int → Bool} (h : IsBits w g n V) {k : Nat} (hk : k < n) : w.cell? ⟨g, k, none⟩ = some (.bool (V k)) := by
  obtain ⟨cur, h1, h2, h3⟩ := h.blk
  rw [Lib.cell_of_heap h1]
  exact h3 k hk
theorem rvar_any (x : Int) (h0 : 0 ≤ x) (hx : I64 x) (w : World) : Calls Try.prog 54 #[.int .i64 x] w fun e w' => e = .returned (.int .i64 (x / 2)) ∧ w = w' := by
  obtain ⟨h1, h2⟩ := hx
  have ht : x.tdiv 2 = x / 2 := Int.tdiv_eq_ediv_of_nonneg h0
  have hn : ¬ x < 0 := by omega
  have hd : decide (x < 0) = false := decide_eq_false hn
  go_enter Try.func54, Try.ntmps54
  go_wp2
  go_ret
  exact ⟨rfl, rfl⟩
theorem rneg_any (x : Int) (h0 : 0 ≤ x) (hx : I64 x) (w : World) : Calls Try.prog 55 #[.int .i64 x] w fun e w' => e = .returned (.bool (decide (x % 2 = 1))) ∧ w = w' := by
  obtain ⟨h1, h2⟩ := hx
  have ht : x.tmod 2 = x % 2 := Int.tmod_eq_emod_of_nonneg h0
  by_cases hz : 0 < x
  · have hd : decide (0 < x) = true := decide_eq_true hz
    go_enter Try.func55, Try.ntmps55
    go_wp2
    go_ret
    exact ⟨rfl, rfl⟩
  · obtain rfl : x = 0 := by omega
    go_enter Try.func55, Try.ntmps55
    go_wp2
    go_ret
    exact ⟨rfl, rfl⟩
theorem bit_any (g n : Nat) (V : Int → Bool) (l : Int) (w : World) (h : IsBits w g n V) (hn : n ≤ 1048576) (h0 : 0 ≤ l) (hl : l / 2 < n) :
    Calls Try.prog 18 #[.slice (some ⟨g, 0, none⟩) n n, .int .i64 l] w fun e w' => e = .returned (.bool (bitM V l)) ∧ ∃ q, w' = w.drewN q := by
  obtain ⟨k, hk⟩ : ∃ k : Nat, l / 2 = (k : Int) := ⟨(l / 2).toNat, by omega⟩
  have hkn : k < n := by omega
  have hI : I64 l := by constructor <;> omega
  have RV := Lib.hid (rvar_any l h0 hI w)
  rw [hk] at RV
  have hc := h.cell hkn
  have hd : decide ((k : Int) < n) = true := decide_eq_true (by omega)
  have hd2 : decide (k < n) = true := decide_eq_true hkn
  have RN := Lib.hid (fun w => rneg_any l h0 hI w)
  have HB : Hid (V k = V (l / 2)) := by unfold Hid; rw [hk]
  unfold bitM
  rw [← HB.out]
  clear h hl hI hk h0 HB
  generalize V (k : Int) = b at *
  generalize decide (l % 2 = 1) = c at *
  go_enter Try.func18, Try.ntmps18
  go_wp2_with fail
  refine RV.out.mono ?_
  rintro e w' ⟨rfl, rfl⟩
  clear RV
  go_wp2
  go_quiet ((go_at_call 55; exact Calls.quiet_of_same ((RN.out _).mono (by rintro e w' ⟨rfl, rfl⟩; exact ⟨rfl, rfl⟩))))
  go_wp2
  go_ret
  exact ⟨ret_bool (by cases b <;> cases c <;> rfl), nq, rfl⟩
end Go.Proofs.Ytbgcoeejmnejdaa.Str
namespace Go.Proofs.Ytbgcoeejmnejdaa.Str
open Go.ChangeShapes Go.WideShapes Go.ChangeAt Go.RowKit Go.Maps Circ Cw

/-- the first j of the literals' variables are as kb says -/
def baseU (kb : Nat → Bool) (L : List Int) : Nat → Int → Bool
  | 0 => fun _ => false
  | j + 1 => setM (baseU kb L j) (L.getD j 0 / 2) (kb j)
def kbM (b : Int) (k : Nat) : Bool := bits BinOp.and IntKind.u64 (b / 2 ^ (k % 64)) 1 == 1
theorem infoBool : (Try.prog.info? 4).map (fun i => (i.zero, i.size, i.bytes)) = some (some (.bool false), 1, 1) := by kernel_rfl
theorem bits_made {w : World} {n : Nat} : IsBits (w.alloc (.cells (madeCells #[.bool false] n) 4)) w.heap.size n (fun _ => false) := by
  refine ⟨_, Array.getElem?_push_size, by simp [size_madeCells], fun k hk => ?_⟩
  unfold madeCells
  rw [Array.getElem?_map, Array.getElem?_range, if_pos (by simpa using hk)]
  simp [Nat.mod_one]
theorem bits_store {w : World} {g n : Nat} {V : Int → Bool} (h : IsBits w g n V) (k : Nat) (hk : k < n) (b : Bool) : ∃ Z u, (w.setCell ⟨g, k, none⟩ (.bool b) = Z ∧ w.cell? ⟨g, k, none⟩ = some u ∧ w.frozen? ⟨g, k, none⟩ = false) ∧ IsBits Z g n (setM V k b) ∧ But g w Z := by
  obtain ⟨cur, h1, h2, h3⟩ := h.blk
  obtain ⟨Z, u, hz, EZ, FZ⟩ := step_set w cur k (.bool b) h1 (by omega)
  refine ⟨Z, u, hz, ⟨_, EZ, by simp [h2], fun i hi => ?_⟩, FZ⟩
  rw [Array.getElem?_setIfInBounds]
  unfold setM
  by_cases hki : k = i
  · subst hki; rw [if_pos rfl, if_pos (by omega), if_pos rfl]
  · rw [if_neg hki, h3 i hi, if_neg (by omega)]

theorem lit_bound {c : Cir} (h : refOk c = true) {x : Int} (hx : knownL c x = true) : 0 ≤ x ∧ x / 2 ≤ c.max := by
  have hm : 0 ≤ c.max := by
    obtain ⟨hh, -⟩ := ref_parts h
    unfold refHead at hh
    simp only [Bool.and_eq_true, Bool.not_eq_true', decide_eq_false_iff_not] at hh
    omega
  unfold knownL at hx
  simp only [Bool.and_eq_true, decide_eq_true_eq] at hx
  refine ⟨hx.1, ?_⟩
  rcases (known_own _).1 hx.2 with h0 | ⟨y, hy, y0, e⟩
  · omega
  · have := (own_facts h).2 y hy; omega
theorem op_index_and_at (a : Act) (w : World) (b o n q k : Nat) (t s : Nat) (h : a.tmps.getD t undef = .slice (some ⟨b, o, none⟩) n q) (h2 : a.tmps.getD s undef = .int .i64 (k : Int)) (hk : k < n) (oo : Oper) (ho : oo.op = .indexAddr 24 (.tmp t) (.tmp s)) : (execOp a.eval oo).run Try.prog w = .ok (.value (.pointer (some ⟨b, o + k * 3, none⟩))) w := by
  have h' : a.tmps[t]?.getD undef = .slice (some ⟨b, o, none⟩) n q := by simpa using h
  have h2' : a.tmps[s]?.getD undef = .int .i64 (k : Int) := by simpa using h2
  unfold execOp
  rw [ho]
  have h0 : (0 : Int) ≤ k := by omega
  have h1 : (k : Int) < n := by omega
  go_simp
theorem op_field_and0 (a : Act) (w : World) (b o : Nat) (t : Nat) (h : a.tmps.getD t undef = .pointer (some ⟨b, o, none⟩)) (oo : Oper) (ho : oo.op = .fieldAddr 43 (.tmp t) 0) : (execOp a.eval oo).run Try.prog w = .ok (.value (.pointer (some ⟨b, o, none⟩))) w := by
  have h' : a.tmps[t]?.getD undef = .pointer (some ⟨b, o, none⟩) := by simpa using h
  unfold execOp
  rw [ho]
  go_simp
theorem op_field_and1 (a : Act) (w : World) (b o : Nat) (t : Nat) (h : a.tmps.getD t undef = .pointer (some ⟨b, o, none⟩)) (oo : Oper) (ho : oo.op = .fieldAddr 43 (.tmp t) 1) : (execOp a.eval oo).run Try.prog w = .ok (.value (.pointer (some ⟨b, o + 1, none⟩))) w := by
  have h' : a.tmps[t]?.getD undef = .pointer (some ⟨b, o, none⟩) := by simpa using h
  unfold execOp
  rw [ho]
  go_simp
theorem op_field_and2 (a : Act) (w : World) (b o : Nat) (t : Nat) (h : a.tmps.getD t undef = .pointer (some ⟨b, o, none⟩)) (oo : Oper) (ho : oo.op = .fieldAddr 43 (.tmp t) 2) : (execOp a.eval oo).run Try.prog w = .ok (.value (.pointer (some ⟨b, o + 2, none⟩))) w := by
  have h' : a.tmps[t]?.getD undef = .pointer (some ⟨b, o, none⟩) := by simpa using h
  unfold execOp
  rw [ho]
  go_simp
theorem op_quo_two (a : Act) (w : World) (x : Int) (v : Nat) (t : Nat) (h : a.tmps.getD t undef = .int .i64 x) (hv : x.tdiv 2 = (v : Int)) (h0 : 0 ≤ x) (h1 : x ≤ 9223372036854775807) (oo : Oper) (ho : oo.op = .binOp .quo 3 (.tmp t) (.const (.int .i64 2)) 3) : (execOp a.eval oo).run Try.prog w = .ok (.value (.int .i64 (v : Int))) w := by
  have h' : a.tmps[t]?.getD undef = .int .i64 x := by simpa using h
  have hv2 : x / 2 = (v : Int) := by rw [← Int.tdiv_eq_ediv_of_nonneg h0]; exact hv
  unfold execOp
  rw [ho]
  go_simp
  rw [IntKind.wrap_i64]; omega
theorem op_index_bits (a : Act) (w : World) (g n k : Nat) (t s : Nat) (h : a.tmps.getD t undef = .slice (some ⟨g, 0, none⟩) n n) (h2 : a.tmps.getD s undef = .int .i64 (k : Int)) (hk : k < n) (oo : Oper) (ho : oo.op = .indexAddr 36 (.tmp t) (.tmp s)) : (execOp a.eval oo).run Try.prog w = .ok (.value (.pointer (some ⟨g, k, none⟩))) w := by
  have h' : a.tmps[t]?.getD undef = .slice (some ⟨g, 0, none⟩) n n := by simpa using h
  have h2' : a.tmps[s]?.getD undef = .int .i64 (k : Int) := by simpa using h2
  unfold execOp
  rw [ho]
  have h0 : (0 : Int) ≤ k := by omega
  have h1 : (k : Int) < n := by omega
  go_simp
theorem op_store_bit (a : Act) (w : World) (g k : Nat) (u : Value) (x : Bool) (t s : Nat) (h1 : a.tmps.getD t undef = .pointer (some ⟨g, k, none⟩)) (h2 : a.tmps.getD s undef = .bool x) (hc : w.cell? ⟨g, k, none⟩ = some u) (hz : w.frozen? ⟨g, k, none⟩ = false) (oo : Oper) (ho : oo.op = .store 4 (.tmp t) (.tmp s)) : (execOp a.eval oo).run Try.prog w = .ok .skip (w.setCell ⟨g, k, none⟩ (.bool x)) := by
  have h1' : a.tmps[t]?.getD undef = .pointer (some ⟨g, k, none⟩) := by simpa using h1
  have h2' : a.tmps[s]?.getD undef = .bool x := by simpa using h2
  unfold execOp
  rw [ho]
  go_simp
theorem op_pick_and (a : Act) (w : World) (b c : Bool) (s t : Nat) (h1 : a.tmps.getD s undef = .bool b) (h2 : b = true → a.tmps.getD t undef = .bool c) (oo : Oper) (ho : oo.op = .pick (.tmp s) (.tmp t) (.const (.bool false))) : (execOp a.eval oo).run Try.prog w = .ok (.value (.bool (b && c))) w := by
  have h1' : a.tmps[s]?.getD undef = .bool b := by simpa using h1
  cases b with
  | false =>
    clear h1 h2
    unfold execOp
    rw [ho]
    go_simp
  | true =>
    have h2' : a.tmps[t]?.getD undef = .bool c := by simpa using h2 rfl
    clear h1 h2
    unfold execOp
    rw [ho]
    go_simp
theorem below_drewN (w : World) (q : Nat) : Below w.heap.size w (w.drewN q) := ⟨rfl, rfl, rfl, Nat.le_refl _, fun _ _ => rfl⟩
theorem op_field_api_Circuit_6 (a : Act) (w : World) (b : Nat) (t : Nat) (h : a.tmps.getD t undef = .pointer (some ⟨b, 0, none⟩)) (oo : Oper) (ho : oo.op = .fieldAddr 27 (.tmp t) 6) : (execOp a.eval oo).run Try.prog w = .ok (.value (.pointer (some ⟨b, 6, none⟩))) w := by
  have h' : a.tmps[t]?.getD undef = .pointer (some ⟨b, 0, none⟩) := by simpa using h
  unfold execOp
  rw [ho]
  go_simp
/-- what operation j of the region leaves -/
def vals16R (gc g n gl o na q j v : Nat) (x y z : Int) (b1 b2 : Bool) (V2 : Int → Bool) : Nat → (Nat → Value) → World → Prop
  | 0, f, _ => f 70 = .slice (some ⟨g, 0, none⟩) n n
  | 1, f, _ => f 71 = .pointer (some ⟨gc, 6, none⟩)
  | 2, f, _ => f 72 = .slice (some ⟨gl, o, none⟩) na q
  | 3, f, _ => f 73 = .int .i64 (j : Int)
  | 4, f, _ => f 74 = .pointer (some ⟨gl, o + j * 3, none⟩)
  | 5, f, _ => f 75 = .pointer (some ⟨gl, o + j * 3, none⟩)
  | 6, f, _ => f 76 = .int .i64 x
  | 7, f, _ => f 77 = .int .i64 (v : Int)
  | 8, f, _ => f 78 = .slice (some ⟨g, 0, none⟩) n n
  | 9, f, _ => f 79 = .pointer (some ⟨gc, 6, none⟩)
  | 10, f, _ => f 80 = .slice (some ⟨gl, o, none⟩) na q
  | 11, f, _ => f 81 = .int .i64 (j : Int)
  | 12, f, _ => f 82 = .pointer (some ⟨gl, o + j * 3, none⟩)
  | 13, f, _ => f 83 = .pointer (some ⟨gl, o + j * 3 + 1, none⟩)
  | 14, f, _ => f 84 = .int .i64 y
  | 15, f, _ => f 85 = .bool b1
  | 16, f, _ => f 86 = .bool b1
  | 17, f, _ => b1 = true → f 87 = .slice (some ⟨g, 0, none⟩) n n
  | 18, f, _ => b1 = true → f 88 = .pointer (some ⟨gc, 6, none⟩)
  | 19, f, _ => b1 = true → f 89 = .slice (some ⟨gl, o, none⟩) na q
  | 20, f, _ => b1 = true → f 90 = .int .i64 (j : Int)
  | 21, f, _ => b1 = true → f 91 = .pointer (some ⟨gl, o + j * 3, none⟩)
  | 22, f, _ => b1 = true → f 92 = .pointer (some ⟨gl, o + j * 3 + 2, none⟩)
  | 23, f, _ => b1 = true → f 93 = .int .i64 z
  | 24, f, _ => b1 = true → f 94 = .bool b2
  | 25, f, _ => f 95 = .bool (b1 && b2)
  | 26, f, _ => f 96 = .pointer (some ⟨g, v, none⟩)
  | 27, _, w => IsBits w g n V2
  | _, _, _ => True
def vals16M : Nat → List Nat
  | 0 => [70]
  | 1 => [71]
  | 2 => [72]
  | 3 => [73]
  | 4 => [74]
  | 5 => [75]
  | 6 => [76]
  | 7 => [77]
  | 8 => [78]
  | 9 => [79]
  | 10 => [80]
  | 11 => [81]
  | 12 => [82]
  | 13 => [83]
  | 14 => [84]
  | 15 => [85]
  | 16 => [86]
  | 17 => [87]
  | 18 => [88]
  | 19 => [89]
  | 20 => [90]
  | 21 => [91]
  | 22 => [92]
  | 23 => [93]
  | 24 => [94]
  | 25 => [95]
  | 26 => [96]
  | 27 => []
  | _ => []
theorem vals16_stab {gc g n gl o na q j v : Nat} {x y z : Int} {b1 b2 : Bool} {V2 : Int → Bool} (jj : Nat) {f f' : Nat → Value} {w w' : World} (h27 : jj = 27 → Below w.heap.size w w') (hf : ∀ t ∈ vals16M jj, f' t = f t) (h : vals16R gc g n gl o na q j v x y z b1 b2 V2 jj f w) : vals16R gc g n gl o na q j v x y z b1 b2 V2 jj f' w' := by
  match jj, hf, h, h27 with
  | 0, hf, h, _ => exact (hf 70 (by decide)).trans h
  | 1, hf, h, _ => exact (hf 71 (by decide)).trans h
  | 2, hf, h, _ => exact (hf 72 (by decide)).trans h
  | 3, hf, h, _ => exact (hf 73 (by decide)).trans h
  | 4, hf, h, _ => exact (hf 74 (by decide)).trans h
  | 5, hf, h, _ => exact (hf 75 (by decide)).trans h
  | 6, hf, h, _ => exact (hf 76 (by decide)).trans h
  | 7, hf, h, _ => exact (hf 77 (by decide)).trans h
  | 8, hf, h, _ => exact (hf 78 (by decide)).trans h
  | 9, hf, h, _ => exact (hf 79 (by decide)).trans h
  | 10, hf, h, _ => exact (hf 80 (by decide)).trans h
  | 11, hf, h, _ => exact (hf 81 (by decide)).trans h
  | 12, hf, h, _ => exact (hf 82 (by decide)).trans h
  | 13, hf, h, _ => exact (hf 83 (by decide)).trans h
  | 14, hf, h, _ => exact (hf 84 (by decide)).trans h
  | 15, hf, h, _ => exact (hf 85 (by decide)).trans h
  | 16, hf, h, _ => exact (hf 86 (by decide)).trans h
  | 17, hf, h, _ => exact fun hb => (hf 87 (by decide)).trans (h hb)
  | 18, hf, h, _ => exact fun hb => (hf 88 (by decide)).trans (h hb)
  | 19, hf, h, _ => exact fun hb => (hf 89 (by decide)).trans (h hb)
  | 20, hf, h, _ => exact fun hb => (hf 90 (by decide)).trans (h hb)
  | 21, hf, h, _ => exact fun hb => (hf 91 (by decide)).trans (h hb)
  | 22, hf, h, _ => exact fun hb => (hf 92 (by decide)).trans (h hb)
  | 23, hf, h, _ => exact fun hb => (hf 93 (by decide)).trans (h hb)
  | 24, hf, h, _ => exact fun hb => (hf 94 (by decide)).trans (h hb)
  | 25, hf, h, _ => exact (hf 95 (by decide)).trans h
  | 26, hf, h, _ => exact (hf 96 (by decide)).trans h
  | 27, hf, h, h27 =>
    exact h.below (h27 rfl)
  | _ + 28, _, _, _ => trivial


set_option maxHeartbeats 16000000 in
set_option maxRecDepth 100000 in
theorem values_any (c : Cir) (s : Places) (b : Int) (w : World) (h : CLies w w.heap.size c s) (hf : CFits c s) (hr : refOk c = true) (_hb0 : 0 ≤ b) (_hb1 : b < 18446744073709551616) :
    Calls Try.prog 17 #[cirV c s, .int .u64 b] w fun e w' => ∃ g, e = .returned (.slice (some ⟨g, 0, none⟩) (c.max.toNat + 1) (c.max.toNat + 1)) ∧ IsBits w' g (c.max.toNat + 1) (evalM (baseU (kbM b) (c.ins ++ c.lats.map Tri.a) (c.ins.length + c.lats.length)) c.ands) ∧ Below w.heap.size w w' := by
  obtain ⟨m, hm⟩ : ∃ m : Nat, c.max = (m : Int) := ⟨c.max.toNat, by
    obtain ⟨hh, -⟩ := ref_parts hr
    unfold refHead at hh
    simp only [Bool.and_eq_true, Bool.not_eq_true', decide_eq_false_iff_not] at hh
    omega⟩
  have hm1 : m ≤ 2048 := by
    obtain ⟨hh, -⟩ := ref_parts hr
    unfold refHead at hh
    simp only [Bool.and_eq_true, Bool.not_eq_true', decide_eq_false_iff_not] at hh
    omega
  obtain ⟨WA, hWA⟩ : ∃ x, w.alloc (.cells #[.int .i64 c.max, .slice s.ai c.ins.length s.ki, .slice s.al c.lats.length s.kl, .slice s.ao c.outs.length s.ko, .slice s.ab c.bads.length s.kb, .slice s.ac c.invs.length s.kc, .slice s.aa c.ands.length s.ka, .slice s.an c.names.length s.kn] 27) = x := ⟨_, rfl⟩
  have bA : Hid (Below w.heap.size w WA) := by unfold Hid; rw [← hWA]; exact (Below.refl _ _).alloc (Nat.le_refl _) _
  have GA : Hid (WA.heap[w.heap.size]? = some (.cells (cirC c s) 27 (0, 0))) := by unfold Hid; rw [← hWA]; exact Array.getElem?_push_size
  obtain ⟨e0, e1, e2, e3, e4, e5, e6, e7⟩ := cells8 GA.out
  rw [hm] at e0 ⊢
  have hmk : ∀ w, (Instr.makeSlice 36 (.int .i64 ((m : Int) + 1)) (.int .i64 ((m : Int) + 1))).run Try.prog w = .ok (.slice (some ⟨w.heap.size, 0, none⟩) (m + 1) (m + 1)) (w.alloc (.cells (madeCells #[.bool false] (m + 1)) 4)) := fun w => run_make_row' (P := Try.prog) 36 4 (.bool false) 1 Try.underlying36 infoBool rfl .i64 .i64 (m + 1) (by omega) (by omega) w
  have HF := Lib.hid hf
  have HR := Lib.hid hr
  have LW : Hid (∀ x, Below w.heap.size w x → CLies x x.heap.size c s) := fun x hx => (h.below hx).more hx.size
  have HM := Lib.hid hm
  clear h hf hr hm
  unfold cirV
  rw [show cirC c s = #[.int .i64 c.max, .slice s.ai c.ins.length s.ki, .slice s.al c.lats.length s.kl, .slice s.ao c.outs.length s.ko, .slice s.ab c.bads.length s.kb, .slice s.ac c.invs.length s.kc, .slice s.aa c.ands.length s.ka, .slice s.an c.names.length s.kn] from rfl]
  go_enter Try.func17, Try.ntmps17
  go_wp2
  clear e0 e1 e2 e3 e4 e5 e6 e7 hWA hmk
  have HZ := Lib.hid (ref_sizes HR.out)
  generalize hwm : WA.alloc (.cells (madeCells #[.bool false] (m + 1)) 4) = wm at *
  have I0 : Hid (IsBits wm WA.heap.size (m + 1) (fun _ => false)) := by unfold Hid; rw [← hwm]; exact bits_made
  have BM : Hid (Below w.heap.size w wm) := by unfold Hid; rw [← hwm]; exact bA.out.alloc bA.out.size _
  have GM : Hid (∀ x, Below WA.heap.size WA x → x.heap[w.heap.size]? = some (.cells (cirC c s) 27 (0, 0))) := fun x hx => (hx.block _ (lt_of_block GA.out)).trans GA.out
  have BAM : Hid (Below WA.heap.size WA wm) := by unfold Hid; rw [← hwm]; exact (Below.refl _ _).alloc (Nat.le_refl _) _
  clear hwm
  go_loopw [6, 7] (fun i k wr => ∃ j : Nat, j ≤ c.ins.length ∧ i = .int .i64 j ∧ k = .int .i64 j ∧ IsBits wr WA.heap.size (m + 1) (baseU (kbM b) (c.ins ++ c.lats.map Tri.a) j) ∧ Below WA.heap.size WA wr) (fun i _ _ => c.ins.length - (intOf i).toNat)
  case atStart => exact ⟨0, Nat.zero_le _, rfl, rfl, I0.out, BAM.out⟩
  case round =>
    obtain ⟨j, hj, rfl, rfl, hib, hbw⟩ := hrel
    have IB := Lib.hid hib
    have BW := Lib.hid hbw
    clear hib hbw
    have zi : c.ins.length ≤ 64 := HZ.out.1
    obtain ⟨e0, e1, e2, e3, e4, e5, e6, e7⟩ := cells8 (GM.out wr BW.out)
    by_cases hlt : j < c.ins.length
    · obtain ⟨b0, o, hA, -, hc⟩ := LRow.int (LW.out wr (bA.out.trans (BW.out.mono bA.out.size))).ins hlt
      rw [hA] at e1
      have hx := (own_facts HR.out).2 c.ins[j] (by unfold own; simp)
      obtain ⟨v, hv⟩ : ∃ v : Nat, c.ins[j] / 2 = (v : Int) := ⟨(c.ins[j] / 2).toNat, by omega⟩
      have hvm : v < m + 1 := by have := HM.out; omega
      have ht : c.ins[j].tdiv 2 = (v : Int) := by rw [Int.tdiv_eq_ediv_of_nonneg (by omega)]; exact hv
      have hx0 : 0 ≤ c.ins[j] := by omega
      have hx1 : c.ins[j] ≤ 9223372036854775807 := by have := HM.out; omega
      obtain ⟨Z, u, ⟨hZ, pZ, tZ⟩, IZ, FZ⟩ := bits_store IB.out v hvm (kbM b j)
      have IZ2 : Hid (IsBits Z WA.heap.size (m + 1) (baseU (kbM b) (c.ins ++ c.lats.map Tri.a) (j + 1))) := by
        have e : (c.ins ++ c.lats.map Tri.a).getD j 0 / 2 = (v : Int) := by
          rw [List.getD_eq_getElem?_getD, List.getElem?_append_left hlt, List.getElem?_eq_getElem hlt]; exact hv
        unfold Hid baseU
        rw [e]
        exact IZ
      have BZ : Hid (Below WA.heap.size WA Z) := FZ.below BW.out (Nat.le_refl _)
      clear IZ FZ
      unfold kbM at hZ
      generalize c.ins[j] = x at *
      go_wp2
      go_roundw
      case rel => exact ⟨j + 1, by omega, by go_num, by go_num, IZ2.out, BZ.out⟩
      case measure => simp [intOf]; omega
    · obtain rfl : j = c.ins.length := by omega
      obtain ⟨wo, rfl⟩ : ∃ x, x = wr := ⟨_, rfl⟩
      have I1 := Lib.hid (show IsBits wo WA.heap.size (m + 1) (baseU (kbM b) (c.ins ++ c.lats.map Tri.a) (c.ins.length + 0)) from IB.out)
      clear IB
      go_wp2
      clear e0 e1 e2 e3 e4 e5 e6 e7
      go_loopw [6, 8] (fun k i wr => ∃ j : Nat, j ≤ c.lats.length ∧ i = .int .i64 j ∧ k = .int .i64 ((c.ins.length + j : Nat) : Int) ∧ IsBits wr WA.heap.size (m + 1) (baseU (kbM b) (c.ins ++ c.lats.map Tri.a) (c.ins.length + j)) ∧ Below WA.heap.size WA wr) (fun _ i _ => c.lats.length - (intOf i).toNat)
      case atStart => exact ⟨0, Nat.zero_le _, rfl, rfl, I1.out, BW.out⟩
      case round =>
        clear I1
        obtain ⟨j, hj, rfl, rfl, hib, hbw⟩ := hrel
        have IB := Lib.hid hib
        have BV := Lib.hid hbw
        clear hib hbw
        have zl : c.lats.length ≤ 64 := HZ.out.2.1
        obtain ⟨e0, e1, e2, e3, e4, e5, e6, e7⟩ := cells8 (GM.out wr BV.out)
        by_cases hlt : j < c.lats.length
        · obtain ⟨b0, o, hA, -, c0, c1, c2⟩ := LRow.tri (LW.out wr (bA.out.trans (BV.out.mono bA.out.size))).lats hlt
          rw [hA] at e2
          have hx := (own_facts HR.out).2 c.lats[j].a (List.mem_append.2 (.inr (List.mem_append.2 (.inl (List.mem_map_of_mem (List.getElem_mem hlt))))))
          obtain ⟨v, hv⟩ : ∃ v : Nat, c.lats[j].a / 2 = (v : Int) := ⟨(c.lats[j].a / 2).toNat, by omega⟩
          have hvm : v < m + 1 := by have := HM.out; omega
          have ht : c.lats[j].a.tdiv 2 = (v : Int) := by rw [Int.tdiv_eq_ediv_of_nonneg (by omega)]; exact hv
          have hx0 : 0 ≤ c.lats[j].a := by omega
          have hx1 : c.lats[j].a ≤ 9223372036854775807 := by have := HM.out; omega
          obtain ⟨Z, u, ⟨hZ, pZ, tZ⟩, IZ, FZ⟩ := bits_store IB.out v hvm (kbM b (c.ins.length + j))
          have IZ2 : Hid (IsBits Z WA.heap.size (m + 1) (baseU (kbM b) (c.ins ++ c.lats.map Tri.a) (c.ins.length + (j + 1)))) := by
            have e : (c.ins ++ c.lats.map Tri.a).getD (c.ins.length + j) 0 / 2 = (v : Int) := by
              rw [List.getD_eq_getElem?_getD, List.getElem?_append_right (by omega), Nat.add_sub_cancel_left, List.getElem?_map, List.getElem?_eq_getElem hlt]; exact hv
            unfold Hid
            rw [← Nat.add_assoc]
            unfold baseU
            rw [e]
            exact IZ
          have BZ : Hid (Below WA.heap.size WA Z) := FZ.below BV.out (Nat.le_refl _)
          clear IZ FZ
          unfold kbM at hZ
          generalize c.lats[j] = t at *
          obtain ⟨kk, hkk⟩ : ∃ kk : Nat, kk = c.ins.length + j := ⟨_, rfl⟩
          rw [← hkk] at hZ ⊢
          have hkl : kk ≤ 128 := by omega
          have HKK := Lib.hid hkk
          clear hkk
          go_wp2
          go_roundw
          case rel => exact ⟨j + 1, by omega, by go_num, by rw [show c.ins.length + (j + 1) = kk + 1 by have := HKK.out; omega]; go_num, IZ2.out, BZ.out⟩
          case measure => simp [intOf]; omega
        · obtain rfl : j = c.lats.length := by omega
          obtain ⟨wo, rfl⟩ : ∃ x, x = wr := ⟨_, rfl⟩
          obtain ⟨V0, hV0⟩ : ∃ V0, baseU (kbM b) (c.ins ++ c.lats.map Tri.a) (c.ins.length + c.lats.length) = V0 := ⟨_, rfl⟩
          rw [hV0] at IB
          have HV0 := Lib.hid hV0
          clear hV0
          have I2 : Hid (IsBits wo WA.heap.size (m + 1) (evalM V0 (c.ands.take 0))) := IB.out
          clear IB
          go_wp2
          clear e0 e1 e2 e3 e4 e5 e6 e7
          go_loopw [9] (fun i wr => ∃ j : Nat, j ≤ c.ands.length ∧ i = .int .i64 j ∧ IsBits wr WA.heap.size (m + 1) (evalM V0 (c.ands.take j)) ∧ Below WA.heap.size WA wr) (fun i _ => c.ands.length - (intOf i).toNat)
          case atStart => exact ⟨0, Nat.zero_le _, rfl, I2.out, BV.out⟩
          case round =>
            clear I2
            obtain ⟨j, hj, rfl, hib, hbw⟩ := hrel
            have IB0 : Hid (IsBits wr.drew WA.heap.size (m + 1) (evalM V0 (c.ands.take j))) := hib.keep rfl
            have BW0 : Hid (Below WA.heap.size WA wr.drew) := hbw.drew
            have IBE := Lib.hid hib
            have BWE := Lib.hid hbw
            have za : c.ands.length ≤ 4097 := HZ.out.2.2.2.2.2
            obtain ⟨e0, e1, e2, e3, e4, e5, e6, e7⟩ := cells8 (GM.out wr hbw)
            clear hib hbw
            by_cases hlt : j < c.ands.length
            · obtain ⟨b0, o, hA, hb0, c0, c1, c2⟩ := LRow.tri (LW.out w (Below.refl _ _)).ands hlt
              have RW : Hid (∀ x, Below WA.heap.size WA x → x.cell? ⟨b0, o + j * 3, none⟩ = some (.int .i64 c.ands[j].a) ∧ x.cell? ⟨b0, o + j * 3 + 1, none⟩ = some (.int .i64 c.ands[j].b) ∧ x.cell? ⟨b0, o + j * 3 + 2, none⟩ = some (.int .i64 c.ands[j].c)) := fun x hx => by
                have hb := bA.out.trans (hx.mono bA.out.size)
                exact ⟨cell_later hb c0, cell_later hb c1, cell_later hb c2⟩
              have C6 : Hid (∀ x, Below WA.heap.size WA x → x.cell? ⟨w.heap.size, 6, none⟩ = some (.slice (some ⟨b0, o, none⟩) c.ands.length s.ka)) := fun x hx => by rw [← hA]; exact (cells8 (GM.out x hx)).2.2.2.2.2.2.1
              have hx := (own_facts HR.out).2 c.ands[j].a (List.mem_append.2 (.inr (List.mem_append.2 (.inr (List.mem_map_of_mem (List.getElem_mem hlt))))))
              obtain ⟨-, -, k1, k2⟩ := and_at HR.out j hlt
              have hb1 := lit_bound HR.out k1
              have hb2 := lit_bound HR.out k2
              have LB : Hid (0 ≤ c.ands[j].b ∧ c.ands[j].b / 2 < ((m + 1 : Nat) : Int)) := by have := HM.out; unfold Hid; omega
              have LC : Hid (0 ≤ c.ands[j].c ∧ c.ands[j].c / 2 < ((m + 1 : Nat) : Int)) := by have := HM.out; unfold Hid; omega
              obtain ⟨v, hv⟩ : ∃ v : Nat, c.ands[j].a / 2 = (v : Int) := ⟨(c.ands[j].a / 2).toNat, by omega⟩
              have HVM : Hid (v < m + 1) := by have := HM.out; unfold Hid; omega
              have HV : Hid (c.ands[j].a.tdiv 2 = (v : Int)) := by unfold Hid; rw [Int.tdiv_eq_ediv_of_nonneg (by omega)]; exact hv
              have HX : Hid (0 ≤ c.ands[j].a ∧ c.ands[j].a ≤ 9223372036854775807) := by have := HM.out; unfold Hid; omega
              have HE : Hid (setM (evalM V0 (c.ands.take j)) v (bitM (evalM V0 (c.ands.take j)) c.ands[j].b && bitM (evalM V0 (c.ands.take j)) c.ands[j].c) = evalM V0 (c.ands.take (j + 1))) := by
                unfold Hid; rw [List.take_succ_eq_append_getElem hlt, eval_snoc, hv]
              have HJ := Lib.hid hlt
              clear hx k1 k2 hb1 hb2 hv c0 c1 c2 hb0 hA
              generalize c.ands[j] = t at *
              generalize evalM V0 (c.ands.take j) = V at *
              obtain ⟨V9, hV9⟩ : ∃ V9, evalM V0 (c.ands.take (j + 1)) = V9 := ⟨_, rfl⟩
              rw [hV9] at HE
              have HV9 := Lib.hid hV9
              clear hV9
              have BC : Hid (∀ x, (0 ≤ x ∧ x / 2 < ((m + 1 : Nat) : Int)) → ∀ w2, IsBits w2 WA.heap.size (m + 1) V → Calls Try.prog 18 #[.slice (some ⟨WA.heap.size, 0, none⟩) (m + 1) (m + 1), .int .i64 x] w2 fun e w' => e = .returned (.bool (bitM V x)) ∧ ∃ q, w' = w2.drewN q) := fun x hx w2 hw2 => bit_any _ _ V x w2 hw2 (by omega) hx.1 hx.2
              have EO : Hid (∀ args w, (callFunc 18 args).run Try.prog w = .ok (.enter 18 args) w) := enters_of Try.func18 (by kernel_rfl) rfl
              go_wp2
              clear e0 e1 e2 e3 e4 e5 e6 e7
              refine wp_region_guards (by kernel_rfl) (by kernel_rfl) vals16M (by kernel_rfl) (by kernel_rfl)
                (fun d w' => Below WA.heap.size WA w' ∧ (d 27 = false → IsBits w' WA.heap.size (m + 1) V)) (vals16R w.heap.size WA.heap.size (m + 1) b0 o c.ands.length s.ka j v t.a t.b t.c (bitM V t.b) (bitM V t.c) (setM V v (bitM V t.b && bitM V t.c))) ⟨BW0.out, fun _ => IB0.out⟩ (fun jj f f' w w' hb hf h => vals16_stab jj (fun _ => hb) hf h) ?_ ?_ ?_
              · intro i oo d a' w' ho hw hok hD
                match i, ho, hD, hw with
                | 0, ho, hD, hw =>
                  obtain rfl := Option.some.inj ho
                  exact Bool.noConfusion (show true = false from hw)
                | 1, ho, hD, hw =>
                  obtain rfl := Option.some.inj ho
                  exact Bool.noConfusion (show true = false from hw)
                | 2, ho, hD, hw =>
                  obtain rfl := Option.some.inj ho
                  exact Bool.noConfusion (show true = false from hw)
                | 3, ho, hD, hw =>
                  obtain rfl := Option.some.inj ho
                  exact Bool.noConfusion (show true = false from hw)
                | 4, ho, hD, hw =>
                  obtain rfl := Option.some.inj ho
                  exact Bool.noConfusion (show true = false from hw)
                | 5, ho, hD, hw =>
                  obtain rfl := Option.some.inj ho
                  exact Bool.noConfusion (show true = false from hw)
                | 6, ho, hD, hw =>
                  obtain rfl := Option.some.inj ho
                  exact Bool.noConfusion (show true = false from hw)
                | 7, ho, hD, hw =>
                  obtain rfl := Option.some.inj ho
                  exact Bool.noConfusion (show true = false from hw)
                | 8, ho, hD, hw =>
                  obtain rfl := Option.some.inj ho
                  exact Bool.noConfusion (show true = false from hw)
                | 9, ho, hD, hw =>
                  obtain rfl := Option.some.inj ho
                  exact Bool.noConfusion (show true = false from hw)
                | 10, ho, hD, hw =>
                  obtain rfl := Option.some.inj ho
                  exact Bool.noConfusion (show true = false from hw)
                | 11, ho, hD, hw =>
                  obtain rfl := Option.some.inj ho
                  exact Bool.noConfusion (show true = false from hw)
                | 12, ho, hD, hw =>
                  obtain rfl := Option.some.inj ho
                  exact Bool.noConfusion (show true = false from hw)
                | 13, ho, hD, hw =>
                  obtain rfl := Option.some.inj ho
                  exact Bool.noConfusion (show true = false from hw)
                | 14, ho, hD, hw =>
                  obtain rfl := Option.some.inj ho
                  exact Bool.noConfusion (show true = false from hw)
                | 15, ho, hD, hw =>
                  obtain rfl := Option.some.inj ho
                  exact Bool.noConfusion (show true = false from hw)
                | 16, ho, hD, hw =>
                  obtain rfl := Option.some.inj ho
                  exact Bool.noConfusion (show true = false from hw)
                | 17, ho, hD, hw =>
                  obtain rfl := Option.some.inj ho
                  have hy : a'.tmps.getD 86 undef = .bool (bitM V t.b) := hD 16 (by kernel_rfl)
                  rw [wanted_of (t := 86) rfl rfl hy] at hw
                  exact ⟨⟨hok.1, fun h => hok.2 (by simp only [Bool.or_eq_false_iff] at h; exact h.2)⟩, fun f _ _ hb => by rw [hb] at hw; cases hw⟩
                | 18, ho, hD, hw =>
                  obtain rfl := Option.some.inj ho
                  have hy : a'.tmps.getD 86 undef = .bool (bitM V t.b) := hD 16 (by kernel_rfl)
                  rw [wanted_of (t := 86) rfl rfl hy] at hw
                  exact ⟨⟨hok.1, fun h => hok.2 (by simp only [Bool.or_eq_false_iff] at h; exact h.2)⟩, fun f _ _ hb => by rw [hb] at hw; cases hw⟩
                | 19, ho, hD, hw =>
                  obtain rfl := Option.some.inj ho
                  have hy : a'.tmps.getD 86 undef = .bool (bitM V t.b) := hD 16 (by kernel_rfl)
                  rw [wanted_of (t := 86) rfl rfl hy] at hw
                  exact ⟨⟨hok.1, fun h => hok.2 (by simp only [Bool.or_eq_false_iff] at h; exact h.2)⟩, fun f _ _ hb => by rw [hb] at hw; cases hw⟩
                | 20, ho, hD, hw =>
                  obtain rfl := Option.some.inj ho
                  have hy : a'.tmps.getD 86 undef = .bool (bitM V t.b) := hD 16 (by kernel_rfl)
                  rw [wanted_of (t := 86) rfl rfl hy] at hw
                  exact ⟨⟨hok.1, fun h => hok.2 (by simp only [Bool.or_eq_false_iff] at h; exact h.2)⟩, fun f _ _ hb => by rw [hb] at hw; cases hw⟩
                | 21, ho, hD, hw =>
                  obtain rfl := Option.some.inj ho
                  have hy : a'.tmps.getD 86 undef = .bool (bitM V t.b) := hD 16 (by kernel_rfl)
                  rw [wanted_of (t := 86) rfl rfl hy] at hw
                  exact ⟨⟨hok.1, fun h => hok.2 (by simp only [Bool.or_eq_false_iff] at h; exact h.2)⟩, fun f _ _ hb => by rw [hb] at hw; cases hw⟩
                | 22, ho, hD, hw =>
                  obtain rfl := Option.some.inj ho
                  have hy : a'.tmps.getD 86 undef = .bool (bitM V t.b) := hD 16 (by kernel_rfl)
                  rw [wanted_of (t := 86) rfl rfl hy] at hw
                  exact ⟨⟨hok.1, fun h => hok.2 (by simp only [Bool.or_eq_false_iff] at h; exact h.2)⟩, fun f _ _ hb => by rw [hb] at hw; cases hw⟩
                | 23, ho, hD, hw =>
                  obtain rfl := Option.some.inj ho
                  have hy : a'.tmps.getD 86 undef = .bool (bitM V t.b) := hD 16 (by kernel_rfl)
                  rw [wanted_of (t := 86) rfl rfl hy] at hw
                  exact ⟨⟨hok.1, fun h => hok.2 (by simp only [Bool.or_eq_false_iff] at h; exact h.2)⟩, fun f _ _ hb => by rw [hb] at hw; cases hw⟩
                | 24, ho, hD, hw =>
                  obtain rfl := Option.some.inj ho
                  have hy : a'.tmps.getD 86 undef = .bool (bitM V t.b) := hD 16 (by kernel_rfl)
                  rw [wanted_of (t := 86) rfl rfl hy] at hw
                  exact ⟨⟨hok.1, fun h => hok.2 (by simp only [Bool.or_eq_false_iff] at h; exact h.2)⟩, fun f _ _ hb => by rw [hb] at hw; cases hw⟩
                | 25, ho, hD, hw =>
                  obtain rfl := Option.some.inj ho
                  exact Bool.noConfusion (show true = false from hw)
                | 26, ho, hD, hw =>
                  obtain rfl := Option.some.inj ho
                  exact Bool.noConfusion (show true = false from hw)
                | 27, ho, hD, hw =>
                  obtain rfl := Option.some.inj ho
                  exact Bool.noConfusion (show true = false from hw)
                | i + 28, ho, _, _ => exact absurd ho (by simp)
              · intro i oo d a' w' ho hwt hd hun hdf hok hD K hK hK0
                match i, ho, hd, hD, hK, hK0, hun, hwt with
                | 0, ho, hd, hD, hK, hK0, hun, hwt =>
                  have e := (congrArg Oper.op (Option.some.inj ho)).symm
                  obtain rfl := Option.some.inj ho
                  exact wp_val (op_move a' w' 5 _ e) (hK _ _ (Below.refl _ _) ⟨hok.1, fun h => hok.2 (by simp only [Bool.or_eq_false_iff] at h; exact h.2)⟩ (fun f h1 _ => (h1 _ rfl).trans (hun 5 (by kernel_rfl))))
                | 1, ho, hd, hD, hK, hK0, hun, hwt =>
                  have e := (congrArg Oper.op (Option.some.inj ho)).symm
                  obtain rfl := Option.some.inj ho
                  exact wp_val (op_field_api_Circuit_6 a' w' _ 2 (hun 2 (by kernel_rfl)) _ e) (hK _ _ (Below.refl _ _) ⟨hok.1, fun h => hok.2 (by simp only [Bool.or_eq_false_iff] at h; exact h.2)⟩ (fun f h1 _ => h1 _ rfl))
                | 2, ho, hd, hD, hK, hK0, hun, hwt =>
                  have e := (congrArg Oper.op (Option.some.inj ho)).symm
                  obtain rfl := Option.some.inj ho
                  exact wp_val (op_load_Lapi_And a' w' _ 71 _ (hD 1 (by kernel_rfl)) (C6.out _ hok.1) _ e) (hK _ _ (Below.refl _ _) ⟨hok.1, fun h => hok.2 (by simp only [Bool.or_eq_false_iff] at h; exact h.2)⟩ (fun f h1 _ => h1 _ rfl))
                | 3, ho, hd, hD, hK, hK0, hun, hwt =>
                  have e := (congrArg Oper.op (Option.some.inj ho)).symm
                  obtain rfl := Option.some.inj ho
                  exact wp_val (op_move a' w' 9 _ e) (hK _ _ (Below.refl _ _) ⟨hok.1, fun h => hok.2 (by simp only [Bool.or_eq_false_iff] at h; exact h.2)⟩ (fun f h1 _ => (h1 _ rfl).trans (hun 9 (by kernel_rfl))))
                | 4, ho, hd, hD, hK, hK0, hun, hwt =>
                  have e := (congrArg Oper.op (Option.some.inj ho)).symm
                  obtain rfl := Option.some.inj ho
                  exact wp_val (op_index_and_at a' w' _ _ _ _ j 72 73 (hD 2 (by kernel_rfl)) (hD 3 (by kernel_rfl)) HJ.out _ e) (hK _ _ (Below.refl _ _) ⟨hok.1, fun h => hok.2 (by simp only [Bool.or_eq_false_iff] at h; exact h.2)⟩ (fun f h1 _ => h1 _ rfl))
                | 5, ho, hd, hD, hK, hK0, hun, hwt =>
                  have e := (congrArg Oper.op (Option.some.inj ho)).symm
                  obtain rfl := Option.some.inj ho
                  exact wp_val (op_field_and0 a' w' _ _ 74 (hD 4 (by kernel_rfl)) _ e) (hK _ _ (Below.refl _ _) ⟨hok.1, fun h => hok.2 (by simp only [Bool.or_eq_false_iff] at h; exact h.2)⟩ (fun f h1 _ => h1 _ rfl))
                | 6, ho, hd, hD, hK, hK0, hun, hwt =>
                  have e := (congrArg Oper.op (Option.some.inj ho)).symm
                  obtain rfl := Option.some.inj ho
                  exact wp_val (op_load_int a' w' _ 75 _ (hD 5 (by kernel_rfl)) (RW.out _ hok.1).1 _ e) (hK _ _ (Below.refl _ _) ⟨hok.1, fun h => hok.2 (by simp only [Bool.or_eq_false_iff] at h; exact h.2)⟩ (fun f h1 _ => h1 _ rfl))
                | 7, ho, hd, hD, hK, hK0, hun, hwt =>
                  have e := (congrArg Oper.op (Option.some.inj ho)).symm
                  obtain rfl := Option.some.inj ho
                  exact wp_val (op_quo_two a' w' _ v 76 (hD 6 (by kernel_rfl)) HV.out HX.out.1 HX.out.2 _ e) (hK _ _ (Below.refl _ _) ⟨hok.1, fun h => hok.2 (by simp only [Bool.or_eq_false_iff] at h; exact h.2)⟩ (fun f h1 _ => h1 _ rfl))
                | 8, ho, hd, hD, hK, hK0, hun, hwt =>
                  have e := (congrArg Oper.op (Option.some.inj ho)).symm
                  obtain rfl := Option.some.inj ho
                  exact wp_val (op_move a' w' 5 _ e) (hK _ _ (Below.refl _ _) ⟨hok.1, fun h => hok.2 (by simp only [Bool.or_eq_false_iff] at h; exact h.2)⟩ (fun f h1 _ => (h1 _ rfl).trans (hun 5 (by kernel_rfl))))
                | 9, ho, hd, hD, hK, hK0, hun, hwt =>
                  have e := (congrArg Oper.op (Option.some.inj ho)).symm
                  obtain rfl := Option.some.inj ho
                  exact wp_val (op_field_api_Circuit_6 a' w' _ 2 (hun 2 (by kernel_rfl)) _ e) (hK _ _ (Below.refl _ _) ⟨hok.1, fun h => hok.2 (by simp only [Bool.or_eq_false_iff] at h; exact h.2)⟩ (fun f h1 _ => h1 _ rfl))
                | 10, ho, hd, hD, hK, hK0, hun, hwt =>
                  have e := (congrArg Oper.op (Option.some.inj ho)).symm
                  obtain rfl := Option.some.inj ho
                  exact wp_val (op_load_Lapi_And a' w' _ 79 _ (hD 9 (by kernel_rfl)) (C6.out _ hok.1) _ e) (hK _ _ (Below.refl _ _) ⟨hok.1, fun h => hok.2 (by simp only [Bool.or_eq_false_iff] at h; exact h.2)⟩ (fun f h1 _ => h1 _ rfl))
                | 11, ho, hd, hD, hK, hK0, hun, hwt =>
                  have e := (congrArg Oper.op (Option.some.inj ho)).symm
                  obtain rfl := Option.some.inj ho
                  exact wp_val (op_move a' w' 9 _ e) (hK _ _ (Below.refl _ _) ⟨hok.1, fun h => hok.2 (by simp only [Bool.or_eq_false_iff] at h; exact h.2)⟩ (fun f h1 _ => (h1 _ rfl).trans (hun 9 (by kernel_rfl))))
                | 12, ho, hd, hD, hK, hK0, hun, hwt =>
                  have e := (congrArg Oper.op (Option.some.inj ho)).symm
                  obtain rfl := Option.some.inj ho
                  exact wp_val (op_index_and_at a' w' _ _ _ _ j 80 81 (hD 10 (by kernel_rfl)) (hD 11 (by kernel_rfl)) HJ.out _ e) (hK _ _ (Below.refl _ _) ⟨hok.1, fun h => hok.2 (by simp only [Bool.or_eq_false_iff] at h; exact h.2)⟩ (fun f h1 _ => h1 _ rfl))
                | 13, ho, hd, hD, hK, hK0, hun, hwt =>
                  have e := (congrArg Oper.op (Option.some.inj ho)).symm
                  obtain rfl := Option.some.inj ho
                  exact wp_val (op_field_and1 a' w' _ _ 82 (hD 12 (by kernel_rfl)) _ e) (hK _ _ (Below.refl _ _) ⟨hok.1, fun h => hok.2 (by simp only [Bool.or_eq_false_iff] at h; exact h.2)⟩ (fun f h1 _ => h1 _ rfl))
                | 14, ho, hd, hD, hK, hK0, hun, hwt =>
                  have e := (congrArg Oper.op (Option.some.inj ho)).symm
                  obtain rfl := Option.some.inj ho
                  exact wp_val (op_load_int a' w' _ 83 _ (hD 13 (by kernel_rfl)) (RW.out _ hok.1).2.1 _ e) (hK _ _ (Below.refl _ _) ⟨hok.1, fun h => hok.2 (by simp only [Bool.or_eq_false_iff] at h; exact h.2)⟩ (fun f h1 _ => h1 _ rfl))
                | 15, ho, hd, hD, hK, hK0, hun, hwt =>
                  have e := (congrArg Oper.op (Option.some.inj ho)).symm
                  obtain rfl := Option.some.inj ho
                  have hbt := hok.2 (hd 27 (by kernel_rfl))
                  refine wp_enter (op_call2s a' w' _ 78 84 _ _ EO.out _ e) ?_
                  rw [show a'.tmps.getD 78 undef = .slice (some ⟨WA.heap.size, 0, none⟩) (m + 1) (m + 1) from hD 8 (by kernel_rfl), show a'.tmps.getD 84 undef = .int .i64 t.b from hD 14 (by kernel_rfl)]
                  refine (BC.out t.b (LB.out) _ hbt).mono ?_
                  rintro e w'' ⟨rfl, q, rfl⟩
                  exact .inl ⟨_, rfl, hK _ _ (below_drewN _ _) ⟨hok.1.trans ((below_drewN _ _).mono hok.1.size), fun _ => hbt.keep rfl⟩ (fun f h1 _ => h1 _ rfl)⟩
                | 16, ho, hd, hD, hK, hK0, hun, hwt =>
                  have e := (congrArg Oper.op (Option.some.inj ho)).symm
                  obtain rfl := Option.some.inj ho
                  exact wp_val (op_move a' w' 85 _ e) (hK _ _ (Below.refl _ _) ⟨hok.1, fun h => hok.2 (by simp only [Bool.or_eq_false_iff] at h; exact h.2)⟩ (fun f h1 _ => (h1 _ rfl).trans (hD 15 (by kernel_rfl))))
                | 17, ho, hd, hD, hK, hK0, hun, hwt =>
                  have e := (congrArg Oper.op (Option.some.inj ho)).symm
                  obtain rfl := Option.some.inj ho
                  have hy : a'.tmps.getD 86 undef = .bool (bitM V t.b) := hD 16 (by kernel_rfl)
                  have hb : (bitM V t.b) = true := by
                    rw [wanted_of (t := 86) rfl rfl hy] at hwt
                    exact eq_of_beq hwt
                  exact wp_val (op_move a' w' 5 _ e) (hK _ _ (Below.refl _ _) ⟨hok.1, fun h => hok.2 (by simp only [Bool.or_eq_false_iff] at h; exact h.2)⟩ (fun f h1 _ _ => (h1 _ rfl).trans (hun 5 (by kernel_rfl))))
                | 18, ho, hd, hD, hK, hK0, hun, hwt =>
                  have e := (congrArg Oper.op (Option.some.inj ho)).symm
                  obtain rfl := Option.some.inj ho
                  have hy : a'.tmps.getD 86 undef = .bool (bitM V t.b) := hD 16 (by kernel_rfl)
                  have hb : (bitM V t.b) = true := by
                    rw [wanted_of (t := 86) rfl rfl hy] at hwt
                    exact eq_of_beq hwt
                  exact wp_val (op_field_api_Circuit_6 a' w' _ 2 (hun 2 (by kernel_rfl)) _ e) (hK _ _ (Below.refl _ _) ⟨hok.1, fun h => hok.2 (by simp only [Bool.or_eq_false_iff] at h; exact h.2)⟩ (fun f h1 _ _ => h1 _ rfl))
                | 19, ho, hd, hD, hK, hK0, hun, hwt =>
                  have e := (congrArg Oper.op (Option.some.inj ho)).symm
                  obtain rfl := Option.some.inj ho
                  have hy : a'.tmps.getD 86 undef = .bool (bitM V t.b) := hD 16 (by kernel_rfl)
                  have hb : (bitM V t.b) = true := by
                    rw [wanted_of (t := 86) rfl rfl hy] at hwt
                    exact eq_of_beq hwt
                  exact wp_val (op_load_Lapi_And a' w' _ 88 _ (hD 18 (by kernel_rfl) hb) (C6.out _ hok.1) _ e) (hK _ _ (Below.refl _ _) ⟨hok.1, fun h => hok.2 (by simp only [Bool.or_eq_false_iff] at h; exact h.2)⟩ (fun f h1 _ _ => h1 _ rfl))
                | 20, ho, hd, hD, hK, hK0, hun, hwt =>
                  have e := (congrArg Oper.op (Option.some.inj ho)).symm
                  obtain rfl := Option.some.inj ho
                  have hy : a'.tmps.getD 86 undef = .bool (bitM V t.b) := hD 16 (by kernel_rfl)
                  have hb : (bitM V t.b) = true := by
                    rw [wanted_of (t := 86) rfl rfl hy] at hwt
                    exact eq_of_beq hwt
                  exact wp_val (op_move a' w' 9 _ e) (hK _ _ (Below.refl _ _) ⟨hok.1, fun h => hok.2 (by simp only [Bool.or_eq_false_iff] at h; exact h.2)⟩ (fun f h1 _ _ => (h1 _ rfl).trans (hun 9 (by kernel_rfl))))
                | 21, ho, hd, hD, hK, hK0, hun, hwt =>
                  have e := (congrArg Oper.op (Option.some.inj ho)).symm
                  obtain rfl := Option.some.inj ho
                  have hy : a'.tmps.getD 86 undef = .bool (bitM V t.b) := hD 16 (by kernel_rfl)
                  have hb : (bitM V t.b) = true := by
                    rw [wanted_of (t := 86) rfl rfl hy] at hwt
                    exact eq_of_beq hwt
                  exact wp_val (op_index_and_at a' w' _ _ _ _ j 89 90 (hD 19 (by kernel_rfl) hb) (hD 20 (by kernel_rfl) hb) HJ.out _ e) (hK _ _ (Below.refl _ _) ⟨hok.1, fun h => hok.2 (by simp only [Bool.or_eq_false_iff] at h; exact h.2)⟩ (fun f h1 _ _ => h1 _ rfl))
                | 22, ho, hd, hD, hK, hK0, hun, hwt =>
                  have e := (congrArg Oper.op (Option.some.inj ho)).symm
                  obtain rfl := Option.some.inj ho
                  have hy : a'.tmps.getD 86 undef = .bool (bitM V t.b) := hD 16 (by kernel_rfl)
                  have hb : (bitM V t.b) = true := by
                    rw [wanted_of (t := 86) rfl rfl hy] at hwt
                    exact eq_of_beq hwt
                  exact wp_val (op_field_and2 a' w' _ _ 91 (hD 21 (by kernel_rfl) hb) _ e) (hK _ _ (Below.refl _ _) ⟨hok.1, fun h => hok.2 (by simp only [Bool.or_eq_false_iff] at h; exact h.2)⟩ (fun f h1 _ _ => h1 _ rfl))
                | 23, ho, hd, hD, hK, hK0, hun, hwt =>
                  have e := (congrArg Oper.op (Option.some.inj ho)).symm
                  obtain rfl := Option.some.inj ho
                  have hy : a'.tmps.getD 86 undef = .bool (bitM V t.b) := hD 16 (by kernel_rfl)
                  have hb : (bitM V t.b) = true := by
                    rw [wanted_of (t := 86) rfl rfl hy] at hwt
                    exact eq_of_beq hwt
                  exact wp_val (op_load_int a' w' _ 92 _ (hD 22 (by kernel_rfl) hb) (RW.out _ hok.1).2.2 _ e) (hK _ _ (Below.refl _ _) ⟨hok.1, fun h => hok.2 (by simp only [Bool.or_eq_false_iff] at h; exact h.2)⟩ (fun f h1 _ _ => h1 _ rfl))
                | 24, ho, hd, hD, hK, hK0, hun, hwt =>
                  have e := (congrArg Oper.op (Option.some.inj ho)).symm
                  obtain rfl := Option.some.inj ho
                  have hy : a'.tmps.getD 86 undef = .bool (bitM V t.b) := hD 16 (by kernel_rfl)
                  have hb : (bitM V t.b) = true := by
                    rw [wanted_of (t := 86) rfl rfl hy] at hwt
                    exact eq_of_beq hwt
                  have hbt := hok.2 (hd 27 (by kernel_rfl))
                  refine wp_enter (op_call2s a' w' _ 87 93 _ _ EO.out _ e) ?_
                  rw [show a'.tmps.getD 87 undef = .slice (some ⟨WA.heap.size, 0, none⟩) (m + 1) (m + 1) from hD 17 (by kernel_rfl) hb, show a'.tmps.getD 93 undef = .int .i64 t.c from hD 23 (by kernel_rfl) hb]
                  refine (BC.out t.c (LC.out) _ hbt).mono ?_
                  rintro e w'' ⟨rfl, q, rfl⟩
                  exact .inl ⟨_, rfl, hK _ _ (below_drewN _ _) ⟨hok.1.trans ((below_drewN _ _).mono hok.1.size), fun _ => hbt.keep rfl⟩ (fun f h1 _ _ => h1 _ rfl)⟩
                | 25, ho, hd, hD, hK, hK0, hun, hwt =>
                  have e := (congrArg Oper.op (Option.some.inj ho)).symm
                  obtain rfl := Option.some.inj ho
                  exact wp_val (op_pick_and a' w' _ _ 86 94 (hD 16 (by kernel_rfl)) (fun hb => hD 24 (by kernel_rfl) hb) _ e) (hK _ _ (Below.refl _ _) ⟨hok.1, fun h => hok.2 (by simp only [Bool.or_eq_false_iff] at h; exact h.2)⟩ (fun f h1 _ => h1 _ rfl))
                | 26, ho, hd, hD, hK, hK0, hun, hwt =>
                  have e := (congrArg Oper.op (Option.some.inj ho)).symm
                  obtain rfl := Option.some.inj ho
                  exact wp_val (op_index_bits a' w' _ _ v 70 77 (hD 0 (by kernel_rfl)) (hD 7 (by kernel_rfl)) HVM.out _ e) (hK _ _ (Below.refl _ _) ⟨hok.1, fun h => hok.2 (by simp only [Bool.or_eq_false_iff] at h; exact h.2)⟩ (fun f h1 _ => h1 _ rfl))
                | 27, ho, hd, hD, hK, hK0, hun, hwt =>
                  have e := (congrArg Oper.op (Option.some.inj ho)).symm
                  obtain rfl := Option.some.inj ho
                  have hbt := hok.2 (hd 27 (by kernel_rfl))
                  obtain ⟨Z, u, ⟨hZ, pZ, tZ⟩, IZ, FZ⟩ := bits_store hbt v HVM.out (bitM V t.b && bitM V t.c)
                  have hr := op_store_bit a' w' _ _ _ _ 96 95 (hD 26 (by kernel_rfl)) (hD 25 (by kernel_rfl)) pZ tZ _ e
                  rw [hZ] at hr
                  exact wp_skip' hr (hK0 _ _ ⟨FZ.below hok.1 (Nat.le_refl _), fun h => by simp at h⟩ (fun f h1 h2 => IZ) (fun j f hj hf hq => vals16_stab j (fun e2 => absurd e2 hj) hf hq))
                | i + 28, ho, _, _, _, _, _, _ => exact absurd ho (by simp)
              · intro a' w3 hsz hdf hkt hok hR
                have HF3 := frame_sets [70, 71, 72, 73, 74, 75, 76, 77, 78, 79, 80, 81, 82, 83, 84, 85, 86, 87, 88, 89, 90, 91, 92, 93, 94, 95, 96] (by kernel_rfl) hsz hkt
                obtain ⟨d, hok⟩ := hok
                have IZ : Hid (IsBits w3 WA.heap.size (m + 1) V9) := by
                  have h := hR 27 (by decide)
                  unfold Hid
                  rw [← HE.out]
                  exact h
                have BZ : Hid (Below WA.heap.size WA w3) := hok.1
                obtain ⟨tm, df⟩ := a'
                obtain rfl : df = _ := hdf
                simp only [List.foldl_cons, List.foldl_nil] at HF3
                clear hkt hR hsz
                generalize tm.getD 70 undef = y70 at HF3
                generalize tm.getD 71 undef = y71 at HF3
                generalize tm.getD 72 undef = y72 at HF3
                generalize tm.getD 73 undef = y73 at HF3
                generalize tm.getD 74 undef = y74 at HF3
                generalize tm.getD 75 undef = y75 at HF3
                generalize tm.getD 76 undef = y76 at HF3
                generalize tm.getD 77 undef = y77 at HF3
                generalize tm.getD 78 undef = y78 at HF3
                generalize tm.getD 79 undef = y79 at HF3
                generalize tm.getD 80 undef = y80 at HF3
                generalize tm.getD 81 undef = y81 at HF3
                generalize tm.getD 82 undef = y82 at HF3
                generalize tm.getD 83 undef = y83 at HF3
                generalize tm.getD 84 undef = y84 at HF3
                generalize tm.getD 85 undef = y85 at HF3
                generalize tm.getD 86 undef = y86 at HF3
                generalize tm.getD 87 undef = y87 at HF3
                generalize tm.getD 88 undef = y88 at HF3
                generalize tm.getD 89 undef = y89 at HF3
                generalize tm.getD 90 undef = y90 at HF3
                generalize tm.getD 91 undef = y91 at HF3
                generalize tm.getD 92 undef = y92 at HF3
                generalize tm.getD 93 undef = y93 at HF3
                generalize tm.getD 94 undef = y94 at HF3
                generalize tm.getD 95 undef = y95 at HF3
                generalize tm.getD 96 undef = y96 at HF3
                simp only [List.setIfInBounds_toArray, List.set_cons_succ, List.set_cons_zero] at HF3
                subst HF3
                clear hok RW C6 BC EO HE LB LC HV HX HVM IB0 BW0 IBE BWE
                go_wp2
                go_roundw
                case rel => exact ⟨j + 1, by omega, by go_num, by rw [HV9.out]; exact IZ.out, BZ.out⟩
                case measure => simp [intOf]; omega
            · obtain rfl : j = c.ands.length := by omega
              rw [List.take_length, ← HV0.out] at IBE
              have BF : Hid (Below w.heap.size w wr) := bA.out.trans (BWE.out.mono bA.out.size)
              go_wp2
              go_ret
              exact ⟨_, rfl, IBE.out, BF.out⟩
end Go.Proofs.Ytbgcoeejmnejdaa.Str
