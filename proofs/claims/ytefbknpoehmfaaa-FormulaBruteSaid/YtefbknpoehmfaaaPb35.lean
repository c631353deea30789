/- What Brute is made of: the bits of a clause, the first bit that is not set. Conditions: at most 14 variables; a row of at most 2^20 bits. -/
import Derived.Test.YtefbknpoehmfaaaPb34
import Derived.Test.YtefbknpoehmfaaaPb16
import Derived.Test.YtefbknpoehmfaaaPb24
import Derived.Test.YtefbknpoehmfaaaPb23
namespace Go.Proofs.Ytefbknpoehmfaaa.For
open Go.ChangeShapes Go.WideShapes Go.ChangeAt Go.RowKit Go.Maps Circ Cw Cla Rep

theorem nat64 (a : Nat) (h : a < 4611686018427387904) : (BitVec.ofInt 64 (a : Int)).toNat = a := by
  rw [BitVec.ofInt_natCast, BitVec.toNat_ofNat]; exact Nat.mod_eq_of_lt (by omega)
theorem bits_and64 (a b : Nat) (ha : a < 4611686018427387904) (hb : b < 4611686018427387904) : bits .and .i64 (a : Int) (b : Int) = ((a &&& b : Nat) : Int) := by
  have hx : a &&& b ≤ a := Nat.and_le_left
  show IntKind.i64.wrap ((BitVec.ofInt 64 (a : Int) &&& BitVec.ofInt 64 (b : Int)).toNat : Int) = _
  rw [BitVec.toNat_and, nat64 a ha, nat64 b hb]
  exact IntWalk.i64_in _ (by omega)
theorem bits_or64 (a b : Nat) (ha : a < 4611686018427387904) (hb : b < 4611686018427387904) : bits .or .i64 (a : Int) (b : Int) = ((a ||| b : Nat) : Int) := by
  have hx : a ||| b < 2 ^ 62 := Nat.or_lt_two_pow (by omega) (by omega)
  show IntKind.i64.wrap ((BitVec.ofInt 64 (a : Int) ||| BitVec.ofInt 64 (b : Int)).toNat : Int) = _
  rw [BitVec.toNat_or, nat64 a ha, nat64 b hb]
  exact IntWalk.i64_in _ (by omega)
theorem bits_rest64 (V a b : Nat) (hV : V ≤ 14) (hb : a ||| b < 4611686018427387904) : bits .andNot .i64 ((2 ^ V - 1 : Nat) : Int) ((a ||| b : Nat) : Int) = ((othersM V a b : Nat) : Int) := by
  have hp : 2 ^ V ≤ 16384 := Nat.le_trans (Nat.pow_le_pow_right (by decide) hV) (by decide)
  have hle : othersM V a b ≤ 2 ^ V - 1 := Nat.and_le_left
  show IntKind.i64.wrap ((BitVec.ofInt 64 ((2 ^ V - 1 : Nat) : Int) &&& ~~~ BitVec.ofInt 64 ((a ||| b : Nat) : Int)).toNat : Int) = _
  have e : (BitVec.ofInt 64 ((2 ^ V - 1 : Nat) : Int) &&& ~~~ BitVec.ofInt 64 ((a ||| b : Nat) : Int)).toNat = othersM V a b := by
    rw [BitVec.toNat_and, BitVec.toNat_not, nat64 _ (by omega), nat64 _ hb]
    apply Nat.eq_of_testBit_eq
    intro i
    rw [others_test, Nat.testBit_and, Nat.testBit_two_pow_sub_one, show (2 ^ 64 - 1 - (a ||| b) : Nat) = 2 ^ 64 - ((a ||| b) + 1) by omega, Nat.testBit_two_pow_sub_succ (by omega), Nat.testBit_or]
    by_cases h : i < V
    · rw [decide_eq_true h, decide_eq_true (show i < 64 by omega)]; simp
    · rw [decide_eq_false h]; simp
  rw [e]
  exact IntWalk.i64_in _ (by omega)
theorem shl_one (d : Nat) (hd : d ≤ 14) : IntKind.i64.wrap (1 * 2 ^ d) = ((1 <<< d : Nat) : Int) := by
  have hp : 2 ^ d ≤ 16384 := Nat.le_trans (Nat.pow_le_pow_right (by decide) hd) (by decide)
  rw [Nat.one_shiftLeft, Int.one_mul]
  have : ((2 ^ d : Nat) : Int) = (2 : Int) ^ d := by simp
  rw [← this]
  clear this
  generalize 2 ^ d = p at *
  exact IntWalk.i64_in _ (by omega)
theorem is_snoc (V : Nat) (l : List Int) (k : Nat) (hk : k < l.length) : isB2 V (l.take (k + 1)) = if 0 < l[k] then isB2 V (l.take k) ||| bitV V l[k] else isB2 V (l.take k) := by
  unfold isB2
  rw [List.take_succ_eq_append_getElem hk, List.foldl_append]; rfl
theorem not_snoc (V : Nat) (l : List Int) (k : Nat) (hk : k < l.length) : notB V (l.take (k + 1)) = if 0 < l[k] then notB V (l.take k) else notB V (l.take k) ||| bitV V l[k] := by
  unfold notB
  rw [List.take_succ_eq_append_getElem hk, List.foldl_append]; rfl
theorem bit_lt (V : Nat) (hV : V ≤ 14) (x : Int) (hx : litN V x) : bitV V x < 2 ^ 14 := by
  unfold litN at hx
  unfold bitV
  rw [Nat.one_shiftLeft]
  exact Nat.pow_lt_pow_right (by decide) (by omega)
theorem is_lt (V : Nat) (hV : V ≤ 14) : ∀ (l : List Int) (a : Nat), a < 2 ^ 14 → (∀ x ∈ l, litN V x) → l.foldl (fun a x => if 0 < x then a ||| bitV V x else a) a < 2 ^ 14
  | [], a, ha, _ => ha
  | x :: l, a, ha, h => by
    rw [List.foldl_cons]
    refine is_lt V hV l _ ?_ (fun y hy => h y (List.mem_cons_of_mem _ hy))
    split
    · exact Nat.or_lt_two_pow ha (bit_lt V hV x (h x List.mem_cons_self))
    · exact ha
theorem not_lt (V : Nat) (hV : V ≤ 14) : ∀ (l : List Int) (a : Nat), a < 2 ^ 14 → (∀ x ∈ l, litN V x) → l.foldl (fun a x => if 0 < x then a else a ||| bitV V x) a < 2 ^ 14
  | [], a, ha, _ => ha
  | x :: l, a, ha, h => by
    rw [List.foldl_cons]
    refine not_lt V hV l _ ?_ (fun y hy => h y (List.mem_cons_of_mem _ hy))
    split
    · exact ha
    · exact Nat.or_lt_two_pow ha (bit_lt V hV x (h x List.mem_cons_self))

/-- a row of bits -/
structure BRow (w : World) (g n : Nat) (V : Nat → Bool) : Prop where
  blk : ∃ cur, w.heap[g]? = some (.cells cur 4 (0, 0)) ∧ cur.size = n ∧ ∀ k : Nat, k < n → cur[k]? = some (.bool (V k))
theorem BRow.keep {w w' : World} {g n : Nat} {V : Nat → Bool} (h : BRow w g n V) (hk : w'.heap[g]? = w.heap[g]?) : BRow w' g n V := by
  obtain ⟨cur, h1, h2⟩ := h.blk
  exact ⟨cur, hk.trans h1, h2⟩
theorem BRow.lt {w : World} {g n : Nat} {V : Nat → Bool} (h : BRow w g n V) : g < w.heap.size := by
  obtain ⟨cur, h1, h2⟩ := h.blk
  exact lt_of_block h1
theorem BRow.below {w w' : World} {g n B : Nat} {V : Nat → Bool} (h : BRow w g n V) (hb : Below B w w') (hg : g < B) : BRow w' g n V := h.keep (hb.block _ hg)
theorem BRow.cell {w : World} {g n : Nat} {V : Nat → Bool} (h : BRow w g n V) {k : Nat} (hk : k < n) : w.cell? ⟨g, k, none⟩ = some (.bool (V k)) := by
  obtain ⟨cur, h1, h2, h3⟩ := h.blk
  rw [Lib.cell_of_heap h1]
  exact h3 k hk
theorem BRow.thaw {w : World} {g n : Nat} {V : Nat → Bool} (h : BRow w g n V) (k : Nat) : w.frozen? ⟨g, k, none⟩ = false := by
  obtain ⟨cur, h1, h2, h3⟩ := h.blk
  exact Lib.frozen_of_heap h1 k
theorem brow_made {w : World} {n : Nat} : BRow (w.alloc (.cells (madeCells #[.bool false] n) 4)) w.heap.size n (fun _ => false) := by
  refine ⟨_, Array.getElem?_push_size, by simp [size_madeCells], fun k hk => ?_⟩
  unfold madeCells
  rw [Array.getElem?_map, Array.getElem?_range, if_pos (by simpa using hk)]
  simp [Nat.mod_one]
theorem BRow.store {w : World} {g n : Nat} {V : Nat → Bool} (h : BRow w g n V) (k : Nat) (hk : k < n) (b : Bool) : BRow (w.setCell ⟨g, k, none⟩ (.bool b)) g n (fun i => if i = k then b else V i) := by
  obtain ⟨cur, h1, h2, h3⟩ := h.blk
  refine ⟨_, set_cells h1 k _, by simp [h2], fun i hi => ?_⟩
  rw [Array.getElem?_setIfInBounds]
  by_cases hki : k = i
  · subst hki; rw [if_pos rfl, if_pos (by omega), if_pos rfl]
  · rw [if_neg hki, h3 i hi, if_neg (by omega)]
/-- the first bit from k on that is not set -/
def firstN (V : Nat → Bool) : Nat → Nat → Option Nat
  | 0, _ => none
  | m + 1, k => if V k then firstN V m (k + 1) else some k
def ioM : Option Nat → Int
  | none => -1
  | some k => k
set_option maxHeartbeats 4000000 in
set_option maxRecDepth 100000 in
theorem bindex_any (g n q : Nat) (V : Nat → Bool) (w : World) (h : BRow w g n V) (hn : n ≤ 1048576) :
    Calls Try.prog 43 #[.slice (some ⟨g, 0, none⟩) n q, .bool false] w fun e w' => e = .returned (.int .i64 (ioM (firstN V n 0))) ∧ w = w' := by
  have H := Lib.hid h
  clear h
  go_enter Try.func43, Try.ntmps43
  go_wp2
  go_loopw [8] (fun i wr => ∃ k : Nat, k ≤ n ∧ i = .int .i64 k ∧ firstN V n 0 = firstN V (n - k) k ∧ wr = w) (fun i _ => n - (intOf i).toNat)
  case atStart => exact ⟨0, Nat.zero_le _, rfl, rfl, rfl⟩
  case round =>
    obtain ⟨k, hk, rfl, hf, rfl⟩ := hrel
    have HF := Lib.hid hf
    clear hf
    by_cases hlt : k < n
    · have hc := H.out.cell hlt
      have k0 : (0 : Int) ≤ (k : Int) := by omega
      have k1 : (k : Int) < (n : Int) := by omega
      have HS : Hid (firstN V (n - k) k = if V k then firstN V (n - (k + 1)) (k + 1) else some k) := by
        unfold Hid
        rw [show n - k = (n - (k + 1)) + 1 by omega]; rfl
      generalize hv : V k = v at *
      cases v
      · go_wp2
        go_ret
        exact ⟨by rw [HF.out, HS.out]; rfl, rfl⟩
      · go_wp2
        go_roundw
        case rel => exact ⟨k + 1, by omega, by go_num, by rw [HF.out, HS.out]; rfl, trivial⟩
        case measure => simp [intOf]; omega
    · obtain rfl : k = n := by omega
      go_wp2
      go_ret
      exact ⟨by rw [HF.out, Nat.sub_self]; rfl, rfl⟩
set_option maxHeartbeats 16000000 in
set_option maxRecDepth 100000 in
theorem sides_any (V : Nat) (l : List Int) (A : Option Addr) (q : Nat) (w : World) (hV : V ≤ 14) (hA : ILies w w.heap.size A l) (hl : ∀ x ∈ l, litN V x) :
    Calls Try.prog 56 #[.int .i64 V, .slice A l.length q] w fun e w' => e = .returned (.agg #[.int .i64 (isB2 V l), .int .i64 (notB V l)]) ∧ Below w.heap.size w w' := by
  obtain ⟨WA, hWA⟩ : ∃ x, w.alloc (.cells #[.int .i64 0, .int .i64 0] 95) = x := ⟨_, rfl⟩
  have bA : Below w.heap.size w WA := by rw [← hWA]; exact (Below.refl _ _).alloc (Nat.le_refl _) _
  have sA : WA.heap.size = w.heap.size + 1 := by rw [← hWA]; simp
  obtain ⟨WB, hWB⟩ : ∃ x, WA.alloc (.cells #[.int .i64 0, .int .i64 0] 95) = x := ⟨_, rfl⟩
  have bB : Below WA.heap.size WA WB := by rw [← hWB]; exact (Below.refl _ _).alloc (Nat.le_refl _) _
  have sB : WB.heap.size = w.heap.size + 2 := by rw [← hWB]; simp [sA]
  have gA : WB.heap[w.heap.size]? = some (.cells #[.int .i64 0, .int .i64 0] 95 (0, 0)) := by
    have : WA.heap[w.heap.size]? = some (.cells #[.int .i64 0, .int .i64 0] 95 (0, 0)) := by rw [← hWA]; exact Array.getElem?_push_size
    exact (bB.block _ (lt_of_block this)).trans this
  have gB : WB.heap[w.heap.size + 1]? = some (.cells #[.int .i64 0, .int .i64 0] 95 (0, 0)) := by rw [← hWB, ← sA]; exact Array.getElem?_push_size
  have HL := Lib.hid hl
  have HA : Hid (∀ x, Below w.heap.size w x → ILies x w.heap.size A l) := fun x hx => hA.below hx
  have hlen := hA.len
  have BAB : Hid (Below w.heap.size w WB) := bA.trans (bB.mono (by omega))
  have GA := Lib.hid gA
  have GB := Lib.hid gB
  have SB := Lib.hid sB
  clear hl hA gA gB
  go_enter Try.func56, Try.ntmps56
  go_wp2
  clear hWA hWB bA bB sA sB
  go_loopw [11] (fun i wr => ∃ k : Nat, k ≤ l.length ∧ i = .int .i64 k ∧ wr.heap[w.heap.size]? = some (.cells #[.int .i64 0, .int .i64 0] 95 (0, 0)) ∧ wr.heap[w.heap.size + 1]? = some (.cells #[.int .i64 (isB2 V (l.take k)), .int .i64 (notB V (l.take k))] 95 (0, 0)) ∧ Below w.heap.size w wr) (fun i _ => l.length - (intOf i).toNat)
  case atStart => exact ⟨0, Nat.zero_le _, rfl, GA.out, by simpa [isB2, notB] using GB.out, BAB.out⟩
  case round =>
    obtain ⟨k, hk, rfl, hga, hgb, hb⟩ := hrel
    have HGA := Lib.hid hga
    have HGB := Lib.hid hgb
    have HB := Lib.hid hb
    clear hga hgb hb
    by_cases hlt : k < l.length
    · obtain ⟨b0, o, hAe, -, hc⟩ := LRow.int (HA.out wr HB.out).row hlt
      have hlx := HL.out _ (List.getElem_mem hlt)
      have HI := Lib.hid (is_snoc V l k hlt)
      have HN := Lib.hid (not_snoc V l k hlt)
      have hbl := bit_lt V hV _ hlx
      have hil : isB2 V (l.take k) < 2 ^ 14 := is_lt V hV _ 0 (by decide) fun x hx => HL.out x (List.mem_of_mem_take hx)
      have hnl : notB V (l.take k) < 2 ^ 14 := not_lt V hV _ 0 (by decide) fun x hx => HL.out x (List.mem_of_mem_take hx)
      have hbv : bitV V l[k] = 1 <<< (V - l[k].natAbs) := rfl
      unfold litN at hlx
      have k0 : (0 : Int) ≤ (k : Int) := by omega
      have k1 : (k : Int) < (l.length : Int) := by omega
      subst hAe
      generalize l[k] = x at *
      have VA := Lib.hid (fun w => var_small x w (by omega))
      obtain ⟨n, hn⟩ : ∃ n, n = x.natAbs := ⟨_, rfl⟩
      rw [← hn] at VA hbv hlx
      clear hn
      obtain ⟨d, hd⟩ : ∃ d, V - n = d := ⟨_, rfl⟩
      have hsub : (V : Int) - (n : Int) = (d : Int) := by omega
      have hd14 : d ≤ 14 := by omega
      rw [hd] at hbv
      have hsh : wrap64 ((2 : Int) ^ d) = (bitV V x : Int) := by
        have h := shl_one d hd14
        rw [Int.one_mul, IntKind.wrap_i64] at h
        rw [hbv, ← h]
        unfold wrap64
        rfl
      clear hbv hd
      generalize bitV V x = bv at *
      generalize hib : isB2 V (l.take k) = ib at *
      generalize hnb : notB V (l.take k) = nb at *
      have hor1 := bits_or64 ib bv (by omega) (by omega)
      have hor2 := bits_or64 nb bv (by omega) (by omega)
      obtain ⟨c0, c1⟩ := cells2 HGB.out
      have f0 := Lib.frozen_of_heap HGB.out 0
      have f1 := Lib.frozen_of_heap HGB.out 1
      have hwb : w.heap.size < w.heap.size + 1 := Nat.lt_succ_self _
      by_cases hp : 0 < x
      · rw [if_pos hp] at HI HN
        have hdp : decide (0 < x) = true := decide_eq_true hp
        clear hp
        obtain ⟨W1, hW1⟩ : ∃ y, wr.setCell ⟨w.heap.size + 1, 0, none⟩ (.int .i64 ((ib ||| bv : Nat) : Int)) = y := ⟨_, rfl⟩
        have g1 : Hid (W1.heap[w.heap.size + 1]? = some (.cells #[.int .i64 ((ib ||| bv : Nat) : Int), .int .i64 nb] 95 (0, 0))) := by unfold Hid; rw [← hW1, set_cells HGB.out]; rfl
        have g0 : Hid (W1.heap[w.heap.size]? = some (.cells #[.int .i64 0, .int .i64 0] 95 (0, 0))) := by unfold Hid; rw [← hW1]; exact (set_others wr (w.heap.size + 1) 0 _ _ (by omega)).trans HGA.out
        have B1 : Hid (Below w.heap.size w W1) := by unfold Hid; rw [← hW1]; exact HB.out.setCell (by show w.heap.size ≤ w.heap.size + 1; omega) _
        go_wp2_with fail
        refine (VA.out _).mono ?_
        rintro e w' ⟨rfl, rfl⟩
        go_wp2
        go_roundw
        case rel => exact ⟨k + 1, by omega, by go_num, g0.out, by rw [HI.out, HN.out]; exact g1.out, B1.out⟩
        case measure => simp [intOf]; omega
      · rw [if_neg hp] at HI HN
        have hdp : decide (0 < x) = false := decide_eq_false hp
        clear hp
        obtain ⟨W1, hW1⟩ : ∃ y, wr.setCell ⟨w.heap.size + 1, 1, none⟩ (.int .i64 ((nb ||| bv : Nat) : Int)) = y := ⟨_, rfl⟩
        have g1 : Hid (W1.heap[w.heap.size + 1]? = some (.cells #[.int .i64 ib, .int .i64 ((nb ||| bv : Nat) : Int)] 95 (0, 0))) := by unfold Hid; rw [← hW1, set_cells HGB.out]; rfl
        have g0 : Hid (W1.heap[w.heap.size]? = some (.cells #[.int .i64 0, .int .i64 0] 95 (0, 0))) := by unfold Hid; rw [← hW1]; exact (set_others wr (w.heap.size + 1) 1 _ _ (by omega)).trans HGA.out
        have B1 : Hid (Below w.heap.size w W1) := by unfold Hid; rw [← hW1]; exact HB.out.setCell (by show w.heap.size ≤ w.heap.size + 1; omega) _
        go_wp2_with fail
        refine (VA.out _).mono ?_
        rintro e w' ⟨rfl, rfl⟩
        go_wp2
        go_roundw
        case rel => exact ⟨k + 1, by omega, by go_num, g0.out, by rw [HI.out, HN.out]; exact g1.out, B1.out⟩
        case measure => simp [intOf]; omega
    · obtain rfl : k = l.length := by omega
      rw [List.take_length] at HGB
      obtain ⟨c0, c1⟩ := cells2 HGB.out
      obtain ⟨W1, hW1⟩ : ∃ y, wr.setCell ⟨w.heap.size, 0, none⟩ (.int .i64 (isB2 V l)) = y := ⟨_, rfl⟩
      have g1 : W1.heap[w.heap.size]? = some (.cells #[.int .i64 (isB2 V l), .int .i64 0] 95 (0, 0)) := by rw [← hW1, set_cells HGA.out]; rfl
      obtain ⟨W2, hW2⟩ : ∃ y, W1.setCell ⟨w.heap.size, 1, none⟩ (.int .i64 (notB V l)) = y := ⟨_, rfl⟩
      have g2 : W2.heap[w.heap.size]? = some (.cells #[.int .i64 (isB2 V l), .int .i64 (notB V l)] 95 (0, 0)) := by rw [← hW2, set_cells g1]; rfl
      have B2 : Hid (Below w.heap.size w W2) := by unfold Hid; rw [← hW2, ← hW1]; exact (HB.out.setCell (Nat.le_refl _) _).setCell (Nat.le_refl _) _
      have f0 := Lib.frozen_of_heap HGA.out 0
      have f1 := Lib.frozen_of_heap g1 1
      obtain ⟨a0, -⟩ := cells2 HGA.out
      obtain ⟨-, a1⟩ := cells2 g1
      obtain ⟨d0, d1⟩ := cells2 g2
      have RS := Lib.hid g2
      clear g2
      go_wp2
      refine bodyPost_ret (results_cell_row rfl _ _ _ _ _ _ _ rfl RS.out Try.underlying95 rfl (by kernel_rfl)) rfl ?_
      exact ⟨rfl, B2.out⟩
end Go.Proofs.Ytefbknpoehmfaaa.For
