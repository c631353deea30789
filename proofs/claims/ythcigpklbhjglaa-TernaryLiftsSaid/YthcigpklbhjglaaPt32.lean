/- What is left of a state, and what is known always; no program is named here, no condition. What the pages say of trits; no condition but that texts are as long as Go's may be. The signs of a trit: known, literal, both; Trits and Covers; no condition but that texts are as long as Go's may be. The operations of ternary.valued's regions that draw their order, each run by itself; its closure, and Of; no condition but that texts are as long as Go's may be. -/
import Derived.Test.YthcigpklbhjglaaPt29
import Derived.Test.YthcigpklbhjglaaPt31
import Derived.Test.YthcigpklbhjglaaPt14
import Derived.Test.YthcigpklbhjglaaPt13
import Derived.Test.YthcigpklbhjglaaPt09
namespace Go.Proofs.Ythcigpklbhjglaa.Ter
open Circ Cw Str Sim

def sb (l : List UInt8) : ByteArray := ⟨l.toArray⟩
theorem sb_list (l : List UInt8) : (sb l).data.toList = l := rfl
theorem sb_size (l : List UInt8) : (sb l).size = l.length := sv_size l
/-- is each of hold 1? -/
def heldT (v : List UInt8) (hold : List Int) : Bool := hold.all fun l => decide (ofT v l = 49)
def liftS (c : Cir) (inp : ByteArray) (hold : List Int) (s : List UInt8) (i : Nat) : List UInt8 := if heldT (valsT c (sb (s.set i 120)) inp) hold = true then s.set i 120 else s
/-- the first k latches tried, one by one -/
def liftL (c : Cir) (inp : ByteArray) (hold : List Int) (s : List UInt8) : Nat → List UInt8
  | 0 => s
  | k + 1 => liftS c inp hold (liftL c inp hold s k) k
section
variable (c : Cir) (inp : ByteArray) (hold : List Int) (s : List UInt8)
theorem liftL_len : ∀ k, (liftL c inp hold s k).length = s.length
  | 0 => rfl
  | k + 1 => by
    have := liftL_len k
    unfold liftL liftS
    split
    · rw [List.length_set]; exact this
    · exact this
theorem cov_set (l : List UInt8) (i : Nat) : Cov (l.set i 120) l := by
  refine ⟨List.length_set, fun k => ?_⟩
  rw [List.getD_eq_getElem?_getD, List.getD_eq_getElem?_getD, List.getElem?_set]
  by_cases h : i = k
  · rw [if_pos h]
    split
    · exact .inr rfl
    · exact .inr rfl
  · rw [if_neg h]; exact .inl rfl
/-- what is left covers what was -/
theorem liftL_cov : ∀ k, Cov (liftL c inp hold s k) s
  | 0 => Cov.refl s
  | k + 1 => by
    have := liftL_cov k
    unfold liftL liftS
    split
    · exact (cov_set _ _).trans this
    · exact this
/-- what should be held is held still -/
theorem liftL_held (h : heldT (valsT c (sb s) inp) hold = true) : ∀ k, heldT (valsT c (sb (liftL c inp hold s k)) inp) hold = true
  | 0 => h
  | k + 1 => by
    have := liftL_held h k
    unfold liftL liftS
    split
    · assumption
    · exact this
theorem liftL_isT (h : ∀ y ∈ s, isT y) : ∀ k, ∀ y ∈ liftL c inp hold s k, isT y
  | 0 => h
  | k + 1 => by
    have := liftL_isT h k
    unfold liftL liftS
    split
    · intro y hy
      rcases List.mem_or_eq_of_mem_set hy with hy | hy
      · exact this y hy
      · rw [hy]; exact .inr (.inr rfl)
    · exact this
end
/-- the first state, x where any may be -/
def fst0 (c : Cir) : List UInt8 := c.lats.map fun t => if t.c = t.a then 120 else if t.c = 1 then 49 else 48
def xsL (n : Nat) : List UInt8 := List.replicate n 120
/-- what was and what is next, x where they differ -/
def widS (c : Cir) (s : List UInt8) : List UInt8 := (List.range c.lats.length).map fun i => if ofT (valsT c (sb s) (sb (xsL c.ins.length))) (c.lats.getD i ⟨0, 0, 0⟩).b = s.getD i 0 then s.getD i 0 else 120
def widR (c : Cir) : Nat → List UInt8 → List UInt8 × Nat
  | 0, s => (s, 0)
  | f + 1, s => if widS c s = s then (s, 0) else ((widR c f (widS c s)).1, (widR c f (widS c s)).2 + 1)
theorem widS_len (c : Cir) (s : List UInt8) : (widS c s).length = c.lats.length := by unfold widS; simp
theorem widS_at (c : Cir) (s : List UInt8) {i : Nat} (h : i < c.lats.length) (d : UInt8) : (widS c s).getD i d = if ofT (valsT c (sb s) (sb (xsL c.ins.length))) (c.lats.getD i ⟨0, 0, 0⟩).b = s.getD i 0 then s.getD i 0 else 120 := by
  unfold widS
  rw [List.getD_eq_getElem?_getD, List.getElem?_map, List.getElem?_range h]; rfl
theorem getD_in {l : List UInt8} {i : Nat} (h : i < l.length) (d e : UInt8) : l.getD i d = l.getD i e := by
  rw [List.getD_eq_getElem?_getD, List.getD_eq_getElem?_getD, List.getElem?_eq_getElem h]; rfl
theorem widS_cov (c : Cir) {s : List UInt8} (h : s.length = c.lats.length) : Cov (widS c s) s := by
  refine ⟨by rw [widS_len, h], fun i => ?_⟩
  by_cases hi : i < c.lats.length
  · rw [widS_at c s hi]
    split
    · exact .inl (getD_in (by omega) _ _)
    · exact .inr rfl
  · rw [List.getD_eq_getElem?_getD, List.getElem?_eq_none (by rw [widS_len]; omega)]
    exact .inr rfl
theorem widR_len (c : Cir) : ∀ (f : Nat) (s : List UInt8), s.length = c.lats.length → (widR c f s).1.length = c.lats.length
  | 0, s, h => h
  | f + 1, s, h => by
    unfold widR
    split
    · exact h
    · exact widR_len c f _ (widS_len c s)
theorem widR_cov (c : Cir) : ∀ (f : Nat) (s : List UInt8), s.length = c.lats.length → Cov (widR c f s).1 s
  | 0, s, _ => Cov.refl s
  | f + 1, s, h => by
    unfold widR
    split
    · exact Cov.refl s
    · exact (widR_cov c f _ (widS_len c s)).trans (widS_cov c h)
theorem widR_most (c : Cir) : ∀ (f : Nat) (s : List UInt8), (widR c f s).2 ≤ f
  | 0, _ => Nat.le_refl _
  | f + 1, s => by
    unfold widR
    split
    · exact Nat.zero_le _
    · exact Nat.succ_le_succ (widR_most c f _)
/-- fewer steps than there may be: nothing changed at the end -/
theorem widR_fix (c : Cir) : ∀ (f : Nat) (s : List UInt8), (widR c f s).2 < f → widS c (widR c f s).1 = (widR c f s).1
  | 0, s, h => absurd h (Nat.lt_irrefl _)
  | f + 1, s, h => by
    unfold widR at h ⊢
    by_cases e : widS c s = s
    · rw [if_pos e]; exact e
    · rw [if_neg e] at h ⊢
      exact widR_fix c f _ (by simp only at h; omega)
theorem widS_isT (c : Cir) {s : List UInt8} (hl : s.length = c.lats.length) (h : ∀ y ∈ s, isT y) : ∀ y ∈ widS c s, isT y := fun y hy => by
  unfold widS at hy
  obtain ⟨i, hi, rfl⟩ := List.mem_map.1 hy
  have hi := List.mem_range.1 hi
  split
  · refine h _ ?_
    rw [List.getD_eq_getElem?_getD, List.getElem?_eq_getElem (by omega)]
    exact List.getElem_mem _
  · exact .inr (.inr rfl)
theorem fst0_len (c : Cir) : (fst0 c).length = c.lats.length := by unfold fst0; simp
theorem fst0_isT (c : Cir) : ∀ y ∈ fst0 c, isT y := fun y hy => by
  unfold fst0 at hy
  obtain ⟨t, _, rfl⟩ := List.mem_map.1 hy
  split
  · exact .inr (.inr rfl)
  · split
    · exact .inr (.inl rfl)
    · exact .inl rfl
/-- what is held of trits is so of whatever bits stand for x -/
theorem held_true {c : Cir} {v w : List UInt8} (hc : Cov v w) (hb : ∀ y ∈ w, isB y) (hw : (w.length : Int) = c.max + 1) {hold : List Int} (hh : heldT v hold = true) {l : Int} (hl : l ∈ hold) (h0 : 0 ≤ l) (h1 : l / 2 ≤ c.max) : trueM w l = true := by
  have h := List.all_eq_true.1 hh l hl
  rw [decide_eq_true_eq] at h
  have hcv := cov_of hc l
  rw [h, of_bit hb h0 (by omega)] at hcv
  rcases hcv with e | e
  · cases hq : trueM w l with
    | true => rfl
    | false => rw [hq] at e; exact absurd e (by decide)
  · exact absurd e (by decide)
/-- what is known always is so of the next state -/
theorem always_next {c : Cir} (hr : refOk c = true) {s : List UInt8} (hsl : s.length = c.lats.length) (hfix : widS c s = s) {su iu : ByteArray} (hs : bitsM su (c.lats.length : Int) = true) (hi : bitsM iu (c.ins.length : Int) = true) (hc : Cov s su.data.toList) (hlb : ∀ t ∈ c.lats, 0 ≤ t.b ∧ t.b / 2 ≤ c.max) : Cov s (nxtL c (valsM c su iu)) := by
  obtain ⟨hsz, _⟩ := bits_parts hs
  have hcv : Cov (valsT c (sb s) (sb (xsL c.ins.length))) (valsM c su iu) := by
    refine sound_vals hr hs hi (fun i hil => ?_) (fun i hil => ?_)
    · rw [sb_list]
      have h := hc.2 i
      have hl2 : i < su.data.toList.length := by simp; omega
      rwa [getD_in (by omega) 120 0, getD_in hl2 120 0] at h
    · rw [sb_list]
      unfold xsL
      rw [List.getD_eq_getElem?_getD, List.getElem?_replicate, if_pos hil]
      exact .inr rfl
  obtain ⟨m, hm, _⟩ := max_nat hr
  have hvl : ((valsM c su iu).length : Int) = c.max + 1 := by rw [vals_len, hm]; simp
  refine ⟨by unfold nxtL; rw [bitL_len]; exact hsl, fun i => ?_⟩
  by_cases hil : i < c.lats.length
  · have he : s.getD i 120 = (widS c s).getD i 120 := by rw [hfix]
    rw [he, widS_at c s hil]
    split
    · rename_i hx
      rw [← hx]
      have hb := hlb _ (List.getElem_mem hil)
      rw [lat_at c hil]
      have h := cov_of hcv c.lats[i].b
      rw [of_bit (vals_bits hs hi) hb.1 (by omega)] at h
      unfold nxtL bitL
      rw [List.getD_eq_getElem?_getD, List.getElem?_map, List.getElem?_range hil]
      simp only [Option.map_some, Option.getD_some]
      rw [lat_at c hil]
      exact h
    · exact .inr rfl
  · rw [List.getD_eq_getElem?_getD, List.getElem?_eq_none (by omega)]
    exact .inr rfl
end Go.Proofs.Ythcigpklbhjglaa.Ter
namespace Go.Proofs.Ythcigpklbhjglaa.Ter
open Go.ChangeShapes Go.WideShapes Go.ChangeAt Go.RowKit Go.Maps Circ Cw
open Str Sim

theorem take_trit (s : ByteArray) (k : Nat) (h : k < s.size) : (s.data.toList.take (k + 1)).all isTrit = ((s.data.toList.take k).all isTrit && isTrit (s[k]'h)) := by
  have hl : k < s.data.toList.length := by simpa using h
  rw [List.take_succ_eq_append_getElem hl, List.all_append]
  congr 1
  rw [List.all_cons, List.all_nil, Bool.and_true]
  congr 1
theorem trit_is (x : UInt8) : isTrit x = (decide (x.toNat = 48) || decide (x.toNat = 49) || decide (x.toNat = 120)) := rfl
theorem reftrits_any (s : ByteArray) (n : Int) (w : World) (hs : s.size ≤ 9223372036854775807) :
    Calls Try.prog 43 #[.string s, .int .i64 n] w fun e w' => e = .returned (.bool (tritsM s n)) ∧ w = w' := by
  go_enter Try.func43, Try.ntmps43
  go_wp2
  go_loop [5] (fun i => ∃ k : Nat, k ≤ s.size ∧ i = .int .i64 k ∧ (s.data.toList.take k).all isTrit = true) (fun i => s.size - (intOf i).toNat)
  case atStart => exact ⟨0, Nat.zero_le _, rfl, rfl⟩
  case round =>
    obtain ⟨k, hk, rfl, ha⟩ := hrel
    have HA := Lib.hid ha
    clear ha
    by_cases hlt : k < s.size
    · have HT := Lib.hid (take_trit s k hlt)
      rw [HA.out, Bool.true_and, trit_is] at HT
      have hkl : k < s.data.toList.length := by simpa using hlt
      by_cases h0 : (s[k]'hlt).toNat = 48
      · have b0 : (((s[k]'hlt).toNat : Int) != 48) = false := by rw [bne_eq_false_iff_eq]; omega
        have HN : Hid ((s.data.toList.take (k + 1)).all isTrit = true) := by have h := HT.out; rw [h0] at h; exact h
        clear HT
        go_wp2
        go_round
        case rel => exact ⟨k + 1, by omega, by go_num, HN.out⟩
        case measure => simp [intOf]; omega
      · have b0 : (((s[k]'hlt).toNat : Int) != 48) = true := by rw [bne_iff_ne]; omega
        by_cases h1 : (s[k]'hlt).toNat = 49
        · have b1 : (((s[k]'hlt).toNat : Int) != 49) = false := by rw [bne_eq_false_iff_eq]; omega
          have HN : Hid ((s.data.toList.take (k + 1)).all isTrit = true) := by have h := HT.out; rw [h1] at h; exact h
          clear HT
          go_wp2
          go_round
          case rel => exact ⟨k + 1, by omega, by go_num, HN.out⟩
          case measure => simp [intOf]; omega
        · have b1 : (((s[k]'hlt).toNat : Int) != 49) = true := by rw [bne_iff_ne]; omega
          by_cases h2 : (s[k]'hlt).toNat = 120
          · have b2 : (((s[k]'hlt).toNat : Int) != 120) = false := by rw [bne_eq_false_iff_eq]; omega
            have HN : Hid ((s.data.toList.take (k + 1)).all isTrit = true) := by have h := HT.out; rw [h2] at h; exact h
            clear HT
            go_wp2
            go_round
            case rel => exact ⟨k + 1, by omega, by go_num, HN.out⟩
            case measure => simp [intOf]; omega
          · have b2 : (((s[k]'hlt).toNat : Int) != 120) = true := by rw [bne_iff_ne]; omega
            have HF : Hid (tritsM s n = false) := by
              have h := HT.out
              rw [show decide ((s[k]'hlt).toNat = 48) = false from decide_eq_false h0, show decide ((s[k]'hlt).toNat = 49) = false from decide_eq_false h1, show decide ((s[k]'hlt).toNat = 120) = false from decide_eq_false h2] at h
              unfold Hid tritsM
              rw [← List.take_append_drop (k + 1) s.data.toList, List.all_append, h]
              simp
            clear HT
            go_wp2
            go_ret
            exact ⟨by rw [HF.out]; rfl, rfl⟩
    · obtain rfl : k = s.size := by omega
      have HF : Hid (tritsM s n = ((s.size : Int) == n)) := by
        have h := HA.out
        rw [List.take_of_length_le (by simp)] at h
        unfold Hid tritsM
        rw [h, Bool.and_true]; rfl
      go_wp2
      go_ret
      exact ⟨by rw [HF.out]; rfl, rfl⟩
/-- Of -/
theorem of_is (v : List UInt8) (l : Int) (i : Nat) (x : UInt8) (p : Bool) (hi : cnt l / 2 = (i : Int)) (hx : v.getD i 120 = x) (hp : decide (cnt l % 2 = 1) = p) : ofT v l = if p = true then notT x else x := by
  unfold ofT
  rw [hi, Int.toNat_natCast, hx, ← hp]
  by_cases h : cnt l % 2 = 1
  · rw [if_pos h, if_pos (decide_eq_true h)]
  · rw [if_neg h, if_neg (by rw [decide_eq_false h]; decide)]
set_option maxRecDepth 100000 in
theorem refof_any (s : ByteArray) (l : Int) (w : World) (_hs : s.size ≤ 9223372036854775807) (hl : l ≤ 9223372036854775807) :
    Calls Try.prog 39 #[.string s, .int .i64 l] w fun e w' => e = .returned (.int .u8 (((ofT s.data.toList l).toNat : Nat) : Int)) ∧ w = w' := by
  have RV := Lib.hid (rvar2_any l hl w)
  have RN := Lib.hid (fun w => rneg2_any l hl w)
  have h0 : 0 ≤ cnt l / 2 := by unfold cnt; split <;> omega
  obtain ⟨i, hi⟩ : ∃ i : Nat, cnt l / 2 = (i : Int) := ⟨(cnt l / 2).toNat, by omega⟩
  have hi2 : i ≤ 4611686018427387903 := by unfold cnt at hi; split at hi <;> omega
  obtain ⟨x, hxv⟩ : ∃ x, s.data.toList.getD i 120 = x := ⟨_, rfl⟩
  obtain ⟨p, hp⟩ : ∃ p, decide (cnt l % 2 = 1) = p := ⟨_, rfl⟩
  have HO := Lib.hid (of_is s.data.toList l i x p hi hxv hp)
  rw [hi] at RV
  rw [hp] at RN
  clear h0 hi hp
  by_cases hlt : i < s.size
  · have hxs : (s[i]'hlt).toNat = x.toNat := by
      have hl' : i < s.data.toList.length := by simpa using hlt
      rw [← hxv, List.getD_eq_getElem?_getD, List.getElem?_eq_getElem hl', Option.getD_some, Array.getElem_toList]; rfl
    clear hxv
    by_cases h48 : x.toNat = 48
    · have b48 : ((x.toNat : Int) == 48) = true := by rw [beq_iff_eq]; omega
      have b49 : ((x.toNat : Int) == 49) = false := by rw [beq_eq_false_iff_ne]; omega
      have hx : x = 48 := UInt8.toNat_inj.1 h48
      cases p with
      | true =>
        have HX := Lib.hid hx
        clear hx h48
        go_enter Try.func39, Try.ntmps39
        go_wp2_with fail
        refine RV.out.mono ?_
        rintro e w' ⟨rfl, rfl⟩
        go_wp2_with fail
        refine (RN.out w).mono ?_
        rintro e w' ⟨rfl, rfl⟩
        go_wp2
        go_ret
        exact ⟨by rw [HO.out, HX.out]; first | rfl | (simp [notT, *]; done), rfl⟩
      | false =>
        have HX := Lib.hid hx
        clear hx h48
        go_enter Try.func39, Try.ntmps39
        go_wp2_with fail
        refine RV.out.mono ?_
        rintro e w' ⟨rfl, rfl⟩
        go_wp2_with fail
        refine (RN.out w).mono ?_
        rintro e w' ⟨rfl, rfl⟩
        go_wp2
        go_ret
        exact ⟨by rw [HO.out, HX.out]; first | rfl | (simp [notT, *]; done), rfl⟩
    · have b48 : ((x.toNat : Int) == 48) = false := by rw [beq_eq_false_iff_ne]; omega
      by_cases h49 : x.toNat = 49
      · have b49 : ((x.toNat : Int) == 49) = true := by rw [beq_iff_eq]; omega
        have hx : x = 49 := UInt8.toNat_inj.1 h49
        cases p with
        | true =>
          have HX := Lib.hid hx
          clear hx h48 h49
          go_enter Try.func39, Try.ntmps39
          go_wp2_with fail
          refine RV.out.mono ?_
          rintro e w' ⟨rfl, rfl⟩
          go_wp2_with fail
          refine (RN.out w).mono ?_
          rintro e w' ⟨rfl, rfl⟩
          go_wp2
          go_ret
          exact ⟨by rw [HO.out, HX.out]; first | rfl | (simp [notT, *]; done), rfl⟩
        | false =>
          have HX := Lib.hid hx
          clear hx h48 h49
          go_enter Try.func39, Try.ntmps39
          go_wp2_with fail
          refine RV.out.mono ?_
          rintro e w' ⟨rfl, rfl⟩
          go_wp2_with fail
          refine (RN.out w).mono ?_
          rintro e w' ⟨rfl, rfl⟩
          go_wp2
          go_ret
          exact ⟨by rw [HO.out, HX.out]; first | rfl | (simp [notT, *]; done), rfl⟩
      · have b49 : ((x.toNat : Int) == 49) = false := by rw [beq_eq_false_iff_ne]; omega
        have HX : Hid (notT x = x) := by
          unfold Hid notT
          rw [if_neg (fun e => h48 (by rw [e]; rfl)), if_neg (fun e => h49 (by rw [e]; rfl))]
        clear h48 h49
        go_enter Try.func39, Try.ntmps39
        go_wp2_with fail
        refine RV.out.mono ?_
        rintro e w' ⟨rfl, rfl⟩
        go_wp2
        go_ret
        exact ⟨by rw [HO.out, HX.out, ite_self]; rfl, rfl⟩
  · have hxx : x = 120 := by
      rw [← hxv, List.getD_eq_getElem?_getD, List.getElem?_eq_none (by simp; omega)]; rfl
    have HX : Hid (notT x = x) := by rw [hxx]; rfl
    have HE : Hid (x.toNat = 120) := by rw [hxx]; rfl
    clear hxv hxx
    go_enter Try.func39, Try.ntmps39
    go_wp2_with fail
    refine RV.out.mono ?_
    rintro e w' ⟨rfl, rfl⟩
    go_wp2
    go_ret
    exact ⟨by rw [HO.out, HX.out, ite_self, HE.out]; rfl, rfl⟩
end Go.Proofs.Ythcigpklbhjglaa.Ter
namespace Go.Proofs.Ythcigpklbhjglaa.Ter
open Go.ChangeShapes Go.WideShapes Go.ChangeAt Go.RowKit Go.Maps Circ Cw
open Str Sim

theorem bit_is (x : UInt8) : isBit x = (decide (x.toNat = 48) || decide (x.toNat = 49)) := rfl
theorem known_any (x : UInt8) (w : World) :
    Calls Try.prog 84 #[.int .u8 ((x.toNat : Nat) : Int)] w fun e w' => e = .returned (.bool (isBit x)) ∧ w = w' := by
  rw [bit_is]
  by_cases h0 : x.toNat = 48
  · have b0 : ((x.toNat : Int) == 48) = true := by rw [beq_iff_eq]; omega
    rw [decide_eq_true h0, Bool.true_or]
    go_enter Try.func84, Try.ntmps84
    go_wp2
    go_ret
    exact ⟨rfl, rfl⟩
  · have b0 : ((x.toNat : Int) == 48) = false := by rw [beq_eq_false_iff_ne]; omega
    rw [decide_eq_false h0, Bool.false_or]
    go_enter Try.func84, Try.ntmps84
    go_wp2
    go_ret
    exact ⟨by rw [show decide (x.toNat = 49) = ((x.toNat : Int) == 49) from by rw [Bool.eq_iff_iff, beq_iff_eq, decide_eq_true_eq]; omega]; rfl, rfl⟩
/-- the trit of a variable with that sign, or its opposite -/
def litT (x : UInt8) (p : Bool) : UInt8 := if isBit x = true then (if (decide (x.toNat = 49)) != p then 49 else 48) else 120
theorem lit_of {x : UInt8} (h : isT x) (p : Bool) : litT x p = if p = true then notT x else x := by
  rcases h with rfl | rfl | rfl <;> cases p <;> rfl
theorem literal_any (x : UInt8) (p : Bool) (w : World) :
    Calls Try.prog 85 #[.int .u8 ((x.toNat : Nat) : Int), .bool p] w fun e w' => e = .returned (.int .u8 (((litT x p).toNat : Nat) : Int)) ∧ w = w' := by
  have K := Lib.hid (known_any x w)
  cases hk : isBit x with
  | false =>
    rw [hk] at K
    have hl : litT x p = 120 := by unfold litT; rw [hk]; rfl
    rw [hl]
    clear hk hl
    go_enter Try.func85, Try.ntmps85
    go_wp2_with fail
    refine K.out.mono ?_
    rintro e w' ⟨rfl, rfl⟩
    go_wp2
    go_ret
    exact ⟨rfl, rfl⟩
  | true =>
    rw [hk] at K
    by_cases h49 : x.toNat = 49
    · have b1 : ((x.toNat : Int) == 49) = true := by rw [beq_iff_eq]; omega
      cases p with
      | false =>
        have hl : litT x false = 49 := by unfold litT; rw [hk, decide_eq_true h49]; rfl
        rw [hl]
        clear hk hl h49
        go_enter Try.func85, Try.ntmps85
        go_wp2_with fail
        refine K.out.mono ?_
        rintro e w' ⟨rfl, rfl⟩
        go_wp2
        go_ret
        exact ⟨rfl, rfl⟩
      | true =>
        have hl : litT x true = 48 := by unfold litT; rw [hk, decide_eq_true h49]; rfl
        rw [hl]
        clear hk hl h49
        go_enter Try.func85, Try.ntmps85
        go_wp2_with fail
        refine K.out.mono ?_
        rintro e w' ⟨rfl, rfl⟩
        go_wp2
        go_ret
        exact ⟨rfl, rfl⟩
    · have b1 : ((x.toNat : Int) == 49) = false := by rw [beq_eq_false_iff_ne]; omega
      cases p with
      | false =>
        have hl : litT x false = 48 := by unfold litT; rw [hk, decide_eq_false h49]; rfl
        rw [hl]
        clear hk hl h49
        go_enter Try.func85, Try.ntmps85
        go_wp2_with fail
        refine K.out.mono ?_
        rintro e w' ⟨rfl, rfl⟩
        go_wp2
        go_ret
        exact ⟨rfl, rfl⟩
      | true =>
        have hl : litT x true = 49 := by unfold litT; rw [hk, decide_eq_false h49]; rfl
        rw [hl]
        clear hk hl h49
        go_enter Try.func85, Try.ntmps85
        go_wp2_with fail
        refine K.out.mono ?_
        rintro e w' ⟨rfl, rfl⟩
        go_wp2
        go_ret
        exact ⟨rfl, rfl⟩
theorem both_any (a b : UInt8) (w : World) :
    Calls Try.prog 122 #[.int .u8 ((a.toNat : Nat) : Int), .int .u8 ((b.toNat : Nat) : Int)] w fun e w' => e = .returned (.int .u8 (((andT a b).toNat : Nat) : Int)) ∧ w = w' := by
  have ne : ∀ (x y : UInt8), x ≠ y → x.toNat ≠ y.toNat := fun x y h e => h (UInt8.toNat_inj.1 e)
  unfold andT
  by_cases a0 : a = 48
  · rw [if_pos (.inl a0)]
    have c0 : ((a.toNat : Int) == 48) = true := by rw [a0]; rfl
    clear ne a0
    go_enter Try.func122, Try.ntmps122
    go_wp2
    go_ret
    exact ⟨rfl, rfl⟩
  · have c0 : ((a.toNat : Int) == 48) = false := by rw [beq_eq_false_iff_ne]; have := ne _ _ a0; have : (48 : UInt8).toNat = 48 := rfl; omega
    by_cases b0 : b = 48
    · rw [if_pos (.inr b0)]
      have d0 : ((b.toNat : Int) == 48) = true := by rw [b0]; rfl
      clear ne a0 b0
      go_enter Try.func122, Try.ntmps122
      go_wp2
      go_ret
      exact ⟨rfl, rfl⟩
    · have d0 : ((b.toNat : Int) == 48) = false := by rw [beq_eq_false_iff_ne]; have := ne _ _ b0; have : (48 : UInt8).toNat = 48 := rfl; omega
      rw [if_neg (by rintro (h | h); exact a0 h; exact b0 h)]
      by_cases a1 : a = 49
      · have c1 : ((a.toNat : Int) == 49) = true := by rw [a1]; rfl
        by_cases b1 : b = 49
        · rw [if_pos ⟨a1, b1⟩]
          have d1 : ((b.toNat : Int) == 49) = true := by rw [b1]; rfl
          clear ne a0 b0 a1 b1
          go_enter Try.func122, Try.ntmps122
          go_wp2
          go_ret
          exact ⟨rfl, rfl⟩
        · rw [if_neg (fun h => b1 h.2)]
          have d1 : ((b.toNat : Int) == 49) = false := by rw [beq_eq_false_iff_ne]; have := ne _ _ b1; have : (49 : UInt8).toNat = 49 := rfl; omega
          clear ne a0 b0 a1 b1
          go_enter Try.func122, Try.ntmps122
          go_wp2
          go_ret
          exact ⟨rfl, rfl⟩
      · rw [if_neg (fun h => a1 h.1)]
        have c1 : ((a.toNat : Int) == 49) = false := by rw [beq_eq_false_iff_ne]; have := ne _ _ a1; have : (49 : UInt8).toNat = 49 := rfl; omega
        clear ne a0 b0 a1
        go_enter Try.func122, Try.ntmps122
        go_wp2
        go_ret
        exact ⟨rfl, rfl⟩
end Go.Proofs.Ythcigpklbhjglaa.Ter
namespace Go.Proofs.Ythcigpklbhjglaa.Ter
open Go.ChangeShapes Go.WideShapes Go.ChangeAt Go.RowKit Go.Maps Circ Cw
open Sim Str

theorem op_callc (a : Act) (w : World) (t s T : Nat) (k : FuncId) (cap : Array Value) (h : a.tmps.getD t undef = .func (.func k) #[] cap) (hf : ∀ args w, (callFunc k args).run Try.prog w = .ok (.enter k args) w) (oo : Oper) (ho : oo.op = .call { callee := .value (.tmp t), args := #[.tmp s], argTypes := #[T] }) : (execOp a.eval oo).run Try.prog w = .ok (.enter k (#[a.tmps.getD s undef] ++ cap)) w := by
  have h' : a.tmps[t]?.getD undef = .func (.func k) #[] cap := by simpa using h
  unfold execOp
  rw [ho]
  go_simp
/-- what holds of the world until octet vi is stored, and behind it -/
def GateOk (w3 : World) (g gb gt : Nat) (cs : Array Value) (v : List UInt8) (d : Nat → Bool) (w' : World) : Prop := Below w3.heap.size w3 w' ∧ w'.heap[gt]? = some (.cells cs 43 (0, 0)) ∧ (d 14 = false → HasV w' g gb v)
section
variable {w3 w' w'' : World} {g gb gt : Nat} {cs : Array Value} {v : List UInt8} {d : Nat → Bool}
theorem GateOk.read {i : Nat} (_hi : i ≠ 14) (h : GateOk w3 g gb gt cs v d w') : GateOk w3 g gb gt cs v (fun j => decide (j = i) || d j) w' := ⟨h.1, h.2.1, fun e => h.2.2 (by simp only [Bool.or_eq_false_iff] at e; exact e.2)⟩
theorem GateOk.below (h : GateOk w3 g gb gt cs v d w') (hb : Below w'.heap.size w' w'') : GateOk w3 g gb gt cs v d w'' := ⟨h.1.trans (hb.mono h.1.size), (hb.block _ (lt_of_block h.2.1)).trans h.2.1, fun e => (h.2.2 e).keep hb⟩
theorem GateOk.store {i : Nat} (h : GateOk w3 g gb gt cs v d w') (hg : w3.heap.size ≤ gb) (hn : gt ≠ gb) (x : Value) : GateOk w3 g gb gt cs v (fun j => decide (j = 14) || d j) (w'.setCell ⟨gb, i, none⟩ x) :=
  ⟨h.1.setCell (p := ⟨gb, i, none⟩) hg _, (Below.heap_setCell _ _ _ _ hn).trans h.2.1, fun e => by simp at e⟩
theorem gate_cell {x y z : Value} (h : w'.heap[gt]? = some (.cells #[x, y, z] 43 (0, 0))) : w'.cell? ⟨gt, 0, none⟩ = some x ∧ w'.cell? ⟨gt, 1, none⟩ = some y ∧ w'.cell? ⟨gt, 2, none⟩ = some z := two_cells h
theorem gate_slice {n : Nat} (h : d 14 = false → HasV w' g gb v) (h2 : d 14 = false) (hn : v.length = n) : w'.cell? ⟨g, 0, none⟩ = some (.slice (some ⟨gb, 0, none⟩) n n) := by
  have := (h h2).c
  rwa [hn] at this
end
/-- what operation j of the region leaves -/
def tpinR (gb n j vi : Nat) (lv xo : Int) (sx : ByteArray) : Nat → (Nat → Value) → World → Prop
  | 0, f, _ => f 28 = .slice (some ⟨gb, 0, none⟩) n n
  | 1, f, _ => f 29 = .int .i64 lv
  | 2, f, _ => f 30 = .int .i64 (vi : Int)
  | 3, f, _ => f 31 = .string sx
  | 4, f, _ => f 32 = .int .i64 (j : Int)
  | 5, f, _ => f 33 = .int .u8 xo
  | 6, f, _ => f 34 = .pointer (some ⟨gb, vi, none⟩)
  | 7, _, _ => True
  | _, _, _ => True
def tpinM : Nat → List Nat
  | 0 => [28]
  | 1 => [29]
  | 2 => [30]
  | 3 => [31]
  | 4 => [32]
  | 5 => [33]
  | 6 => [34]
  | 7 => []
  | _ => []
theorem tpin_stab {gb n j vi : Nat} {lv xo : Int} {sx : ByteArray} (jj : Nat) {f f' : Nat → Value} {w w' : World}  (hf : ∀ t ∈ tpinM jj, f' t = f t) (h : tpinR gb n j vi lv xo sx jj f w) : tpinR gb n j vi lv xo sx jj f' w' := by
  match jj, hf, h with
  | 0, hf, h => exact (hf 28 (by decide)).trans h
  | 1, hf, h => exact (hf 29 (by decide)).trans h
  | 2, hf, h => exact (hf 30 (by decide)).trans h
  | 3, hf, h => exact (hf 31 (by decide)).trans h
  | 4, hf, h => exact (hf 32 (by decide)).trans h
  | 5, hf, h => exact (hf 33 (by decide)).trans h
  | 6, hf, h => exact (hf 34 (by decide)).trans h
  | 7, _, _ => trivial
  | _ + 8, _, _ => trivial
/-- what operation j of the region leaves -/
def tlatR (gb gt n j vi : Nat) (lv xo : Int) (sx : ByteArray) : Nat → (Nat → Value) → World → Prop
  | 0, f, _ => f 44 = .slice (some ⟨gb, 0, none⟩) n n
  | 1, f, _ => f 45 = .pointer (some ⟨gt, 0, none⟩)
  | 2, f, _ => f 46 = .int .i64 lv
  | 3, f, _ => f 47 = .int .i64 (vi : Int)
  | 4, f, _ => f 48 = .string sx
  | 5, f, _ => f 49 = .int .i64 (j : Int)
  | 6, f, _ => f 50 = .int .u8 xo
  | 7, f, _ => f 51 = .pointer (some ⟨gb, vi, none⟩)
  | 8, _, _ => True
  | _, _, _ => True
def tlatM : Nat → List Nat
  | 0 => [44]
  | 1 => [45]
  | 2 => [46]
  | 3 => [47]
  | 4 => [48]
  | 5 => [49]
  | 6 => [50]
  | 7 => [51]
  | 8 => []
  | _ => []
theorem tlat_stab {gb gt n j vi : Nat} {lv xo : Int} {sx : ByteArray} (jj : Nat) {f f' : Nat → Value} {w w' : World}  (hf : ∀ t ∈ tlatM jj, f' t = f t) (h : tlatR gb gt n j vi lv xo sx jj f w) : tlatR gb gt n j vi lv xo sx jj f' w' := by
  match jj, hf, h with
  | 0, hf, h => exact (hf 44 (by decide)).trans h
  | 1, hf, h => exact (hf 45 (by decide)).trans h
  | 2, hf, h => exact (hf 46 (by decide)).trans h
  | 3, hf, h => exact (hf 47 (by decide)).trans h
  | 4, hf, h => exact (hf 48 (by decide)).trans h
  | 5, hf, h => exact (hf 49 (by decide)).trans h
  | 6, hf, h => exact (hf 50 (by decide)).trans h
  | 7, hf, h => exact (hf 51 (by decide)).trans h
  | 8, _, _ => trivial
  | _ + 9, _, _ => trivial
theorem op_field_api_And_1 (a : Act) (w : World) (b : Nat) (t : Nat) (h : a.tmps.getD t undef = .pointer (some ⟨b, 0, none⟩)) (oo : Oper) (ho : oo.op = .fieldAddr 43 (.tmp t) 1) : (execOp a.eval oo).run Try.prog w = .ok (.value (.pointer (some ⟨b, 1, none⟩))) w := by
  have h' : a.tmps[t]?.getD undef = .pointer (some ⟨b, 0, none⟩) := by simpa using h
  unfold execOp
  rw [ho]
  go_simp
theorem op_field_api_And_2 (a : Act) (w : World) (b : Nat) (t : Nat) (h : a.tmps.getD t undef = .pointer (some ⟨b, 0, none⟩)) (oo : Oper) (ho : oo.op = .fieldAddr 43 (.tmp t) 2) : (execOp a.eval oo).run Try.prog w = .ok (.value (.pointer (some ⟨b, 2, none⟩))) w := by
  have h' : a.tmps[t]?.getD undef = .pointer (some ⟨b, 0, none⟩) := by simpa using h
  unfold execOp
  rw [ho]
  go_simp
/-- what operation j of the region leaves -/
def tgateR (cv : Value) (g gb gt n vi : Nat) (x y z b1 b2 b3 : Int) (v9 : List UInt8) : Nat → (Nat → Value) → World → Prop
  | 0, f, _ => f 61 = .slice (some ⟨gb, 0, none⟩) n n
  | 1, f, _ => f 62 = .pointer (some ⟨gt, 0, none⟩)
  | 2, f, _ => f 63 = .int .i64 x
  | 3, f, _ => f 64 = .int .i64 (vi : Int)
  | 4, f, _ => f 65 = cv
  | 5, f, _ => f 66 = .pointer (some ⟨gt, 1, none⟩)
  | 6, f, _ => f 67 = .int .i64 y
  | 7, f, _ => f 68 = .int .u8 b1
  | 8, f, _ => f 69 = cv
  | 9, f, _ => f 70 = .pointer (some ⟨gt, 2, none⟩)
  | 10, f, _ => f 71 = .int .i64 z
  | 11, f, _ => f 72 = .int .u8 b2
  | 12, f, _ => f 73 = .int .u8 b3
  | 13, f, _ => f 74 = .pointer (some ⟨gb, vi, none⟩)
  | 14, _, w => HasV w g gb v9
  | _, _, _ => True
def tgateM : Nat → List Nat
  | 0 => [61]
  | 1 => [62]
  | 2 => [63]
  | 3 => [64]
  | 4 => [65]
  | 5 => [66]
  | 6 => [67]
  | 7 => [68]
  | 8 => [69]
  | 9 => [70]
  | 10 => [71]
  | 11 => [72]
  | 12 => [73]
  | 13 => [74]
  | 14 => []
  | _ => []
theorem tgate_stab {cv : Value} {g gb gt n vi : Nat} {x y z b1 b2 b3 : Int} {v9 : List UInt8} (jj : Nat) {f f' : Nat → Value} {w w' : World} (h14 : jj = 14 → Below w.heap.size w w') (hf : ∀ t ∈ tgateM jj, f' t = f t) (h : tgateR cv g gb gt n vi x y z b1 b2 b3 v9 jj f w) : tgateR cv g gb gt n vi x y z b1 b2 b3 v9 jj f' w' := by
  match jj, hf, h, h14 with
  | 0, hf, h, _ => exact (hf 61 (by decide)).trans h
  | 1, hf, h, _ => exact (hf 62 (by decide)).trans h
  | 2, hf, h, _ => exact (hf 63 (by decide)).trans h
  | 3, hf, h, _ => exact (hf 64 (by decide)).trans h
  | 4, hf, h, _ => exact (hf 65 (by decide)).trans h
  | 5, hf, h, _ => exact (hf 66 (by decide)).trans h
  | 6, hf, h, _ => exact (hf 67 (by decide)).trans h
  | 7, hf, h, _ => exact (hf 68 (by decide)).trans h
  | 8, hf, h, _ => exact (hf 69 (by decide)).trans h
  | 9, hf, h, _ => exact (hf 70 (by decide)).trans h
  | 10, hf, h, _ => exact (hf 71 (by decide)).trans h
  | 11, hf, h, _ => exact (hf 72 (by decide)).trans h
  | 12, hf, h, _ => exact (hf 73 (by decide)).trans h
  | 13, hf, h, _ => exact (hf 74 (by decide)).trans h
  | 14, hf, h, h14 =>
    exact h.keep (h14 rfl)
  | _ + 15, _, _, _ => trivial
/-- what the closure over values answers of a literal -/
theorem of1_any (g gb : Nat) (v : List UInt8) (l : Int) (w : World) (h : HasV w g gb v) (h1 : l ≤ 9223372036854775807) (hl : cnt l / 2 < (v.length : Int)) (ht : ∀ y ∈ v, isT y) :
    Calls Try.prog 121 #[.int .i64 l, .pointer (some ⟨g, 0, none⟩)] w fun e w' => e = .returned (.int .u8 (((ofT v l).toNat : Nat) : Int)) ∧ Below w.heap.size w w' := by
  have h0 : 0 ≤ cnt l / 2 := by unfold cnt; split <;> omega
  obtain ⟨i, hi⟩ : ∃ i : Nat, cnt l / 2 = (i : Int) := ⟨(cnt l / 2).toNat, by omega⟩
  have hil : i < v.length := by omega
  obtain ⟨x, hx⟩ : ∃ x, v.getD i 120 = x := ⟨_, rfl⟩
  have hxi : v[i] = x := by rw [← hx, List.getD_eq_getElem?_getD, List.getElem?_eq_getElem hil]; rfl
  obtain ⟨p, hp⟩ : ∃ p, decide (cnt l % 2 = 1) = p := ⟨_, rfl⟩
  have HO : ofT v l = litT x p := by
    rw [of_is v l i x p hi hx hp, lit_of (by rw [← hxi]; exact ht _ (List.getElem_mem hil))]
  rw [HO]
  have c := h.c
  have c1 := h.at hil
  rw [hxi] at c1
  have hz : (i : Int) < (v.length : Int) := by omega
  have hz0 : (0 : Int) ≤ (i : Int) := by omega
  have K1 := Lib.hid (fun (u : Wd w.heap.size w) => Calls.in_wd u ((var_any l u.w h1).mono fun e w' ⟨h1, h2⟩ => ⟨h1, h2 ▸ Below.refl _ _⟩) (Nat.le_refl _))
  have K2 := Lib.hid (fun (u : Wd w.heap.size w) => Calls.in_wd u ((neg_any l u.w h1).mono fun e w' ⟨h1, h2⟩ => ⟨h1, h2 ▸ Below.refl _ _⟩) (Nat.le_refl _))
  have K3 := Lib.hid (fun (u : Wd w.heap.size w) => Calls.in_wd u ((literal_any x p u.w).mono fun e w' ⟨h1, h2⟩ => ⟨h1, h2 ▸ Below.refl _ _⟩) (Nat.le_refl _))
  rw [hi] at K1
  rw [hp] at K2
  clear h hx hxi hp HO ht h0 hi hl
  generalize v.length = n at *
  go_enter Try.func121, Try.ntmps121
  go_wp2
  have u1 := Wd.cell c
  have u2 := Wd.cell c1
  refine wp_region_wd (by kernel_rfl) (by kernel_rfl) ?_
  repeat (first | go_big_quiet_skip | (go_big_quiet_want; go_big_quiet_op; first | go_big_quiet_on | (apply Exists.intro; refine ⟨fun u => ?_, ?_⟩; (first | (go_at_call 66; with_reducible exact K1.out u) | (go_at_call 86; with_reducible exact K2.out u) | (go_at_call 85; with_reducible exact K3.out u)); go_big_quiet_on)))
  refine wpQuiet_nil ?_
  intro wz9 hw'
  obtain ⟨⟨_, hb9⟩, hw''⟩ := hw'
  subst hw''
  go_wp2
  go_ret
  exact ⟨rfl, hb9⟩
/-- Of trits -/
theorem of_any (s : ByteArray) (l : Int) (w : World) (_hs : s.size ≤ 9223372036854775807) (h1 : l ≤ 9223372036854775807) (ht : ∀ y ∈ s.data.toList, isT y) :
    Calls Try.prog 45 #[.string s, .int .i64 l] w fun e w' => e = .returned (.int .u8 (((ofT s.data.toList l).toNat : Nat) : Int)) ∧ Below w.heap.size w w' := by
  have h0 : 0 ≤ cnt l / 2 := by unfold cnt; split <;> omega
  obtain ⟨i, hi⟩ : ∃ i : Nat, cnt l / 2 = (i : Int) := ⟨(cnt l / 2).toNat, by omega⟩
  obtain ⟨x, hx⟩ : ∃ x, s.data.toList.getD i 120 = x := ⟨_, rfl⟩
  obtain ⟨p, hp⟩ : ∃ p, decide (cnt l % 2 = 1) = p := ⟨_, rfl⟩
  have HO := of_is s.data.toList l i x p hi hx hp
  have VA := Lib.hid (fun w => var_any l w h1)
  rw [hi] at VA
  by_cases hlt : i < s.size
  · have hl' : i < s.data.toList.length := by simpa using hlt
    have hxi : s.data.toList[i] = x := by rw [← hx, List.getD_eq_getElem?_getD, List.getElem?_eq_getElem hl']; rfl
    have HL : ofT s.data.toList l = litT x p := by
      rw [HO, lit_of (by rw [← hxi]; exact ht _ (List.getElem_mem hl'))]
    rw [HL]
    have hxs : s[i]'hlt = x := by rw [← hxi, Array.getElem_toList]; rfl
    have hz0 : (0 : Int) ≤ (i : Int) := by omega
    have hz : (i : Int) < (s.size : Int) := by omega
    have K2 := Lib.hid (fun (u : Wd w.heap.size w) => Calls.in_wd u ((neg_any l u.w h1).mono fun e w' ⟨h1, h2⟩ => ⟨h1, h2 ▸ Below.refl _ _⟩) (Nat.le_refl _))
    have K3 := Lib.hid (fun (u : Wd w.heap.size w) => Calls.in_wd u ((literal_any x p u.w).mono fun e w' ⟨h1, h2⟩ => ⟨h1, h2 ▸ Below.refl _ _⟩) (Nat.le_refl _))
    rw [← hxs] at K3 ⊢
    rw [hp] at K2
    clear hx hxi hp HO ht h0 hi HL hl' hxs
    go_enter Try.func45, Try.ntmps45
    go_wp2_with fail
    refine (VA.out w).mono ?_
    rintro e w' ⟨rfl, rfl⟩
    go_wp2
    refine wp_region_wd (by kernel_rfl) (by kernel_rfl) ?_
    repeat (first | go_big_quiet_skip | (go_big_quiet_want; go_big_quiet_op; first | go_big_quiet_on | (apply Exists.intro; refine ⟨fun u => ?_, ?_⟩; (first | (go_at_call 86; with_reducible exact K2.out u) | (go_at_call 85; with_reducible exact K3.out u)); go_big_quiet_on)))
    refine wpQuiet_nil ?_
    intro wz9 hw'
    obtain ⟨⟨_, hb9⟩, hw''⟩ := hw'
    subst hw''
    go_wp2
    go_ret
    exact ⟨rfl, hb9⟩
  · have hxx : x = 120 := by
      rw [← hx, List.getD_eq_getElem?_getD, List.getElem?_eq_none (by simp; omega)]; rfl
    have HX : ofT s.data.toList l = 120 := by
      rw [HO, hxx]; cases p <;> rfl
    rw [HX]
    clear hx hxx hp HO ht h0 hi HX
    go_enter Try.func45, Try.ntmps45
    go_wp2_with fail
    refine (VA.out w).mono ?_
    rintro e w' ⟨rfl, rfl⟩
    go_wp2
    go_ret
    exact ⟨rfl, Below.refl _ _⟩
end Go.Proofs.Ythcigpklbhjglaa.Ter
