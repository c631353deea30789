/- Texts of bits, and values of circuits, as plain functions; no program is named here, no condition. -/
import Derived.Test.YtbgcoeejmnejdaaPt03
import Derived.Shelf.GgClosure.StringsIndexFunc
import Derived.Laws.RangeAny
namespace Go.Proofs.Ytbgcoeejmnejdaa.Sim
open Circ Cw

def isBit (x : UInt8) : Bool := decide (x.toNat = 48) || decide (x.toNat = 49)
/-- is s n bits? -/
def bitsM (s : ByteArray) (n : Int) : Bool := decide ((s.size : Int) = n) && s.data.toList.all isBit
def otherR (r : Nat) : Bool := decide (r ≠ 48) && decide (r ≠ 49)

theorem idx_from (s : ByteArray) : ∀ (f pos : Nat), s.size ≤ pos + f → (0 ≤ Lib.idxFuncFrom otherR true s f pos ↔ ∃ i, ∃ h : i < s.size, pos ≤ i ∧ isBit (s[i]'h) = false)
  | 0, pos, hf => by
    unfold Lib.idxFuncFrom
    constructor
    · intro h; omega
    · rintro ⟨i, h, h1, _⟩; omega
  | f + 1, pos, hf => by
    by_cases hp : pos < s.size
    · unfold Lib.idxFuncFrom
      rw [if_pos hp]
      rcases Nat.lt_or_ge (s[pos]'hp).toNat 128 with ha | ha
      · rw [decode_ascii s pos hp ha]
        by_cases hb : isBit (s[pos]'hp) = true
        · have ho : otherR (s[pos]'hp).toNat = false := by
            unfold isBit at hb
            unfold otherR
            simp only [Bool.or_eq_true, decide_eq_true_eq] at hb
            rcases hb with h | h <;> rw [h] <;> rfl
          simp only [ho]
          rw [if_neg (by decide), idx_from s f (pos + 1) (by omega)]
          constructor
          · rintro ⟨i, h, h1, h2⟩; exact ⟨i, h, by omega, h2⟩
          · rintro ⟨i, h, h1, h2⟩
            refine ⟨i, h, ?_, h2⟩
            rcases Nat.lt_or_ge pos i with h3 | h3
            · omega
            · obtain rfl : i = pos := by omega
              rw [hb] at h2; cases h2
        · have ho : otherR (s[pos]'hp).toNat = true := by
            unfold isBit at hb
            unfold otherR
            simp only [Bool.or_eq_true, decide_eq_true_eq, not_or] at hb
            simp only [Bool.and_eq_true, decide_eq_true_eq]
            exact hb
          simp only [ho]
          rw [if_pos trivial]
          constructor
          · intro _; exact ⟨pos, hp, Nat.le_refl _, by simpa using hb⟩
          · intro _; omega
      · obtain ⟨h1, h2⟩ := decode_high s pos hp ha
        have ho : otherR (Utf8.decode s pos).1 = true := by
          unfold otherR
          simp only [Bool.and_eq_true, decide_eq_true_eq]
          omega
        rw [ho, if_pos rfl]
        constructor
        · intro _
          refine ⟨pos, hp, Nat.le_refl _, ?_⟩
          unfold isBit
          simp only [Bool.or_eq_false_iff, decide_eq_false_iff_not]
          omega
        · intro _; omega
    · rw [Lib.idxFuncFrom_end _ _ _ _ _ hp]
      constructor
      · intro h; omega
      · rintro ⟨i, h, h1, _⟩; omega
theorem idx_bits (s : ByteArray) : decide (0 ≤ Lib.idxFunc otherR true s) = !(s.data.toList.all isBit) := by
  have h := idx_from s s.size 0 (by omega)
  unfold Lib.idxFunc
  cases hq : s.data.toList.all isBit with
  | true =>
    rw [List.all_eq_true] at hq
    rw [Bool.not_true, decide_eq_false_iff_not, h]
    rintro ⟨i, hi, -, hb⟩
    have := hq (s[i]'hi) (by
      rw [show s[i]'hi = s.data[i]'hi from rfl]
      simp)
    rw [this] at hb; cases hb
  | false =>
    rw [Bool.not_false, decide_eq_true_eq, h]
    rw [List.all_eq_false] at hq
    obtain ⟨x, hx, hb⟩ := hq
    obtain ⟨i, hi, rfl⟩ := List.mem_iff_getElem.1 hx
    have hi' : i < s.size := by simpa using hi
    exact ⟨i, hi', Nat.zero_le _, by
      rw [show s[i]'hi' = s.data[i]'hi' from rfl]
      simpa using hb⟩

/-- is literal l true among values v? -/
def trueM (v : List UInt8) (l : Int) : Bool := decide (v[(cnt l / 2).toNat]? = some 49) != decide (cnt l % 2 = 1)
def holdsM (v : List UInt8) (l : List Int) : Bool := l.any (trueM v)
/-- so many zeros -/
def zeroV (c : Cir) : List UInt8 := List.replicate (c.max.toNat + 1) 48
def putV (v : List UInt8) (l : Int) (x : UInt8) : List UInt8 := v.set (l / 2).toNat x
/-- the first k of some literals are as a text says -/
def putsV (v : List UInt8) (L : List Int) (s : ByteArray) : Nat → List UInt8
  | 0 => v
  | k + 1 => putV (putsV v L s k) (L.getD k 0) (s.data.toList.getD k 0)
def gateV (v : List UInt8) (t : Tri) : List UInt8 := if trueM v t.b && trueM v t.c then putV v t.a 49 else v
def gatesV (v : List UInt8) (l : List Tri) : List UInt8 := l.foldl gateV v
def baseB (c : Cir) (st inp : ByteArray) : List UInt8 := putsV (putsV (zeroV c) c.ins inp c.ins.length) (c.lats.map Tri.a) st c.lats.length
/-- the values of a circuit in a state and with an input -/
def valsM (c : Cir) (st inp : ByteArray) : List UInt8 := gatesV (baseB c st inp) c.ands
theorem putV_len (v : List UInt8) (l : Int) (x : UInt8) : (putV v l x).length = v.length := by unfold putV; simp
theorem putsV_len (v : List UInt8) (L : List Int) (s : ByteArray) : ∀ k, (putsV v L s k).length = v.length
  | 0 => rfl
  | k + 1 => by unfold putsV; rw [putV_len, putsV_len v L s k]
theorem gateV_len (v : List UInt8) (t : Tri) : (gateV v t).length = v.length := by unfold gateV; split <;> simp [putV_len]
theorem gatesV_len : ∀ (l : List Tri) (v : List UInt8), (gatesV v l).length = v.length
  | [], _ => rfl
  | t :: l, v => by
    show (gatesV (gateV v t) l).length = _
    rw [gatesV_len l, gateV_len]
theorem gatesV_snoc (v : List UInt8) (l : List Tri) (k : Nat) (h : k < l.length) : gatesV v (l.take (k + 1)) = gateV (gatesV v (l.take k)) l[k] := by
  unfold gatesV
  rw [List.take_succ_eq_append_getElem h, List.foldl_append]; rfl
theorem base_len (c : Cir) (st inp : ByteArray) : (baseB c st inp).length = c.max.toNat + 1 := by
  unfold baseB zeroV; rw [putsV_len, putsV_len]; simp
theorem vals_len (c : Cir) (st inp : ByteArray) : (valsM c st inp).length = c.max.toNat + 1 := by
  unfold valsM; rw [gatesV_len, base_len]
end Go.Proofs.Ytbgcoeejmnejdaa.Sim
