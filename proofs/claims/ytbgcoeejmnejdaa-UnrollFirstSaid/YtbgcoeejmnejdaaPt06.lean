/- The walk of circuit's look at a name's text; no condition. Sets of numbers in memory: a map of int to nothing; no condition. -/
import Derived.Test.YtbgcoeejmnejdaaPt03
import Derived.Lib.ConvBytes
import Derived.Maps.OwnSet
namespace Go.Proofs.Ytbgcoeejmnejdaa.Cw
open Go.ChangeShapes Go.WideShapes Go.ChangeAt Go.RowKit Circ
theorem need_t (b : Bool) (w : World) (hb : b = true) : Calls Try.prog 123 #[.bool b] w fun e w' => e = .returned (.tuple #[]) ∧ w = w' := by subst hb; exact need_any true w
theorem need_f (b : Bool) (w : World) (hb : b = false) : Calls Try.prog 123 #[.bool b] w fun e w' => e = .panicked fault ∧ w = w' := by subst hb; exact need_any false w

def octetOk (b : UInt8) : Bool := decide (33 ≤ b.toNat) && decide (b.toNat ≤ 126)
def textOk (s : ByteArray) : Bool := decide (0 < s.size) && decide (s.size ≤ 32) && s.data.toList.all octetOk

theorem bytes_made (w : World) (s : ByteArray) : ∃ (cap : Nat) (W2 : World), (convert 9 87 (.string s)).run Try.prog w = .ok (.slice (some ⟨w.heap.size, 0, none⟩) s.size cap) W2 ∧
    (∀ (j : Nat) (hj : j < s.data.toList.length), W2.cell? ⟨w.heap.size, j, none⟩ = some (.int .u8 (s.data.toList[j]).toNat)) ∧ Below w.heap.size w W2 := by
  refine ⟨_, _, Lib.run_convert_string_bytes w 9 87 5 s Try.underlying9 Try.underlying87 Try.underlying5, fun j hj => ?_, ?_⟩
  · rw [Lib.bytesWorld_cell w 5 s j (by simpa using hj)]
    rw [List.getD_eq_getElem?_getD, List.getElem?_eq_getElem hj]; rfl
  · exact ⟨rfl, rfl, rfl, by rw [Lib.bytesWorld_size]; omega, fun k hk => Lib.bytesWorld_at_old w 5 s k hk⟩

set_option maxRecDepth 100000 in
set_option maxHeartbeats 1000000 in
theorem text_any (s : ByteArray) (w : World) (hs : s.size ≤ 9223372036854775807) : 
    Calls Try.prog 129 #[.string s] w fun e w' => e = told (textOk s) ∧ Below w.heap.size w w' := by
  by_cases h0 : 0 < s.size
  case neg =>
    have hq : textOk s = false := by unfold textOk; simp [h0]
    have HQ := Lib.hid hq; clear hq
    go_enter Try.func129, Try.ntmps129
    go_wp2_with fail
    refine (need_f _ _ ?_).mono ?_
    · simp; try omega
    rintro e w' ⟨rfl, rfl⟩
    go_wp2
    exact ⟨rfl, by rw [HQ.out]; rfl, Below.refl _ _⟩
  case pos =>
  by_cases h1 : s.size ≤ 32
  case neg =>
    have hq : textOk s = false := by unfold textOk; simp [h1]
    have HQ := Lib.hid hq; clear hq
    have H1 : Hid (¬ s.size ≤ 32) := h1
    clear h1
    go_enter Try.func129, Try.ntmps129
    go_wp2_with fail
    refine (need_f _ _ ?_).mono ?_
    · have := H1.out; simp; omega
    rintro e w' ⟨rfl, rfl⟩
    go_wp2
    exact ⟨rfl, by rw [HQ.out]; rfl, Below.refl _ _⟩
  case pos =>
  have hq : textOk s = s.data.toList.all octetOk := by unfold textOk; simp [h0, h1]
  have HQ := Lib.hid hq; clear hq
  obtain ⟨cap, W2, hconv, hcell, hbel⟩ := bytes_made w s
  have HC := Lib.hid hcell; clear hcell
  have hlen : s.data.toList.length = s.size := by simp
  have HL := Lib.hid hlen; clear hlen
  have H1 : Hid (s.size ≤ 32) := h1
  clear h1
  go_enter Try.func129, Try.ntmps129
  go_wp2_with fail
  refine (need_t _ _ ?_).mono ?_
  · have := H1.out; simp; omega
  rintro e w' ⟨rfl, rfl⟩
  go_wp2
  go_loop [16] (fun i => ∃ k : Nat, k ≤ s.size ∧ i = .int .i64 k ∧ (s.data.toList.take k).all octetOk = true) (fun i => s.size - (intOf i).toNat)
  case atStart => exact ⟨0, Nat.zero_le _, rfl, rfl⟩
  case round =>
    obtain ⟨k, hk, rfl, hno⟩ := hrel
    have HN := Lib.hid hno; clear hno
    by_cases hlt : k < s.size
    · have hk5 : k < s.data.toList.length := by rw [HL.out]; exact hlt
      have hc := HC.out k hk5
      have HX := Lib.hid (all_take s.data.toList octetOk k hk5)
      have HS := Lib.hid (all_not s.data.toList octetOk k hk5)
      generalize s.data.toList[k] = x at *
      have hx := x.toNat_lt
      by_cases hx1 : 33 ≤ x.toNat
      case neg =>
        have hf : octetOk x = false := by unfold octetOk; simp [hx1]
        have HF := Lib.hid hf; clear hf
        go_wp2_with fail
        refine (need_f _ _ ?_).mono ?_
        · simp; try omega
        rintro e w' ⟨rfl, rfl⟩
        go_wp2
        exact ⟨rfl, by rw [HQ.out, HS.out HF.out]; rfl, hbel⟩
      case pos =>
      by_cases hx2 : x.toNat ≤ 126
      case neg =>
        have hf : octetOk x = false := by unfold octetOk; simp [hx2]
        have HF := Lib.hid hf; clear hf
        go_wp2_with fail
        refine (need_f _ _ ?_).mono ?_
        · simp; try omega
        rintro e w' ⟨rfl, rfl⟩
        go_wp2
        exact ⟨rfl, by rw [HQ.out, HS.out HF.out]; rfl, hbel⟩
      case pos =>
      have hf : octetOk x = true := by unfold octetOk; simp [hx1, hx2]
      have HF := Lib.hid hf; clear hf
      go_wp2_with fail
      refine (need_t _ _ ?_).mono ?_
      · simp; try omega
      rintro e w' ⟨rfl, rfl⟩
      go_wp2
      go_round
      case rel => exact ⟨k + 1, by omega, by go_num, by rw [HX.out, HN.out, HF.out]; rfl⟩
      case measure => simp [intOf]; omega
    · obtain rfl : k = s.size := by omega
      rw [List.take_of_length_le (Nat.le_of_eq HL.out)] at HN
      go_wp2
      go_end0
      exact ⟨by rw [HQ.out, HN.out]; rfl, hbel⟩
end Go.Proofs.Ytbgcoeejmnejdaa.Cw
namespace Go.Proofs.Ytbgcoeejmnejdaa.Cw
open Go.ChangeShapes Go.WideShapes Go.ChangeAt Go.RowKit Go.Maps Circ

theorem key3 : Keyed Try.prog 3 := int_keyed Try.underlying3
theorem zero65 (w : World) : (zeroValue 147).run Try.prog w = .ok (.agg #[]) w := by kernel_rfl

/-- block B is a map whose keys are just the numbers of S -/
def IsSet (w : World) (B : Nat) (S : List Int) : Prop :=
  ∃ n D, w.ownsMap Try.prog 3 (unitElem (H := Unit)) B n D ∧ n ≤ S.length ∧ ∀ x, I64 x → Maps.has D (.int .i64 x) = S.contains x

theorem wf64 {x : Int} (h : I64 x) : (Lit.int .i64 x).wf = true := WalkArith.wf_i64 h
theorem key_of {x : Int} (h : I64 x) : keyOf Try.prog 3 (.int .i64 x) = some (.int .i64 x) := keyOf_int_mk Try.underlying3 (wf64 h)

theorem IsSet.made (w : World) : IsSet (w.alloc (.map #[] 0)) w.heap.size [] :=
  ⟨0, _, World.ownsMap_made w _ _ _, Nat.le_refl _, fun _ _ => rfl⟩
theorem IsSet.lt {w : World} {B : Nat} {S : List Int} (h : IsSet w B S) : B < w.heap.size := by
  obtain ⟨n, D, h1, _⟩ := h; exact h1.lt
theorem IsSet.keep {w w' : World} {B : Nat} {S : List Int} (h : IsSet w B S) (hb : w'.heap[B]? = w.heap[B]?) : IsSet w' B S := by
  obtain ⟨n, D, ⟨es, cl, h0, r⟩, h2⟩ := h
  exact ⟨n, D, ⟨es, cl, hb.trans h0, r⟩, h2⟩
theorem IsSet.below {w w' : World} {B C : Nat} {S : List Int} (h : IsSet w B S) (hb : Below C w w') (hC : B < C) : IsSet w' B S := h.keep (hb.block B hC)
theorem IsSet.alloc {w : World} {B : Nat} {S : List Int} (h : IsSet w B S) (o : Obj) : IsSet (w.alloc o) B S := h.keep (Below.heap_alloc w o B h.lt)
theorem IsSet.drew {w : World} {B : Nat} {S : List Int} (h : IsSet w B S) : IsSet w.drew B S := h
theorem IsSet.look {w : World} {B : Nat} {S : List Int} (h : IsSet w B S) {x : Int} (hx : I64 x) :
    (Instr.lookup 112 (.map (some B)) (.int .i64 x) true).run Try.prog w = .ok (.tuple #[.agg #[], .bool (S.contains x)]) w := by
  obtain ⟨n, D, h1, _, h3⟩ := h
  obtain ⟨v, ps, hr, hv⟩ := h1.look_ok key3 Try.underlying112 (zero65 w) unitElem_mk (key_of hx)
  obtain ⟨rfl, _⟩ := unitElem_inv hv
  rw [h3 x hx] at hr
  exact hr
theorem IsSet.store {w : World} {B : Nat} {S : List Int} (h : IsSet w B S) {x : Int} (hx : I64 x) (hn : S.length < 9223372036854775807) :
    ∃ w', (Instr.mapUpdate 112 (.map (some B)) (.int .i64 x) (.agg #[])).run Try.prog w = .ok () w' ∧ IsSet w' B (x :: S) ∧ w.grownBy w' (some B) := by
  obtain ⟨n, D, h1, h2, h3⟩ := h
  obtain ⟨w', hr, h4, h5⟩ := h1.store key3 Try.underlying112 (by unfold maxLen; omega) (key_of hx) unitElem_mk
  refine ⟨w', hr, ⟨n + 1, _, h4, by simp; omega, fun y hy => ?_⟩, h5.grown⟩
  by_cases e : y = x
  · subst e
    rw [has_put_same h1.isMap (key3.key (key_of hx))]
    simp
  · rw [has_put_other (by simpa using e), h3 y hy]
    simp [e]
end Go.Proofs.Ytbgcoeejmnejdaa.Cw
