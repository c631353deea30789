/- The walk of circuit's look at a name's text; no condition. Sets of numbers in memory: a map of int to nothing; no condition. The walks of circuit's looks at literals that are named, and at those that stand for what they are alone; no condition. -/
import Derived.Test.YtpaneggajjgdlaaPt02
import Derived.Lib.ConvBytes
import Derived.Maps.OwnSet
import Derived.Deep.RegionWith
import Derived.Deep.RegionHeld3
import Derived.BigRegion
namespace Go.Proofs.Ytpaneggajjgdlaa.Cw
open Go.ChangeShapes Go.WideShapes Go.ChangeAt Go.RowKit Circ
theorem need_t (b : Bool) (w : World) (hb : b = true) : Calls Try.prog 89 #[.bool b] w fun e w' => e = .returned (.tuple #[]) ∧ w = w' := by subst hb; exact need_any true w
theorem need_f (b : Bool) (w : World) (hb : b = false) : Calls Try.prog 89 #[.bool b] w fun e w' => e = .panicked fault ∧ w = w' := by subst hb; exact need_any false w

def octetOk (b : UInt8) : Bool := decide (33 ≤ b.toNat) && decide (b.toNat ≤ 126)
def textOk (s : ByteArray) : Bool := decide (0 < s.size) && decide (s.size ≤ 32) && s.data.toList.all octetOk

theorem bytes_made (w : World) (s : ByteArray) : ∃ (cap : Nat) (W2 : World), (convert 9 76 (.string s)).run Try.prog w = .ok (.slice (some ⟨w.heap.size, 0, none⟩) s.size cap) W2 ∧
    (∀ (j : Nat) (hj : j < s.data.toList.length), W2.cell? ⟨w.heap.size, j, none⟩ = some (.int .u8 (s.data.toList[j]).toNat)) ∧ Below w.heap.size w W2 := by
  refine ⟨_, _, Lib.run_convert_string_bytes w 9 76 5 s Try.underlying9 Try.underlying76 Try.underlying5, fun j hj => ?_, ?_⟩
  · rw [Lib.bytesWorld_cell w 5 s j (by simpa using hj)]
    rw [List.getD_eq_getElem?_getD, List.getElem?_eq_getElem hj]; rfl
  · exact ⟨rfl, rfl, rfl, by rw [Lib.bytesWorld_size]; omega, fun k hk => Lib.bytesWorld_at_old w 5 s k hk⟩

set_option maxRecDepth 100000 in
set_option maxHeartbeats 1000000 in
theorem text_any (s : ByteArray) (w : World) (hs : s.size ≤ 9223372036854775807) : 
    Calls Try.prog 95 #[.string s] w fun e w' => e = told (textOk s) ∧ Below w.heap.size w w' := by
  by_cases h0 : 0 < s.size
  case neg =>
    have hq : textOk s = false := by unfold textOk; simp [h0]
    have HQ := Lib.hid hq; clear hq
    go_enter Try.func95, Try.ntmps95
    go_wp2_with fail
    refine (need_f _ _ ?_).mono ?_
    · simp; try omega
    rintro e w' ⟨rfl, rfl⟩
    go_wp2
    exact ⟨rfl, by rw [HQ.out]; rfl, Below.refl _ _⟩
  case pos =>
  by_cases h1 : s.size ≤ 32
  case neg =>
    have hq : textOk s = false := by unfold textOk; simp [h1]
    have HQ := Lib.hid hq; clear hq
    have H1 : Hid (¬ s.size ≤ 32) := h1
    clear h1
    go_enter Try.func95, Try.ntmps95
    go_wp2_with fail
    refine (need_f _ _ ?_).mono ?_
    · have := H1.out; simp; omega
    rintro e w' ⟨rfl, rfl⟩
    go_wp2
    exact ⟨rfl, by rw [HQ.out]; rfl, Below.refl _ _⟩
  case pos =>
  have hq : textOk s = s.data.toList.all octetOk := by unfold textOk; simp [h0, h1]
  have HQ := Lib.hid hq; clear hq
  obtain ⟨cap, W2, hconv, hcell, hbel⟩ := bytes_made w s
  have HC := Lib.hid hcell; clear hcell
  have hlen : s.data.toList.length = s.size := by simp
  have HL := Lib.hid hlen; clear hlen
  have H1 : Hid (s.size ≤ 32) := h1
  clear h1
  go_enter Try.func95, Try.ntmps95
  go_wp2_with fail
  refine (need_t _ _ ?_).mono ?_
  · have := H1.out; simp; omega
  rintro e w' ⟨rfl, rfl⟩
  go_wp2
  go_loop [16] (fun i => ∃ k : Nat, k ≤ s.size ∧ i = .int .i64 k ∧ (s.data.toList.take k).all octetOk = true) (fun i => s.size - (intOf i).toNat)
  case atStart => exact ⟨0, Nat.zero_le _, rfl, rfl⟩
  case round =>
    obtain ⟨k, hk, rfl, hno⟩ := hrel
    have HN := Lib.hid hno; clear hno
    by_cases hlt : k < s.size
    · have hk5 : k < s.data.toList.length := by rw [HL.out]; exact hlt
      have hc := HC.out k hk5
      have HX := Lib.hid (all_take s.data.toList octetOk k hk5)
      have HS := Lib.hid (all_not s.data.toList octetOk k hk5)
      generalize s.data.toList[k] = x at *
      have hx := x.toNat_lt
      by_cases hx1 : 33 ≤ x.toNat
      case neg =>
        have hf : octetOk x = false := by unfold octetOk; simp [hx1]
        have HF := Lib.hid hf; clear hf
        go_wp2_with fail
        refine (need_f _ _ ?_).mono ?_
        · simp; try omega
        rintro e w' ⟨rfl, rfl⟩
        go_wp2
        exact ⟨rfl, by rw [HQ.out, HS.out HF.out]; rfl, hbel⟩
      case pos =>
      by_cases hx2 : x.toNat ≤ 126
      case neg =>
        have hf : octetOk x = false := by unfold octetOk; simp [hx2]
        have HF := Lib.hid hf; clear hf
        go_wp2_with fail
        refine (need_f _ _ ?_).mono ?_
        · simp; try omega
        rintro e w' ⟨rfl, rfl⟩
        go_wp2
        exact ⟨rfl, by rw [HQ.out, HS.out HF.out]; rfl, hbel⟩
      case pos =>
      have hf : octetOk x = true := by unfold octetOk; simp [hx1, hx2]
      have HF := Lib.hid hf; clear hf
      go_wp2_with fail
      refine (need_t _ _ ?_).mono ?_
      · simp; try omega
      rintro e w' ⟨rfl, rfl⟩
      go_wp2
      go_round
      case rel => exact ⟨k + 1, by omega, by go_num, by rw [HX.out, HN.out, HF.out]; rfl⟩
      case measure => simp [intOf]; omega
    · obtain rfl : k = s.size := by omega
      rw [List.take_of_length_le (Nat.le_of_eq HL.out)] at HN
      go_wp2
      go_end0
      exact ⟨by rw [HQ.out, HN.out]; rfl, hbel⟩
end Go.Proofs.Ytpaneggajjgdlaa.Cw
namespace Go.Proofs.Ytpaneggajjgdlaa.Cw
open Go.ChangeShapes Go.WideShapes Go.ChangeAt Go.RowKit Go.Maps Circ

theorem key3 : Keyed Try.prog 3 := int_keyed Try.underlying3
theorem zero65 (w : World) : (zeroValue 121).run Try.prog w = .ok (.agg #[]) w := by kernel_rfl

/-- block B is a map whose keys are just the numbers of S -/
def IsSet (w : World) (B : Nat) (S : List Int) : Prop :=
  ∃ n D, w.ownsMap Try.prog 3 (unitElem (H := Unit)) B n D ∧ n ≤ S.length ∧ ∀ x, I64 x → Maps.has D (.int .i64 x) = S.contains x

theorem wf64 {x : Int} (h : I64 x) : (Lit.int .i64 x).wf = true := WalkArith.wf_i64 h
theorem key_of {x : Int} (h : I64 x) : keyOf Try.prog 3 (.int .i64 x) = some (.int .i64 x) := keyOf_int_mk Try.underlying3 (wf64 h)

theorem IsSet.made (w : World) : IsSet (w.alloc (.map #[] 0)) w.heap.size [] :=
  ⟨0, _, World.ownsMap_made w _ _ _, Nat.le_refl _, fun _ _ => rfl⟩
theorem IsSet.lt {w : World} {B : Nat} {S : List Int} (h : IsSet w B S) : B < w.heap.size := by
  obtain ⟨n, D, h1, _⟩ := h; exact h1.lt
theorem IsSet.keep {w w' : World} {B : Nat} {S : List Int} (h : IsSet w B S) (hb : w'.heap[B]? = w.heap[B]?) : IsSet w' B S := by
  obtain ⟨n, D, ⟨es, cl, h0, r⟩, h2⟩ := h
  exact ⟨n, D, ⟨es, cl, hb.trans h0, r⟩, h2⟩
theorem IsSet.below {w w' : World} {B C : Nat} {S : List Int} (h : IsSet w B S) (hb : Below C w w') (hC : B < C) : IsSet w' B S := h.keep (hb.block B hC)
theorem IsSet.alloc {w : World} {B : Nat} {S : List Int} (h : IsSet w B S) (o : Obj) : IsSet (w.alloc o) B S := h.keep (Below.heap_alloc w o B h.lt)
theorem IsSet.drew {w : World} {B : Nat} {S : List Int} (h : IsSet w B S) : IsSet w.drew B S := h
theorem IsSet.look {w : World} {B : Nat} {S : List Int} (h : IsSet w B S) {x : Int} (hx : I64 x) :
    (Instr.lookup 92 (.map (some B)) (.int .i64 x) true).run Try.prog w = .ok (.tuple #[.agg #[], .bool (S.contains x)]) w := by
  obtain ⟨n, D, h1, _, h3⟩ := h
  obtain ⟨v, ps, hr, hv⟩ := h1.look_ok key3 Try.underlying92 (zero65 w) unitElem_mk (key_of hx)
  obtain ⟨rfl, _⟩ := unitElem_inv hv
  rw [h3 x hx] at hr
  exact hr
theorem IsSet.store {w : World} {B : Nat} {S : List Int} (h : IsSet w B S) {x : Int} (hx : I64 x) (hn : S.length < 9223372036854775807) :
    ∃ w', (Instr.mapUpdate 92 (.map (some B)) (.int .i64 x) (.agg #[])).run Try.prog w = .ok () w' ∧ IsSet w' B (x :: S) ∧ w.grownBy w' (some B) := by
  obtain ⟨n, D, h1, h2, h3⟩ := h
  obtain ⟨w', hr, h4, h5⟩ := h1.store key3 Try.underlying92 (by unfold maxLen; omega) (key_of hx) unitElem_mk
  refine ⟨w', hr, ⟨n + 1, _, h4, by simp; omega, fun y hy => ?_⟩, h5.grown⟩
  by_cases e : y = x
  · subst e
    rw [has_put_same h1.isMap (key3.key (key_of hx))]
    simp
  · rw [has_put_other (by simpa using e), h3 y hy]
    simp [e]
end Go.Proofs.Ytpaneggajjgdlaa.Cw
namespace Go.Proofs.Ytpaneggajjgdlaa.Cw
open Go.ChangeShapes Go.WideShapes Go.ChangeAt Go.RowKit Go.Maps Circ

def namedOk (S : List Int) (x : Int) : Bool := S.contains (cnt x / 2) && decide (0 ≤ x)

set_option maxHeartbeats 1000000 in
theorem named1_any (x : Int) (g B : Nat) (S : List Int) (w : World) (hx : I64 x) (hc : w.cell? ⟨g, 0, none⟩ = some (.map (some B))) (hS : IsSet w B S) :
    Calls Try.prog 90 #[.int .i64 x, .pointer (some ⟨g, 0, none⟩)] w fun e w' => e = told (namedOk S x) ∧ Below w.heap.size w w' := by
  unfold namedOk
  obtain ⟨x0, x1⟩ := hx
  have hk : I64 (cnt x / 2) := by obtain ⟨b0, b1⟩ := cnt_bd x x1; unfold I64; omega
  have V := Lib.hid (fun w => var_any x w x1)
  have hl : ∀ W', IsSet W' B S → (Instr.lookup 92 (.map (some B)) (.int .i64 (cnt x / 2)) true).run Try.prog W' = .ok (.tuple #[.agg #[], .bool (S.contains (cnt x / 2))]) W' := fun W' h => h.look hk
  have HL := Lib.hid hl
  have HS := Lib.hid hS
  have hb := ((Below.refl w.heap.size w).alloc (Nat.le_refl _) (.cells #[] 121)).drew
  have hc2 : ((w.alloc (.cells #[] 121)).drew).cell? ⟨g, 0, none⟩ = some (.map (some B)) := cell_later hb hc
  have HS2 := Lib.hid (hS.alloc (.cells #[] 121)).drew
  clear hS hl
  generalize cnt x / 2 = r at *
  generalize S.contains r = q at *
  cases q
  · go_enter Try.func90, Try.ntmps90
    go_wp2
    go_region_held3 (fun w' => w'.cell? ⟨g, 0, none⟩ = some (.map (some B)) ∧ Hid (IsSet w' B S) ∧ (Instr.lookup 92 (.map (some B)) (.int .i64 r) true).run Try.prog w' = .ok (.tuple #[.agg #[], .bool false]) w')
      (first | exact ⟨hc, HS, HL.out _ HS.out⟩ | exact ⟨hc2, HS2, HL.out _ HS2.out⟩)
      (first | (go_at_call 46; refine (V.out _).mono ?_; rintro e w' ⟨rfl, rfl⟩))
    all_goals
      go_wp2_with (go_at_call 89; refine (need_no _).mono ?_; rintro e w' ⟨rfl, rfl⟩)
      exact ⟨rfl, rfl, hb⟩
  · by_cases h0 : 0 ≤ x
    · go_enter Try.func90, Try.ntmps90
      go_wp2
      go_region_held3 (fun w' => w'.cell? ⟨g, 0, none⟩ = some (.map (some B)) ∧ Hid (IsSet w' B S) ∧ (Instr.lookup 92 (.map (some B)) (.int .i64 r) true).run Try.prog w' = .ok (.tuple #[.agg #[], .bool true]) w')
        (first | exact ⟨hc, HS, HL.out _ HS.out⟩ | exact ⟨hc2, HS2, HL.out _ HS2.out⟩)
        (first | (go_at_call 46; refine (V.out _).mono ?_; rintro e w' ⟨rfl, rfl⟩))
      all_goals
        go_wp2_with fail
        refine (need_t _ _ ?_).mono ?_
        · simp; try omega
        rintro e w' ⟨rfl, rfl⟩
        go_wp2
        go_end0
        exact ⟨by simp [h0, told], hb⟩
    · have h0' : decide (0 ≤ x) = false := by simpa using h0
      go_enter Try.func90, Try.ntmps90
      go_wp2
      go_region_held3 (fun w' => w'.cell? ⟨g, 0, none⟩ = some (.map (some B)) ∧ Hid (IsSet w' B S) ∧ (Instr.lookup 92 (.map (some B)) (.int .i64 r) true).run Try.prog w' = .ok (.tuple #[.agg #[], .bool true]) w')
        (first | exact ⟨hc, HS, HL.out _ HS.out⟩ | exact ⟨hc2, HS2, HL.out _ HS2.out⟩)
        (first | (go_at_call 46; refine (V.out _).mono ?_; rintro e w' ⟨rfl, rfl⟩))
      all_goals
        go_wp2_with (go_at_call 89; refine (need_no _).mono ?_; rintro e w' ⟨rfl, rfl⟩)
        exact ⟨rfl, by simp [h0', told], hb⟩

def defOk (m : Int) (S : List Int) (x : Int) : Bool := !outside m x && !decide (cnt x % 2 = 1) && !S.contains (cnt x / 2)
theorem IsSet.ne_ {w : World} {B g o : Nat} {S : List Int} {v : Value} (h : IsSet w B S) (hc : w.cell? ⟨g, o, none⟩ = some v) : g ≠ B := by
  rintro rfl
  obtain ⟨n, D, ⟨es, cl, h0, _⟩, _⟩ := h
  simp [World.cell?, h0] at hc
theorem grown_trans {a b c : World} {B : Nat} (h : a.grownBy b (some B)) (k : b.grownBy c (some B)) (hs : a.heap.size ≤ b.heap.size) : a.grownBy c (some B) :=
  ⟨k.os.trans h.os, k.tape.trans h.tape, k.output.trans h.output, Nat.le_trans h.size k.size, fun i hi hne => (k.block i (by omega) hne).trans (h.block i hi hne)⟩

def DefP (m x : Int) (B : Nat) (S : List Int) (W : World) (e : Ending) (w' : World) : Prop :=
  e = told (defOk m S x) ∧ W.grownBy w' (some B) ∧ (defOk m S x = true → IsSet w' B ((cnt x / 2) :: S))

set_option maxHeartbeats 2000000 in
theorem define1_any (m x : Int) (gc gm B : Nat) (S : List Int) (w : World) (hx : I64 x) (hc : w.cell? ⟨gc, 0, none⟩ = some (.int .i64 m)) (hm : w.cell? ⟨gm, 0, none⟩ = some (.map (some B))) (hS : IsSet w B S)
    (hn : S.length < 9223372036854775807) :
    Calls Try.prog 91 #[.int .i64 x, .pointer (some ⟨gc, 0, none⟩), .pointer (some ⟨gm, 0, none⟩)] w (DefP m x B S w) := by
  obtain ⟨x0, x1⟩ := hx
  have hk : I64 (cnt x / 2) := by obtain ⟨b0, b1⟩ := cnt_bd x x1; unfold I64; omega
  have V := Lib.hid (fun w => var_any x w x1)
  have N := Lib.hid (fun w => neg_any x w x1)
  have hb1 : Below w.heap.size w (w.alloc (.cells #[.int .i64 x] 3)) := (Below.refl w.heap.size w).alloc (Nat.le_refl _) _
  have hs1 : (w.alloc (.cells #[.int .i64 x] 3)).heap.size = w.heap.size + 1 := by simp
  have C := lcheck_any m [x] (some ⟨w.heap.size, 0, none⟩) 1 (w.alloc (.cells #[.int .i64 x] 3)) (by simp) (.inr ⟨_, 0, rfl, by rw [hs1]; omega, fun i ys hi j u hj => by
    match i, hi with
    | 0, hi =>
      obtain rfl : [Value.int .i64 x] = ys := by simpa [ints] using hi
      match j, hj with
      | 0, hj =>
        obtain rfl : Value.int .i64 x = u := by simpa using hj
        rw [new_cell]; rfl⟩)
  have HC := Lib.hid C; clear C
  have HSt := Lib.hid hS
  clear hS
  unfold DefP defOk
  have hgr : ∀ W', Below w.heap.size w W' → w.grownBy W' (some B) := fun W' h => ⟨h.os, h.tape, h.output, h.size, fun k hk _ => h.block k hk⟩
  have HG := Lib.hid hgr; clear hgr
  cases ho : outside m x
  case true =>
    have ho' : (if [x].any (outside m) = true then (4 : Int) else 0) = 4 := by simp [ho]
    rw [ho'] at HC
    go_enter Try.func91, Try.ntmps91
    go_wp2_with fail
    refine HC.out.mono ?_
    rintro e w1 ⟨rfl, hb⟩
    have hbel := hb1.trans (hb.mono (by rw [hs1]; omega))
    go_wp2_with fail
    refine (need_no _).mono ?_
    rintro e w' ⟨rfl, rfl⟩
    go_wp2
    exact ⟨rfl, by simp [told], HG.out _ hbel, by simp⟩
  case false =>
  have ho' : (if [x].any (outside m) = true then (4 : Int) else 0) = 0 := by simp [ho]
  rw [ho'] at HC
  cases hp : decide (cnt x % 2 = 1)
  case true =>
    rw [hp] at N
    go_enter Try.func91, Try.ntmps91
    go_wp2_with fail
    refine HC.out.mono ?_
    rintro e w1 ⟨rfl, hb⟩
    have hbel := hb1.trans (hb.mono (by rw [hs1]; omega))
    go_wp2_with (go_at_call 74; refine (N.out _).mono ?_; rintro e w' ⟨rfl, rfl⟩)
    refine (need_no _).mono ?_
    rintro e w' ⟨rfl, rfl⟩
    go_wp2
    exact ⟨rfl, by simp [told], HG.out _ hbel, by simp⟩
  case false =>
  rw [hp] at N
  clear hp ho'
  cases hq : S.contains (cnt x / 2)
  case true =>
    go_enter Try.func91, Try.ntmps91
    go_wp2_with fail
    refine HC.out.mono ?_
    rintro e w1 ⟨rfl, hb⟩
    have hbel := hb1.trans (hb.mono (by rw [hs1]; omega))
    go_wp2_with (go_at_call 74; refine (N.out _).mono ?_; rintro e w' ⟨rfl, rfl⟩)
    refine (need_yes _).mono ?_
    rintro e w' ⟨rfl, rfl⟩
    have hbe2 := (hbel.alloc hbel.size (.cells #[] 121)).drew
    have hm1 := cell_later hbel hm
    have hm2 := cell_later hbe2 hm
    have HS1 := Lib.hid (HSt.out.below hbel HSt.out.lt)
    have HS2 := Lib.hid (HSt.out.below hbe2 HSt.out.lt)
    have hl : ∀ W', IsSet W' B S → (Instr.lookup 92 (.map (some B)) (.int .i64 (cnt x / 2)) true).run Try.prog W' = .ok (.tuple #[.agg #[], .bool true]) W' := fun W' h => by have e := h.look hk; rw [hq] at e; exact e
    have HL := Lib.hid hl
    clear hl hq
    generalize cnt x / 2 = r at *
    go_wp2
    go_region_held3 (fun w' => w'.cell? ⟨gm, 0, none⟩ = some (.map (some B)) ∧ Hid (IsSet w' B S) ∧ (Instr.lookup 92 (.map (some B)) (.int .i64 r) true).run Try.prog w' = .ok (.tuple #[.agg #[], .bool true]) w')
      (first | exact ⟨hm1, HS1, HL.out _ HS1.out⟩ | exact ⟨hm2, HS2, HL.out _ HS2.out⟩)
      (first | (go_at_call 46; refine (V.out _).mono ?_; rintro e w' ⟨rfl, rfl⟩))
    all_goals
      go_wp2_with fail
      refine (need_no _).mono ?_
      rintro e w' ⟨rfl, rfl⟩
      go_wp2
      exact ⟨rfl, by simp [told], HG.out _ hbe2, by simp⟩
  case false =>
  go_enter Try.func91, Try.ntmps91
  go_wp2_with fail
  refine HC.out.mono ?_
  rintro e w1 ⟨rfl, hb⟩
  have hbel := hb1.trans (hb.mono (by rw [hs1]; omega))
  go_wp2_with (go_at_call 74; refine (N.out _).mono ?_; rintro e w' ⟨rfl, rfl⟩)
  refine (need_yes _).mono ?_
  rintro e w' ⟨rfl, rfl⟩
  have hbe2 := (hbel.alloc hbel.size (.cells #[] 121)).drew
  have hm1 := cell_later hbel hm
  have hm2 := cell_later hbe2 hm
  have HS1 := Lib.hid (HSt.out.below hbel HSt.out.lt)
  have HS2 := Lib.hid (HSt.out.below hbe2 HSt.out.lt)
  have hl : ∀ W', IsSet W' B S → (Instr.lookup 92 (.map (some B)) (.int .i64 (cnt x / 2)) true).run Try.prog W' = .ok (.tuple #[.agg #[], .bool false]) W' := fun W' h => by have e := h.look hk; rw [hq] at e; exact e
  have HL := Lib.hid hl
  clear hl hq
  generalize hr : cnt x / 2 = r at *
  have HR := Lib.hid hr; clear hr
  go_wp2
  go_region_held3 (fun w' => w'.cell? ⟨gm, 0, none⟩ = some (.map (some B)) ∧ Hid (IsSet w' B S) ∧ (Instr.lookup 92 (.map (some B)) (.int .i64 r) true).run Try.prog w' = .ok (.tuple #[.agg #[], .bool false]) w')
    (first | exact ⟨hm1, HS1, HL.out _ HS1.out⟩ | exact ⟨hm2, HS2, HL.out _ HS2.out⟩)
    (first | (go_at_call 46; refine (V.out _).mono ?_; rintro e w' ⟨rfl, rfl⟩))
  all_goals
    go_wp2_with fail
    refine (need_yes _).mono ?_
    rintro e w' ⟨rfl, rfl⟩
    obtain ⟨w3, hst, hS3, hg3⟩ := IsSet.store HS2.out.drew hk hn
    have hm2' : (((w1.alloc (.cells #[] 121)).drew).drew).cell? ⟨gm, 0, none⟩ = some (.map (some B)) := hm2
    have hm3 : w3.cell? ⟨gm, 0, none⟩ = some (.map (some B)) := by
      rw [World.cell?_of_block (hg3.block gm (World.block_lt_of_cell? _ _ hm2') (fun e => IsSet.ne_ HS2.out.drew hm2' (Option.some.inj e)))]
      exact hm2'
    have hfin : w.grownBy w3 (some B) := grown_trans (HG.out _ hbe2.drew) hg3 hbe2.size
    have HS3 := Lib.hid hS3
    have HF := Lib.hid hfin
    clear hS3 hg3 hfin
    go_wp2_with fail
    go_region_held3 (fun w' => w'.cell? ⟨gm, 0, none⟩ = some (.map (some B)))
      (first | exact hm2' | exact hm3)
      (first | (go_at_call 46; refine (V.out _).mono ?_; rintro e w' ⟨rfl, rfl⟩))
    all_goals
      go_wp2
      go_end0
      exact ⟨by simp [told], HF.out, fun _ => by rw [HR.out]; exact HS3.out⟩
end Go.Proofs.Ytpaneggajjgdlaa.Cw
