/- circuit.Kind, and the pages' own: what they tell of any circuit and variable; no condition. The pages' own words of circuits, walked: kinds, and literals that are known; no condition. The pages' own words of circuits, walked: literals that are known; no condition. interlockplain.Ints, interlockref10.Abs, Is, One; condition: lists lie in memory, texts are as long as Go's may be. A region that draws its order, by what holds behind each of its operations whatever came before it; no condition. -/
import Derived.Test.YtjlnffkieocihaaPt05
import Derived.Deep.Draws
import Derived.Laws.EntriesVeiled
import Derived.BigQuiet
import Derived.Test.YtjlnffkieocihaaPt00
namespace Go.Proofs.Ytjlnffkieocihaa.Cw
open Go.ChangeShapes Go.WideShapes Go.ChangeAt Go.RowKit Circ

end Go.Proofs.Ytjlnffkieocihaa.Cw
namespace Go.Proofs.Ytjlnffkieocihaa.Cw
open Go.ChangeShapes Go.WideShapes Go.ChangeAt Go.RowKit Circ

set_option maxHeartbeats 1000000 in
theorem kindref_any (c : Cir) (s : Places) (v : Int) (w : World) (h : CLies w w.heap.size c s) (hf : CFits c s) :
    Calls Try.prog 39 #[cirV c s, .int .i64 v] w fun e w' => e = .returned (.string (kindOf c v)) ∧ Below w.heap.size w w' := by
  have li := hf.li
  have ll := hf.ll
  have la := hf.la
  have hbel : Below w.heap.size w (w.alloc (.cells (cirC c s) 27)) := (Below.refl _ _).alloc (Nat.le_refl _) _
  have H := Lib.hid h
  have HI := Lib.hid hf
  clear h hf
  unfold cirV cirC at *
  by_cases hv : v = 0
  · subst hv
    go_enter Try.func39, Try.ntmps39
    go_wp2
    go_ret
    exact ⟨by simp [kindOf], hbel⟩
  · have hv1 : (v == 0) = false := by simpa using hv
    go_enter Try.func39, Try.ntmps39
    go_wp2
    go_loop [5] (fun i => ∃ k : Nat, k ≤ c.ins.length ∧ i = .int .i64 k ∧ hasVar (c.ins.take k) v = false) (fun i => c.ins.length - (intOf i).toNat)
    case atStart => exact ⟨0, Nat.zero_le _, rfl, rfl⟩
    case round =>
      obtain ⟨k, hk, rfl, hno⟩ := hrel
      have HN := Lib.hid hno; clear hno
      by_cases hlt : k < c.ins.length
      · obtain ⟨b, o, ha, hb, hc⟩ := H.out.ins.int hlt
        have hx := HI.out.ins c.ins[k] (List.getElem_mem _)
        have HX := Lib.hid (hasVar_take c.ins v k hlt)
        have HS := Lib.hid (hasVar_some c.ins v k hlt)
        obtain ⟨x0, x1⟩ := hx
        generalize c.ins[k] = x at *
        go_wp2
        · go_ret
          exact ⟨ret_str (by unfold kindOf; rw [if_neg hv, if_pos (HS.out (by assumption) (beq_iff_eq.1 (by assumption)))]), by rw [← ha]; exact hbel⟩
        all_goals
          refine ⟨⟨k + 1, by omega, rfl, ?_⟩, by simp [intOf]; omega⟩
          rw [HX.out, HN.out]; first | (have hq := ‹(x / 2 == v) = false›; rw [beq_eq_false_iff_ne] at hq; simp [hq]) | (simp; omega)
      · obtain rfl : k = c.ins.length := by omega
        rw [List.take_of_length_le (Nat.le_refl _)] at HN
        go_wp2
        have HN1 := HN; clear HN
        go_loop [6] (fun i => ∃ k : Nat, k ≤ c.lats.length ∧ i = .int .i64 k ∧ hasTri (c.lats.take k) v = false) (fun i => c.lats.length - (intOf i).toNat)
        case atStart => exact ⟨0, Nat.zero_le _, rfl, rfl⟩
        case round =>
          obtain ⟨k, hk, rfl, hno⟩ := hrel
          have HN := Lib.hid hno; clear hno
          by_cases hlt : k < c.lats.length
          · obtain ⟨b, o, ha, hb, hc, _, _⟩ := H.out.lats.tri hlt
            have hx := HI.out.lats c.lats[k] (List.getElem_mem _)
            have HX := Lib.hid (hasTri_take c.lats v k hlt)
            have HS := Lib.hid (hasTri_some c.lats v k hlt)
            obtain ⟨⟨x0, x1⟩, _, _⟩ := hx
            generalize c.lats[k].a = x at *
            go_wp2
            · go_ret
              exact ⟨ret_str (by unfold kindOf; rw [if_neg hv, if_neg (by rw [HN1.out]; simp), if_pos (HS.out (by assumption) (beq_iff_eq.1 (by assumption)))]), by rw [← ha]; exact hbel⟩
            all_goals
              refine ⟨⟨k + 1, by omega, rfl, ?_⟩, by simp [intOf]; omega⟩
              rw [HX.out, HN.out]; first | (have hq := ‹(x / 2 == v) = false›; rw [beq_eq_false_iff_ne] at hq; simp [hq]) | (simp; omega)
          · obtain rfl : k = c.lats.length := by omega
            rw [List.take_of_length_le (Nat.le_refl _)] at HN
            go_wp2
            have HN2 := HN; clear HN
            go_loop [7] (fun i => ∃ k : Nat, k ≤ c.ands.length ∧ i = .int .i64 k ∧ hasTri (c.ands.take k) v = false) (fun i => c.ands.length - (intOf i).toNat)
            case atStart => exact ⟨0, Nat.zero_le _, rfl, rfl⟩
            case round =>
              obtain ⟨k, hk, rfl, hno⟩ := hrel
              have HN := Lib.hid hno; clear hno
              by_cases hlt : k < c.ands.length
              · obtain ⟨b, o, ha, hb, hc, _, _⟩ := H.out.ands.tri hlt
                have hx := HI.out.ands c.ands[k] (List.getElem_mem _)
                have HX := Lib.hid (hasTri_take c.ands v k hlt)
                have HS := Lib.hid (hasTri_some c.ands v k hlt)
                obtain ⟨⟨x0, x1⟩, _, _⟩ := hx
                generalize c.ands[k].a = x at *
                go_wp2
                · go_ret
                  exact ⟨ret_str (by unfold kindOf; rw [if_neg hv, if_neg (by rw [HN1.out]; simp), if_neg (by rw [HN2.out]; simp), if_pos (HS.out (by assumption) (beq_iff_eq.1 (by assumption)))]), by rw [← ha]; exact hbel⟩
                all_goals
                  refine ⟨⟨k + 1, by omega, rfl, ?_⟩, by simp [intOf]; omega⟩
                  rw [HX.out, HN.out]; first | (have hq := ‹(x / 2 == v) = false›; rw [beq_eq_false_iff_ne] at hq; simp [hq]) | (simp; omega)
              · obtain rfl : k = c.ands.length := by omega
                rw [List.take_of_length_le (Nat.le_refl _)] at HN
                go_wp2
                go_ret
                exact ⟨ret_str (by unfold kindOf; rw [if_neg hv, if_neg (by rw [HN1.out]; simp), if_neg (by rw [HN2.out]; simp), if_neg (by rw [HN.out]; simp)]), hbel⟩

end Go.Proofs.Ytjlnffkieocihaa.Cw
namespace Go.Proofs.Ytjlnffkieocihaa.Cw
open Go.ChangeShapes Go.WideShapes Go.ChangeAt Go.RowKit Circ

/-- a world that is as W was below block B -/
structure Wd (B : Nat) (W : World) where
  w : World
  ok : Below B W w
instance (B : Nat) (W : World) : Nonempty (Wd B W) := ⟨⟨W, Below.refl _ _⟩⟩

/-- A region that draws its order, whose operations read what lies below B, and whose callees turn nothing there: one walk, in the order of the text. -/
theorem wp_region_wd {P : Program} {id : Nat} {Q : Exit → Act → World → Prop} {a : Act} {w : World} {l : List Oper} (hm : P.follows .mixedOrders = true) (hB : Region.lexB .any l.toArray = true)
    (h : wpQuiet P l.toArray (fun w' => ∃ u : Wd w.heap.size w, w' = u.w) (fun a' => ∀ w', (∃ u : Wd w.heap.size w, w' = u.w) → Q .normal a' w') l a) : (Code.region id l.toArray true).wp P Q a w :=
  wp_region_quiet (C := fun w' => ∃ u : Wd w.heap.size w, w' = u.w) hm hB ⟨⟨_, (Below.refl _ _).drew⟩, rfl⟩ (by simpa using h)

theorem Calls.in_wd {P : Program} {f : FuncId} {args : Array Value} {B : Nat} {W : World} {v : Value} (u : Wd B W)
    (h : Calls P f args u.w fun e w' => e = .returned v ∧ Below u.w.heap.size u.w w') (hB : B ≤ W.heap.size) : Calls P f args u.w fun e w'' => e = .returned v ∧ ∃ u' : Wd B W, w'' = u'.w :=
  h.mono fun _ w' ⟨he, hb⟩ => ⟨he, ⟨w', u.ok.trans (hb.mono (Nat.le_trans hB u.ok.size))⟩, rfl⟩
theorem Wd.cell {W : World} {p : Addr} {v : Value} (h : W.cell? p = some v) (u : Wd W.heap.size W) : u.w.cell? p = some v := cell_later u.ok h

def knownV (c : Cir) (v : Int) : Bool := decide (v = 0) || hasVar c.ins v || hasTri c.lats v || hasTri c.ands v
def knownL (c : Cir) (l : Int) : Bool := decide (0 ≤ l) && knownV c (l / 2)
theorem kind_known (c : Cir) (v : Int) : (kindOf c v).toList.isEmpty = !knownV c v := by
  unfold kindOf knownV
  by_cases h0 : v = 0
  · simp [h0]; try decide
  · cases h1 : hasVar c.ins v
    · cases h2 : hasTri c.lats v
      · cases h3 : hasTri c.ands v
        · simp [h0]; try decide
        · simp [h0]; try decide
      · simp [h0]; try decide
    · simp [h0]; try decide

theorem known_any (c : Cir) (s : Places) (l : Int) (w : World) (h : CLies w w.heap.size c s) (hf : CFits c s) (hl : I64 l) :
    Calls Try.prog 49 #[cirV c s, .int .i64 l] w fun e w' => e = .returned (.bool (knownL c l)) ∧ Below w.heap.size w w' := by
  obtain ⟨l0, l1⟩ := hl
  have hb1 : Below w.heap.size w (w.alloc (.cells (cirC c s) 27)) := (Below.refl _ _).alloc (Nat.le_refl _) _
  have K := Lib.hid (fun v => kindref_any c s v (w.alloc (.cells (cirC c s) 27)) ((h.below hb1).more hb1.size) hf)
  have HB := Lib.hid hb1
  unfold cirV cirC at *
  clear h hf
  unfold knownL
  by_cases h0 : 0 ≤ l
  · go_enter Try.func49, Try.ntmps49
    go_wp2_with fail
    refine (K.out _).mono ?_
    rintro e w' ⟨rfl, hb⟩
    go_wp2
    go_ret
    exact ⟨ret_bool (by rw [kind_known]; simp [h0]), HB.out.trans (hb.mono HB.out.size)⟩
  · go_enter Try.func49, Try.ntmps49
    go_wp2
    go_ret
    exact ⟨ret_bool (by rw [decide_eq_false (by omega)]; rfl), HB.out⟩

theorem has_any (l : List Int) (A : Option Addr) (q : Nat) (x : Int) (w : World) (hl : l.length ≤ 9223372036854775807) (hr : LRow w w.heap.size 1 A (ints l)) :
    Calls Try.prog 50 #[.slice A l.length q, .int .i64 x] w fun e w' => e = .returned (.bool (l.any (· == x))) ∧ w = w' := by
  go_enter Try.func50, Try.ntmps50
  go_wp2
  go_loop [5] (fun i => ∃ k : Nat, k ≤ l.length ∧ i = .int .i64 k ∧ (l.take k).any (· == x) = false) (fun i => l.length - (intOf i).toNat)
  case atStart => exact ⟨0, Nat.zero_le _, rfl, rfl⟩
  case round =>
    obtain ⟨k, hk, rfl, hno⟩ := hrel
    have HN := Lib.hid hno; clear hno
    by_cases hlt : k < l.length
    · obtain ⟨b, o, rfl, hb, hc⟩ := hr.int hlt
      have HX := Lib.hid (any_take l (· == x) k hlt)
      have HS := Lib.hid (any_of l (· == x) k hlt)
      clear hr
      generalize l[k] = y at *
      cases hq : y == x
      · go_wp2
        go_round
        case rel => exact ⟨k + 1, by omega, by go_num, by rw [HX.out, HN.out, hq]; rfl⟩
        case measure => simp [intOf]; omega
      · go_wp2
        go_ret
        exact ⟨ret_bool (HS.out (by first | trivial | exact hq)).symm, rfl⟩
    · obtain rfl : k = l.length := by omega
      rw [List.take_of_length_le (Nat.le_refl _)] at HN
      go_wp2
      go_ret
      exact ⟨ret_bool HN.out.symm, rfl⟩

def allKnown (c : Cir) (l : List Int) : Bool := l.all (knownL c) && decide (l.length ≤ 64)
set_option maxHeartbeats 1000000 in
theorem all_any (c : Cir) (s : Places) (l : List Int) (A : Option Addr) (q : Nat) (w : World) (h : CLies w w.heap.size c s) (hf : CFits c s) (hl : l.length ≤ 9223372036854775807) (hr : LRow w w.heap.size 1 A (ints l)) (hi : ∀ x ∈ l, I64 x) :
    Calls Try.prog 51 #[cirV c s, .slice A l.length q] w fun e w' => e = .returned (.bool (allKnown c l)) ∧ Below w.heap.size w w' := by
  have HB0 : Hid (Below w.heap.size w (w.alloc (.cells (cirC c s) 27))) := (Below.refl _ _).alloc (Nat.le_refl _) _
  have hs1 : (w.alloc (.cells (cirC c s) 27)).heap.size = w.heap.size + 1 := by simp
  have K := Lib.hid (fun x w' h' hx => known_any c s x w' h' hf hx)
  have H := Lib.hid h
  have HR := Lib.hid hr
  have HI := Lib.hid hi
  have HS1 := Lib.hid hs1
  clear h hf hr hi hs1
  unfold cirV at *
  rw [show cirC c s = #[.int .i64 c.max, .slice s.ai c.ins.length s.ki, .slice s.al c.lats.length s.kl, .slice s.ao c.outs.length s.ko, .slice s.ab c.bads.length s.kb, .slice s.ac c.invs.length s.kc, .slice s.aa c.ands.length s.ka, .slice s.an c.names.length s.kn] from rfl] at K ⊢
  go_enter Try.func51, Try.ntmps51
  go_wp2
  go_loopw [5] (fun i wr => ∃ k : Nat, k ≤ l.length ∧ i = .int .i64 k ∧ (l.take k).all (knownL c) = true ∧ Below (w.heap.size + 1) (w.alloc (.cells (cirC c s) 27)) wr) (fun i _ => l.length - (intOf i).toNat)
  case atStart => exact ⟨0, Nat.zero_le _, rfl, rfl, Below.refl _ _⟩
  case round =>
    obtain ⟨k, hk, rfl, hno, hb⟩ := hrel
    have HN := Lib.hid hno; clear hno
    have hbw : Below w.heap.size w wr := HB0.out.trans (hb.mono (by omega))
    have hwz : w.heap.size + 1 ≤ wr.heap.size := by have := hb.size; rw [show _ = _ from HS1.out] at this; exact this
    by_cases hlt : k < l.length
    · obtain ⟨b, o, rfl, hbb, hc⟩ := (HR.out.below hbw).int hlt
      have HX := Lib.hid (all_take l (knownL c) k hlt)
      have HS := Lib.hid (all_not l (knownL c) k hlt)
      have HK := Lib.hid (HI.out l[k] (List.getElem_mem _))
      generalize l[k] = x at *
      obtain ⟨e0, e1, e2, e3, e4, e5, e6, e7⟩ := ((Box.made w c s).keep hb (Nat.lt_succ_self _)).cells
      have u0 := Wd.cell e0
      have u1 := Wd.cell e1
      have u2 := Wd.cell e2
      have u3 := Wd.cell e3
      have u4 := Wd.cell e4
      have u5 := Wd.cell e5
      have u6 := Wd.cell e6
      have u7 := Wd.cell e7
      have u8 := Wd.cell hc
      clear e0 e1 e2 e3 e4 e5 e6 e7 hc
      have KK := Lib.hid (fun (u : Wd wr.heap.size wr) => Calls.in_wd u (K.out x u.w ((H.out.below (hbw.trans (u.ok.mono (by omega)))).more (by have := u.ok.size; omega)) HK.out) (Nat.le_refl _))
      have hlt' : (k : Int) < l.length := by omega
      go_wp2
      refine wp_region_wd (by kernel_rfl) (by kernel_rfl) ?_
      repeat (first | go_big_quiet_skip | (go_big_quiet_want; go_big_quiet_op; first | go_big_quiet_on | (apply Exists.intro; refine ⟨fun u => ?_, ?_⟩; (go_at_call 49; exact KK.out u); go_big_quiet_on)))
      refine wpQuiet_nil ?_
      intro _ hw'
      obtain ⟨⟨w9, hb9⟩, hw''⟩ := hw'
      subst hw''
      have hbq := hb.trans (hb9.mono hwz)
      clear u0 u1 u2 u3 u4 u5 u6 u7 u8 KK
      cases hq : knownL c x
      · rw [hq] at HX HS
        have HQ := Lib.hid (HS.out rfl)
        clear hq
        go_wp2
        go_ret
        exact ⟨ret_bool (by unfold allKnown; rw [HQ.out]; rfl), HB0.out.trans (hbq.mono (by omega))⟩
      · rw [hq] at HX
        clear hq
        go_wp2
        go_roundw
        case rel => exact ⟨k + 1, by omega, by go_num, by rw [HX.out, HN.out]; rfl, hbq⟩
        case measure => simp [intOf]; omega
    · obtain rfl : k = l.length := by omega
      rw [List.take_of_length_le (Nat.le_refl _)] at HN
      go_wp2
      go_ret
      exact ⟨ret_bool (by unfold allKnown; rw [HN.out, Bool.true_and]; exact decide_eq_decide.2 (by omega)), hbw⟩
end Go.Proofs.Ytjlnffkieocihaa.Cw
namespace Go.Proofs.Ytjlnffkieocihaa.Cla
open Go.ChangeShapes Go.WideShapes Go.ChangeAt Go.RowKit Go.Maps Circ Cw

/-- a list of numbers in memory below block B -/
structure ILies (w : World) (B : Nat) (A : Option Addr) (l : List Int) : Prop where
  row : LRow w B 1 A (ints l)
  fits : ∀ x ∈ l, I64 x
  len : l.length ≤ 9223372036854775807
section
variable {w w' : World} {B B' : Nat} {A : Option Addr} {l : List Int}
theorem ILies.below (h : ILies w B A l) (hb : Below B w w') : ILies w' B A l := ⟨h.row.below hb, h.fits, h.len⟩
theorem ILies.more (h : ILies w B A l) (hB : B ≤ B') : ILies w B' A l := ⟨h.row.more hB, h.fits, h.len⟩
theorem ILies.nil (w : World) (B : Nat) (A : Option Addr) : ILies w B A [] := ⟨.inl rfl, fun x hx => (List.not_mem_nil hx).elim, by decide⟩
end
/-- the greater of two numbers, as Go's builtin tells -/
theorem max2 {w : World} (ts : Array TypeId) (t : TypeId) (x y : Int) :
    (Builtin.max_ ts t #[.int .i64 x, .int .i64 y]).run Try.prog w = .ok (.int .i64 (if x < y then y else x)) w := by
  simp [Builtin.max_, Builtin.max2]
theorem neg_is {x : Int} (h : I64 x) : wrap64 (-x) = negW x := by
  unfold I64 at h
  unfold negW wrap64
  split <;> omega
theorem abs_is {x : Int} (_h : I64 x) : (if x < negW x then negW x else x) = absW x := by
  unfold absW
  split <;> split <;> omega
theorem abs_fits {x : Int} (h : I64 x) : I64 (absW x) := by
  unfold I64 at *
  unfold absW negW
  split <;> split <;> omega
set_option maxRecDepth 100000 in
theorem abs_any (x : Int) (w : World) (hx : I64 x) :
    Calls Try.prog 110 #[.int .i64 x] w fun e w' => e = .returned (.int .i64 (absW x)) ∧ w = w' := by
  have hm : ∀ (ts : Array TypeId) (t : TypeId) (W : World), (Builtin.max_ ts t #[.int .i64 x, .int .i64 (wrap64 (-x))]).run Try.prog W = .ok (.int .i64 (absW x)) W := fun ts t W => by
    rw [max2, neg_is hx, abs_is hx]
  clear hx
  generalize absW x = y at *
  go_enter Try.func110, Try.ntmps110
  go_wp2
  go_ret
  exact ⟨rfl, rfl⟩
set_option maxHeartbeats 16000000 in
set_option maxRecDepth 100000 in
theorem is_any (m : ByteArray) (x : Int) (w : World) (hm : m.size ≤ 9223372036854775807) (hx : I64 x) :
    Calls Try.prog 78 #[.string m, .int .i64 x] w fun e w' => e = .returned (.bool (isM m x)) ∧ w = w' := by
  have AB := Lib.hid (fun w => abs_any x w hx)
  have hf := abs_fits hx
  unfold isM
  by_cases h1 : 1 ≤ absW x
  · by_cases h2 : absW x ≤ (m.size : Int)
    · obtain ⟨k, hk⟩ : ∃ k : Nat, absW x = (k : Int) + 1 := ⟨(absW x - 1).toNat, by omega⟩
      have hkm : k < m.size := by omega
      have e1 : m.data.toList.getD (absW x - 1).toNat 0 = m[k]'hkm := by
        have hl : k < m.data.toList.length := by simpa using hkm
        rw [hk, show ((k : Int) + 1 - 1).toNat = k from by omega, List.getD_eq_getElem?_getD, List.getElem?_eq_getElem hl, Option.getD_some, Array.getElem_toList]; rfl
      rw [decide_eq_true h1, decide_eq_true h2, e1, Bool.true_and, Bool.true_and]
      have hd1 : decide (1 ≤ (k : Int) + 1) = true := decide_eq_true (by omega)
      have hd2 : decide ((k : Int) + 1 ≤ (m.size : Int)) = true := decide_eq_true (by omega)
      have hk0 : (0 : Int) ≤ (k : Int) := by omega
      have hkz : (k : Int) < (m.size : Int) := by omega
      have hk1 : (1 : Int) ≤ (k : Int) + 1 := by omega
      have hk2 : (k : Int) + 1 ≤ (m.size : Int) := by omega
      rw [hk] at AB
      have hsub : (k : Int) + 1 - 1 = (k : Int) := by omega
      have HE : Hid (decide ((m[k]'hkm).toNat = 49) = (((m[k]'hkm).toNat : Int) == 49)) := by
        unfold Hid
        rw [Bool.eq_iff_iff, decide_eq_true_eq, beq_iff_eq]; omega
      rw [HE.out]
      clear hx hf h1 h2 hk e1 HE
      go_enter Try.func78, Try.ntmps78
      go_wp2_with fail
      refine (AB.out w).mono ?_
      rintro e w' ⟨rfl, rfl⟩
      go_wp2_with fail
      refine (AB.out w).mono ?_
      rintro e w' ⟨rfl, rfl⟩
      go_wp2_with fail
      refine (AB.out w).mono ?_
      rintro e w' ⟨rfl, rfl⟩
      go_wp2
      go_ret
      exact ⟨rfl, rfl⟩
    · have hd2 : decide (absW x ≤ (m.size : Int)) = false := decide_eq_false h2
      have hd1 : decide (1 ≤ absW x) = true := decide_eq_true h1
      rw [hd1, hd2]
      generalize absW x = y at *
      clear hx hf
      go_enter Try.func78, Try.ntmps78
      go_wp2_with fail
      refine (AB.out w).mono ?_
      rintro e w' ⟨rfl, rfl⟩
      go_wp2_with fail
      refine (AB.out w).mono ?_
      rintro e w' ⟨rfl, rfl⟩
      go_wp2
      go_ret
      exact ⟨rfl, rfl⟩
  · have hd1 : decide (1 ≤ absW x) = false := decide_eq_false h1
    rw [hd1]
    generalize absW x = y at *
    clear hx hf
    go_enter Try.func78, Try.ntmps78
    go_wp2_with fail
    refine (AB.out w).mono ?_
    rintro e w' ⟨rfl, rfl⟩
    go_wp2
    go_ret
    exact ⟨rfl, rfl⟩
set_option maxHeartbeats 16000000 in
set_option maxRecDepth 100000 in
theorem one_any (m : ByteArray) (l : List Int) (A : Option Addr) (q : Nat) (w : World) (hm : m.size ≤ 9223372036854775807) (hl : ILies w w.heap.size A l) :
    Calls Try.prog 37 #[.string m, .slice A l.length q] w fun e w' => e = .returned (.bool (oneM m l)) ∧ w = w' := by
  have HL := Lib.hid hl
  have hll := hl.len
  clear hl
  go_enter Try.func37, Try.ntmps37
  go_wp2
  go_loop [5] (fun i => ∃ k : Nat, k ≤ l.length ∧ i = .int .i64 k ∧ (l.take k).any (isM m) = false) (fun i => l.length - (intOf i).toNat)
  case atStart => exact ⟨0, Nat.zero_le _, rfl, rfl⟩
  case round =>
    obtain ⟨k, hk, rfl, ha⟩ := hrel
    have HA := Lib.hid ha
    clear ha
    by_cases hlt : k < l.length
    · obtain ⟨b, o, hA, -, hc⟩ := LRow.int HL.out.row hlt
      have IS := Lib.hid (is_any m l[k] w hm (HL.out.fits _ (List.getElem_mem hlt)))
      have HT : Hid ((l.take (k + 1)).any (isM m) = isM m l[k]) := by
        unfold Hid
        rw [List.take_succ_eq_append_getElem hlt, List.any_append, HA.out]; simp
      have HM := Lib.hid (List.getElem_mem hlt)
      have hkz : (k : Int) < (l.length : Int) := by omega
      subst hA
      generalize l[k] = x at *
      cases hq : isM m x with
      | false =>
        rw [hq] at IS HT
        clear hq
        go_wp2_with fail
        refine IS.out.mono ?_
        rintro e w' ⟨rfl, rfl⟩
        go_wp2
        go_round
        case rel => exact ⟨k + 1, by omega, by go_num, HT.out⟩
        case measure => simp [intOf]; omega
      | true =>
        rw [hq] at IS
        have HX : Hid (oneM m l = true) := (one_iff m l).2 ⟨x, HM.out, hq⟩
        clear hq HT
        go_wp2_with fail
        refine IS.out.mono ?_
        rintro e w' ⟨rfl, rfl⟩
        go_wp2
        go_ret
        exact ⟨by rw [HX.out]; rfl, rfl⟩
    · obtain rfl : k = l.length := by omega
      have HX : Hid (oneM m l = false) := by have h := HA.out; rw [List.take_length] at h; exact h
      go_wp2
      go_ret
      exact ⟨by rw [HX.out]; rfl, rfl⟩
end Go.Proofs.Ytjlnffkieocihaa.Cla
namespace Go.Proofs.Ytjlnffkieocihaa.Cpy
open Go.ChangeShapes Go.WideShapes Go.ChangeAt Go.RowKit Circ Cw

theorem open_set : ∀ (l : List Bool) (i : Nat), l[i]? = some false → ((l.set i true).filter (· == false)).length + 1 = (l.filter (· == false)).length
  | [], i, h => by simp at h
  | b :: l, 0, h => by
    have hb : b = false := by simpa using h
    subst hb
    simp
  | b :: l, i + 1, h => by
    have h' : l[i]? = some false := by simpa using h
    have ih := open_set l i h'
    cases b <;> simp [List.set_cons_succ] at ih ⊢ <;> omega

theorem ready_open {md : Region.Mode} {ops : Array Oper} {listed : Array Bool} {i : Nat} (hi : i ∈ Region.ready md ops listed) : listed.toList[i]? = some false ∧ i < ops.size ∧ (∀ o, ops[i]? = some o → ∀ e ∈ o.after, Region.binds md e = true → listed.getD e.on false = true) := by
  unfold Region.ready at hi
  rw [List.mem_filter, List.mem_range] at hi
  obtain ⟨h1, h2⟩ := hi
  simp only [Bool.and_eq_true, Bool.not_eq_true'] at h2
  obtain ⟨h2, h3⟩ := h2
  refine ⟨?_, h1, fun o ho e he hb => ?_⟩
  · rw [Array.getElem?_toList]
    rw [Array.getD_eq_getD_getElem?] at h2
    cases hq : listed[i]? with
    | none => rw [hq] at h2; simp at h2
    | some b => rw [hq] at h2; simp at h2; rw [h2]
  · rw [ho] at h3
    simp only [Option.map_some, Option.getD_some, Array.all_eq_true_iff_forall_mem] at h3
    have := h3 e he
    simpa [hb] using this

theorem wpAny_inv {P : Program} {md : Region.Mode} {ops : Array Oper} {Q : Exit → Act → World → Prop} (Inv : Array Bool → Act → World → Prop)
    (hstep : ∀ listed a w i, Inv listed a w → i ∈ Region.ready md ops listed → wpOp P ops Q i (Inv (listed.setIfInBounds i true)) a w)
    (hend : ∀ listed a w, Inv listed a w → Region.ready md ops listed = [] → Q .normal a w) :
    ∀ fuel listed a w, Inv listed a w → (listed.toList.filter (· == false)).length ≤ fuel → wpAny P md ops Q fuel listed a w
  | 0, listed, a, w, h, hf => by
    by_cases hr : Region.ready md ops listed = []
    · exact ⟨hr, hend _ _ _ h hr⟩
    · obtain ⟨i, hi⟩ := List.exists_mem_of_ne_nil _ hr
      have h1 := (ready_open hi).1
      have : false ∈ listed.toList.filter (· == false) := List.mem_filter.2 ⟨List.mem_of_getElem? h1, rfl⟩
      have := List.length_pos_of_mem this
      omega
  | fuel + 1, listed, a, w, h, hf => by
    refine ⟨fun hr => hend _ _ _ h hr, fun i hi => ?_⟩
    refine wpOp_mono (fun a' w' h' => wpAny_inv Inv hstep hend fuel _ a' w' h' ?_) (hstep _ _ _ _ h hi)
    have := open_set listed.toList i (ready_open hi).1
    rw [Array.toList_setIfInBounds]
    omega

/-- A region that draws its order: what holds of the operations that are done, whichever they are, is kept by each one that may come next. -/
theorem wp_region_inv {P : Program} {id : Nat} {ops : Array Oper} {Q : Exit → Act → World → Prop} {a : Act} {w : World} (hm : P.follows .mixedOrders = true) (Inv : Array Bool → Act → World → Prop)
    (h0 : Inv (Array.replicate ops.size false) a w.drew)
    (hstep : ∀ listed a w i, Inv listed a w → i ∈ Region.ready .any ops listed → wpOp P ops Q i (Inv (listed.setIfInBounds i true)) a w)
    (hend : ∀ listed a w, Inv listed a w → Region.ready .any ops listed = [] → Q .normal a w) : (Code.region id ops true).wp P Q a w :=
  wp_region_any hm (wpAny_inv Inv hstep hend _ _ _ _ h0 (by simp))
end Go.Proofs.Ytjlnffkieocihaa.Cpy
