/- circuit.Kind, and the pages' own: what they tell of any circuit and variable; no condition. The pages' own words of circuits, walked: kinds, and literals that are known; no condition. The pages' own words of circuits, walked: literals that are known; no condition. The page's example of circuits, as the laws call it: it holds. No condition. The pages' own words of circuits, walked: names; no condition. The pages' own look at a circuit, walked: whether it may be; no condition. Lists of any elements that a call makes itself: what appending leaves; no condition. Appending to a list of any elements that a call makes itself; no condition. The walk of the closure that writes a variable down once; no condition. -/
import Derived.Test.YtbgcoeejmnejdaaPt07
import Derived.Deep.Draws
import Derived.Laws.EntriesVeiled
import Derived.BigQuiet
import Derived.Test.YtbgcoeejmnejdaaPt10
import Derived.Test.YtbgcoeejmnejdaaPt08
namespace Go.Proofs.Ytbgcoeejmnejdaa.Cw
open Go.ChangeShapes Go.WideShapes Go.ChangeAt Go.RowKit Circ

end Go.Proofs.Ytbgcoeejmnejdaa.Cw
namespace Go.Proofs.Ytbgcoeejmnejdaa.Cw
open Go.ChangeShapes Go.WideShapes Go.ChangeAt Go.RowKit Circ

set_option maxHeartbeats 1000000 in
theorem kindref_any (c : Cir) (s : Places) (v : Int) (w : World) (h : CLies w w.heap.size c s) (hf : CFits c s) :
    Calls Try.prog 104 #[cirV c s, .int .i64 v] w fun e w' => e = .returned (.string (kindOf c v)) ∧ Below w.heap.size w w' := by
  have li := hf.li
  have ll := hf.ll
  have la := hf.la
  have hbel : Below w.heap.size w (w.alloc (.cells (cirC c s) 27)) := (Below.refl _ _).alloc (Nat.le_refl _) _
  have H := Lib.hid h
  have HI := Lib.hid hf
  clear h hf
  unfold cirV cirC at *
  by_cases hv : v = 0
  · subst hv
    go_enter Try.func104, Try.ntmps104
    go_wp2
    go_ret
    exact ⟨by simp [kindOf], hbel⟩
  · have hv1 : (v == 0) = false := by simpa using hv
    go_enter Try.func104, Try.ntmps104
    go_wp2
    go_loop [5] (fun i => ∃ k : Nat, k ≤ c.ins.length ∧ i = .int .i64 k ∧ hasVar (c.ins.take k) v = false) (fun i => c.ins.length - (intOf i).toNat)
    case atStart => exact ⟨0, Nat.zero_le _, rfl, rfl⟩
    case round =>
      obtain ⟨k, hk, rfl, hno⟩ := hrel
      have HN := Lib.hid hno; clear hno
      by_cases hlt : k < c.ins.length
      · obtain ⟨b, o, ha, hb, hc⟩ := H.out.ins.int hlt
        have hx := HI.out.ins c.ins[k] (List.getElem_mem _)
        have HX := Lib.hid (hasVar_take c.ins v k hlt)
        have HS := Lib.hid (hasVar_some c.ins v k hlt)
        obtain ⟨x0, x1⟩ := hx
        generalize c.ins[k] = x at *
        go_wp2
        · go_ret
          exact ⟨ret_str (by unfold kindOf; rw [if_neg hv, if_pos (HS.out (by assumption) (beq_iff_eq.1 (by assumption)))]), by rw [← ha]; exact hbel⟩
        all_goals
          refine ⟨⟨k + 1, by omega, rfl, ?_⟩, by simp [intOf]; omega⟩
          rw [HX.out, HN.out]; first | (have hq := ‹(x / 2 == v) = false›; rw [beq_eq_false_iff_ne] at hq; simp [hq]) | (simp; omega)
      · obtain rfl : k = c.ins.length := by omega
        rw [List.take_of_length_le (Nat.le_refl _)] at HN
        go_wp2
        have HN1 := HN; clear HN
        go_loop [6] (fun i => ∃ k : Nat, k ≤ c.lats.length ∧ i = .int .i64 k ∧ hasTri (c.lats.take k) v = false) (fun i => c.lats.length - (intOf i).toNat)
        case atStart => exact ⟨0, Nat.zero_le _, rfl, rfl⟩
        case round =>
          obtain ⟨k, hk, rfl, hno⟩ := hrel
          have HN := Lib.hid hno; clear hno
          by_cases hlt : k < c.lats.length
          · obtain ⟨b, o, ha, hb, hc, _, _⟩ := H.out.lats.tri hlt
            have hx := HI.out.lats c.lats[k] (List.getElem_mem _)
            have HX := Lib.hid (hasTri_take c.lats v k hlt)
            have HS := Lib.hid (hasTri_some c.lats v k hlt)
            obtain ⟨⟨x0, x1⟩, _, _⟩ := hx
            generalize c.lats[k].a = x at *
            go_wp2
            · go_ret
              exact ⟨ret_str (by unfold kindOf; rw [if_neg hv, if_neg (by rw [HN1.out]; simp), if_pos (HS.out (by assumption) (beq_iff_eq.1 (by assumption)))]), by rw [← ha]; exact hbel⟩
            all_goals
              refine ⟨⟨k + 1, by omega, rfl, ?_⟩, by simp [intOf]; omega⟩
              rw [HX.out, HN.out]; first | (have hq := ‹(x / 2 == v) = false›; rw [beq_eq_false_iff_ne] at hq; simp [hq]) | (simp; omega)
          · obtain rfl : k = c.lats.length := by omega
            rw [List.take_of_length_le (Nat.le_refl _)] at HN
            go_wp2
            have HN2 := HN; clear HN
            go_loop [7] (fun i => ∃ k : Nat, k ≤ c.ands.length ∧ i = .int .i64 k ∧ hasTri (c.ands.take k) v = false) (fun i => c.ands.length - (intOf i).toNat)
            case atStart => exact ⟨0, Nat.zero_le _, rfl, rfl⟩
            case round =>
              obtain ⟨k, hk, rfl, hno⟩ := hrel
              have HN := Lib.hid hno; clear hno
              by_cases hlt : k < c.ands.length
              · obtain ⟨b, o, ha, hb, hc, _, _⟩ := H.out.ands.tri hlt
                have hx := HI.out.ands c.ands[k] (List.getElem_mem _)
                have HX := Lib.hid (hasTri_take c.ands v k hlt)
                have HS := Lib.hid (hasTri_some c.ands v k hlt)
                obtain ⟨⟨x0, x1⟩, _, _⟩ := hx
                generalize c.ands[k].a = x at *
                go_wp2
                · go_ret
                  exact ⟨ret_str (by unfold kindOf; rw [if_neg hv, if_neg (by rw [HN1.out]; simp), if_neg (by rw [HN2.out]; simp), if_pos (HS.out (by assumption) (beq_iff_eq.1 (by assumption)))]), by rw [← ha]; exact hbel⟩
                all_goals
                  refine ⟨⟨k + 1, by omega, rfl, ?_⟩, by simp [intOf]; omega⟩
                  rw [HX.out, HN.out]; first | (have hq := ‹(x / 2 == v) = false›; rw [beq_eq_false_iff_ne] at hq; simp [hq]) | (simp; omega)
              · obtain rfl : k = c.ands.length := by omega
                rw [List.take_of_length_le (Nat.le_refl _)] at HN
                go_wp2
                go_ret
                exact ⟨ret_str (by unfold kindOf; rw [if_neg hv, if_neg (by rw [HN1.out]; simp), if_neg (by rw [HN2.out]; simp), if_neg (by rw [HN.out]; simp)]), hbel⟩

end Go.Proofs.Ytbgcoeejmnejdaa.Cw
namespace Go.Proofs.Ytbgcoeejmnejdaa.Cw
open Go.ChangeShapes Go.WideShapes Go.ChangeAt Go.RowKit Circ

/-- a world that is as W was below block B -/
structure Wd (B : Nat) (W : World) where
  w : World
  ok : Below B W w
instance (B : Nat) (W : World) : Nonempty (Wd B W) := ⟨⟨W, Below.refl _ _⟩⟩

/-- A region that draws its order, whose operations read what lies below B, and whose callees turn nothing there: one walk, in the order of the text. -/
theorem wp_region_wd {P : Program} {id : Nat} {Q : Exit → Act → World → Prop} {a : Act} {w : World} {l : List Oper} (hm : P.follows .mixedOrders = true) (hB : Region.lexB .any l.toArray = true)
    (h : wpQuiet P l.toArray (fun w' => ∃ u : Wd w.heap.size w, w' = u.w) (fun a' => ∀ w', (∃ u : Wd w.heap.size w, w' = u.w) → Q .normal a' w') l a) : (Code.region id l.toArray true).wp P Q a w :=
  wp_region_quiet (C := fun w' => ∃ u : Wd w.heap.size w, w' = u.w) hm hB ⟨⟨_, (Below.refl _ _).drew⟩, rfl⟩ (by simpa using h)

theorem Calls.in_wd {P : Program} {f : FuncId} {args : Array Value} {B : Nat} {W : World} {v : Value} (u : Wd B W)
    (h : Calls P f args u.w fun e w' => e = .returned v ∧ Below u.w.heap.size u.w w') (hB : B ≤ W.heap.size) : Calls P f args u.w fun e w'' => e = .returned v ∧ ∃ u' : Wd B W, w'' = u'.w :=
  h.mono fun _ w' ⟨he, hb⟩ => ⟨he, ⟨w', u.ok.trans (hb.mono (Nat.le_trans hB u.ok.size))⟩, rfl⟩
theorem Wd.cell {W : World} {p : Addr} {v : Value} (h : W.cell? p = some v) (u : Wd W.heap.size W) : u.w.cell? p = some v := cell_later u.ok h

def knownV (c : Cir) (v : Int) : Bool := decide (v = 0) || hasVar c.ins v || hasTri c.lats v || hasTri c.ands v
def knownL (c : Cir) (l : Int) : Bool := decide (0 ≤ l) && knownV c (l / 2)
theorem kind_known (c : Cir) (v : Int) : (kindOf c v).toList.isEmpty = !knownV c v := by
  unfold kindOf knownV
  by_cases h0 : v = 0
  · simp [h0]; try decide
  · cases h1 : hasVar c.ins v
    · cases h2 : hasTri c.lats v
      · cases h3 : hasTri c.ands v
        · simp [h0]; try decide
        · simp [h0]; try decide
      · simp [h0]; try decide
    · simp [h0]; try decide

theorem known_any (c : Cir) (s : Places) (l : Int) (w : World) (h : CLies w w.heap.size c s) (hf : CFits c s) (hl : I64 l) :
    Calls Try.prog 50 #[cirV c s, .int .i64 l] w fun e w' => e = .returned (.bool (knownL c l)) ∧ Below w.heap.size w w' := by
  obtain ⟨l0, l1⟩ := hl
  have hb1 : Below w.heap.size w (w.alloc (.cells (cirC c s) 27)) := (Below.refl _ _).alloc (Nat.le_refl _) _
  have K := Lib.hid (fun v => kindref_any c s v (w.alloc (.cells (cirC c s) 27)) ((h.below hb1).more hb1.size) hf)
  have HB := Lib.hid hb1
  unfold cirV cirC at *
  clear h hf
  unfold knownL
  by_cases h0 : 0 ≤ l
  · go_enter Try.func50, Try.ntmps50
    go_wp2_with fail
    refine (K.out _).mono ?_
    rintro e w' ⟨rfl, hb⟩
    go_wp2
    go_ret
    exact ⟨ret_bool (by rw [kind_known]; simp [h0]), HB.out.trans (hb.mono HB.out.size)⟩
  · go_enter Try.func50, Try.ntmps50
    go_wp2
    go_ret
    exact ⟨ret_bool (by rw [decide_eq_false (by omega)]; rfl), HB.out⟩

theorem has_any (l : List Int) (A : Option Addr) (q : Nat) (x : Int) (w : World) (hl : l.length ≤ 9223372036854775807) (hr : LRow w w.heap.size 1 A (ints l)) :
    Calls Try.prog 51 #[.slice A l.length q, .int .i64 x] w fun e w' => e = .returned (.bool (l.any (· == x))) ∧ w = w' := by
  go_enter Try.func51, Try.ntmps51
  go_wp2
  go_loop [5] (fun i => ∃ k : Nat, k ≤ l.length ∧ i = .int .i64 k ∧ (l.take k).any (· == x) = false) (fun i => l.length - (intOf i).toNat)
  case atStart => exact ⟨0, Nat.zero_le _, rfl, rfl⟩
  case round =>
    obtain ⟨k, hk, rfl, hno⟩ := hrel
    have HN := Lib.hid hno; clear hno
    by_cases hlt : k < l.length
    · obtain ⟨b, o, rfl, hb, hc⟩ := hr.int hlt
      have HX := Lib.hid (any_take l (· == x) k hlt)
      have HS := Lib.hid (any_of l (· == x) k hlt)
      clear hr
      generalize l[k] = y at *
      cases hq : y == x
      · go_wp2
        go_round
        case rel => exact ⟨k + 1, by omega, by go_num, by rw [HX.out, HN.out, hq]; rfl⟩
        case measure => simp [intOf]; omega
      · go_wp2
        go_ret
        exact ⟨ret_bool (HS.out (by first | trivial | exact hq)).symm, rfl⟩
    · obtain rfl : k = l.length := by omega
      rw [List.take_of_length_le (Nat.le_refl _)] at HN
      go_wp2
      go_ret
      exact ⟨ret_bool HN.out.symm, rfl⟩

def allKnown (c : Cir) (l : List Int) : Bool := l.all (knownL c) && decide (l.length ≤ 64)
set_option maxHeartbeats 1000000 in
theorem all_any (c : Cir) (s : Places) (l : List Int) (A : Option Addr) (q : Nat) (w : World) (h : CLies w w.heap.size c s) (hf : CFits c s) (hl : l.length ≤ 9223372036854775807) (hr : LRow w w.heap.size 1 A (ints l)) (hi : ∀ x ∈ l, I64 x) :
    Calls Try.prog 52 #[cirV c s, .slice A l.length q] w fun e w' => e = .returned (.bool (allKnown c l)) ∧ Below w.heap.size w w' := by
  have HB0 : Hid (Below w.heap.size w (w.alloc (.cells (cirC c s) 27))) := (Below.refl _ _).alloc (Nat.le_refl _) _
  have hs1 : (w.alloc (.cells (cirC c s) 27)).heap.size = w.heap.size + 1 := by simp
  have K := Lib.hid (fun x w' h' hx => known_any c s x w' h' hf hx)
  have H := Lib.hid h
  have HR := Lib.hid hr
  have HI := Lib.hid hi
  have HS1 := Lib.hid hs1
  clear h hf hr hi hs1
  unfold cirV at *
  rw [show cirC c s = #[.int .i64 c.max, .slice s.ai c.ins.length s.ki, .slice s.al c.lats.length s.kl, .slice s.ao c.outs.length s.ko, .slice s.ab c.bads.length s.kb, .slice s.ac c.invs.length s.kc, .slice s.aa c.ands.length s.ka, .slice s.an c.names.length s.kn] from rfl] at K ⊢
  go_enter Try.func52, Try.ntmps52
  go_wp2
  go_loopw [5] (fun i wr => ∃ k : Nat, k ≤ l.length ∧ i = .int .i64 k ∧ (l.take k).all (knownL c) = true ∧ Below (w.heap.size + 1) (w.alloc (.cells (cirC c s) 27)) wr) (fun i _ => l.length - (intOf i).toNat)
  case atStart => exact ⟨0, Nat.zero_le _, rfl, rfl, Below.refl _ _⟩
  case round =>
    obtain ⟨k, hk, rfl, hno, hb⟩ := hrel
    have HN := Lib.hid hno; clear hno
    have hbw : Below w.heap.size w wr := HB0.out.trans (hb.mono (by omega))
    have hwz : w.heap.size + 1 ≤ wr.heap.size := by have := hb.size; rw [show _ = _ from HS1.out] at this; exact this
    by_cases hlt : k < l.length
    · obtain ⟨b, o, rfl, hbb, hc⟩ := (HR.out.below hbw).int hlt
      have HX := Lib.hid (all_take l (knownL c) k hlt)
      have HS := Lib.hid (all_not l (knownL c) k hlt)
      have HK := Lib.hid (HI.out l[k] (List.getElem_mem _))
      generalize l[k] = x at *
      obtain ⟨e0, e1, e2, e3, e4, e5, e6, e7⟩ := ((Box.made w c s).keep hb (Nat.lt_succ_self _)).cells
      have u0 := Wd.cell e0
      have u1 := Wd.cell e1
      have u2 := Wd.cell e2
      have u3 := Wd.cell e3
      have u4 := Wd.cell e4
      have u5 := Wd.cell e5
      have u6 := Wd.cell e6
      have u7 := Wd.cell e7
      have u8 := Wd.cell hc
      clear e0 e1 e2 e3 e4 e5 e6 e7 hc
      have KK := Lib.hid (fun (u : Wd wr.heap.size wr) => Calls.in_wd u (K.out x u.w ((H.out.below (hbw.trans (u.ok.mono (by omega)))).more (by have := u.ok.size; omega)) HK.out) (Nat.le_refl _))
      have hlt' : (k : Int) < l.length := by omega
      go_wp2
      refine wp_region_wd (by kernel_rfl) (by kernel_rfl) ?_
      repeat (first | go_big_quiet_skip | (go_big_quiet_want; go_big_quiet_op; first | go_big_quiet_on | (apply Exists.intro; refine ⟨fun u => ?_, ?_⟩; (go_at_call 50; exact KK.out u); go_big_quiet_on)))
      refine wpQuiet_nil ?_
      intro _ hw'
      obtain ⟨⟨w9, hb9⟩, hw''⟩ := hw'
      subst hw''
      have hbq := hb.trans (hb9.mono hwz)
      clear u0 u1 u2 u3 u4 u5 u6 u7 u8 KK
      cases hq : knownL c x
      · rw [hq] at HX HS
        have HQ := Lib.hid (HS.out rfl)
        clear hq
        go_wp2
        go_ret
        exact ⟨ret_bool (by unfold allKnown; rw [HQ.out]; rfl), HB0.out.trans (hbq.mono (by omega))⟩
      · rw [hq] at HX
        clear hq
        go_wp2
        go_roundw
        case rel => exact ⟨k + 1, by omega, by go_num, by rw [HX.out, HN.out]; rfl, hbq⟩
        case measure => simp [intOf]; omega
    · obtain rfl : k = l.length := by omega
      rw [List.take_of_length_le (Nat.le_refl _)] at HN
      go_wp2
      go_ret
      exact ⟨ret_bool (by unfold allKnown; rw [HN.out, Bool.true_and]; exact decide_eq_decide.2 (by omega)), hbw⟩
end Go.Proofs.Ytbgcoeejmnejdaa.Cw
namespace Go.Proofs.Ytbgcoeejmnejdaa.Cw
open Go.ChangeShapes Go.WideShapes Go.ChangeAt Go.RowKit Go.Maps Circ

def c0 : Cir := ⟨1, [], [⟨2, 2, 0⟩], [], [], [], [], []⟩
def s0 (b : Nat) : Places := ⟨none, some ⟨b, 0, none⟩, none, none, none, none, none, 0, 1, 0, 0, 0, 0, 0⟩
end Go.Proofs.Ytbgcoeejmnejdaa.Cw
namespace Go.Proofs.Ytbgcoeejmnejdaa.Cw
open Go.ChangeShapes Go.WideShapes Go.ChangeAt Go.RowKit Circ

def refName (c : Cir) (x : Nam) : Bool := !decide (x.num < 0) && !decide (countV c x.kind ≤ x.num) && !x.text.toList.isEmpty && !decide (32 < x.text.size) && x.text.data.toList.all octetOk
def refPair (y x : Nam) : Bool := !(decide (rankV x.kind < rankV y.kind)) && !((y.kind.toList == x.kind.toList) && decide (x.num ≤ y.num))
def refAt (c : Cir) (k : Nat) : Bool := match c.names[k]? with
  | some x => refName c x && (match k with
    | 0 => true
    | j + 1 => match c.names[j]? with
      | some y => refPair y x
      | none => false)
  | none => true
def refNames (c : Cir) : Bool := (List.range c.names.length).all (refAt c)

theorem range_snoc (f : Nat → Bool) (k : Nat) : (List.range (k + 1)).all f = ((List.range k).all f && f k) := by
  rw [List.range_succ, List.all_append]; simp
theorem range_not (f : Nat → Bool) (n k : Nat) (hk : k < n) (h : f k = false) : (List.range n).all f = false := by
  rw [List.all_eq_false]; exact ⟨k, List.mem_range.2 hk, by simp [h]⟩
theorem refAt_zero (c : Cir) (h : 0 < c.names.length) : refAt c 0 = refName c c.names[0] := by
  unfold refAt; rw [List.getElem?_eq_getElem h]; simp
theorem refAt_succ (c : Cir) (j : Nat) (h : j + 1 < c.names.length) : refAt c (j + 1) = (refName c c.names[j + 1] && refPair (c.names[j]'(by omega)) c.names[j + 1]) := by
  unfold refAt; rw [List.getElem?_eq_getElem h]; simp only []; rw [List.getElem?_eq_getElem (by omega)]
theorem refAt_pos (c : Cir) (k : Nat) (h : k < c.names.length) (h0 : 0 < k) : refAt c k = (refName c c.names[k] && refPair (c.names[k - 1]'(by omega)) c.names[k]) := by
  obtain ⟨j, rfl⟩ : ∃ j, k = j + 1 := ⟨k - 1, by omega⟩
  rw [refAt_succ c j h]; rfl
theorem refAt_no (c : Cir) (k : Nat) (h : k < c.names.length) (hx : refName c c.names[k] = false) : refAt c k = false := by
  unfold refAt; rw [List.getElem?_eq_getElem h]; simp only [hx, Bool.false_and]

theorem take_snoc (s : ByteArray) (k : Nat) (h : k < s.size) : s.data.toList.take (k + 1) = s.data.toList.take k ++ [s[k]] := by
  rw [List.take_succ_eq_append_getElem (by simpa using h)]; rfl

set_option maxHeartbeats 4000000 in
set_option maxRecDepth 100000 in
theorem refnames_any (c : Cir) (s : Places) (w : World) (h : CLies w w.heap.size c s) (hf : CFits c s) :
    Calls Try.prog 49 #[cirV c s] w fun e w' => e = .returned (.bool (refNames c)) ∧ Below w.heap.size w w' := by
  have HB0 : Hid (Below w.heap.size w (w.alloc (.cells (cirC c s) 27))) := (Below.refl _ _).alloc (Nat.le_refl _) _
  have HS1 : Hid ((w.alloc (.cells (cirC c s) 27)).heap.size = w.heap.size + 1) := by unfold Hid; simp
  have ln := hf.ln
  have K := Lib.hid (fun x w' => count_any c s x w')
  have H := Lib.hid h
  have HF := Lib.hid hf.names
  clear h hf
  unfold cirV at *
  rw [show cirC c s = #[.int .i64 c.max, .slice s.ai c.ins.length s.ki, .slice s.al c.lats.length s.kl, .slice s.ao c.outs.length s.ko, .slice s.ab c.bads.length s.kb, .slice s.ac c.invs.length s.kc, .slice s.aa c.ands.length s.ka, .slice s.an c.names.length s.kn] from rfl] at K ⊢
  go_enter Try.func49, Try.ntmps49
  go_wp2
  go_loopw [3] (fun i wr => ∃ k : Nat, k ≤ c.names.length ∧ i = .int .i64 k ∧ (List.range k).all (refAt c) = true ∧ Below (w.heap.size + 1) (w.alloc (.cells (cirC c s) 27)) wr) (fun i _ => c.names.length - (intOf i).toNat)
  case atStart => exact ⟨0, Nat.zero_le _, rfl, rfl, Below.refl _ _⟩
  case round =>
    obtain ⟨k, hk, rfl, hno, hb⟩ := hrel
    have HN := Lib.hid hno; clear hno
    have hbw : Below w.heap.size w wr := HB0.out.trans (hb.mono (by omega))
    have hwz : w.heap.size + 1 ≤ wr.heap.size := by have := hb.size; rw [show _ = _ from HS1.out] at this; exact this
    obtain ⟨e0, e1, e2, e3, e4, e5, e6, e7⟩ := ((Box.made w c s).keep hb (Nat.lt_succ_self _)).cells
    by_cases hlt : k < c.names.length
    · obtain ⟨b, o, ha, hbb, hx0, hx1, hx2⟩ := (H.out.names.below hbw).nam hlt
      have HAn : Hid (s.an = some ⟨b, o, none⟩) := ha
      have HX := Lib.hid (range_snoc (refAt c) k)
      have HS := Lib.hid (range_not (refAt c) c.names.length k hlt)
      have HNo := Lib.hid (refAt_no c k hlt)
      have HZe := Lib.hid (fun (h0 : k = 0) => (by subst h0; exact refAt_zero c hlt : refAt c k = refName c c.names[k]))
      have HPo := Lib.hid (fun (h0 : 0 < k) => refAt_pos c k hlt h0)
      have hnm : refName c c.names[k] = (!decide (c.names[k].num < 0) && !decide (countV c c.names[k].kind ≤ c.names[k].num) && !c.names[k].text.toList.isEmpty && !decide (32 < c.names[k].text.size) && c.names[k].text.data.toList.all octetOk) := rfl
      rw [hnm] at HNo HZe HPo
      clear hnm
      have HFx := HF.out c.names[k] (List.getElem_mem _)
      rw [ha] at e7
      rw [ha] at K
      rw [ha]
      clear ha
      have hb1 := hb.alloc hwz (.cells #[.string c.names[k].kind, .int .i64 c.names[k].num, .string c.names[k].text] 84)
      have Hxk : Hid (c.names[k] = c.names[k]) := rfl
      generalize hxx : c.names[k] = X at *
      have HXX := Lib.hid hxx; clear hxx Hxk
      obtain ⟨x, y, z⟩ := X
      dsimp only at *
      obtain ⟨fa, fb, fc⟩ := HFx
      dsimp only at fa fb fc
      have fc' : z.size ≤ 9223372036854775807 := by omega
      clear fa fb fc
      obtain ⟨n0, n1, n2⟩ := nam_cells wr x y z 84 _ (Below.refl _ _)
      have hbz : Below wr.heap.size wr (wr.alloc (.cells #[.string x, .int .i64 y, .string z] 84)) := (Below.refl _ _).alloc (Nat.le_refl _) _
      have hb5 : Below w.heap.size w (wr.alloc (.cells #[.string x, .int .i64 y, .string z] 84)) := hbw.trans (hbz.mono hbw.size)
      have hz5 : w.heap.size ≤ (wr.alloc (.cells #[.string x, .int .i64 y, .string z] 84)).heap.size := hb5.size
      have HE0 := Lib.hid (cell_later hbz e0)
      have HE1 := Lib.hid (cell_later hbz e1)
      have HE2 := Lib.hid (cell_later hbz e2)
      have HE3 := Lib.hid (cell_later hbz e3)
      have HE4 := Lib.hid (cell_later hbz e4)
      have HE5 := Lib.hid (cell_later hbz e5)
      have HE6 := Lib.hid (cell_later hbz e6)
      have HE7 := Lib.hid (cell_later hbz e7)
      have hb1' : Below (w.heap.size + 1) (w.alloc (.cells (cirC c s) 27)) (wr.alloc (.cells #[.string x, .int .i64 y, .string z] 84)) := hb1
      clear hb1
      have hlt' : (k : Int) < c.names.length := by omega
      have HXk : Hid (∀ o' : Nat, o' = o → True) := fun _ _ => trivial
      clear HXk
      go_wp2
      generalize hW5 : wr.alloc (.cells #[.string x, .int .i64 y, .string z] 84) = W5 at *
      have HW5 := Lib.hid hW5; clear hW5
      have u0 := Wd.cell HE0.out
      have u1 := Wd.cell HE1.out
      have u2 := Wd.cell HE2.out
      have u3 := Wd.cell HE3.out
      have u4 := Wd.cell HE4.out
      have u5 := Wd.cell HE5.out
      have u6 := Wd.cell HE6.out
      have u7 := Wd.cell HE7.out
      have v0 := Wd.cell n0
      have v1 := Wd.cell n1
      have v2 := Wd.cell n2
      have KK := Lib.hid (fun (u : Wd W5.heap.size W5) => Calls.in_wd u (K.out x u.w) (Nat.le_refl _))
      by_cases g1 : y < 0
      case pos =>
        refine wp_region_wd (by kernel_rfl) (by kernel_rfl) ?_
        repeat (first | go_big_quiet_skip | (go_big_quiet_want; go_big_quiet_op; first | go_big_quiet_on | (apply Exists.intro; refine ⟨fun u => ?_, ?_⟩; (fail); go_big_quiet_on)))
        refine wpQuiet_nil ?_
        intro w9 hw'
        obtain ⟨⟨_, hb9⟩, hw''⟩ := hw'
        subst hw''
        go_wp2
        go_ret
        exact ⟨ret_bool (by unfold refNames; rw [HS.out (HNo.out (by rw [decide_eq_true g1]; rfl))]), hb5.trans (hb9.mono hz5)⟩
      case neg =>
      obtain ⟨n, hn⟩ : ∃ n, n = countV c x := ⟨_, rfl⟩
      rw [← hn] at KK HNo HZe HPo
      clear hn
      by_cases g2 : n ≤ y
      case pos =>
        refine wp_region_wd (by kernel_rfl) (by kernel_rfl) ?_
        repeat (first | go_big_quiet_skip | (go_big_quiet_want; go_big_quiet_op; first | go_big_quiet_on | (apply Exists.intro; refine ⟨fun u => ?_, ?_⟩; (go_at_call 102; exact KK.out u); go_big_quiet_on)))
        refine wpQuiet_nil ?_
        intro w9 hw'
        obtain ⟨⟨_, hb9⟩, hw''⟩ := hw'
        subst hw''
        go_wp2
        go_ret
        exact ⟨ret_bool (by unfold refNames; rw [HS.out (HNo.out (by rw [decide_eq_true g2]; simp))]), hb5.trans (hb9.mono hz5)⟩
      case neg =>
      cases g3 : z.toList.isEmpty
      case true =>
        refine wp_region_wd (by kernel_rfl) (by kernel_rfl) ?_
        repeat (first | go_big_quiet_skip | (go_big_quiet_want; go_big_quiet_op; first | go_big_quiet_on | (apply Exists.intro; refine ⟨fun u => ?_, ?_⟩; (go_at_call 102; exact KK.out u); go_big_quiet_on)))
        refine wpQuiet_nil ?_
        intro w9 hw'
        obtain ⟨⟨_, hb9⟩, hw''⟩ := hw'
        subst hw''
        go_wp2
        go_ret
        exact ⟨ret_bool (by unfold refNames; rw [HS.out (HNo.out (by rw [g3]; simp))]), hb5.trans (hb9.mono hz5)⟩
      case false =>
      by_cases g4 : 32 < z.size
      case pos =>
        have g4' : (32 : Int) < z.size := by omega
        refine wp_region_wd (by kernel_rfl) (by kernel_rfl) ?_
        repeat (first | go_big_quiet_skip | (go_big_quiet_want; go_big_quiet_op; first | go_big_quiet_on | (apply Exists.intro; refine ⟨fun u => ?_, ?_⟩; (go_at_call 102; exact KK.out u); go_big_quiet_on)))
        refine wpQuiet_nil ?_
        intro w9 hw'
        obtain ⟨⟨_, hb9⟩, hw''⟩ := hw'
        subst hw''
        go_wp2
        go_ret
        exact ⟨ret_bool (by unfold refNames; rw [HS.out (HNo.out (by rw [decide_eq_true g4]; simp))]), hb5.trans (hb9.mono hz5)⟩
      case neg =>
      have g4' : ¬ (32 : Int) < z.size := by omega
      have HNo2 : Hid (z.data.toList.all octetOk = false → refAt c k = false) := fun e => HNo.out (by rw [e]; simp)
      have HOk : Hid (z.data.toList.all octetOk = true → (!decide (y < 0) && !decide (n ≤ y) && !z.toList.isEmpty && !decide (32 < z.size) && z.data.toList.all octetOk) = true) := fun e => by
        rw [decide_eq_false g1, decide_eq_false g2, g3, decide_eq_false g4, e]; rfl
      refine wp_region_wd (by kernel_rfl) (by kernel_rfl) ?_
      repeat (first | go_big_quiet_skip | (go_big_quiet_want; go_big_quiet_op; first | go_big_quiet_on | (apply Exists.intro; refine ⟨fun u => ?_, ?_⟩; (go_at_call 102; exact KK.out u); go_big_quiet_on)))
      refine wpQuiet_nil ?_
      intro w9 hw'
      obtain ⟨⟨_, hb9⟩, hw''⟩ := hw'
      subst hw''
      clear u0 u1 u2 u3 u4 u5 u6 u7 v0 v1 v2 KK
      have m0 := cell_later hb9 n0
      have m1 := cell_later hb9 n1
      have m2 := cell_later hb9 n2
      have m7 := cell_later hb9 HE7.out
      have hbx : Below w.heap.size w w9 := hb5.trans (hb9.mono hz5)
      have hlen : z.data.toList.length = z.size := by simp
      have HL := Lib.hid hlen; clear hlen
      clear n0 n1 n2
      go_wp2
      go_loop [5] (fun i => ∃ j : Nat, j ≤ z.size ∧ i = .int .i64 j ∧ (z.data.toList.take j).all octetOk = true) (fun i => z.size - (intOf i).toNat)
      case atStart => exact ⟨0, Nat.zero_le _, rfl, rfl⟩
      case round =>
        obtain ⟨j, hj, rfl, hno2⟩ := hrel
        have HN2 := Lib.hid hno2; clear hno2
        by_cases hlt2 : j < z.size
        · have hts := take_snoc z j hlt2
          have hall : (z.data.toList.take (j + 1)).all octetOk = ((z.data.toList.take j).all octetOk && octetOk z[j]) := by rw [hts, List.all_append]; simp
          have HX2 := Lib.hid hall
          have hstop : octetOk z[j] = false → z.data.toList.all octetOk = false := fun e => by
            rw [List.all_eq_false]
            exact ⟨z[j], by rw [show z[j] = z.data.toList[j]'(by rw [HL.out]; exact hlt2) from rfl]; exact List.getElem_mem _, by simp [e]⟩
          have HS2 := Lib.hid hstop
          clear hts hall hstop
          have hj' : (j : Int) < z.size := by omega
          go_wp2
          · go_ret
            exact ⟨ret_bool (by unfold refNames; rw [HS.out (HNo2.out (HS2.out (by unfold octetOk; simp; omega)))]), hbx⟩
          · refine ⟨⟨j + 1, by omega, rfl, ?_⟩, by simp [intOf]; omega⟩
            rw [HX2.out, HN2.out, Bool.true_and]; unfold octetOk; simp; omega
          · go_ret
            exact ⟨ret_bool (by unfold refNames; rw [HS.out (HNo2.out (HS2.out (by unfold octetOk; simp; omega)))]), hbx⟩
        · obtain rfl : j = z.size := by omega
          rw [List.take_of_length_le (Nat.le_of_eq HL.out)] at HN2
          have HG := Lib.hid (HOk.out HN2.out)
          have hz6 : w.heap.size + 1 ≤ W5.heap.size := by have := hb1'.size; rw [show _ = _ from HS1.out] at this; exact this
          by_cases hk0 : k = 0
          · have HR0 : Hid (refAt c k = true) := by unfold Hid; rw [HZe.out hk0]; exact HG.out
            have hk1 : ¬ (0 : Int) < k := by omega
            clear hk0
            go_wp2
            go_roundw
            case rel => exact ⟨k + 1, by omega, by go_num, by rw [HX.out, HN.out, HR0.out]; rfl, hb1'.trans (hb9.mono hz6)⟩
            case measure => simp [intOf]; omega
          · have hk1 : (0 : Int) < k := by omega
            have hk2 : k - 1 < c.names.length := by omega
            obtain ⟨b', o', ha', -, p0, p1, p2⟩ := (H.out.names.below hbx).nam hk2
            rw [HAn.out] at ha'
            obtain ⟨rfl, rfl⟩ : b = b' ∧ o = o' := by
              have := Option.some.inj ha'
              injection this with h1 h2
              exact ⟨h1, h2⟩
            clear ha'
            have HPo2 := Lib.hid (HPo.out (by omega))
            clear HPo HZe hk0
            generalize c.names[k - 1] = Y at *
            obtain ⟨p, q, r⟩ := Y
            dsimp only at *
            have hpr : refPair ⟨p, q, r⟩ ⟨x, y, z⟩ = (!(decide (rankV x < rankV p)) && !((p.toList == x.toList) && decide (y ≤ q))) := rfl
            have HPf : Hid ((!(decide (rankV x < rankV p)) && !((p.toList == x.toList) && decide (y ≤ q))) = false → refAt c k = false) := fun e => by rw [HPo2.out, hpr, e, Bool.and_false]
            have HPt : Hid ((!(decide (rankV x < rankV p)) && !((p.toList == x.toList) && decide (y ≤ q))) = true → refAt c k = true) := fun e => by rw [HPo2.out, hpr, e, Bool.and_true]; exact HG.out
            clear hpr
            obtain ⟨s0, s1, s2⟩ := nam_cells w9 p q r 84 _ (Below.refl _ _)
            have hbz2 : Below w9.heap.size w9 (w9.alloc (.cells #[.string p, .int .i64 q, .string r] 84)) := (Below.refl _ _).alloc (Nat.le_refl _) _
            have s3 := cell_later hbz2 m0
            have s4 := cell_later hbz2 m1
            have hkn : (k : Int) - 1 < c.names.length := by omega
            have hkn0 : 0 ≤ (k : Int) - 1 := by omega
            go_wp2
            generalize hW6 : w9.alloc (.cells #[.string p, .int .i64 q, .string r] 84) = W6 at *
            have HW6 := Lib.hid hW6; clear hW6
            have u0 := Wd.cell s0
            have u1 := Wd.cell s1
            have u3 := Wd.cell s3
            have u4 := Wd.cell s4
            have RK := Lib.hid (fun (t : ByteArray) (u : Wd W6.heap.size W6) => Calls.in_wd u (rank_any t u.w) (Nat.le_refl _))
            by_cases g5 : rankV x < rankV p
            case pos =>
              refine wp_region_wd (by kernel_rfl) (by kernel_rfl) ?_
              repeat (first | go_big_quiet_skip | (go_big_quiet_want; go_big_quiet_op; first | go_big_quiet_on | (apply Exists.intro; refine ⟨fun u => ?_, ?_⟩; (go_at_call 103; exact RK.out _ u); go_big_quiet_on)))
              refine wpQuiet_nil ?_
              intro w8 hw'
              obtain ⟨⟨_, hb8⟩, hw''⟩ := hw'
              subst hw''
              go_wp2
              go_ret
              exact ⟨ret_bool (by unfold refNames; rw [HS.out (HPf.out (by rw [decide_eq_true g5]; rfl))]), hbx.trans ((hbz2.trans (hb8.mono hbz2.size)).mono hbx.size)⟩
            case neg =>
            cases g6 : p.toList == x.toList
            case false =>
              refine wp_region_wd (by kernel_rfl) (by kernel_rfl) ?_
              repeat (first | go_big_quiet_skip | (go_big_quiet_want; go_big_quiet_op; first | go_big_quiet_on | (apply Exists.intro; refine ⟨fun u => ?_, ?_⟩; (go_at_call 103; exact RK.out _ u); go_big_quiet_on)))
              refine wpQuiet_nil ?_
              intro w8 hw'
              obtain ⟨⟨_, hb8⟩, hw''⟩ := hw'
              subst hw''
              go_wp2
              go_roundw
              case rel => exact ⟨k + 1, by omega, by go_num, by rw [HX.out, HN.out, HPt.out (by rw [decide_eq_false g5, g6]; rfl)]; rfl, (hb1'.trans (hb9.mono hz6)).trans ((hbz2.trans (hb8.mono hbz2.size)).mono (Nat.le_trans hz6 hb9.size))⟩
              case measure => simp [intOf]; omega
            case true =>
            by_cases g7 : y ≤ q
            case pos =>
              refine wp_region_wd (by kernel_rfl) (by kernel_rfl) ?_
              repeat (first | go_big_quiet_skip | (go_big_quiet_want; go_big_quiet_op; first | go_big_quiet_on | (apply Exists.intro; refine ⟨fun u => ?_, ?_⟩; (go_at_call 103; exact RK.out _ u); go_big_quiet_on)))
              refine wpQuiet_nil ?_
              intro w8 hw'
              obtain ⟨⟨_, hb8⟩, hw''⟩ := hw'
              subst hw''
              go_wp2
              go_ret
              exact ⟨ret_bool (by unfold refNames; rw [HS.out (HPf.out (by rw [g6, decide_eq_true g7]; simp))]), hbx.trans ((hbz2.trans (hb8.mono hbz2.size)).mono hbx.size)⟩
            case neg =>
              refine wp_region_wd (by kernel_rfl) (by kernel_rfl) ?_
              repeat (first | go_big_quiet_skip | (go_big_quiet_want; go_big_quiet_op; first | go_big_quiet_on | (apply Exists.intro; refine ⟨fun u => ?_, ?_⟩; (go_at_call 103; exact RK.out _ u); go_big_quiet_on)))
              refine wpQuiet_nil ?_
              intro w8 hw'
              obtain ⟨⟨_, hb8⟩, hw''⟩ := hw'
              subst hw''
              go_wp2
              go_roundw
              case rel => exact ⟨k + 1, by omega, by go_num, by rw [HX.out, HN.out, HPt.out (by rw [decide_eq_false g5, g6, decide_eq_false g7]; rfl)]; rfl, (hb1'.trans (hb9.mono hz6)).trans ((hbz2.trans (hb8.mono hbz2.size)).mono (Nat.le_trans hz6 hb9.size))⟩
              case measure => simp [intOf]; omega
    · obtain rfl : k = c.names.length := by omega
      go_wp2
      go_ret
      exact ⟨ret_bool HN.out.symm, hbw⟩
end Go.Proofs.Ytbgcoeejmnejdaa.Cw
namespace Go.Proofs.Ytbgcoeejmnejdaa.Cw
open Go.ChangeShapes Go.WideShapes Go.ChangeAt Go.RowKit Go.Maps Circ

def latR (c : Cir) (t : Tri) : Bool := (decide (t.c = 0) || decide (t.c = 1) || decide (t.c = t.a)) && knownL c t.b
def andAt (c : Cir) (k : Nat) : Bool := match c.ands[k]? with
  | some t => (match k with
    | 0 => true
    | j + 1 => match c.ands[j]? with
      | some p => decide (p.a < t.a)
      | none => false) && (decide (t.b < t.a) && (decide (t.c < t.a) && (knownL c t.b && knownL c t.c)))
  | none => true
def ownAt (m : Int) (l : List Int) (i : Nat) : Bool := match l[i]? with
  | some x => !decide (x < 2) && (!decide (x % 2 = 1) && (!decide (2 * m < x) && !(l.take i).any (· == x)))
  | none => true
def refHead (c : Cir) : Bool := !decide (c.max < 0) && (!decide (2048 < c.max) && (!decide (64 < c.ins.length) && (!decide (64 < c.lats.length) && refNames c)))
def refOk (c : Cir) : Bool := refHead c && (c.lats.all (latR c) && ((List.range c.ands.length).all (andAt c) && ((List.range (own c).length).all (ownAt c.max (own c)) && (allKnown c c.outs && (allKnown c c.bads && allKnown c c.invs)))))
def refV (c : Cir) : Int := if refOk c = true then 0 else 9
theorem refV_no (c : Cir) (h : refOk c = false) : refV c = 9 := by unfold refV; rw [h]; rfl
theorem refV_yes (c : Cir) (h : refOk c = true) : refV c = 0 := by unfold refV; rw [h]; rfl

theorem andAt_zero (c : Cir) (k : Nat) (h : k < c.ands.length) (h0 : k = 0) : andAt c k = (true && (decide (c.ands[k].b < c.ands[k].a) && (decide (c.ands[k].c < c.ands[k].a) && (knownL c c.ands[k].b && knownL c c.ands[k].c)))) := by
  subst h0; unfold andAt; rw [List.getElem?_eq_getElem h]
theorem andAt_pos (c : Cir) (k : Nat) (h : k < c.ands.length) (h0 : 0 < k) : andAt c k = (decide ((c.ands[k - 1]'(by omega)).a < c.ands[k].a) && (decide (c.ands[k].b < c.ands[k].a) && (decide (c.ands[k].c < c.ands[k].a) && (knownL c c.ands[k].b && knownL c c.ands[k].c)))) := by
  obtain ⟨j, rfl⟩ : ∃ j, k = j + 1 := ⟨k - 1, by omega⟩
  unfold andAt; rw [List.getElem?_eq_getElem h]; simp only []; rw [List.getElem?_eq_getElem (by omega)]; rfl
theorem ownAt_is (m : Int) (l : List Int) (i : Nat) (h : i < l.length) : ownAt m l i = (!decide (l[i] < 2) && (!decide (l[i] % 2 = 1) && (!decide (2 * m < l[i]) && !(l.take i).any (· == l[i])))) := by
  unfold ownAt; rw [List.getElem?_eq_getElem h]

theorem OwnI.cell {w : World} {base : Nat} {v : Value} {xs : List Int} (h : OwnI w base v xs) {k : Nat} (hk : k < xs.length) : ∃ b o q, v = .slice (some ⟨b, o, none⟩) xs.length q ∧ xs.length ≤ q ∧ q ≤ 9223372036854775807 ∧ w.cell? ⟨b, o + k, none⟩ = some (.int .i64 xs[k]) ∧ LRow w w.heap.size 1 (some ⟨b, o, none⟩) (ints xs) := by
  obtain ⟨A, q, hv, hr, hq, hq2⟩ := h.row
  obtain ⟨b, o, rfl, hb, hc⟩ := hr.int hk
  exact ⟨b, o, q, hv, hq, hq2, hc, hr⟩
theorem LRow.take {w : World} {B : Nat} {A : Option Addr} {l : List Int} (h : LRow w B 1 A (ints l)) (i : Nat) : LRow w B 1 A (ints (l.take i)) := by
  rcases h with h | ⟨b, o, e, hb, hc⟩
  · left; simp [ints] at h; subst h; simp [ints]
  · refine .inr ⟨b, o, e, hb, fun j ys hj k u hk => ?_⟩
    refine hc j ys ?_ k u hk
    unfold ints at hj ⊢
    rw [List.map_take, List.getElem?_take] at hj
    split at hj
    · exact hj
    · cases hj

/-- the row of one number that a call lays for an append -/
theorem one_row (w : World) (x : Int) (t : TypeId) : LRow (w.alloc (.cells #[.int .i64 x] t)) (w.heap.size + 1) 1 (some ⟨w.heap.size, 0, none⟩) (ints [x]) :=
  .inr ⟨_, 0, rfl, Nat.lt_succ_self _, fun i ys hi j u hj => by
    match i, hi with
    | 0, hi =>
      obtain rfl : [Value.int .i64 x] = ys := by simpa [ints] using hi
      match j, hj with
      | 0, hj =>
        obtain rfl : Value.int .i64 x = u := by simpa using hj
        rw [new_cell]; rfl⟩
theorem own_below {w w' : World} {base : Nat} {v : Value} {xs : List Int} (h : OwnI w base v xs) (hg : w.grownBy w' v.ownBlock) (hb : base ≤ w.heap.size) : Below base w w' :=
  ⟨hg.os, hg.tape, hg.output, hg.size, fun k hk => hg.block k (by omega) (fun e => by have := h.block_lt k e.symm; omega)⟩
theorem own_cell {w w' : World} {base : Nat} {v : Value} {xs : List Int} (h : OwnI w base v xs) {w1 : World} (hg : w1.grownBy w' v.ownBlock) {p : Addr} {u : Value} (hc : w1.cell? p = some u) (hp : w.heap.size ≤ p.block) : w'.cell? p = some u :=
  (World.cell?_of_block (hg.block p.block (World.block_lt_of_cell? _ _ hc) (fun e => by have := h.block_lt p.block e.symm; omega))).trans hc
end Go.Proofs.Ytbgcoeejmnejdaa.Cw
namespace Go.Proofs.Ytbgcoeejmnejdaa.Cw
open Go.ChangeShapes Go.WideShapes Go.ChangeAt Go.RowKit Go.Maps Circ

theorem flatten_at {α : Type} (m : Nat) (hm : 0 < m) : ∀ (xs : List (List α)) (_ : ∀ y ∈ xs, y.length = m) (j : Nat), xs.flatten[j]? = (xs[j / m]?).bind (·[j % m]?)
  | [], _, j => by simp
  | y :: ys, h, j => by
    have hy : y.length = m := h y List.mem_cons_self
    rw [List.flatten_cons]
    by_cases hj : j < m
    · rw [List.getElem?_append_left (by omega), Nat.div_eq_of_lt hj, Nat.mod_eq_of_lt hj]; rfl
    · rw [List.getElem?_append_right (by omega), hy, flatten_at m hm ys (fun z hz => h z (List.mem_cons_of_mem _ hz)) (j - m)]
      obtain ⟨k, rfl⟩ : ∃ k, j = k + m := ⟨j - m, by omega⟩
      rw [Nat.add_sub_cancel, Nat.add_div_right _ hm, Nat.add_mod_right]
      rfl
theorem flatten_len {α : Type} (m : Nat) : ∀ (xs : List (List α)) (_ : ∀ y ∈ xs, y.length = m), xs.flatten.length = xs.length * m
  | [], _ => by simp
  | y :: ys, h => by
    rw [List.flatten_cons, List.length_append, flatten_len m ys (fun z hz => h z (List.mem_cons_of_mem _ hz)), h y List.mem_cons_self, List.length_cons, Nat.add_mul]; omega

/-- the slice v, made from block base on, holds the elements xs of m cells each -/
def OwnC (w : World) (base : Nat) (e : TypeId) (m : Nat) (v : Value) (xs : List (List Value)) : Prop := w.ownsRow base e m v xs.length xs.flatten
theorem OwnC.nil (w : World) (base : Nat) (e : TypeId) (m : Nat) : OwnC w base e m (.slice none 0 0) [] := ⟨by simp, .inl ⟨rfl, rfl⟩⟩
theorem OwnC.row {w : World} {base : Nat} {e : TypeId} {m : Nat} {v : Value} {xs : List (List Value)} (h : OwnC w base e m v xs) (hm : 0 < m) (hx : ∀ y ∈ xs, y.length = m) : ∃ A q, v = .slice A xs.length q ∧ LRow w w.heap.size m A xs ∧ xs.length ≤ q ∧ q ≤ 9223372036854775807 := by
  obtain ⟨_, h⟩ := h
  rcases h with ⟨rfl, h0⟩ | ⟨g, cap, cur, rfl, _, hg, hn, hmx, hs, ht⟩
  · have hx0 : xs = [] := List.eq_nil_of_length_eq_zero h0
    subst hx0
    exact ⟨none, 0, rfl, .inl rfl, Nat.le_refl _, by decide⟩
  · refine ⟨_, cap, rfl, .inr ⟨g, 0, rfl, (Array.getElem?_eq_some_iff.1 hg).1, fun i ys hi j u hj => ?_⟩, hn, by unfold maxLen at hmx; exact hmx⟩
    have hil : i < xs.length := (List.getElem?_eq_some_iff.1 hi).1
    have hjl : j < m := by
      have h1 := (List.getElem?_eq_some_iff.1 hj).1
      have h2 := hx ys (List.mem_of_getElem? hi)
      omega
    have hlt : i * m + j < xs.length * m := by
      have : (i + 1) * m ≤ xs.length * m := Nat.mul_le_mul_right _ hil
      rw [Nat.add_mul] at this; omega
    have e := congrArg (fun l : List Value => l[i * m + j]?) ht
    simp only [List.getElem?_take] at e
    rw [if_pos hlt, flatten_at m hm xs hx, show (i * m + j) / m = i by rw [Nat.mul_comm, Nat.mul_add_div hm, Nat.div_eq_of_lt hjl, Nat.add_zero], show (i * m + j) % m = j by rw [Nat.mul_comm, Nat.mul_add_mod, Nat.mod_eq_of_lt hjl], hi] at e
    simp only [Option.bind_some] at e
    rw [hj] at e
    simp [World.cell?, hg]
    simpa using e
theorem OwnC.block_lt {w : World} {base : Nat} {e : TypeId} {m : Nat} {v : Value} {xs : List (List Value)} (h : OwnC w base e m v xs) (g : Nat) (hg : v.ownBlock = some g) : base ≤ g ∧ g < w.heap.size := by
  obtain ⟨_, h⟩ := h
  rcases h with ⟨rfl, h0⟩ | ⟨g', cap, cur, rfl, hb, hh, _⟩
  · simp [Value.ownBlock] at hg
  · have : g' = g := by simpa [Value.ownBlock] using hg
    subst this
    exact ⟨hb, (Array.getElem?_eq_some_iff.1 hh).1⟩
theorem OwnC.keep_at {w w' : World} {base : Nat} {e : TypeId} {m : Nat} {v : Value} {xs : List (List Value)} (h : OwnC w base e m v xs) (hb : ∀ g, base ≤ g → v.ownBlock = some g → w'.heap[g]? = w.heap[g]?) : OwnC w' base e m v xs := by
  obtain ⟨h0, h⟩ := h
  refine ⟨h0, ?_⟩
  rcases h with h | ⟨g, cap, cur, hv, hg, hh, r⟩
  · exact .inl h
  · exact .inr ⟨g, cap, cur, hv, hg, (hb g hg (by rw [hv]; rfl)).trans hh, r⟩
theorem OwnC.keep {w w' : World} {base : Nat} {e : TypeId} {m : Nat} {v : Value} {xs : List (List Value)} (h : OwnC w base e m v xs) (hb : Below w.heap.size w w') : OwnC w' base e m v xs := h.keep_at fun g _ hg => hb.block g (h.block_lt g hg).2

theorem wpList_fill {ops : Array Oper} {rest : List Oper} {o : Oper} {a : Act} {Q : Exit → Act → World → Prop} (w : World) (hgd : o.guard = none) (s x : Operand) (T : TypeId)
    (ho : o.op = .call { callee := .builtin .append, args := #[s, x], argTypes := #[T, T] })
    (e m bytes : Nat) (z : Value) (hT : Try.prog.underlying T = some (.slice e)) (hi : (Try.prog.info? e).map (fun i => (i.zero, i.size, i.bytes)) = some (some z, m, bytes)) (hzs : z.cells.size = m) (hm : 0 < m)
    (base B : Nat) (v : Value) (hown : OwnC w base e m v []) (b : Nat) (l : List (List Value)) (hs : a.eval s = v) (hv : v = .slice (some ⟨b, 0, none⟩) 0 0) (A : Option Addr) (n c : Nat) (hn : n = l.length) (hx : a.eval x = .slice A n c) (hr : LRow w B m A l)
    (hlen : ∀ y ∈ l, y.length = m) (hone : ∀ y ∈ l, ∀ u ∈ y, u.oneCell' = true) (hbytes : l.length * bytes ≤ 140737488355328) (hbase : base ≤ w.heap.size)
    (hmax : l.length ≤ 9223372036854775807)
    (h : ∀ v' w', OwnC w' base e m v' l → w.grownBy w' v.ownBlock → (v'.ownBlock = v.ownBlock ∨ v'.ownBlock = some w.heap.size) → wpList Try.prog ops Q rest (a.put o.dst v') w') : wpList Try.prog ops Q (o :: rest) a w := by
  subst hn
  obtain ⟨i0, hi0, hz0, hz1, hz2⟩ := info_parts hi
  have fin : ∀ v' w', (Builtin.append_ #[T, T] o.type #[v, .slice A l.length c]).run Try.prog w = .ok v' w' → OwnC w' base e m v' l → w.grownBy w' v.ownBlock → (v'.ownBlock = v.ownBlock ∨ v'.ownBlock = some w.heap.size) → wpList Try.prog ops Q (o :: rest) a w := fun v' w' hrun h2 h3 h4 => by
    refine wpList_plain hgd fun K hK => ?_
    unfold Oper.wp execOp
    simp only [ho, resolve, invoke, builtin, Sem.run_bind, Sem.run_pure, Result.andThen_ok, List.map_toArray, List.map_cons, List.map_nil, hs, hx, hrun]
    exact hK _ _ (h v' w' h2 h3 h4)
  have go : ∀ ad : Addr, A = some ad → (∀ j u, l.flatten[j]? = some u → w.cell? (ad.add j) = some u) → wpList Try.prog ops Q (o :: rest) a w := fun ad hA hc => by
    obtain ⟨v', w', h1, h2, h3, _, h5⟩ := run_append_own_at (P := Try.prog) w base T o.type e i0 z m bytes hT hi0 hz0 hz1 hz2 hzs hm v 0 [] (by simpa [OwnC] using hown) ad l.length c l.flatten (flatten_len m l hlen) hc (fun u hu => by
      obtain ⟨y, hy, hu'⟩ := List.mem_flatten.1 hu
      exact hone y hy u hu') (by unfold maxLen; omega) (by simpa using hbytes) hbase
    refine fin v' w' (by rw [hA]; exact h1) ?_ h3 h5
    unfold OwnC
    simpa using h2
  rcases hr with h0 | ⟨b', o', e', hb, hc⟩
  · subst h0
    rcases A with _ | ad
    · refine fin v w ?_ hown (World.grownBy.refl w _) (.inl rfl)
      subst hv
      simp [Builtin.append_, run_underlying hT, sizeOf, typeInfo, hi0, Builtin.lenOf, Builtin.firstCells, storeCells]
    · exact go ad rfl (fun j u hj => by simp at hj)
  · refine go _ e' (fun j u hj => ?_)
    rw [flatten_at m hm l hlen] at hj
    cases hq : l[j / m]? with
    | none => rw [hq] at hj; cases hj
    | some y =>
      rw [hq] at hj
      have h1 := hc (j / m) y hq (j % m) u hj
      have h3 : (⟨b', o', none⟩ : Addr).add j = ⟨b', o' + (j / m * m + j % m), none⟩ := by
        rw [show j / m * m + j % m = j by rw [Nat.mul_comm]; exact Nat.div_add_mod j m]
        unfold Addr.add
        by_cases hz : j = 0
        · simp [hz]
        · simp [hz]
      rw [h3]; exact h1
end Go.Proofs.Ytbgcoeejmnejdaa.Cw
namespace Go.Proofs.Ytbgcoeejmnejdaa.Cw
open Go.ChangeShapes Go.WideShapes Go.ChangeAt Go.RowKit Go.Maps Circ

theorem wpList_push {ops : Array Oper} {rest : List Oper} {o : Oper} {a : Act} {Q : Exit → Act → World → Prop} (w : World) (hgd : o.guard = none) (s x : Operand) (T : TypeId)
    (ho : o.op = .call { callee := .builtin .append, args := #[s, x], argTypes := #[T, T] })
    (e m bytes : Nat) (z : Value) (hT : Try.prog.underlying T = some (.slice e)) (hi : (Try.prog.info? e).map (fun i => (i.zero, i.size, i.bytes)) = some (some z, m, bytes)) (hzs : z.cells.size = m) (hm : 0 < m)
    (base : Nat) (v : Value) (xs : List (List Value)) (hown : OwnC w base e m v xs) (hs : a.eval s = v) (g : Nat) (c : Nat) (hx : a.eval x = .slice (some ⟨g, 0, none⟩) 1 c) (y : List Value) (hy : ∀ j u, y[j]? = some u → w.cell? ⟨g, j, none⟩ = some u)
    (hlen : y.length = m) (hone : ∀ u ∈ y, u.oneCell' = true) (hbytes : (xs.length + 1) * bytes ≤ 140737488355328) (hmax : xs.length + 1 ≤ 9223372036854775807) (hbase : base ≤ w.heap.size)
    (h : ∀ v' w', OwnC w' base e m v' (xs ++ [y]) → Below base w w' → (∀ k, k < w.heap.size → some k ≠ v.ownBlock → w'.heap[k]? = w.heap[k]?) → wpList Try.prog ops Q rest (a.put o.dst v') w') : wpList Try.prog ops Q (o :: rest) a w := by
  obtain ⟨i0, hi0, hz0, hz1, hz2⟩ := info_parts hi
  obtain ⟨v', w', h1, h2, h3, _, h5⟩ := run_append_own_at (P := Try.prog) w base T o.type e i0 z m bytes hT hi0 hz0 hz1 hz2 hzs hm v xs.length xs.flatten hown ⟨g, 0, none⟩ 1 c y (by rw [Nat.one_mul]; exact hlen) (fun j u hj => by
    have e : (⟨g, 0, none⟩ : Addr).add j = ⟨g, j, none⟩ := by unfold Addr.add; by_cases hz : j = 0 <;> simp [hz]
    rw [e]; exact hy j u hj) hone (by unfold maxLen; omega) hbytes hbase
  refine wpList_plain hgd fun K hK => ?_
  unfold Oper.wp execOp
  simp only [ho, resolve, invoke, builtin, Sem.run_bind, Sem.run_pure, Result.andThen_ok, List.map_toArray, List.map_cons, List.map_nil, hs, hx, h1]
  refine hK _ _ (h v' w' ?_ ?_ ?_)
  · unfold OwnC
    simpa using h2
  · exact ⟨h3.os, h3.tape, h3.output, h3.size, fun k hk => h3.block k (by omega) (fun e => by have := hown.block_lt k e.symm; omega)⟩
  · exact fun k hk hne => h3.block k hk hne
end Go.Proofs.Ytbgcoeejmnejdaa.Cw
namespace Go.Proofs.Ytbgcoeejmnejdaa.Cw
open Go.ChangeShapes Go.WideShapes Go.ChangeAt Go.RowKit Go.Maps Circ

theorem OwnI.keep_at {w w' : World} {base : Nat} {v : Value} {xs : List Int} (h : OwnI w base v xs) (hb : ∀ g, base ≤ g → v.ownBlock = some g → w'.heap[g]? = w.heap[g]?) : OwnI w' base v xs := by
  obtain ⟨h0, h⟩ := h
  refine ⟨h0, ?_⟩
  rcases h with h | ⟨g, cap, cur, hv, hg, hh, r⟩
  · exact .inl h
  · exact .inr ⟨g, cap, cur, hv, hg, (hb g hg (by rw [hv]; rfl)).trans hh, r⟩

/-- what is written down in T: the set in block M, named by the cell in block M + 1, and the list that the cell in block M + 2 names -/
structure Down (M Ba N : Nat) (ands : List Tri) (v : Value) (T : List Int) (w : World) : Prop where
  cm : w.cell? ⟨M + 1, 0, none⟩ = some (.map (some M))
  hv : w.heap[M + 2]? = some (.cells #[v] 22 (0, 0))
  own : OwnI w (M + 3) v T
  set : IsSet w M T.reverse
  gates : IsAnds w Ba (andOf ands) N
  lt : Ba < M
  sz : M + 3 ≤ w.heap.size

theorem Down.alloc {M Ba N : Nat} {ands : List Tri} {v : Value} {T : List Int} {w : World} (h : Down M Ba N ands v T w) (o : Obj) : Down M Ba N ands v T (w.alloc o) :=
  have hb : Below w.heap.size w (w.alloc o) := (Below.refl _ _).alloc (Nat.le_refl _) o
  ⟨cell_later hb h.cm, (hb.block _ (by have := h.sz; omega)).trans h.hv, h.own.keep hb, h.set.alloc o, h.gates.alloc o, h.lt, Nat.le_trans h.sz hb.size⟩

end Go.Proofs.Ytbgcoeejmnejdaa.Cw
