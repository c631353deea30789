/- circuit.Kind, and the pages' own: what they tell of any circuit and variable; no condition. The pages' own words of circuits, walked: kinds, and literals that are known; no condition. The pages' own words of circuits, walked: literals that are known; no condition. The page's example of circuits, as the laws call it: it holds. No condition. -/
import Derived.Test.YtpbggngeopjefaaDoorPk04
import Derived.Deep.Draws
import Derived.Laws.EntriesVeiled
import Derived.BigQuiet
import Derived.Test.YtpbggngeopjefaaDoorPk06
namespace Go.Proofs.YtpbggngeopjefaaDoor.Cw
open Go.ChangeShapes Go.WideShapes Go.ChangeAt Go.RowKit Circ

def isVar (v x : Int) : Bool := decide (cnt x / 2 = v)

theorem isVar_any (l : List Int) (v : Int) (hv : v ≠ 0) : l.any (isVar v) = hasVar l v := by
  unfold hasVar
  congr 1
  funext x
  unfold isVar
  by_cases h : 0 ≤ x
  · rw [cnt_pos x h]; simp [h]
  · rw [cnt_neg x (by omega)]; simp [h]; omega
theorem isTri_any (l : List Tri) (v : Int) (hv : v ≠ 0) : l.any (fun t => isVar v t.a) = hasTri l v := by
  unfold hasTri; rw [← isVar_any _ v hv, List.any_map]; rfl

end Go.Proofs.YtpbggngeopjefaaDoor.Cw
namespace Go.Proofs.YtpbggngeopjefaaDoor.Cw
open Go.ChangeShapes Go.WideShapes Go.ChangeAt Go.RowKit Circ

set_option maxHeartbeats 1000000 in
theorem kindref_any (c : Cir) (s : Places) (v : Int) (w : World) (h : CLies w w.heap.size c s) (hf : CFits c s) :
    Calls Tryd.prog 58 #[cirV c s, .int .i64 v] w fun e w' => e = .returned (.string (kindOf c v)) ∧ Below w.heap.size w w' := by
  have li := hf.li
  have ll := hf.ll
  have la := hf.la
  have hbel : Below w.heap.size w (w.alloc (.cells (cirC c s) 27)) := (Below.refl _ _).alloc (Nat.le_refl _) _
  have H := Lib.hid h
  have HI := Lib.hid hf
  clear h hf
  unfold cirV cirC at *
  by_cases hv : v = 0
  · subst hv
    go_enter Tryd.func58, Tryd.ntmps58
    go_wp2
    go_ret
    exact ⟨by simp [kindOf], hbel⟩
  · have hv1 : (v == 0) = false := by simpa using hv
    go_enter Tryd.func58, Tryd.ntmps58
    go_wp2
    go_loop [5] (fun i => ∃ k : Nat, k ≤ c.ins.length ∧ i = .int .i64 k ∧ hasVar (c.ins.take k) v = false) (fun i => c.ins.length - (intOf i).toNat)
    case atStart => exact ⟨0, Nat.zero_le _, rfl, rfl⟩
    case round =>
      obtain ⟨k, hk, rfl, hno⟩ := hrel
      have HN := Lib.hid hno; clear hno
      by_cases hlt : k < c.ins.length
      · obtain ⟨b, o, ha, hb, hc⟩ := H.out.ins.int hlt
        have hx := HI.out.ins c.ins[k] (List.getElem_mem _)
        have HX := Lib.hid (hasVar_take c.ins v k hlt)
        have HS := Lib.hid (hasVar_some c.ins v k hlt)
        obtain ⟨x0, x1⟩ := hx
        generalize c.ins[k] = x at *
        go_wp2
        · go_ret
          exact ⟨ret_str (by unfold kindOf; rw [if_neg hv, if_pos (HS.out (by assumption) (beq_iff_eq.1 (by assumption)))]), by rw [← ha]; exact hbel⟩
        all_goals
          refine ⟨⟨k + 1, by omega, rfl, ?_⟩, by simp [intOf]; omega⟩
          rw [HX.out, HN.out]; first | (have hq := ‹(x / 2 == v) = false›; rw [beq_eq_false_iff_ne] at hq; simp [hq]) | (simp; omega)
      · obtain rfl : k = c.ins.length := by omega
        rw [List.take_of_length_le (Nat.le_refl _)] at HN
        go_wp2
        have HN1 := HN; clear HN
        go_loop [6] (fun i => ∃ k : Nat, k ≤ c.lats.length ∧ i = .int .i64 k ∧ hasTri (c.lats.take k) v = false) (fun i => c.lats.length - (intOf i).toNat)
        case atStart => exact ⟨0, Nat.zero_le _, rfl, rfl⟩
        case round =>
          obtain ⟨k, hk, rfl, hno⟩ := hrel
          have HN := Lib.hid hno; clear hno
          by_cases hlt : k < c.lats.length
          · obtain ⟨b, o, ha, hb, hc, _, _⟩ := H.out.lats.tri hlt
            have hx := HI.out.lats c.lats[k] (List.getElem_mem _)
            have HX := Lib.hid (hasTri_take c.lats v k hlt)
            have HS := Lib.hid (hasTri_some c.lats v k hlt)
            obtain ⟨⟨x0, x1⟩, _, _⟩ := hx
            generalize c.lats[k].a = x at *
            go_wp2
            · go_ret
              exact ⟨ret_str (by unfold kindOf; rw [if_neg hv, if_neg (by rw [HN1.out]; simp), if_pos (HS.out (by assumption) (beq_iff_eq.1 (by assumption)))]), by rw [← ha]; exact hbel⟩
            all_goals
              refine ⟨⟨k + 1, by omega, rfl, ?_⟩, by simp [intOf]; omega⟩
              rw [HX.out, HN.out]; first | (have hq := ‹(x / 2 == v) = false›; rw [beq_eq_false_iff_ne] at hq; simp [hq]) | (simp; omega)
          · obtain rfl : k = c.lats.length := by omega
            rw [List.take_of_length_le (Nat.le_refl _)] at HN
            go_wp2
            have HN2 := HN; clear HN
            go_loop [7] (fun i => ∃ k : Nat, k ≤ c.ands.length ∧ i = .int .i64 k ∧ hasTri (c.ands.take k) v = false) (fun i => c.ands.length - (intOf i).toNat)
            case atStart => exact ⟨0, Nat.zero_le _, rfl, rfl⟩
            case round =>
              obtain ⟨k, hk, rfl, hno⟩ := hrel
              have HN := Lib.hid hno; clear hno
              by_cases hlt : k < c.ands.length
              · obtain ⟨b, o, ha, hb, hc, _, _⟩ := H.out.ands.tri hlt
                have hx := HI.out.ands c.ands[k] (List.getElem_mem _)
                have HX := Lib.hid (hasTri_take c.ands v k hlt)
                have HS := Lib.hid (hasTri_some c.ands v k hlt)
                obtain ⟨⟨x0, x1⟩, _, _⟩ := hx
                generalize c.ands[k].a = x at *
                go_wp2
                · go_ret
                  exact ⟨ret_str (by unfold kindOf; rw [if_neg hv, if_neg (by rw [HN1.out]; simp), if_neg (by rw [HN2.out]; simp), if_pos (HS.out (by assumption) (beq_iff_eq.1 (by assumption)))]), by rw [← ha]; exact hbel⟩
                all_goals
                  refine ⟨⟨k + 1, by omega, rfl, ?_⟩, by simp [intOf]; omega⟩
                  rw [HX.out, HN.out]; first | (have hq := ‹(x / 2 == v) = false›; rw [beq_eq_false_iff_ne] at hq; simp [hq]) | (simp; omega)
              · obtain rfl : k = c.ands.length := by omega
                rw [List.take_of_length_le (Nat.le_refl _)] at HN
                go_wp2
                go_ret
                exact ⟨ret_str (by unfold kindOf; rw [if_neg hv, if_neg (by rw [HN1.out]; simp), if_neg (by rw [HN2.out]; simp), if_neg (by rw [HN.out]; simp)]), hbel⟩

end Go.Proofs.YtpbggngeopjefaaDoor.Cw
namespace Go.Proofs.YtpbggngeopjefaaDoor.Cw
open Go.ChangeShapes Go.WideShapes Go.ChangeAt Go.RowKit Circ

/-- a world that is as W was below block B -/
structure Wd (B : Nat) (W : World) where
  w : World
  ok : Below B W w
instance (B : Nat) (W : World) : Nonempty (Wd B W) := ⟨⟨W, Below.refl _ _⟩⟩

/-- A region that draws its order, whose operations read what lies below B, and whose callees turn nothing there: one walk, in the order of the text. -/
theorem wp_region_wd {P : Program} {id : Nat} {Q : Exit → Act → World → Prop} {a : Act} {w : World} {l : List Oper} (hm : P.follows .mixedOrders = true) (hB : Region.lexB .any l.toArray = true)
    (h : wpQuiet P l.toArray (fun w' => ∃ u : Wd w.heap.size w, w' = u.w) (fun a' => ∀ w', (∃ u : Wd w.heap.size w, w' = u.w) → Q .normal a' w') l a) : (Code.region id l.toArray true).wp P Q a w :=
  wp_region_quiet (C := fun w' => ∃ u : Wd w.heap.size w, w' = u.w) hm hB ⟨⟨_, (Below.refl _ _).drew⟩, rfl⟩ (by simpa using h)

theorem Calls.in_wd {P : Program} {f : FuncId} {args : Array Value} {B : Nat} {W : World} {v : Value} (u : Wd B W)
    (h : Calls P f args u.w fun e w' => e = .returned v ∧ Below u.w.heap.size u.w w') (hB : B ≤ W.heap.size) : Calls P f args u.w fun e w'' => e = .returned v ∧ ∃ u' : Wd B W, w'' = u'.w :=
  h.mono fun _ w' ⟨he, hb⟩ => ⟨he, ⟨w', u.ok.trans (hb.mono (Nat.le_trans hB u.ok.size))⟩, rfl⟩
theorem Wd.cell {W : World} {p : Addr} {v : Value} (h : W.cell? p = some v) (u : Wd W.heap.size W) : u.w.cell? p = some v := cell_later u.ok h

def knownV (c : Cir) (v : Int) : Bool := decide (v = 0) || hasVar c.ins v || hasTri c.lats v || hasTri c.ands v
def knownL (c : Cir) (l : Int) : Bool := decide (0 ≤ l) && knownV c (l / 2)
theorem kind_known (c : Cir) (v : Int) : (kindOf c v).toList.isEmpty = !knownV c v := by
  unfold kindOf knownV
  by_cases h0 : v = 0
  · simp [h0]; try decide
  · cases h1 : hasVar c.ins v
    · cases h2 : hasTri c.lats v
      · cases h3 : hasTri c.ands v
        · simp [h0]; try decide
        · simp [h0]; try decide
      · simp [h0]; try decide
    · simp [h0]; try decide

theorem known_any (c : Cir) (s : Places) (l : Int) (w : World) (h : CLies w w.heap.size c s) (hf : CFits c s) (hl : I64 l) :
    Calls Tryd.prog 20 #[cirV c s, .int .i64 l] w fun e w' => e = .returned (.bool (knownL c l)) ∧ Below w.heap.size w w' := by
  obtain ⟨l0, l1⟩ := hl
  have hb1 : Below w.heap.size w (w.alloc (.cells (cirC c s) 27)) := (Below.refl _ _).alloc (Nat.le_refl _) _
  have K := Lib.hid (fun v => kindref_any c s v (w.alloc (.cells (cirC c s) 27)) ((h.below hb1).more hb1.size) hf)
  have HB := Lib.hid hb1
  unfold cirV cirC at *
  clear h hf
  unfold knownL
  by_cases h0 : 0 ≤ l
  · go_enter Tryd.func20, Tryd.ntmps20
    go_wp2_with fail
    refine (K.out _).mono ?_
    rintro e w' ⟨rfl, hb⟩
    go_wp2
    go_ret
    exact ⟨ret_bool (by rw [kind_known]; simp [h0]), HB.out.trans (hb.mono HB.out.size)⟩
  · go_enter Tryd.func20, Tryd.ntmps20
    go_wp2
    go_ret
    exact ⟨ret_bool (by rw [decide_eq_false (by omega)]; rfl), HB.out⟩

theorem has_any (l : List Int) (A : Option Addr) (q : Nat) (x : Int) (w : World) (hl : l.length ≤ 9223372036854775807) (hr : LRow w w.heap.size 1 A (ints l)) :
    Calls Tryd.prog 21 #[.slice A l.length q, .int .i64 x] w fun e w' => e = .returned (.bool (l.any (· == x))) ∧ w = w' := by
  go_enter Tryd.func21, Tryd.ntmps21
  go_wp2
  go_loop [5] (fun i => ∃ k : Nat, k ≤ l.length ∧ i = .int .i64 k ∧ (l.take k).any (· == x) = false) (fun i => l.length - (intOf i).toNat)
  case atStart => exact ⟨0, Nat.zero_le _, rfl, rfl⟩
  case round =>
    obtain ⟨k, hk, rfl, hno⟩ := hrel
    have HN := Lib.hid hno; clear hno
    by_cases hlt : k < l.length
    · obtain ⟨b, o, rfl, hb, hc⟩ := hr.int hlt
      have HX := Lib.hid (any_take l (· == x) k hlt)
      have HS := Lib.hid (any_of l (· == x) k hlt)
      clear hr
      generalize l[k] = y at *
      cases hq : y == x
      · go_wp2
        go_round
        case rel => exact ⟨k + 1, by omega, by go_num, by rw [HX.out, HN.out, hq]; rfl⟩
        case measure => simp [intOf]; omega
      · go_wp2
        go_ret
        exact ⟨ret_bool (HS.out (by first | trivial | exact hq)).symm, rfl⟩
    · obtain rfl : k = l.length := by omega
      rw [List.take_of_length_le (Nat.le_refl _)] at HN
      go_wp2
      go_ret
      exact ⟨ret_bool HN.out.symm, rfl⟩

def allKnown (c : Cir) (l : List Int) : Bool := l.all (knownL c) && decide (l.length ≤ 64)
set_option maxHeartbeats 1000000 in
theorem all_any (c : Cir) (s : Places) (l : List Int) (A : Option Addr) (q : Nat) (w : World) (h : CLies w w.heap.size c s) (hf : CFits c s) (hl : l.length ≤ 9223372036854775807) (hr : LRow w w.heap.size 1 A (ints l)) (hi : ∀ x ∈ l, I64 x) :
    Calls Tryd.prog 22 #[cirV c s, .slice A l.length q] w fun e w' => e = .returned (.bool (allKnown c l)) ∧ Below w.heap.size w w' := by
  have HB0 : Hid (Below w.heap.size w (w.alloc (.cells (cirC c s) 27))) := (Below.refl _ _).alloc (Nat.le_refl _) _
  have hs1 : (w.alloc (.cells (cirC c s) 27)).heap.size = w.heap.size + 1 := by simp
  have K := Lib.hid (fun x w' h' hx => known_any c s x w' h' hf hx)
  have H := Lib.hid h
  have HR := Lib.hid hr
  have HI := Lib.hid hi
  have HS1 := Lib.hid hs1
  clear h hf hr hi hs1
  unfold cirV at *
  rw [show cirC c s = #[.int .i64 c.max, .slice s.ai c.ins.length s.ki, .slice s.al c.lats.length s.kl, .slice s.ao c.outs.length s.ko, .slice s.ab c.bads.length s.kb, .slice s.ac c.invs.length s.kc, .slice s.aa c.ands.length s.ka, .slice s.an c.names.length s.kn] from rfl] at K ⊢
  go_enter Tryd.func22, Tryd.ntmps22
  go_wp2
  go_loopw [5] (fun i wr => ∃ k : Nat, k ≤ l.length ∧ i = .int .i64 k ∧ (l.take k).all (knownL c) = true ∧ Below (w.heap.size + 1) (w.alloc (.cells (cirC c s) 27)) wr) (fun i _ => l.length - (intOf i).toNat)
  case atStart => exact ⟨0, Nat.zero_le _, rfl, rfl, Below.refl _ _⟩
  case round =>
    obtain ⟨k, hk, rfl, hno, hb⟩ := hrel
    have HN := Lib.hid hno; clear hno
    have hbw : Below w.heap.size w wr := HB0.out.trans (hb.mono (by omega))
    have hwz : w.heap.size + 1 ≤ wr.heap.size := by have := hb.size; rw [show _ = _ from HS1.out] at this; exact this
    by_cases hlt : k < l.length
    · obtain ⟨b, o, rfl, hbb, hc⟩ := (HR.out.below hbw).int hlt
      have HX := Lib.hid (all_take l (knownL c) k hlt)
      have HS := Lib.hid (all_not l (knownL c) k hlt)
      have HK := Lib.hid (HI.out l[k] (List.getElem_mem _))
      generalize l[k] = x at *
      obtain ⟨e0, e1, e2, e3, e4, e5, e6, e7⟩ := ((Box.made w c s).keep hb (Nat.lt_succ_self _)).cells
      have u0 := Wd.cell e0
      have u1 := Wd.cell e1
      have u2 := Wd.cell e2
      have u3 := Wd.cell e3
      have u4 := Wd.cell e4
      have u5 := Wd.cell e5
      have u6 := Wd.cell e6
      have u7 := Wd.cell e7
      have u8 := Wd.cell hc
      clear e0 e1 e2 e3 e4 e5 e6 e7 hc
      have KK := Lib.hid (fun (u : Wd wr.heap.size wr) => Calls.in_wd u (K.out x u.w ((H.out.below (hbw.trans (u.ok.mono (by omega)))).more (by have := u.ok.size; omega)) HK.out) (Nat.le_refl _))
      have hlt' : (k : Int) < l.length := by omega
      go_wp2
      refine wp_region_wd (by kernel_rfl) (by kernel_rfl) ?_
      repeat (first | go_big_quiet_skip | (go_big_quiet_want; go_big_quiet_op; first | go_big_quiet_on | (apply Exists.intro; refine ⟨fun u => ?_, ?_⟩; (go_at_call 20; exact KK.out u); go_big_quiet_on)))
      refine wpQuiet_nil ?_
      intro _ hw'
      obtain ⟨⟨w9, hb9⟩, hw''⟩ := hw'
      subst hw''
      have hbq := hb.trans (hb9.mono hwz)
      clear u0 u1 u2 u3 u4 u5 u6 u7 u8 KK
      cases hq : knownL c x
      · rw [hq] at HX HS
        have HQ := Lib.hid (HS.out rfl)
        clear hq
        go_wp2
        go_ret
        exact ⟨ret_bool (by unfold allKnown; rw [HQ.out]; rfl), HB0.out.trans (hbq.mono (by omega))⟩
      · rw [hq] at HX
        clear hq
        go_wp2
        go_roundw
        case rel => exact ⟨k + 1, by omega, by go_num, by rw [HX.out, HN.out]; rfl, hbq⟩
        case measure => simp [intOf]; omega
    · obtain rfl : k = l.length := by omega
      rw [List.take_of_length_le (Nat.le_refl _)] at HN
      go_wp2
      go_ret
      exact ⟨ret_bool (by unfold allKnown; rw [HN.out, Bool.true_and]; exact decide_eq_decide.2 (by omega)), hbw⟩
end Go.Proofs.YtpbggngeopjefaaDoor.Cw
namespace Go.Proofs.YtpbggngeopjefaaDoor.Cw
open Go.ChangeShapes Go.WideShapes Go.ChangeAt Go.RowKit Go.Maps Circ

def c0 : Cir := ⟨1, [], [⟨2, 2, 0⟩], [], [], [], [], []⟩
def s0 (b : Nat) : Places := ⟨none, some ⟨b, 0, none⟩, none, none, none, none, none, 0, 1, 0, 0, 0, 0, 0⟩
theorem c0_fits (b : Nat) : CFits c0 (s0 b) := by
  constructor <;> simp [c0, s0, I64, Tri.fits]
theorem c0_chk : chkV c0 = 0 := by decide +kernel
theorem c0_kind : kindOf c0 1 = ⟨#[108]⟩ := by decide +kernel
theorem c0_lies (w w' : World) (hb : Below (w.heap.size + 1) (w.alloc (.cells #[.int .i64 2, .int .i64 2, .int .i64 0] 41)) w') : CLies w' (w.heap.size + 1) c0 (s0 w.heap.size) := by
  refine ⟨.inl rfl, .inr ⟨_, 0, rfl, Nat.lt_succ_self _, fun i ys hi j u hj => ?_⟩, .inl rfl, .inl rfl, .inl rfl, .inl rfl, .inl rfl⟩
  match i, hi with
  | 0, hi =>
    obtain rfl : [Value.int .i64 2, .int .i64 2, .int .i64 0] = ys := by simpa [tris, c0, Tri.cells] using hi
    rw [hb.cell (by exact Nat.lt_succ_self _), new_cell]
    match j, hj with
    | 0, hj => simpa using hj
    | 1, hj => simpa using hj
    | 2, hj => simpa using hj

end Go.Proofs.YtpbggngeopjefaaDoor.Cw
