/- The walk of circuit's Cone; no condition. -/
import Derived.Test.YtefhhldfelmnkaaSort
namespace Go.Proofs.Ytefhhldfelmnkaa.Cw
open Go.ChangeShapes Go.WideShapes Go.ChangeAt Go.RowKit Go.Maps Circ

def ConeP (N : Nat) (ands : List Tri) (l : List Int) (w : World) (e : Ending) (w' : World) : Prop :=
  (∃ v R, e = .returned v ∧ OwnI w' w.heap.size v R ∧ R.Pairwise (· < ·) ∧ (∀ u, u ∈ R ↔ Hangs ands l u) ∧ R.length ≤ N) ∧ Below w.heap.size w w'

theorem down_start (w2 : World) (B N : Nat) (ands : List Tri) (hA : IsAnds w2 B (andOf ands) N) :
    Down w2.heap.size B N ands (.slice none 0 0) [] (((w2.alloc (.map #[] 0)).alloc (.cells #[.map (some w2.heap.size)] 64)).alloc (.cells #[.slice none 0 0] 22)) := by
  have s1 : (w2.alloc (.map #[] 0)).heap.size = w2.heap.size + 1 := by simp
  have s2 : ((w2.alloc (.map #[] 0)).alloc (.cells #[.map (some w2.heap.size)] 64)).heap.size = w2.heap.size + 2 := by simp
  refine ⟨?_, ?_, OwnI.nil _ _, (IsSet.made w2).alloc _ |>.alloc _, ((hA.alloc _).alloc _).alloc _, hA.lt, by simp⟩
  · rw [World.cell?_alloc_lt _ _ _ (by rw [s2]; exact Nat.lt_succ_self _)]
    have := new_cell (w2.alloc (.map #[] 0)) #[.map (some w2.heap.size)] 64 0
    rw [s1] at this
    rw [this]; rfl
  · rw [← s2]
    exact Array.getElem?_push_size

set_option maxHeartbeats 2000000 in
set_option maxRecDepth 100000 in
theorem cone_any (c : Cir) (s : Places) (l : List Int) (A : Option Addr) (q : Nat) (w : World) (h : CLies w w.heap.size c s) (hf : CFits c s) (hr : LRow w w.heap.size 1 A (ints l)) (hl : ∀ x ∈ l, I64 x) (hll : l.length ≤ 17592186044416)
    (N : Nat) (hN : ∀ T : List Int, T.Nodup → (∀ u ∈ T, Hangs c.ands l u) → T.length ≤ N) (hlen : N * 8 + 16 ≤ 140737488355328) :
    Calls Try.prog 13 #[cirV c s, .slice A l.length q] w (ConeP N c.ands l w) := by
  have hmm := @run_makeMap Try.prog
  have hmf : ∀ (fn : Fn) (first cap : Array Value) (w : World), (Instr.makeFunc fn first cap).run Try.prog w = .ok (.func fn first cap) w := fun _ _ _ _ => rfl
  have hb1 : Below w.heap.size w (w.alloc (.cells (cirC c s) 27)) := (Below.refl _ _).alloc (Nat.le_refl _) _
  have hs1 : (w.alloc (.cells (cirC c s) 27)).heap.size = w.heap.size + 1 := by simp
  have FA := Lib.hid (first_any c s (w.alloc (.cells (cirC c s) 27)) ((h.below hb1).more (by rw [hs1]; omega)) hf)
  have HR := Lib.hid hr
  have HLI := Lib.hid hl
  have HF := Lib.hid hf
  have HB1 := Lib.hid hb1
  obtain ⟨e0, e1, e2, e3, e4, e5, e6, e7⟩ := (Box.made w c s).cells
  have la := hf.la
  have HNN := Lib.hid hN
  clear h hr hl hf hb1 hN
  unfold cirV cirC at *
  go_enter Try.func13, Try.ntmps13
  go_wp2_with fail
  refine FA.out.mono ?_
  rintro e w2 ⟨⟨B, rfl, hB, hAn⟩, hb2⟩
  rw [hs1] at hB
  have HD0 := Lib.hid (down_start w2 B c.ands.length c.ands hAn)
  have hz2 : w.heap.size + 1 ≤ w2.heap.size := by rw [← hs1]; exact hb2.size
  have HBw : Hid (Below w.heap.size w (((w2.alloc (.map #[] 0)).alloc (.cells #[.map (some w2.heap.size)] 64)).alloc (.cells #[.slice none 0 0] 22))) :=
    (((HB1.out.trans (hb2.mono (by rw [hs1]; omega))).alloc (by omega) _).alloc (by simp; omega) _).alloc (by simp; omega) _
  clear hAn hb2 HB1 FA
  clear e0 e1 e2 e3 e4 e5 e6 e7
  go_wp2
  go_loopw [20] (fun i wr => ∃ (k : Nat) (T : List Int) (v : Value), k ≤ l.length ∧ i = .int .i64 k ∧ Got c.ands l k T ∧ Down w2.heap.size B c.ands.length c.ands v T wr ∧ Below w.heap.size w wr) (fun i _ => l.length - (intOf i).toNat)
  case atStart => exact ⟨0, [], _, Nat.zero_le _, rfl, Got.zero _ _, HD0.out, HBw.out⟩
  case round =>
    obtain ⟨k, T, v, hk, rfl, hg, hd, hb⟩ := hrel
    have HG := Lib.hid hg; clear hg
    have HD := Lib.hid hd; clear hd
    have HBn := Lib.hid hb; clear hb
    by_cases hlt : k < l.length
    · obtain ⟨b, o, rfl, hbb, hx⟩ := (HR.out.below HBn.out).int hlt
      have HI := Lib.hid (HLI.out l[k] (List.getElem_mem _))
      have HS := Lib.hid (HG.out.step hlt)
      have hbd := HNN.out T HG.out.1 HG.out.2.1
      have HL := Lib.hid (show T.length * 8 + 8 ≤ 140737488355328 by omega)
      clear hbd
      generalize l[k] = x at *
      go_wp2_with fail
      refine (reach_any w2.heap.size B c.ands.length c.ands v T x _ HD.out HI.out HL.out).mono ?_
      rintro e w' ⟨rfl, ⟨v', hd'⟩, hb', hfr⟩
      have HD' := Lib.hid hd'
      have HB' : Hid (Below w.heap.size w w') := HBn.out.trans (hb'.mono (by omega))
      clear hd' hb' hfr
      go_wp2
      go_roundw
      case rel => exact ⟨k + 1, _, _, by omega, by go_num, HS.out, HD'.out, HB'.out⟩
      case measure => simp [intOf]; omega
    · obtain rfl : k = l.length := by omega
      obtain ⟨wr0, rfl⟩ : ∃ x, x = wr := ⟨_, rfl⟩
      go_wp2
      go_loopw [11] (fun i wr => ∃ (k : Nat) (T : List Int) (v : Value), k ≤ T.length ∧ i = .int .i64 k ∧ Got c.ands l l.length T ∧ Clo c.ands k T ∧ Down w2.heap.size B c.ands.length c.ands v T wr ∧ Below w.heap.size w wr) (fun i _ => N + 1 - (intOf i).toNat)
      case atStart => exact ⟨0, T, v, Nat.zero_le _, rfl, HG.out, Clo.zero _ _, HD.out, HBn.out⟩
      case round =>
        clear HG HD HBn HD0 HBw
        obtain ⟨k, T, v, hk, rfl, hg, hc, hd, hb⟩ := hrel
        have hbd := HNN.out T hg.1 hg.2.1
        have HG := Lib.hid hg; clear hg
        have HC := Lib.hid hc; clear hc
        have HD := Lib.hid hd; clear hd
        have HBn := Lib.hid hb; clear hb
        have cv := HD.out.cv
        by_cases hlt : k < T.length
        · obtain ⟨b, o, q', hv, hq', hq2, hcell, hrow⟩ := HD.out.own.cell hlt
          have hT : I64 T[k] := by
            obtain ⟨b0, b1⟩ := hangs_bd HLI.out HF.out.ands (HG.out.2.1 T[k] (List.getElem_mem _))
            unfold I64; omega
          obtain ⟨u, hl, hu⟩ := HD.out.gates.look hT
          have hown := HD.out.own
          have hsz := HD.out.sz
          subst hv
          have HCm : Hid (∀ t, andOf c.ands T[k] = some t → Clo c.ands (k + 1) (put (put T t.b) t.c)) := fun t ht => HC.out.more hlt t ht
          have HCs : Hid (andOf c.ands T[k] = none → Clo c.ands (k + 1) T) := fun hn => HC.out.skip hlt hn
          have HGm : Hid (∀ t, andOf c.ands T[k] = some t → Got c.ands l l.length (put T t.b) ∧ Got c.ands l l.length (put (put T t.b) t.c)) := fun t ht => by
            have hh := HG.out.2.1 T[k] (List.getElem_mem _)
            have g1 := HG.out.put t.b (fun h0 => .left _ t hh ht h0)
            exact ⟨g1, g1.put t.c (fun h0 => .right _ t hh ht h0)⟩
          have HFm : Hid (∀ t, andOf c.ands T[k] = some t → t.fits) := fun t ht => HF.out.ands t (andOf_mem ht)
          generalize T[k] = y at *
          cases hq : andOf c.ands y
          case none =>
            have HC2 := Lib.hid (HCs.out hq)
            rw [hq] at hl
            obtain ⟨ux, uy, uz⟩ := u
            simp only [triV, Option.isSome_none] at hl
            have HD2 := Lib.hid (HD.out.alloc (.cells #[.int .i64 ux, .int .i64 uy, .int .i64 uz] 40))
            have HB2 := Lib.hid (HBn.out.alloc HBn.out.size (.cells #[.int .i64 ux, .int .i64 uy, .int .i64 uz] 40))
            clear hq hu HCm HGm HFm HCs
            go_wp2
            go_roundw
            case rel => exact ⟨k + 1, T, _, by omega, by go_num, HG.out, HC2.out, HD2.out, HB2.out⟩
            case measure => simp [intOf]; omega
          case some t =>
            obtain rfl := hu t hq
            obtain ⟨hg1, hg2⟩ := HGm.out u hq
            have hl1 := HNN.out _ hg1.1 hg1.2.1
            have HG2 := Lib.hid hg2
            have HC2 := Lib.hid (HCm.out u hq)
            have hfit := HFm.out u hq
            rw [hq] at hl
            obtain ⟨ux, uy, uz⟩ := u
            simp only [triV, Option.isSome_some] at hl
            simp only [] at hl1
            have HY := Lib.hid (show I64 uy from hfit.2.1)
            have HZ := Lib.hid (show I64 uz from hfit.2.2)
            have HD2 := Lib.hid (HD.out.alloc (.cells #[.int .i64 ux, .int .i64 uy, .int .i64 uz] 40))
            have HB2 := Lib.hid (HBn.out.alloc HBn.out.size (.cells #[.int .i64 ux, .int .i64 uy, .int .i64 uz] 40))
            obtain ⟨n0, n1, n2⟩ := tri_cells wr ux uy uz 40 _ (Below.refl _ _)
            have HLa := Lib.hid (show T.length * 8 + 8 ≤ 140737488355328 by omega)
            have HLb := Lib.hid (show (put T uy).length * 8 + 8 ≤ 140737488355328 by omega)
            have HK : Hid (k + 1 ≤ (put (put T uy) uz).length) := by
              have e1 := put_len T uy
              have e2 := put_len (put T uy) uz
              unfold Hid; omega
            have HBl : Hid (∀ g, (Value.slice (some ⟨b, o, none⟩) T.length q').ownBlock = some g → g < wr.heap.size) := fun g hg => (hown.block_lt g hg).2
            clear hq hu HCm HGm HFm HCs hg1 hg2 hfit hown
            go_wp2_with fail
            refine (reach_any w2.heap.size B c.ands.length c.ands _ T uy _ HD2.out HY.out HLa.out).mono ?_
            rintro e w3 ⟨rfl, ⟨v3, hd3⟩, hb3, hfr3⟩
            have m2 := hfr3 _ _ n2 hsz (fun e => by have := HBl.out _ e; simp at this)
            have HD3 := Lib.hid hd3
            have HB3 : Hid (Below w.heap.size w w3) := HB2.out.trans (hb3.mono (by omega))
            clear hd3 hb3 hfr3
            go_wp2_with fail
            refine (reach_any w2.heap.size B c.ands.length c.ands v3 (put T uy) uz _ HD3.out HZ.out HLb.out).mono ?_
            rintro e w4 ⟨rfl, ⟨v4, hd4⟩, hb4, hfr4⟩
            have HD4 := Lib.hid hd4
            have HB4 : Hid (Below w.heap.size w w4) := HB3.out.trans (hb4.mono (by omega))
            clear hd4 hb4 hfr4
            go_wp2
            go_roundw
            case rel => exact ⟨k + 1, _, _, HK.out, by go_num, HG2.out, HC2.out, HD4.out, HB4.out⟩
            case measure => simp [intOf]; omega
        · obtain rfl : k = T.length := by omega
          obtain ⟨A', q', hv, hrow, hq', hq2⟩ := HD.out.own.row
          have HO := Lib.hid HD.out.own
          have hsz := HD.out.sz
          have HRi := Lib.hid (HC.out.done HG.out)
          have HRr := Lib.hid (rise_rising T HG.out.1)
          have HHv := Lib.hid HD.out.hv
          have HLT := Lib.hid (show T.length * 8 ≤ 140737488355328 by omega)
          subst hv
          clear hrow
          go_wp2_with fail
          refine (sort_own _ T (w2.heap.size + 3) _ HO.out HLT.out hsz).mono ?_
          rintro e w5 ⟨rfl, ho5, hb5, hk5⟩
          have hv5 := (hk5 (w2.heap.size + 2) (by omega) (fun e => by have := HO.out.block_lt _ e; omega)).trans HHv.out
          obtain ⟨cv5, _⟩ := one_block hv5
          have HP : Hid (ConeP N c.ands l w (.returned (.slice A' T.length q')) w5) := ⟨⟨_, rise T, rfl, ho5.mono (by omega), HRr.out, fun u => (rise_mem T u).trans (HRi.out u), by rw [rise_len]; exact hbd⟩, HBn.out.trans (hb5.mono (by omega))⟩
          clear ho5 hb5 hk5 hv5
          go_wp2
          go_ret
          exact HP.out
end Go.Proofs.Ytefhhldfelmnkaa.Cw
