/- interlockref03.Cone: a list in which all lies that its own gates are made of; condition: the circuit may be. -/
import Derived.Test.YtpaneggajjgdlaaPc34
import Derived.Test.YtpaneggajjgdlaaPc32
namespace Go.Proofs.Ytpaneggajjgdlaa.Sim
open Go.ChangeShapes Go.WideShapes Go.ChangeAt Go.RowKit Go.Maps Circ Cw
open Str

/-- the value v is the list xs -/
def Lst (w : World) (v : Value) (xs : List Int) : Prop := ∃ A q, v = .slice A xs.length q ∧ LRow w w.heap.size 1 A (ints xs) ∧ Cuts A xs q
theorem Lst.nil (w : World) : Lst w (.slice none 0 0) [] := ⟨none, 0, rfl, .inl rfl, .inl ⟨rfl, rfl, rfl⟩⟩
theorem Lst.below {w w' : World} {v : Value} {xs : List Int} (h : Lst w v xs) (hb : Below w.heap.size w w') : Lst w' v xs := by
  obtain ⟨A, q, h1, h2, h3⟩ := h
  exact ⟨A, q, h1, (h2.below hb).more hb.size, h3⟩
theorem own_lst {w : World} {base : Nat} {v : Value} {xs : List Int} (h : OwnI w base v xs) : Lst w v xs := by
  obtain ⟨A, q, hv, hr, hle, hq⟩ := h.row
  refine ⟨A, q, hv, hr, ?_⟩
  have h2 := h.2
  rcases h2 with ⟨h3, h4⟩ | ⟨g, cap, cur, h3, _⟩
  · have hx : xs = [] := by simpa using h4
    subst hx
    rw [hv] at h3
    simp only [Value.slice.injEq] at h3
    exact .inl ⟨rfl, h3.1, h3.2.2⟩
  · rw [hv] at h3
    simp only [Value.slice.injEq] at h3
    exact .inr ⟨⟨g, 0, h3.1⟩, hle, hq⟩
/-- no less, and as many only if nothing came in -/
def Grows (ys zs : List Int) : Prop := ys.length ≤ zs.length ∧ (zs.length = ys.length → zs = ys)
theorem Grows.refl (ys : List Int) : Grows ys ys := ⟨Nat.le_refl _, fun _ => rfl⟩
theorem Grows.put {ys zs : List Int} (h : Grows ys zs) (n : Int) : Grows ys (putM zs n) := by
  obtain ⟨a, b, _⟩ := putM_len (l := zs) n
  refine ⟨Nat.le_trans h.1 a, fun e => ?_⟩
  have e1 : zs.length = ys.length := by have := h.1; omega
  rw [b (by omega), h.2 e1]
theorem closed_step {l : List Tri} {j n0 : Nat} {ys zs : List Int} (hj : j < l.length) (hg : Grows ys zs) (hle : n0 ≤ ys.length) (h : ys.length = n0 → ∀ k (_ : k < j) (hk : k < l.length), Closed ys l[k]) (hc : Closed zs l[j]) : zs.length = n0 → ∀ k (_ : k < j + 1) (hk : k < l.length), Closed zs l[k] := fun e k hkj hk => by
  have h1 := hg.1
  have e1 : zs = ys := hg.2 (by omega)
  by_cases hkk : k = j
  · subst hkk; exact hc
  · rw [e1]
    exact h (by omega) k (by omega) hk
theorem closed_put {t : Tri} {xs : List Int} (hb : t.b / 2 = 0 ∨ t.b / 2 ∈ xs) (hc : t.c / 2 = 0 ∨ t.c / 2 ∈ xs) : Closed xs t := fun _ => ⟨hb, hc⟩
theorem put_or {P : Prop} {y n : Int} {xs : List Int} (h : P ∨ y ∈ xs) : P ∨ y ∈ putM xs n := h.imp id fun h => (putM_mem _ _ _).2 (.inr h)
def ConeP (c : Cir) (v0 : Int) (B : Nat) (w0 : World) (e : Ending) (w : World) : Prop := ∃ v R, e = .returned v ∧ Lst w v R ∧ R.length ≤ 2050 ∧ InS R v0 ∧ (∀ t ∈ c.ands, Closed R t) ∧ Below B w0 w

set_option maxHeartbeats 16000000 in
set_option maxRecDepth 100000 in
theorem refcone_any (c : Cir) (s : Places) (x : Int) (g q : Nat) (w : World) (h : CLies w w.heap.size c s) (hf : CFits c s) (hr : refOk c = true) (hx : 0 ≤ x ∧ x ≤ 9223372036854775807) (hl : w.cell? ⟨g, 0, none⟩ = some (.int .i64 x)) :
    Calls Try.prog 30 #[cirV c s, .slice (some ⟨g, 0, none⟩) 1 q] w (ConeP c (x / 2) w.heap.size w) := by
  obtain ⟨WA, hWA⟩ : ∃ x, w.alloc (.cells #[.int .i64 c.max, .slice s.ai c.ins.length s.ki, .slice s.al c.lats.length s.kl, .slice s.ao c.outs.length s.ko, .slice s.ab c.bads.length s.kb, .slice s.ac c.invs.length s.kc, .slice s.aa c.ands.length s.ka, .slice s.an c.names.length s.kn] 27) = x := ⟨_, rfl⟩
  have bA : Hid (Below w.heap.size w WA) := by unfold Hid; rw [← hWA]; exact (Below.refl _ _).alloc (Nat.le_refl _) _
  have GA : Hid (WA.heap[w.heap.size]? = some (.cells (cirC c s) 27 (0, 0))) := by unfold Hid; rw [← hWA]; exact Array.getElem?_push_size
  have HL : Hid (∀ X, Below w.heap.size w X → X.cell? ⟨g, 0, none⟩ = some (.int .i64 x)) := fun X hX => cell_later hX hl
  have HR := Lib.hid hr
  have HX := Lib.hid hx
  have HZ := Lib.hid (ref_sizes hr)
  have HF := Lib.hid hf
  have LW : Hid (∀ x, Below w.heap.size w x → CLies x x.heap.size c s) := fun x hx => (h.below hx).more hx.size
  have FI := Lib.hid (fun k hk X hX => reffirst_any c s k X (LW.out X hX) hr hk)
  have VX : Hid (∀ X, Calls Try.prog 41 #[.int .i64 x] X fun e w' => e = .returned (.int .i64 (x / 2)) ∧ X = w') := fun X => by
    have h1 := rvar2_any x hx.2 X
    rw [cnt_pos x hx.1] at h1
    exact h1
  clear h hf hr hl hx
  obtain ⟨v0, hv0⟩ : ∃ v0, x / 2 = v0 := ⟨_, rfl⟩
  have HV0 : Hid (0 ≤ v0 ∧ v0 ≤ 9223372036854775807) := by have := HX.out; unfold Hid; omega
  rw [hv0] at VX ⊢
  clear hv0
  unfold cirV at FI ⊢
  rw [show cirC c s = #[.int .i64 c.max, .slice s.ai c.ins.length s.ki, .slice s.al c.lats.length s.kl, .slice s.ao c.outs.length s.ko, .slice s.ab c.bads.length s.kb, .slice s.ac c.invs.length s.kc, .slice s.aa c.ands.length s.ka, .slice s.an c.names.length s.kn] from rfl] at FI ⊢
  go_enter Try.func30, Try.ntmps30
  go_wp2
  clear hWA
  have G9 : Hid (∀ x, Below WA.heap.size WA x → x.heap[w.heap.size]? = some (.cells (cirC c s) 27 (0, 0))) := fun x hx => (hx.block _ (lt_of_block GA.out)).trans GA.out
  go_loopw [5, 6] (fun t i wr => ∃ (k : Nat) (v : Value) (xs : List Int), k ≤ 1 ∧ i = .int .i64 k ∧ t = v ∧ Lst wr v xs ∧ ConeS v0 xs ∧ (k = 1 → InS xs v0) ∧ Below WA.heap.size WA wr) (fun _ i _ => 1 - (intOf i).toNat)
  case atStart => exact ⟨0, _, [], Nat.zero_le _, rfl, rfl, Lst.nil _, ConeS.nil _, (fun h => by cases h), Below.refl _ _⟩
  case round =>
    obtain ⟨k, v, xs, hk, rfl, hzv, hlst, hcs, hin, hb⟩ := hrel
    obtain rfl := hzv.symm
    have HLS := Lib.hid hlst
    have HCS := Lib.hid hcs
    have HIN := Lib.hid hin
    have HB := Lib.hid hb
    clear hlst hcs hin hb hzv
    by_cases hlt : k < 1
    · obtain rfl : k = 0 := by omega
      have hcx := HL.out wr (bA.out.trans (HB.out.mono bA.out.size))
      go_wp2_with fail
      refine (VX.out wr).mono ?_
      rintro e w' ⟨rfl, rfl⟩
      by_cases hz : v0 = 0
      · have hb : (v0 != 0) = false := by rw [bne_eq_false_iff_eq]; exact hz
        have HI : Hid (InS xs v0) := .inl hz
        clear hz
        go_wp2
        go_roundw
        case rel => exact ⟨1, v, xs, Nat.le_refl _, by go_num, rfl, HLS.out, HCS.out, (fun _ => HI.out), HB.out⟩
        case measure => simp [intOf]
      · have hb : (v0 != 0) = true := by rw [bne_iff_ne]; exact hz
        clear hz
        obtain ⟨A, qq, hv, hrow, hcut⟩ := HLS.out
        subst hv
        have PT := Lib.hid (refput_any xs v0 A qq wr (by have := HCS.out.len; omega) hrow hcut)
        clear hrow hcut
        go_wp2_with fail
        refine (VX.out wr).mono ?_
        rintro e w' ⟨rfl, rfl⟩
        go_wp2_with fail
        refine PT.out.mono ?_
        rintro e w3 ⟨⟨v3, rfl, how⟩, hb3⟩
        have HLS3 := Lib.hid (own_lst how)
        have HCS3 : Hid (ConeS v0 (putM xs v0)) := HCS.out.put HV0.out.1 (.inl rfl)
        have HI : Hid (InS (putM xs v0) v0) := .inr ((putM_mem _ _ _).2 (.inl rfl))
        have HB3 : Hid (Below WA.heap.size WA w3) := HB.out.trans (hb3.mono HB.out.size)
        clear how hb3 PT hcx
        go_wp2
        go_roundw
        case rel => exact ⟨1, v3, _, Nat.le_refl _, by go_num, rfl, HLS3.out, HCS3.out, (fun _ => HI.out), HB3.out⟩
        case measure => simp [intOf]
    · obtain rfl : k = 1 := by omega
      obtain ⟨wo, rfl⟩ : ∃ x, x = wr := ⟨_, rfl⟩
      have HI0 : Hid (InS xs v0) := HIN.out rfl
      go_wp2
      go_loopw [5, 7] (fun t n wr => ∃ (v : Value) (xs : List Int) (m : Int), t = v ∧ n = .int .i64 m ∧ Lst wr v xs ∧ ConeS v0 xs ∧ InS xs v0 ∧ (-1 ≤ m ∧ m ≤ xs.length) ∧ (m = xs.length → ∀ t ∈ c.ands, Closed xs t) ∧ Below WA.heap.size WA wr) (fun _ n _ => (2100 - intOf n).toNat)
      case atStart => exact ⟨v, xs, -1, rfl, rfl, HLS.out, HCS.out, HI0.out, ⟨by omega, by omega⟩, (fun h => by omega), HB.out⟩
      case round =>
        clear HLS HCS HIN HB HI0
        obtain ⟨v, xs, m, hzv, rfl, hlst, hcs, hin, hm, hcl, hb⟩ := hrel
        obtain rfl := hzv.symm
        have HCS := Lib.hid hcs
        have HIN := Lib.hid hin
        have HB := Lib.hid hb
        have HCL := Lib.hid hcl
        have HLN := Lib.hid hcs.len
        obtain ⟨A, qq, hv, hrow, hcut⟩ := hlst
        subst hv
        have HLS : Hid (Lst wr (.slice A xs.length qq) xs) := ⟨A, qq, rfl, hrow, hcut⟩
        clear hcs hin hb hzv hcl hrow hcut
        by_cases hlt : m < (xs.length : Int)
        · obtain ⟨n0, hn0⟩ : ∃ n0, xs.length = n0 := ⟨_, rfl⟩
          have hln := HLN.out
          have HN0 := Lib.hid hn0
          have hd : decide (m < (xs.length : Int)) = true := decide_eq_true hlt
          have HMM := Lib.hid hlt
          rw [hn0] at hlt hln hd ⊢
          rw [hn0] at HLS HMM
          clear hn0
          go_wp2
          obtain ⟨wq, rfl⟩ : ∃ x, x = wr := ⟨_, rfl⟩
          go_loopw [5, 8] (fun t i wr => ∃ (j : Nat) (v : Value) (ys : List Int), j ≤ c.ands.length ∧ i = .int .i64 j ∧ t = v ∧ Lst wr v ys ∧ ConeS v0 ys ∧ InS ys v0 ∧ n0 ≤ ys.length ∧ (ys.length = n0 → ∀ k (_ : k < j) (hk : k < c.ands.length), Closed ys c.ands[k]) ∧ Below WA.heap.size WA wr) (fun _ i _ => c.ands.length - (intOf i).toNat)
          case atStart => exact ⟨0, _, xs, Nat.zero_le _, rfl, rfl, HLS.out, HCS.out, HIN.out, Nat.le_of_eq HN0.out.symm, (fun _ k hk => absurd hk (Nat.not_lt_zero _)), HB.out⟩
          case round =>
            clear HLS HCS HIN HB HCL HLN HN0
            obtain ⟨j, v, ys, hj, rfl, hzv, hlst, hcs, hin, hle, hcl, hb⟩ := hrel
            obtain rfl := hzv.symm
            have HCS := Lib.hid hcs
            have HIN := Lib.hid hin
            have HB := Lib.hid hb
            have HCL := Lib.hid hcl
            have HLE := Lib.hid hle
            obtain ⟨A2, q2, hv, hrow, hcut⟩ := hlst
            subst hv
            have HROW := Lib.hid hrow
            have HCUT := Lib.hid hcut
            clear hcs hin hb hzv hcl hrow hcut hle
            have za : c.ands.length ≤ 4097 := HZ.out.2.2.2.2.2
            obtain ⟨e0, e1, e2, e3, e4, e5, e6, e7⟩ := cells8 (G9.out _ HB.out)
            by_cases hjl : j < c.ands.length
            · obtain ⟨b0, o, hA, -, c0, c1, c2⟩ := LRow.tri (LW.out wr (bA.out.trans (HB.out.mono bA.out.size))).ands hjl
              have hAe := hA
              rw [hA] at e6
              have hq := (good_ands HR.out).mem _ (List.getElem_mem hjl)
              have hok := own_in HR.out (show c.ands[j].a ∈ own c from List.mem_append.2 (.inr (List.mem_append.2 (.inr (List.mem_map_of_mem (List.getElem_mem hjl))))))
              have hml := max_len HR.out
              obtain ⟨mm, hmm, hmm1⟩ := max_nat HR.out
              have FIJ := Lib.hid (FI.out j hjl)
              have HST := Lib.hid (fun zs hg hc => closed_step (l := c.ands) (zs := zs) hjl hg HLE.out HCL.out hc)
              have HFT := Lib.hid (HF.out.ands _ (List.getElem_mem hjl))
              clear hA hAe
              generalize c.ands[j] = t at *
              obtain ⟨ta, tb, tc⟩ := t
              simp only at c0 c1 c2 hq hok HFT HST
              have ha0 : 0 ≤ ta := by omega
              have hb0 : 0 ≤ tb := hq.2.2.1
              have hbl : tb < ta := hq.2.2.2.1
              have hc0 : 0 ≤ tc := hq.2.2.2.2.1
              have hcl : tc < ta := hq.2.2.2.2.2.1
              have hal : ta / 2 < 2049 := by omega
              have VARS : Hid (∀ y, 0 ≤ y → y ≤ ta → ∀ X, Calls Try.prog 41 #[.int .i64 y] X fun e w' => e = .returned (.int .i64 (y / 2)) ∧ X = w') := fun y hy0 hy1 X => by
                have h1 := rvar2_any y (by omega) X
                rw [cnt_pos y hy0] at h1
                exact h1
              have VAA := Lib.hid (VARS.out ta ha0 (by omega))
              have VBB := Lib.hid (VARS.out tb hb0 (by omega))
              have VCC := Lib.hid (VARS.out tc hc0 (by omega))
              obtain ⟨na, hna⟩ : ∃ n, ta / 2 = n := ⟨_, rfl⟩
              obtain ⟨nb, hnb⟩ : ∃ n, tb / 2 = n := ⟨_, rfl⟩
              obtain ⟨nc, hnc⟩ : ∃ n, tc / 2 = n := ⟨_, rfl⟩
              have HNB : Hid (0 ≤ nb ∧ nb ≤ 2048) := by unfold Hid; omega
              have HNC : Hid (0 ≤ nc ∧ nc ≤ 2048) := by unfold Hid; omega
              have HCLB : Hid (∀ zs : List Int, (nb = 0 ∨ nb ∈ zs) → (nc = 0 ∨ nc ∈ zs) → Closed zs ⟨ta, tb, tc⟩) := fun zs h1 h2 => closed_put (by rw [← hnb] at h1; exact h1) (by rw [← hnc] at h2; exact h2)
              have HCLN : Hid (∀ zs : List Int, ¬ na ∈ zs → Closed zs ⟨ta, tb, tc⟩) := fun zs h1 h2 => absurd (by rw [← hna]; exact h2) h1
              have hda : decide (ta < 0) = false := decide_eq_false (by omega)
              rw [hna] at VAA
              rw [hnb] at VBB
              rw [hnc] at VCC
              obtain ⟨wt, hwt⟩ : ∃ x, wr.alloc (.cells #[.int .i64 ta, .int .i64 tb, .int .i64 tc] 43) = x := ⟨_, rfl⟩
              have bt : Below wr.heap.size wr wt := by rw [← hwt]; exact (Below.refl _ _).alloc (Nat.le_refl _) _
              have KT : Hid (wt.heap[wr.heap.size]? = some (.cells #[.int .i64 ta, .int .i64 tb, .int .i64 tc] 43 (0, 0))) := by unfold Hid; rw [← hwt]; exact Array.getElem?_push_size
              have BT : Hid (Below WA.heap.size WA wt) := HB.out.trans (bt.mono HB.out.size)
              have ROWT : Hid (LRow wt wt.heap.size 1 A2 (ints ys)) := (HROW.out.below bt).more bt.size
              have HASN := Lib.hid (refhas_any ys na A2 q2 wt (by have := HCS.out.len; omega) ROWT.out)
              have FJ := Lib.hid (FIJ.out wt (bA.out.trans (BT.out.mono bA.out.size)))
              obtain ⟨r0, r1, r2⟩ := two_cells KT.out
              obtain ⟨g0, g1, g2, g3, g4, g5, g6, g7⟩ := cells8 (G9.out _ BT.out)
              clear hq hok hml hmm hmm1 hna hnb hnc bt VARS HFT FIJ HROW hbl hcl hal
              go_wp2_with fail
              clear hwt c0 c1 c2 e0 e1 e2 e3 e4 e5 e6 e7
              refine (VAA.out wt).mono ?_
              rintro e w' ⟨rfl, rfl⟩
              by_cases hmem : na ∈ ys
              · have hdm : decide (na ∈ ys) = true := decide_eq_true hmem
                rw [hdm] at HASN
                clear hdm hmem
                go_wp2_with fail
                refine HASN.out.mono ?_
                rintro e w' ⟨rfl, rfl⟩
                go_wp2_with fail
                refine FJ.out.mono ?_
                rintro e w4 ⟨rfl, hb⟩
                have B4 : Hid (Below WA.heap.size WA w4) := BT.out.trans (hb.mono BT.out.size)
                have K4 : Hid (w4.heap[wr.heap.size]? = some (.cells #[.int .i64 ta, .int .i64 tb, .int .i64 tc] 43 (0, 0))) := (hb.block _ (lt_of_block KT.out)).trans KT.out
                have ROW4 : Hid (LRow w4 w4.heap.size 1 A2 (ints ys)) := (ROWT.out.below hb).more hb.size
                clear r0 r1 r2 g0 g1 g2 g3 g4 g5 g6 g7 hb HASN FJ
                obtain ⟨r0, r1, r2⟩ := two_cells K4.out
                go_wp2_with fail
                refine (VBB.out w4).mono ?_
                rintro e w' ⟨rfl, rfl⟩
                by_cases hz : nb = 0
                · have hb : (nb != 0) = false := by rw [bne_eq_false_iff_eq]; exact hz
                  have HOB : Hid (nb = 0 ∨ nb ∈ ys) := .inl hz
                  have HGR := Lib.hid (Grows.refl ys)
                  have LS4 : Hid (Lst w4 (.slice A2 ys.length q2) ys) := ⟨A2, q2, rfl, ROW4.out, HCUT.out⟩
                  clear hz
                  go_wp2_with fail
                  refine (VCC.out w4).mono ?_
                  rintro e w' ⟨rfl, rfl⟩
                  by_cases hy : nc = 0
                  · have hb2 : (nc != 0) = false := by rw [bne_eq_false_iff_eq]; exact hy
                    have HCN := Lib.hid (HST.out ys HGR.out (HCLB.out ys HOB.out (.inl hy)))
                    have HLE2 : Hid (n0 ≤ ys.length) := Nat.le_trans HLE.out HGR.out.1
                    clear hy
                    go_wp2
                    go_roundw
                    case rel => exact ⟨j + 1, _, ys, by omega, by go_num, rfl, LS4.out, HCS.out, HIN.out, HLE2.out, HCN.out, B4.out⟩
                    case measure => simp [intOf]; omega
                  · have hb2 : (nc != 0) = true := by rw [bne_iff_ne]; exact hy
                    clear hy
                    have PT2 := Lib.hid (refput_any ys nc A2 q2 w4 (by have := HCS.out.len; omega) ROW4.out HCUT.out)
                    go_wp2_with fail
                    refine (VCC.out w4).mono ?_
                    rintro e w' ⟨rfl, rfl⟩
                    go_wp2_with fail
                    refine PT2.out.mono ?_
                    rintro e w7 ⟨⟨v7, rfl, how⟩, hb7⟩
                    have LS7 := Lib.hid (own_lst how)
                    have CS7 : Hid (ConeS v0 (putM ys nc)) := HCS.out.put HNC.out.1 (.inr HNC.out.2)
                    have IN7 : Hid (InS (putM ys nc) v0) := put_or HIN.out
                    have GR7 := Lib.hid (HGR.out.put nc)
                    have HCN := Lib.hid (HST.out (putM ys nc) GR7.out (HCLB.out (putM ys nc) (put_or HOB.out) (.inr ((putM_mem _ _ _).2 (.inl rfl)))))
                    have HLE2 : Hid (n0 ≤ (putM ys nc).length) := Nat.le_trans HLE.out GR7.out.1
                    have B7 : Hid (Below WA.heap.size WA w7) := B4.out.trans (hb7.mono B4.out.size)
                    clear r0 r1 r2 hb7 how PT2 hb2
                    go_wp2
                    go_roundw
                    case rel => exact ⟨j + 1, v7, _, by omega, by go_num, rfl, LS7.out, CS7.out, IN7.out, HLE2.out, HCN.out, B7.out⟩
                    case measure => simp [intOf]; omega
                · have hb : (nb != 0) = true := by rw [bne_iff_ne]; exact hz
                  clear hz
                  have PT := Lib.hid (refput_any ys nb A2 q2 w4 (by have := HCS.out.len; omega) ROW4.out HCUT.out)
                  go_wp2_with fail
                  refine (VBB.out w4).mono ?_
                  rintro e w' ⟨rfl, rfl⟩
                  go_wp2_with fail
                  refine PT.out.mono ?_
                  rintro e w5 ⟨⟨v5, rfl, how⟩, hb5⟩
                  have LS5 := Lib.hid (own_lst how)
                  have CS5 : Hid (ConeS v0 (putM ys nb)) := HCS.out.put HNB.out.1 (.inr HNB.out.2)
                  have IN5 : Hid (InS (putM ys nb) v0) := put_or HIN.out
                  have HOB : Hid (nb = 0 ∨ nb ∈ putM ys nb) := .inr ((putM_mem _ _ _).2 (.inl rfl))
                  have HGR : Hid (Grows ys (putM ys nb)) := (Grows.refl ys).put nb
                  have B5 : Hid (Below WA.heap.size WA w5) := B4.out.trans (hb5.mono B4.out.size)
                  have K5 : Hid (w5.heap[wr.heap.size]? = some (.cells #[.int .i64 ta, .int .i64 tb, .int .i64 tc] 43 (0, 0))) := (hb5.block _ (lt_of_block K4.out)).trans K4.out
                  clear r0 r1 r2 hb5 how PT hb
                  generalize putM ys nb = zs at *
                  obtain ⟨A5, q5, hv5, hrow5, hcut5⟩ := LS5.out
                  subst hv5
                  have ROW5 := Lib.hid hrow5
                  have CUT5 := Lib.hid hcut5
                  clear hrow5 hcut5
                  obtain ⟨r0, r1, r2⟩ := two_cells K5.out
                  go_wp2_with fail
                  refine (VCC.out w5).mono ?_
                  rintro e w' ⟨rfl, rfl⟩
                  by_cases hy : nc = 0
                  · have hb2 : (nc != 0) = false := by rw [bne_eq_false_iff_eq]; exact hy
                    have HCN := Lib.hid (HST.out zs HGR.out (HCLB.out zs HOB.out (.inl hy)))
                    have HLE2 : Hid (n0 ≤ zs.length) := Nat.le_trans HLE.out HGR.out.1
                    clear hy
                    go_wp2
                    go_roundw
                    case rel => exact ⟨j + 1, _, zs, by omega, by go_num, rfl, LS5.out, CS5.out, IN5.out, HLE2.out, HCN.out, B5.out⟩
                    case measure => simp [intOf]; omega
                  · have hb2 : (nc != 0) = true := by rw [bne_iff_ne]; exact hy
                    clear hy
                    have PT2 := Lib.hid (refput_any zs nc A5 q5 w5 (by have := CS5.out.len; omega) ROW5.out CUT5.out)
                    go_wp2_with fail
                    refine (VCC.out w5).mono ?_
                    rintro e w' ⟨rfl, rfl⟩
                    go_wp2_with fail
                    refine PT2.out.mono ?_
                    rintro e w7 ⟨⟨v7, rfl, how⟩, hb7⟩
                    have LS7 := Lib.hid (own_lst how)
                    have CS7 : Hid (ConeS v0 (putM zs nc)) := CS5.out.put HNC.out.1 (.inr HNC.out.2)
                    have IN7 : Hid (InS (putM zs nc) v0) := put_or IN5.out
                    have GR7 := Lib.hid (HGR.out.put nc)
                    have HCN := Lib.hid (HST.out (putM zs nc) GR7.out (HCLB.out (putM zs nc) (put_or HOB.out) (.inr ((putM_mem _ _ _).2 (.inl rfl)))))
                    have HLE2 : Hid (n0 ≤ (putM zs nc).length) := Nat.le_trans HLE.out GR7.out.1
                    have B7 : Hid (Below WA.heap.size WA w7) := B5.out.trans (hb7.mono B5.out.size)
                    clear r0 r1 r2 hb7 how PT2 hb2
                    go_wp2
                    go_roundw
                    case rel => exact ⟨j + 1, v7, _, by omega, by go_num, rfl, LS7.out, CS7.out, IN7.out, HLE2.out, HCN.out, B7.out⟩
                    case measure => simp [intOf]; omega
              · have hdm : decide (na ∈ ys) = false := decide_eq_false hmem
                rw [hdm] at HASN
                have HCN := Lib.hid (HST.out ys (Grows.refl ys) (HCLN.out ys hmem))
                have LST2 : Hid (Lst wt (.slice A2 ys.length q2) ys) := ⟨A2, q2, rfl, ROWT.out, HCUT.out⟩
                clear hdm hmem
                go_wp2_with fail
                refine HASN.out.mono ?_
                rintro e w' ⟨rfl, rfl⟩
                clear HASN FJ r0 r1 r2 g0 g1 g2 g3 g4 g5 g6 g7
                go_wp2
                go_roundw
                case rel => exact ⟨j + 1, _, ys, by omega, by go_num, rfl, LST2.out, HCS.out, HIN.out, HLE.out, HCN.out, BT.out⟩
                case measure => simp [intOf]; omega
            · obtain rfl : j = c.ands.length := by omega
              have HFC : Hid ((n0 : Int) = (ys.length : Int) → ∀ t ∈ c.ands, Closed ys t) := fun e t ht => by
                obtain ⟨k, hk, rfl⟩ := List.mem_iff_getElem.1 ht
                exact HCL.out (by omega) k hk hk
              have LSF : Hid (Lst wr (.slice A2 ys.length q2) ys) := ⟨A2, q2, rfl, HROW.out, HCUT.out⟩
              clear hjl
              have HJG : Hid (m < (n0 : Int) ∧ n0 ≤ 2050) := ⟨HMM.out, hln⟩
              go_wp2
              go_roundw
              case rel => exact ⟨_, ys, (n0 : Int), rfl, rfl, LSF.out, HCS.out, HIN.out, ⟨by omega, by have := HLE.out; omega⟩, HFC.out, HB.out⟩
              case measure => have := HJG.out; simp [intOf]; omega
        · have hmeq : m = (xs.length : Int) := by omega
          have hd : decide (m < (xs.length : Int)) = false := decide_eq_false hlt
          have HFC := Lib.hid (HCL.out hmeq)
          have BF : Hid (Below w.heap.size w wr) := bA.out.trans (HB.out.mono bA.out.size)
          clear hmeq
          go_wp2
          go_ret
          exact ⟨_, xs, rfl, HLS.out, HLN.out, HIN.out, HFC.out, BF.out⟩
end Go.Proofs.Ytpaneggajjgdlaa.Sim
