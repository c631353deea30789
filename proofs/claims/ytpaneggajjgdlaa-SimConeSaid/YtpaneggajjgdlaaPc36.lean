/- SimCone; no condition. -/
import Derived.Test.YtpaneggajjgdlaaPc33
import Derived.Test.YtpaneggajjgdlaaPc35
namespace Go.Proofs.Ytpaneggajjgdlaa.Sim
open Go.ChangeShapes Go.WideShapes Go.ChangeAt Go.RowKit Go.Maps Circ Cw
open Str

theorem take_mem (R : List Int) (n : Int) (k : Nat) (h : k < R.length) : decide (n ∈ R.take (k + 1)) = (decide (n ∈ R.take k) || (R[k] == n)) := by
  rw [List.take_succ_eq_append_getElem h, Bool.eq_iff_iff]
  simp only [Bool.or_eq_true, decide_eq_true_eq, List.mem_append, List.mem_singleton, beq_iff_eq]
  constructor <;> rintro (h | h) <;> first | exact .inl h | exact .inr h.symm
set_option maxHeartbeats 16000000 in
set_option maxRecDepth 100000 in
theorem cone_walk (c : Cir) (s : Places) (st a b : ByteArray) (l : Int) (w : World) (h : CLies w w.heap.size c s) (hf : CFits c s) (hl : I64 l) :
    Calls Try.prog 8 #[cirV c s, .string st, .string a, .string b, .int .i64 l] w fun e w' => e = .returned (.bool true) ∧ Below w.heap.size w w' := by
  obtain ⟨WA, hWA⟩ : ∃ x, w.alloc (.cells #[.int .i64 c.max, .slice s.ai c.ins.length s.ki, .slice s.al c.lats.length s.kl, .slice s.ao c.outs.length s.ko, .slice s.ab c.bads.length s.kb, .slice s.ac c.invs.length s.kc, .slice s.aa c.ands.length s.ka, .slice s.an c.names.length s.kn] 27) = x := ⟨_, rfl⟩
  have bA : Hid (Below w.heap.size w WA) := by unfold Hid; rw [← hWA]; exact (Below.refl _ _).alloc (Nat.le_refl _) _
  have GA : Hid (WA.heap[w.heap.size]? = some (.cells (cirC c s) 27 (0, 0))) := by unfold Hid; rw [← hWA]; exact Array.getElem?_push_size
  obtain ⟨e0, e1, e2, e3, e4, e5, e6, e7⟩ := cells8 GA.out
  have LW : Hid (∀ x, Below w.heap.size w x → CLies x x.heap.size c s) := fun x hx => (h.below hx).more hx.size
  have HF := Lib.hid hf
  have VA := Lib.hid (fun x hx => values_any c s st a x (LW.out x hx) hf)
  have VB := Lib.hid (fun x hx => values_any c s st b x (LW.out x hx) hf)
  have CN := Lib.hid (fun (hr : refOk c = true) (h0 : 0 ≤ l) g x hx hc => refcone_any c s l g 1 x (LW.out x hx) hf hr ⟨h0, hl.2⟩ hc)
  have XA := Lib.hid (err_range c st a)
  have XB := Lib.hid (err_range c st b)
  have HL := Lib.hid hl
  have hl2 := hl.2
  have hl1 := hl.1
  clear h hf hl
  unfold cirV at VA VB CN ⊢
  rw [show cirC c s = #[.int .i64 c.max, .slice s.ai c.ins.length s.ki, .slice s.al c.lats.length s.kl, .slice s.ao c.outs.length s.ko, .slice s.ab c.bads.length s.kb, .slice s.ac c.invs.length s.kc, .slice s.aa c.ands.length s.ka, .slice s.an c.names.length s.kn] from rfl] at VA VB CN ⊢
  by_cases ha : vErr c st a = 0
  · by_cases hb : vErr c st b = 0
    · by_cases hl0 : l < 0
      · rw [ha] at VA
        rw [hb] at VB
        unfold sv at VA VB
        generalize (⟨(vStr c st a).toArray⟩ : ByteArray) = s1 at *
        generalize (⟨(vStr c st b).toArray⟩ : ByteArray) = s2 at *
        have hd : decide (l < 0) = true := decide_eq_true hl0
        clear ha hb
        go_enter Try.func8, Try.ntmps8
        go_wp2_with fail
        refine (alive_any WA).mono ?_
        rintro e w1 ⟨rfl, hb⟩
        have B1 : Hid (Below w.heap.size w w1) := bA.out.trans (hb.mono bA.out.size)
        have G1 : Hid (w1.heap[w.heap.size]? = some (.cells (cirC c s) 27 (0, 0))) := (hb.block _ (lt_of_block GA.out)).trans GA.out
        clear e0 e1 e2 e3 e4 e5 e6 e7 hb
        obtain ⟨e0, e1, e2, e3, e4, e5, e6, e7⟩ := cells8 G1.out
        go_wp2_with fail
        refine (VA.out w1 B1.out).mono ?_
        rintro e w2 ⟨rfl, hb⟩
        have B2 : Hid (Below w.heap.size w w2) := B1.out.trans (hb.mono B1.out.size)
        have G2 : Hid (w2.heap[w.heap.size]? = some (.cells (cirC c s) 27 (0, 0))) := (hb.block _ (lt_of_block G1.out)).trans G1.out
        clear e0 e1 e2 e3 e4 e5 e6 e7 hb
        obtain ⟨e0, e1, e2, e3, e4, e5, e6, e7⟩ := cells8 G2.out
        go_wp2_with fail
        refine (VB.out w2 B2.out).mono ?_
        rintro e w3 ⟨rfl, hb⟩
        have B3 : Hid (Below w.heap.size w w3) := B2.out.trans (hb.mono B2.out.size)
        have G3 : Hid (w3.heap[w.heap.size]? = some (.cells (cirC c s) 27 (0, 0))) := (hb.block _ (lt_of_block G2.out)).trans G2.out
        clear e0 e1 e2 e3 e4 e5 e6 e7 hb
        obtain ⟨e0, e1, e2, e3, e4, e5, e6, e7⟩ := cells8 G3.out
        clear hWA VA VB
        go_wp2_with (go_at_call 22; refine (num_any _ _).mono ?_; rintro e w' ⟨rfl, rfl⟩)
        go_ret
        exact ⟨rfl, B3.out⟩
      · have HEA := Lib.hid (err_is ha)
        have HEB := Lib.hid (err_is hb)
        have hd : decide (l < 0) = false := decide_eq_false hl0
        have h0 : 0 ≤ l := by omega
        rw [str_ok ha, ha] at VA
        rw [str_ok hb, hb] at VB
        have HVL : Hid ((valsM c st a).length ≤ 1048576 ∧ (valsM c st b).length ≤ 1048576) := by
          obtain ⟨m, hm, hm1⟩ := max_nat HEA.out.1
          unfold Hid; rw [vals_len, vals_len, hm]; simp; omega
        have TA := Lib.hid (fun x => true_any ⟨(valsM c st a).toArray⟩ l x (by rw [sv_size]; have := HVL.out; omega) hl2)
        have TB := Lib.hid (fun x => true_any ⟨(valsM c st b).toArray⟩ l x (by rw [sv_size]; have := HVL.out; omega) hl2)
        rw [show (⟨(valsM c st a).toArray⟩ : ByteArray).data.toList = valsM c st a from rfl] at TA
        rw [show (⟨(valsM c st b).toArray⟩ : ByteArray).data.toList = valsM c st b from rfl] at TB
        have SAME := Lib.hid (fun R h1 h2 h3 => cone_same (c := c) HEA.out.1 st a b R h1 h2 h0 h3)
        have HSA := Lib.hid (bits_parts HEA.out.2.2).1
        have HSB := Lib.hid (bits_parts HEB.out.2.2).1
        have HZ := Lib.hid (ref_sizes HEA.out.1)
        have HR := Lib.hid HEA.out.1
        have CN := Lib.hid (CN.out HEA.out.1 h0)
        unfold sv at VA VB
        generalize (⟨(valsM c st a).toArray⟩ : ByteArray) = s1 at *
        generalize (⟨(valsM c st b).toArray⟩ : ByteArray) = s2 at *
        generalize trueM (valsM c st a) l = y1 at *
        generalize trueM (valsM c st b) l = y2 at *
        clear ha hb h0
        go_enter Try.func8, Try.ntmps8
        go_wp2_with fail
        refine (alive_any WA).mono ?_
        rintro e w1 ⟨rfl, hb⟩
        have B1 : Hid (Below w.heap.size w w1) := bA.out.trans (hb.mono bA.out.size)
        have G1 : Hid (w1.heap[w.heap.size]? = some (.cells (cirC c s) 27 (0, 0))) := (hb.block _ (lt_of_block GA.out)).trans GA.out
        clear e0 e1 e2 e3 e4 e5 e6 e7 hb
        obtain ⟨e0, e1, e2, e3, e4, e5, e6, e7⟩ := cells8 G1.out
        go_wp2_with fail
        refine (VA.out w1 B1.out).mono ?_
        rintro e w2 ⟨rfl, hb⟩
        have B2 : Hid (Below w.heap.size w w2) := B1.out.trans (hb.mono B1.out.size)
        have G2 : Hid (w2.heap[w.heap.size]? = some (.cells (cirC c s) 27 (0, 0))) := (hb.block _ (lt_of_block G1.out)).trans G1.out
        clear e0 e1 e2 e3 e4 e5 e6 e7 hb
        obtain ⟨e0, e1, e2, e3, e4, e5, e6, e7⟩ := cells8 G2.out
        go_wp2_with fail
        refine (VB.out w2 B2.out).mono ?_
        rintro e w3 ⟨rfl, hb⟩
        have B3 : Hid (Below w.heap.size w w3) := B2.out.trans (hb.mono B2.out.size)
        have G3 : Hid (w3.heap[w.heap.size]? = some (.cells (cirC c s) 27 (0, 0))) := (hb.block _ (lt_of_block G2.out)).trans G2.out
        clear e0 e1 e2 e3 e4 e5 e6 e7 hb
        obtain ⟨e0, e1, e2, e3, e4, e5, e6, e7⟩ := cells8 G3.out
        clear hWA VA VB
        obtain ⟨W4, hW4⟩ : ∃ x, w3.alloc (.cells #[.int .i64 l] 3) = x := ⟨_, rfl⟩
        have b4 : Below w3.heap.size w3 W4 := by rw [← hW4]; exact (Below.refl _ _).alloc (Nat.le_refl _) _
        have h4 : W4.heap[w3.heap.size]? = some (.cells #[.int .i64 l] 3 (0, 0)) := by rw [← hW4]; exact Array.getElem?_push_size
        have CN4 := Lib.hid (CN.out w3.heap.size W4 (B3.out.trans (b4.mono B3.out.size)) (by rw [Lib.cell_of_heap h4]; rfl))
        have B4 : Hid (Below w.heap.size w W4) := B3.out.trans (b4.mono B3.out.size)
        have G4 : Hid (W4.heap[w.heap.size]? = some (.cells (cirC c s) 27 (0, 0))) := (b4.block _ (lt_of_block G3.out)).trans G3.out
        clear b4 h4 CN
        go_wp2_with (go_at_call 22; refine (num_any _ _).mono ?_; rintro e w' ⟨rfl, rfl⟩)
        refine CN4.out.mono ?_
        rintro e w5 ⟨v5, R, rfl, hlst, hRl, hIn, hCl, hb⟩
        obtain ⟨A5, q5, hv5, hrow, -⟩ := hlst
        subst hv5
        have B5 : Hid (Below w.heap.size w w5) := B4.out.trans (hb.mono B4.out.size)
        have G5 : Hid (w5.heap[w.heap.size]? = some (.cells (cirC c s) 27 (0, 0))) := (hb.block _ (lt_of_block G4.out)).trans G4.out
        have HROW := Lib.hid hrow
        have HIN := Lib.hid hIn
        have HCL := Lib.hid hCl
        clear hrow hIn hCl hb CN4 hW4 e0 e1 e2 e3 e4 e5 e6 e7
        obtain ⟨e0, e1, e2, e3, e4, e5, e6, e7⟩ := cells8 G5.out
        go_wp2
        have G9 : Hid (∀ x, Below w5.heap.size w5 x → x.heap[w.heap.size]? = some (.cells (cirC c s) 27 (0, 0))) := fun x hx => (hx.block _ (lt_of_block G5.out)).trans G5.out
        clear e0 e1 e2 e3 e4 e5 e6 e7
        go_loopw [16] (fun i wr => ∃ j : Nat, j ≤ c.ins.length ∧ i = .int .i64 j ∧ (∀ k, k < j → c.ins.getD k 0 / 2 ∈ R → a.data.toList.getD k 0 = b.data.toList.getD k 0) ∧ Below w5.heap.size w5 wr) (fun i _ => c.ins.length - (intOf i).toNat)
        case atStart => exact ⟨0, Nat.zero_le _, rfl, (fun k hk => absurd hk (Nat.not_lt_zero _)), Below.refl _ _⟩
        case round =>
          obtain ⟨j, hj, rfl, hsame, hbw⟩ := hrel
          have HS := Lib.hid hsame
          have HB := Lib.hid hbw
          clear hsame hbw
          have zi : c.ins.length ≤ 64 := HZ.out.1
          obtain ⟨e0, e1, e2, e3, e4, e5, e6, e7⟩ := cells8 (G9.out _ HB.out)
          by_cases hlt : j < c.ins.length
          · have hx := own_in HR.out (show c.ins[j] ∈ own c from List.mem_append.2 (.inl (List.getElem_mem hlt)))
            have hml := max_len HR.out
            obtain ⟨mm, hmm, hmm1⟩ := max_nat HR.out
            have HGD := Lib.hid (getD_at c.ins hlt)
            have hja : j < a.size := by have := HSA.out; omega
            have hjb : j < b.size := by have := HSB.out; omega
            have HGA : Hid (a.data.toList.getD j 0 = a[j]'hja) := by
              have hl : j < a.data.toList.length := by simpa using hja
              unfold Hid
              rw [List.getD_eq_getElem?_getD, List.getElem?_eq_getElem hl, Option.getD_some, Array.getElem_toList]; rfl
            have HGB : Hid (b.data.toList.getD j 0 = b[j]'hjb) := by
              have hl : j < b.data.toList.length := by simpa using hjb
              unfold Hid
              rw [List.getD_eq_getElem?_getD, List.getElem?_eq_getElem hl, Option.getD_some, Array.getElem_toList]; rfl
            obtain ⟨vi, hvi⟩ : ∃ v : Nat, c.ins[j] / 2 = (v : Int) := ⟨(c.ins[j] / 2).toNat, by omega⟩
            have HVB : Hid (vi ≤ 2048) := by unfold Hid; omega
            have HXB : Hid (0 ≤ c.ins[j] ∧ c.ins[j] ≤ 9223372036854775807) := by unfold Hid; omega
            have HTD : Hid (c.ins[j].tdiv 2 = (vi : Int)) := by unfold Hid; rw [Int.tdiv_eq_ediv_of_nonneg (by omega)]; exact hvi
            have LCI : Hid (∀ X, Below w5.heap.size w5 X → ∃ b0 o, s.ai = some ⟨b0, o, none⟩ ∧ X.cell? ⟨b0, o + j, none⟩ = some (.int .i64 c.ins[j])) := fun X hX => by
              obtain ⟨b0, o, h1, -, h2⟩ := LRow.int (LW.out X (B5.out.trans (hX.mono B5.out.size))).ins hlt
              exact ⟨b0, o, h1, h2⟩
            have HVI := Lib.hid hvi
            have HJ := Lib.hid hlt
            clear hx hml hmm hmm1
            go_wp2
            clear e0 e1 e2 e3 e4 e5 e6 e7
            obtain ⟨wo, rfl⟩ : ∃ x, x = wr := ⟨_, rfl⟩
            go_loopw [17, 18] (fun t i wr => ∃ k : Nat, k ≤ R.length ∧ i = .int .i64 k ∧ t = .bool (decide ((vi : Int) ∈ R.take k)) ∧ Below w5.heap.size w5 wr) (fun _ i _ => R.length - (intOf i).toNat)
            case atStart => exact ⟨0, Nat.zero_le _, rfl, rfl, HB.out⟩
            case round =>
              clear HB
              obtain ⟨k, hk, rfl, rfl, hbw⟩ := hrel
              have HB := Lib.hid hbw
              clear hbw
              by_cases hkl : k < R.length
              · obtain ⟨br, orr, hAr, -, hcr⟩ := LRow.int (HROW.out.below HB.out) hkl
                obtain ⟨bi, oi, hAi, hci⟩ := LCI.out wr HB.out
                obtain ⟨e0, e1, e2, e3, e4, e5, e6, e7⟩ := cells8 (G9.out _ HB.out)
                rw [hAi] at e1
                have HTM := Lib.hid (take_mem R (vi : Int) k hkl)
                have tx := HTD.out
                have hx0 := HXB.out.1
                have hx1 := HXB.out.2
                have hvb := HVB.out
                have hji : j < c.ins.length := HJ.out
                rw [hAr]
                clear hAr hAi
                generalize R[k] = y at *
                obtain ⟨z, hz⟩ : ∃ z, c.ins[j] = z := ⟨_, rfl⟩
                rw [hz] at hci tx hx0 hx1
                clear hz
                obtain ⟨t9, ht9⟩ : ∃ t, decide ((vi : Int) ∈ R.take (k + 1)) = t := ⟨_, rfl⟩
                rw [ht9] at HTM
                have HT9 := Lib.hid ht9
                clear ht9
                generalize decide ((vi : Int) ∈ R.take k) = t0 at *
                cases t0
                · obtain ⟨q, hq⟩ : ∃ q, (y == (vi : Int)) = q := ⟨_, rfl⟩
                  rw [hq, Bool.false_or] at HTM
                  go_wp2
                  have u1 := Wd.cell e1
                  have uc := Wd.cell hci
                  have ur := Wd.cell hcr
                  refine wp_region_wd (by kernel_rfl) (by kernel_rfl) ?_
                  repeat (first | go_big_quiet_skip | (go_big_quiet_want; go_big_quiet_op; go_big_quiet_on))
                  refine wpQuiet_nil ?_
                  intro wz9 hw'
                  obtain ⟨⟨_, hb9⟩, hw''⟩ := hw'
                  subst hw''
                  have BZ : Hid (Below w5.heap.size w5 wz9) := HB.out.trans (hb9.mono HB.out.size)
                  clear hb9 u1 uc ur e0 e1 e2 e3 e4 e5 e6 e7 hci hcr hq tx
                  go_wp2
                  go_roundw
                  case rel => exact ⟨k + 1, by omega, by go_num, by rw [HT9.out, HTM.out], BZ.out⟩
                  case measure => simp [intOf]; omega
                · rw [Bool.true_or] at HTM
                  go_wp2
                  refine wp_region_wd (by kernel_rfl) (by kernel_rfl) ?_
                  repeat (first | go_big_quiet_skip | (go_big_quiet_want; go_big_quiet_op; go_big_quiet_on))
                  refine wpQuiet_nil ?_
                  intro wz9 hw'
                  obtain ⟨⟨_, hb9⟩, hw''⟩ := hw'
                  subst hw''
                  have BZ : Hid (Below w5.heap.size w5 wz9) := HB.out.trans (hb9.mono HB.out.size)
                  clear hb9 e0 e1 e2 e3 e4 e5 e6 e7 hci hcr tx
                  go_wp2
                  go_roundw
                  case rel => exact ⟨k + 1, by omega, by go_num, by rw [HT9.out, HTM.out], BZ.out⟩
                  case measure => simp [intOf]; omega
              · obtain rfl : k = R.length := by omega
                rw [List.take_length]
                have hji : j < c.ins.length := HJ.out
                have HSN : Hid (((vi : Int) ∈ R → a[j]'hja = b[j]'hjb) → ∀ k, k < j + 1 → c.ins.getD k 0 / 2 ∈ R → a.data.toList.getD k 0 = b.data.toList.getD k 0) := fun h0 k hk hm => by
                  by_cases hkj : k = j
                  · subst hkj
                    rw [HGD.out, HVI.out] at hm
                    rw [HGA.out, HGB.out]
                    exact h0 hm
                  · exact HS.out k (by omega) hm
                by_cases hmem : (vi : Int) ∈ R
                · have hdm : decide ((vi : Int) ∈ R) = true := decide_eq_true hmem
                  rw [hdm]
                  clear hdm
                  by_cases hab : a[j]'hja = b[j]'hjb
                  · have hne : (((a[j]'hja).toNat : Int) != ((b[j]'hjb).toNat : Int)) = false := by rw [bne_eq_false_iff_eq, hab]
                    have HSQ := Lib.hid (HSN.out (fun _ => hab))
                    clear hab hmem
                    go_wp2
                    refine wp_region_wd (by kernel_rfl) (by kernel_rfl) ?_
                    repeat (first | go_big_quiet_skip | (go_big_quiet_want; go_big_quiet_op; go_big_quiet_on))
                    refine wpQuiet_nil ?_
                    intro wz9 hw'
                    obtain ⟨⟨_, hb9⟩, hw''⟩ := hw'
                    subst hw''
                    have BZ : Hid (Below w5.heap.size w5 wz9) := HB.out.trans (hb9.mono HB.out.size)
                    clear hb9 hne
                    go_wp2
                    go_roundw
                    case rel => exact ⟨j + 1, by omega, by go_num, HSQ.out, BZ.out⟩
                    case measure => simp [intOf]; omega
                  · have hne : (((a[j]'hja).toNat : Int) != ((b[j]'hjb).toNat : Int)) = true := by
                      rw [bne_iff_ne]
                      exact fun e => hab (UInt8.toNat_inj.1 (by omega))
                    clear hab hmem
                    go_wp2
                    refine wp_region_wd (by kernel_rfl) (by kernel_rfl) ?_
                    repeat (first | go_big_quiet_skip | (go_big_quiet_want; go_big_quiet_op; go_big_quiet_on))
                    refine wpQuiet_nil ?_
                    intro wz9 hw'
                    obtain ⟨⟨_, hb9⟩, hw''⟩ := hw'
                    subst hw''
                    have BF : Hid (Below w.heap.size w wz9) := B5.out.trans ((HB.out.trans (hb9.mono HB.out.size)).mono B5.out.size)
                    clear hb9 hne
                    go_wp2
                    go_ret
                    exact ⟨rfl, BF.out⟩
                · have hdm : decide ((vi : Int) ∈ R) = false := decide_eq_false hmem
                  rw [hdm]
                  have HSQ := Lib.hid (HSN.out (fun h => absurd h hmem))
                  clear hdm hmem
                  go_wp2
                  refine wp_region_wd (by kernel_rfl) (by kernel_rfl) ?_
                  repeat (first | go_big_quiet_skip | (go_big_quiet_want; go_big_quiet_op; go_big_quiet_on))
                  refine wpQuiet_nil ?_
                  intro wz9 hw'
                  obtain ⟨⟨_, hb9⟩, hw''⟩ := hw'
                  subst hw''
                  have BZ : Hid (Below w5.heap.size w5 wz9) := HB.out.trans (hb9.mono HB.out.size)
                  clear hb9
                  go_wp2
                  go_roundw
                  case rel => exact ⟨j + 1, by omega, by go_num, HSQ.out, BZ.out⟩
                  case measure => simp [intOf]; omega
          · obtain rfl : j = c.ins.length := by omega
            have hyy : y1 = y2 := SAME.out R HCL.out (fun i hi => HS.out i hi) HIN.out
            subst hyy
            have BF : Hid (Below w.heap.size w wr) := B5.out.trans (HB.out.mono B5.out.size)
            go_wp2_with fail
            refine (TA.out wr).mono ?_
            rintro e w7 ⟨rfl, hb⟩
            have B7 : Hid (Below w.heap.size w w7) := BF.out.trans (hb.mono BF.out.size)
            clear hb
            go_wp2_with fail
            refine (TB.out w7).mono ?_
            rintro e w8 ⟨rfl, hb⟩
            have B8 : Hid (Below w.heap.size w w8) := B7.out.trans (hb.mono B7.out.size)
            clear hb TA TB
            cases y1 <;>
            · go_wp2
              go_ret
              exact ⟨rfl, B8.out⟩
    · rw [ha] at VA
      have hz : (vErr c st b == 0) = false := beq_eq_false_iff_ne.2 hb
      have hz2 : (vErr c st b != 0) = true := bne_iff_ne.2 hb
      have hxr := XB.out
      unfold sv at VA VB
      generalize (⟨(vStr c st a).toArray⟩ : ByteArray) = s1 at *
      generalize (⟨(vStr c st b).toArray⟩ : ByteArray) = s2 at *
      generalize vErr c st b = x at *
      clear ha
      go_enter Try.func8, Try.ntmps8
      go_wp2_with fail
      refine (alive_any WA).mono ?_
      rintro e w1 ⟨rfl, hb⟩
      have B1 : Hid (Below w.heap.size w w1) := bA.out.trans (hb.mono bA.out.size)
      have G1 : Hid (w1.heap[w.heap.size]? = some (.cells (cirC c s) 27 (0, 0))) := (hb.block _ (lt_of_block GA.out)).trans GA.out
      clear e0 e1 e2 e3 e4 e5 e6 e7 hb
      obtain ⟨e0, e1, e2, e3, e4, e5, e6, e7⟩ := cells8 G1.out
      go_wp2_with fail
      refine (VA.out w1 B1.out).mono ?_
      rintro e w2 ⟨rfl, hb⟩
      have B2 : Hid (Below w.heap.size w w2) := B1.out.trans (hb.mono B1.out.size)
      have G2 : Hid (w2.heap[w.heap.size]? = some (.cells (cirC c s) 27 (0, 0))) := (hb.block _ (lt_of_block G1.out)).trans G1.out
      clear e0 e1 e2 e3 e4 e5 e6 e7 hb
      obtain ⟨e0, e1, e2, e3, e4, e5, e6, e7⟩ := cells8 G2.out
      go_wp2_with fail
      refine (VB.out w2 B2.out).mono ?_
      rintro e w3 ⟨rfl, hb⟩
      have B3 : Hid (Below w.heap.size w w3) := B2.out.trans (hb.mono B2.out.size)
      have G3 : Hid (w3.heap[w.heap.size]? = some (.cells (cirC c s) 27 (0, 0))) := (hb.block _ (lt_of_block G2.out)).trans G2.out
      clear e0 e1 e2 e3 e4 e5 e6 e7 hb
      obtain ⟨e0, e1, e2, e3, e4, e5, e6, e7⟩ := cells8 G3.out
      clear hWA VA VB
      go_wp2_with (go_at_call 22; refine (num_any _ _).mono ?_; rintro e w' ⟨rfl, rfl⟩)
      go_ret
      exact ⟨rfl, B3.out⟩
  · have hz : (vErr c st a == 0) = false := beq_eq_false_iff_ne.2 ha
    have hz2 : (vErr c st a != 0) = true := bne_iff_ne.2 ha
    have hxr := XA.out
    have hxr2 := XB.out
    unfold sv at VA VB
    generalize (⟨(vStr c st a).toArray⟩ : ByteArray) = s1 at *
    generalize (⟨(vStr c st b).toArray⟩ : ByteArray) = s2 at *
    generalize vErr c st a = x at *
    generalize vErr c st b = x2 at *
    go_enter Try.func8, Try.ntmps8
    go_wp2_with fail
    refine (alive_any WA).mono ?_
    rintro e w1 ⟨rfl, hb⟩
    have B1 : Hid (Below w.heap.size w w1) := bA.out.trans (hb.mono bA.out.size)
    have G1 : Hid (w1.heap[w.heap.size]? = some (.cells (cirC c s) 27 (0, 0))) := (hb.block _ (lt_of_block GA.out)).trans GA.out
    clear e0 e1 e2 e3 e4 e5 e6 e7 hb
    obtain ⟨e0, e1, e2, e3, e4, e5, e6, e7⟩ := cells8 G1.out
    go_wp2_with fail
    refine (VA.out w1 B1.out).mono ?_
    rintro e w2 ⟨rfl, hb⟩
    have B2 : Hid (Below w.heap.size w w2) := B1.out.trans (hb.mono B1.out.size)
    have G2 : Hid (w2.heap[w.heap.size]? = some (.cells (cirC c s) 27 (0, 0))) := (hb.block _ (lt_of_block G1.out)).trans G1.out
    clear e0 e1 e2 e3 e4 e5 e6 e7 hb
    obtain ⟨e0, e1, e2, e3, e4, e5, e6, e7⟩ := cells8 G2.out
    go_wp2_with fail
    refine (VB.out w2 B2.out).mono ?_
    rintro e w3 ⟨rfl, hb⟩
    have B3 : Hid (Below w.heap.size w w3) := B2.out.trans (hb.mono B2.out.size)
    have G3 : Hid (w3.heap[w.heap.size]? = some (.cells (cirC c s) 27 (0, 0))) := (hb.block _ (lt_of_block G2.out)).trans G2.out
    clear e0 e1 e2 e3 e4 e5 e6 e7 hb
    obtain ⟨e0, e1, e2, e3, e4, e5, e6, e7⟩ := cells8 G3.out
    clear hWA VA VB
    go_wp2_with (go_at_call 22; refine (num_any _ _).mono ?_; rintro e w' ⟨rfl, rfl⟩)
    go_ret
    exact ⟨rfl, B3.out⟩
set_option maxRecDepth 100000 in
theorem conel_core {H : Type} {enc : TypeId × Value → H} (W : World) (v : Value) (d : DataW H) (p : List MemPlace) {r : Reach} {b0 : Nat} (hv : Value.okWide Try.prog W r b0 27 v) (h : DataW.Trod enc Try.prog W 0 (fun _ => true) true 27 v d p)
    (st : ByteArray) (_hst : st.size ≤ maxLen) (a : ByteArray) (_ha : a.size ≤ maxLen) (b : ByteArray) (_hb : b.size ≤ maxLen) (l : Int) (l0 : -9223372036854775808 ≤ l) (l1 : l ≤ 9223372036854775807)
    {ts : List TypeId} {ds : List (DataW H)} (hsz : (DataW.weightsEach Try.prog (27 :: ts) (d :: ds)).all (· ≤ reachBytes) = true) :
    Calls Try.prog 8 #[v, .string st, .string a, .string b, .int .i64 l] W fun e W' => e = .returned (.bool true) ∧ Below W.heap.size W W' := by
  obtain ⟨c, s, rfl, hl, hf⟩ := open_circ hv h (all_weights hsz 0 rfl rfl)
  exact cone_walk c s st a b l W hl hf ⟨l0, l1⟩
end Go.Proofs.Ytpaneggajjgdlaa.Sim
