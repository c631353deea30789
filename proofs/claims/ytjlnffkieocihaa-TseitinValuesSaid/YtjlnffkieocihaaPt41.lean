/- moved, TseitinMoves, from what it asks of the program; condition: as there. Arguments that are clauses, opened; the cores of the three laws of layer 12. -/
import Derived.Test.YtjlnffkieocihaaPt38
import Derived.Test.YtjlnffkieocihaaPt01
import Derived.Test.YtjlnffkieocihaaPt07
import Derived.Test.YtjlnffkieocihaaPt39
import Derived.Test.YtjlnffkieocihaaPt40
namespace Go.Proofs.Ytjlnffkieocihaa.Tse
open Go.ChangeShapes Go.WideShapes Go.ChangeAt Go.RowKit Go.Maps Circ Cw Str Sim Rep Cla

theorem lit_small (l : Int) : -4096 ≤ litT 0 l ∧ litT 0 l ≤ 4096 := by
  have h1 : 0 ≤ capT l ∧ capT l ≤ 4097 := by unfold capT; split <;> (try split) <;> omega
  unfold litT
  rw [base_zero]
  split <;> omega
theorem gates_small {c : Cir} (hr : refOk c = true) : ∀ l ∈ gatesT c 0, ∀ x ∈ l, -4096 ≤ x ∧ x ≤ 4096 := fun l hl x hx => by
  obtain ⟨m, hm, hm1⟩ := max_nat hr
  unfold gatesT at hl
  rcases List.mem_append.1 hl with h | h
  · obtain ⟨v, hv, rfl⟩ := List.mem_map.1 h
    have := List.mem_range.1 (List.mem_filter.1 hv).1
    rw [List.mem_singleton.1 hx]
    omega
  · obtain ⟨t, ht, hl2⟩ := List.mem_flatMap.1 h
    have ha := lit_small t.a
    have hb := lit_small t.b
    have hc := lit_small t.c
    unfold andT at hl2
    simp only [List.mem_cons, List.not_mem_nil, or_false] at hl2
    rcases hl2 with rfl | rfl | rfl <;> simp only [List.mem_cons, List.not_mem_nil, or_false] at hx <;> rcases hx with rfl | hx <;> (try rcases hx with rfl | rfl) <;> (try subst hx) <;> omega
theorem force_small (c : Cir) (L : List (List Int)) : ∀ l ∈ forceT c L 0, ∀ x ∈ l, -4096 ≤ x ∧ x ≤ 4096 := fun l hl x hx => by
  unfold forceT at hl
  rcases List.mem_append.1 hl with h | h
  · obtain ⟨y, _, rfl⟩ := List.mem_map.1 h
    rw [List.mem_singleton.1 hx]; exact lit_small y
  · obtain ⟨m, _, rfl⟩ := List.mem_map.1 h
    obtain ⟨y, _, rfl⟩ := List.mem_map.1 hx
    exact lit_small y
set_option maxHeartbeats 16000000 in
set_option maxRecDepth 100000 in
theorem moved_any (K M : List Clz) (A B : Option Addr) (q r : Nat) (b : Int) (w : World) (hK : ALies w w.heap.size A K) (hM : ALies w w.heap.size B M) (hb0 : 0 ≤ b) (hb1 : b ≤ 999) (hm : M.map Clz.l = (K.map Clz.l).map fun l => l.map (mvT b)) (hz : ∀ l ∈ K.map Clz.l, ∀ x ∈ l, -4096 ≤ x ∧ x ≤ 4096) :
    Calls Try.prog 42 #[.slice A K.length q, .slice B M.length r, .int .i64 b] w fun e w' => e = .returned (.bool true) ∧ Below w.heap.size w w' := by
  have hlen : M.length = K.length := by
    have := congrArg List.length hm
    simpa using this
  have HAT : Hid (∀ k (h1 : k < K.length) (h2 : k < M.length), M[k].l = K[k].l.map (mvT b)) := fun k h1 h2 => by
    have e : (M.map Clz.l)[k]? = ((K.map Clz.l).map fun l => l.map (mvT b))[k]? := by rw [hm]
    rw [List.getElem?_map, List.getElem?_map, List.getElem?_map, List.getElem?_eq_getElem h1, List.getElem?_eq_getElem h2] at e
    exact Option.some.inj e
  have HZ : Hid (∀ k (h1 : k < K.length), ∀ x ∈ K[k].l, -4096 ≤ x ∧ x ≤ 4096) := fun k h1 => hz _ (List.mem_map_of_mem (List.getElem_mem h1))
  have HK := Lib.hid hK
  have HM := Lib.hid hM
  have hkl := hK.len
  have HLN := Lib.hid hlen
  clear hK hM hm hz hlen
  go_enter Try.func42, Try.ntmps42
  go_wp2
  go_loopw [7] (fun i wr => ∃ k : Nat, k ≤ K.length ∧ i = .int .i64 k ∧ Below w.heap.size w wr) (fun i _ => K.length - (intOf i).toNat)
  case atStart => exact ⟨0, Nat.zero_le _, rfl, Below.refl _ _⟩
  case round =>
    obtain ⟨k, hk, rfl, hb2⟩ := hrel
    obtain ⟨wo, rfl⟩ : ∃ y, y = wr := ⟨_, rfl⟩
    have B2 := Lib.hid hb2
    clear hb2
    by_cases hlt : k < K.length
    · have hlt2 : k < M.length := by have := HLN.out; omega
      have HAW : Hid (∀ x, Below w.heap.size w x → ∃ b o, A = some ⟨b, o, none⟩ ∧ x.cell? ⟨b, o + k, none⟩ = some (.slice K[k].A K[k].l.length K[k].q)) := fun x hx => by
        obtain ⟨b, o, h1, -, h2⟩ := ((HK.out.below hx).more hx.size).at hlt
        exact ⟨b, o, h1, h2⟩
      have HBW : Hid (∀ x, Below w.heap.size w x → ∃ b o, B = some ⟨b, o, none⟩ ∧ x.cell? ⟨b, o + k, none⟩ = some (.slice M[k].A M[k].l.length M[k].q)) := fun x hx => by
        obtain ⟨b, o, h1, -, h2⟩ := ((HM.out.below hx).more hx.size).at hlt2
        exact ⟨b, o, h1, h2⟩
      have HZA : Hid (∀ x, Below w.heap.size w x → ILies x x.heap.size K[k].A K[k].l) := fun x hx => clz_lies (((HK.out.below hx).more hx.size).each _ (List.getElem_mem hlt))
      have HZB : Hid (∀ x, Below w.heap.size w x → ILies x x.heap.size M[k].A M[k].l) := fun x hx => clz_lies (((HM.out.below hx).more hx.size).each _ (List.getElem_mem hlt2))
      have HMV := Lib.hid (HAT.out k hlt hlt2)
      have HZK := Lib.hid (HZ.out k hlt)
      have hzn := (HZA.out _ B2.out).len
      have hln : (K[k].l.length : Int) = (M[k].l.length : Int) := by rw [HMV.out, List.length_map]
      have hne : ((K[k].l.length : Int) != (M[k].l.length : Int)) = false := by rw [bne_eq_false_iff_eq]; exact hln
      have HLNN := Lib.hid hln
      have k0 : (0 : Int) ≤ (k : Int) := by omega
      have k1 : (k : Int) < (K.length : Int) := by omega
      have k2 : (k : Int) < (M.length : Int) := by omega
      clear hln
      generalize K[k] = za at *
      generalize M[k] = zb at *
      obtain ⟨b1, o1, hAB, hc⟩ := HAW.out _ B2.out
      obtain ⟨b2, o2, hBB, hc2⟩ := HBW.out _ B2.out
      subst hAB
      subst hBB
      have ut0 := Wd.cell hc
      have ut1 := Wd.cell hc2
      go_wp2
      clear hc hc2
      refine wp_region_wd (by kernel_rfl) (by kernel_rfl) ?_
      repeat (first | go_big_quiet_skip | (go_big_quiet_want; go_big_quiet_op; go_big_quiet_on))
      refine wpQuiet_nil ?_
      intro w9 hw'
      obtain ⟨⟨_, hb9⟩, hw''⟩ := hw'
      subst hw''
      have B9 : Hid (Below w.heap.size w w9) := B2.out.trans (hb9.mono B2.out.size)
      clear hb9 ut0 ut1 hne
      go_wp2
      go_loopw [8] (fun i wr => ∃ j : Nat, j ≤ za.l.length ∧ i = .int .i64 j ∧ Below w.heap.size w wr) (fun i _ => za.l.length - (intOf i).toNat)
      case atStart => exact ⟨0, Nat.zero_le _, rfl, B9.out⟩
      case round =>
        obtain ⟨j, hj, rfl, hb3⟩ := hrel
        have B3 := Lib.hid hb3
        clear hb3
        obtain ⟨b3, o3, hA3, hc⟩ := HAW.out _ B3.out
        obtain ⟨b4, o4, hB4, hc2⟩ := HBW.out _ B3.out
        obtain ⟨rfl, rfl⟩ : b1 = b3 ∧ o1 = o3 := by simp only [Option.some.injEq, Addr.mk.injEq] at hA3; exact ⟨hA3.1, hA3.2.1⟩
        obtain ⟨rfl, rfl⟩ : b2 = b4 ∧ o2 = o4 := by simp only [Option.some.injEq, Addr.mk.injEq] at hB4; exact ⟨hB4.1, hB4.2.1⟩
        clear hA3 hB4
        by_cases hlj : j < za.l.length
        · have hlj2 : j < zb.l.length := by have := HLNN.out; omega
          obtain ⟨b5, o5, hZA, -, hd⟩ := LRow.int (HZA.out _ B3.out).row hlj
          obtain ⟨b6, o6, hZB, -, hd2⟩ := LRow.int (HZB.out _ B3.out).row hlj2
          have HY : Hid (zb.l[j] = mvT b za.l[j]) := by
            unfold Hid
            have e : zb.l[j]? = (za.l.map (mvT b))[j]? := by rw [← HMV.out]
            rw [List.getElem?_map, List.getElem?_eq_getElem hlj, List.getElem?_eq_getElem hlj2] at e
            exact Option.some.inj e
          have hx := HZK.out _ (List.getElem_mem hlj)
          have j0 : (0 : Int) ≤ (j : Int) := by omega
          have j1 : (j : Int) < (za.l.length : Int) := by omega
          have j2 : (j : Int) < (zb.l.length : Int) := by omega
          rw [hZA] at hc
          rw [hZB] at hc2
          clear hZA hZB
          generalize za.l[j] = x at *
          generalize zb.l[j] = y at *
          have hw1 : wrap64 (x + b) = x + b := by unfold wrap64; omega
          have hw2 : wrap64 (x - b) = x - b := by unfold wrap64; omega
          by_cases hneg : x < 0
          · have hyv : (y != x - b) = false := by rw [bne_eq_false_iff_eq, HY.out]; unfold mvT; rw [if_pos hneg]
            clear hx
            go_wp2
            go_roundw
            case rel => exact ⟨j + 1, by omega, by go_num, B3.out⟩
            case measure => simp [intOf]; omega
          · have hyv : (y != x + b) = false := by rw [bne_eq_false_iff_eq, HY.out]; unfold mvT; rw [if_neg hneg]
            clear hx
            go_wp2
            go_roundw
            case rel => exact ⟨j + 1, by omega, by go_num, B3.out⟩
            case measure => simp [intOf]; omega
        · obtain rfl : j = za.l.length := by omega
          go_wp2
          go_roundw
          case rel => exact ⟨k + 1, by omega, by go_num, B3.out⟩
          case measure => simp [intOf]; omega
    · obtain rfl : k = K.length := by omega
      go_wp2
      go_ret
      exact ⟨rfl, B2.out⟩
set_option maxHeartbeats 16000000 in
set_option maxRecDepth 100000 in
theorem lawM_walk {N : Nat} (P : Prog12 N) (c : Cir) (s : Places) (L : List Clz) (A : Option Addr) (q : Nat) (base : Int) (w : World) (h : CLies w w.heap.size c s) (hf : CFits c s) (hA : ALies w w.heap.size A L) (hN : L.length * 3 ≤ N) (hN2 : ∀ z ∈ L, z.l.length ≤ N) :
    Calls Try.prog 11 #[cirV c s, .slice A L.length q, .int .i64 base] w fun e w' => e = .returned (.bool true) ∧ Below w.heap.size w w' := by
  obtain ⟨WA, hWA⟩ : ∃ x, w.alloc (.cells #[.int .i64 c.max, .slice s.ai c.ins.length s.ki, .slice s.al c.lats.length s.kl, .slice s.ao c.outs.length s.ko, .slice s.ab c.bads.length s.kb, .slice s.ac c.invs.length s.kc, .slice s.aa c.ands.length s.ka, .slice s.an c.names.length s.kn] 27) = x := ⟨_, rfl⟩
  have bA : Hid (Below w.heap.size w WA) := by unfold Hid; rw [← hWA]; exact (Below.refl _ _).alloc (Nat.le_refl _) _
  have GA : Hid (WA.heap[w.heap.size]? = some (.cells (cirC c s) 27 (0, 0))) := by unfold Hid; rw [← hWA]; exact Array.getElem?_push_size
  have GW : Hid (∀ x, Below WA.heap.size WA x → x.heap[w.heap.size]? = some (.cells (cirC c s) 27 (0, 0))) := fun x hx => (hx.block _ (lt_of_block GA.out)).trans GA.out
  have CW : Hid (∀ x, Below WA.heap.size WA x → CLies x x.heap.size c s) := fun x hx => by
    have h1 := bA.out.trans (hx.mono bA.out.size)
    exact (h.below h1).more h1.size
  have HF := Lib.hid hf
  have AL := Lib.hid (alive_any P WA)
  have AW : Hid (∀ x, Below WA.heap.size WA x → ALies x x.heap.size A L) := fun x hx => by
    have h1 := bA.out.trans (hx.mono bA.out.size)
    exact (hA.below h1).more h1.size
  have HN2 := Lib.hid hN2
  clear h hf hA hN2
  obtain ⟨r0, hr0⟩ : ∃ y, base.tmod 1000 = y := ⟨_, rfl⟩
  have hr1 : -999 ≤ r0 ∧ r0 ≤ 999 := by
    rw [← hr0]
    by_cases hp : 0 ≤ base
    · rw [Int.tmod_eq_emod_of_nonneg hp]; omega
    · rw [show base = -(-base) by omega, Int.neg_tmod, Int.tmod_eq_emod_of_nonneg (show 0 ≤ -base by omega)]; omega
  obtain ⟨bb, hbb⟩ : ∃ y, (r0 + 1000).tmod 1000 = y := ⟨_, rfl⟩
  have hb01 : 0 ≤ bb ∧ bb ≤ 999 := by
    rw [← hbb, Int.tmod_eq_emod_of_nonneg (by omega)]
    omega
  obtain ⟨hb0, hb1⟩ := hb01
  have hw1 : wrap64 (r0 + 1000) = r0 + 1000 := by unfold wrap64; omega
  have ERR : Hid (errT c bb = errT c 0) := by
    unfold Hid errT
    rw [if_neg (show ¬ bb < 0 by omega), if_neg (show ¬ 262144 < bb by omega)]
    rfl
  have GS : Hid (gListT c bb = (gListT c 0).map fun l => l.map (mvT bb)) := by
    unfold Hid gListT
    rw [ERR.out]
    split
    · exact gates_move c hb0 (by omega)
    · rfl
  have FS : Hid (fListT c (L.map Clz.l) bb = (fListT c (L.map Clz.l) 0).map fun l => l.map (mvT bb)) := by
    unfold Hid fListT
    rw [ERR.out]
    split
    · exact force_move c _ hb0 (by omega)
    · rfl
  have GZ : Hid (∀ l ∈ gListT c 0, ∀ x ∈ l, -4096 ≤ x ∧ x ≤ 4096) := by
    unfold Hid gListT
    split
    · rename_i he
      refine gates_small ?_
      unfold errT at he
      cases hr : refOk c with
      | true => rfl
      | false => rw [if_pos hr] at he; exact absurd he (by decide)
    · exact fun l hl => (List.not_mem_nil hl).elim
  have FZ : Hid (∀ l ∈ fListT c (L.map Clz.l) 0, ∀ x ∈ l, -4096 ≤ x ∧ x ≤ 4096) := by
    unfold Hid fListT
    split
    · exact force_small c _
    · exact fun l hl => (List.not_mem_nil hl).elim
  have HR1 := Lib.hid hr1
  unfold cirV
  rw [show cirC c s = #[.int .i64 c.max, .slice s.ai c.ins.length s.ki, .slice s.al c.lats.length s.kl, .slice s.ao c.outs.length s.ko, .slice s.ab c.bads.length s.kb, .slice s.ac c.invs.length s.kc, .slice s.aa c.ands.length s.ka, .slice s.an c.names.length s.kn] from rfl]
  go_enter Try.func11, Try.ntmps11
  go_wp2_with fail
  refine AL.out.mono ?_
  rintro e w1 ⟨rfl, hb1'⟩
  have B1 := Lib.hid hb1'
  clear hb1' AL hWA
  have G1 := Lib.hid (P.gates c s 0 w1 (CW.out _ B1.out) HF.out (by unfold I64; decide))
  obtain ⟨e0, e1, e2, e3, e4, e5, e6, e7⟩ := cells8 (GW.out _ B1.out)
  unfold cirV at G1
  rw [show cirC c s = #[.int .i64 c.max, .slice s.ai c.ins.length s.ki, .slice s.al c.lats.length s.kl, .slice s.ao c.outs.length s.ko, .slice s.ab c.bads.length s.kb, .slice s.ac c.invs.length s.kc, .slice s.aa c.ands.length s.ka, .slice s.an c.names.length s.kn] from rfl] at G1
  obtain ⟨ee, hee⟩ : ∃ y, errT c 0 = y := ⟨_, rfl⟩
  have HEE := Lib.hid hee
  rw [hee] at G1
  clear hee
  go_wp2_with fail
  refine G1.out.mono ?_
  rintro e w2 ⟨⟨K1, A1, q1, rfl, hK1, hM1⟩, hb2⟩
  have HK1 := Lib.hid hK1
  have HM1 := Lib.hid hM1
  have B2 : Hid (Below WA.heap.size WA w2) := B1.out.trans (hb2.mono B1.out.size)
  clear hK1 hM1 hb2 G1 e0 e1 e2 e3 e4 e5 e6 e7
  have G2 := Lib.hid (P.gates c s bb w2 (CW.out _ B2.out) HF.out (by unfold I64; omega))
  obtain ⟨e0, e1, e2, e3, e4, e5, e6, e7⟩ := cells8 (GW.out _ B2.out)
  unfold cirV at G2
  rw [show cirC c s = #[.int .i64 c.max, .slice s.ai c.ins.length s.ki, .slice s.al c.lats.length s.kl, .slice s.ao c.outs.length s.ko, .slice s.ab c.bads.length s.kb, .slice s.ac c.invs.length s.kc, .slice s.aa c.ands.length s.ka, .slice s.an c.names.length s.kn] from rfl, ERR.out, HEE.out] at G2
  go_wp2_with fail
  refine G2.out.mono ?_
  rintro e w3 ⟨⟨K2, A2, q2, rfl, hK2, hM2⟩, hb3⟩
  have HK1' := Lib.hid ((HK1.out.below hb3).more hb3.size)
  have HK2 := Lib.hid hK2
  have HM2 := Lib.hid hM2
  have B3 : Hid (Below WA.heap.size WA w3) := B2.out.trans (hb3.mono B2.out.size)
  clear hK2 hM2 hb3 G2 e0 e1 e2 e3 e4 e5 e6 e7 HK1 hr0 hbb hw1
  have G3 := Lib.hid (P.force c s L A q 0 w3 (CW.out _ B3.out) HF.out (AW.out _ B3.out) (by unfold I64; decide) hN HN2.out)
  obtain ⟨e0, e1, e2, e3, e4, e5, e6, e7⟩ := cells8 (GW.out _ B3.out)
  unfold cirV at G3
  rw [show cirC c s = #[.int .i64 c.max, .slice s.ai c.ins.length s.ki, .slice s.al c.lats.length s.kl, .slice s.ao c.outs.length s.ko, .slice s.ab c.bads.length s.kb, .slice s.ac c.invs.length s.kc, .slice s.aa c.ands.length s.ka, .slice s.an c.names.length s.kn] from rfl, HEE.out] at G3
  go_wp2_with fail
  refine G3.out.mono ?_
  rintro e w4 ⟨⟨K3, A3, q3, rfl, hK3, hM3⟩, hb4⟩
  have HK1'' := Lib.hid ((HK1'.out.below hb4).more hb4.size)
  have HK2' := Lib.hid ((HK2.out.below hb4).more hb4.size)
  have HK3 := Lib.hid hK3
  have HM3 := Lib.hid hM3
  have B4 : Hid (Below WA.heap.size WA w4) := B3.out.trans (hb4.mono B3.out.size)
  clear hK3 hM3 hb4 G3 e0 e1 e2 e3 e4 e5 e6 e7 HK1' HK2
  have G4 := Lib.hid (P.force c s L A q bb w4 (CW.out _ B4.out) HF.out (AW.out _ B4.out) (by unfold I64; omega) hN HN2.out)
  obtain ⟨e0, e1, e2, e3, e4, e5, e6, e7⟩ := cells8 (GW.out _ B4.out)
  unfold cirV at G4
  rw [show cirC c s = #[.int .i64 c.max, .slice s.ai c.ins.length s.ki, .slice s.al c.lats.length s.kl, .slice s.ao c.outs.length s.ko, .slice s.ab c.bads.length s.kb, .slice s.ac c.invs.length s.kc, .slice s.aa c.ands.length s.ka, .slice s.an c.names.length s.kn] from rfl, ERR.out, HEE.out] at G4
  go_wp2_with fail
  refine G4.out.mono ?_
  rintro e w5 ⟨⟨K4, A4, q4, rfl, hK4, hM4⟩, hb5⟩
  have I1 := Lib.hid ((HK1''.out.below hb5).more hb5.size)
  have I2 := Lib.hid ((HK2'.out.below hb5).more hb5.size)
  have I3 := Lib.hid ((HK3.out.below hb5).more hb5.size)
  have I4 := Lib.hid hK4
  have B5 : Hid (Below w.heap.size w w5) := bA.out.trans ((B4.out.trans (hb5.mono B4.out.size)).mono bA.out.size)
  have M12 : Hid (K2.map Clz.l = (K1.map Clz.l).map fun l => l.map (mvT bb)) := by unfold Hid; rw [HM2.out, HM1.out, GS.out]
  have M34 : Hid (K4.map Clz.l = (K3.map Clz.l).map fun l => l.map (mvT bb)) := by unfold Hid; rw [hM4, HM3.out, FS.out]
  have Z1 : Hid (∀ l ∈ K1.map Clz.l, ∀ x ∈ l, -4096 ≤ x ∧ x ≤ 4096) := by unfold Hid; rw [HM1.out]; exact GZ.out
  have Z3 : Hid (∀ l ∈ K3.map Clz.l, ∀ x ∈ l, -4096 ≤ x ∧ x ≤ 4096) := by unfold Hid; rw [HM3.out]; exact FZ.out
  have l12 : ((K1.length : Int) != (K2.length : Int)) = false := by
    have := congrArg List.length M12.out
    rw [List.length_map, List.length_map, List.length_map] at this
    rw [bne_eq_false_iff_eq]; omega
  have l34 : ((K3.length : Int) != (K4.length : Int)) = false := by
    have := congrArg List.length M34.out
    rw [List.length_map, List.length_map, List.length_map] at this
    rw [bne_eq_false_iff_eq]; omega
  clear hK4 hM4 hb5 G4 e0 e1 e2 e3 e4 e5 e6 e7
  have hee : (ee != ee) = false := by simp
  have MV1 := Lib.hid (moved_any K1 K2 A1 A2 q1 q2 bb w5 I1.out I2.out hb0 hb1 M12.out Z1.out)
  go_wp2_with fail
  refine MV1.out.mono ?_
  rintro e w6 ⟨rfl, hb6⟩
  have B6 : Hid (Below w.heap.size w w6) := B5.out.trans (hb6.mono B5.out.size)
  have MV2 := Lib.hid (moved_any K3 K4 A3 A4 q3 q4 bb w6 ((I3.out.below hb6).more hb6.size) ((I4.out.below hb6).more hb6.size) hb0 hb1 M34.out Z3.out)
  clear hb6 MV1
  go_wp2_with fail
  refine MV2.out.mono ?_
  rintro e w7 ⟨rfl, hb7⟩
  have B7 : Hid (Below w.heap.size w w7) := B6.out.trans (hb7.mono B6.out.size)
  clear hb7 MV2
  go_wp2
  go_ret
  exact ⟨rfl, B7.out⟩
end Go.Proofs.Ytjlnffkieocihaa.Tse
namespace Go.Proofs.Ytjlnffkieocihaa.Tse
open Go.ChangeShapes Go.WideShapes Go.ChangeAt Go.RowKit Go.Maps Go.Deep Circ Cw Cla Rep

section
variable {H : Type} {enc : TypeId × Value → H} {w : World}
set_option maxRecDepth 100000 in
/-- an argument that is a list of clauses; how long it and they may be -/
theorem open_clausesN {r : Reach} {b0 : Nat} {v : Value} {d : DataW H} {p : List MemPlace} (hv : Value.okWide Try.prog w r b0 58 v) (h : DataW.Trod enc Try.prog w 0 (fun _ => true) true 58 v d p)
    (hw : ∀ n ∈ DataW.weights Try.prog 58 d, n ≤ reachBytes) : ∃ (A : Option Addr) (L : List Clz) (q : Nat), v = .slice A L.length q ∧ ALies w w.heap.size A L ∧ L.length * 24 ≤ 140737488355328 ∧ ∀ z ∈ L, z.l.length * 8 ≤ 140737488355328 := by
  obtain ⟨fuel, ht⟩ := h
  obtain ⟨A1, L, q1, e1, r1, f1, k1, z1⟩ := open_rowsW 1 (by decide) Clz.cells (fun z => z.Lies w w.heap.size ∧ z.l.length * 8 ≤ 140737488355328) (fun _ => rfl) Try.underlying58 (by kernel_rfl) (fun n cs' y h hk => by
    obtain ⟨A2, cl, q2, e2, r2, f2, k2, z2⟩ := open_rows 1 (by decide) (fun x : Int => [Value.int .i64 x]) I64 (fun _ => rfl) Try.underlying22 c3 (fun n cs' y h => el_int h) h
    have hbl : cl.length * 8 ≤ 140737488355328 := row_bytes (l := cl) 8 (by kernel_rfl) Try.underlying22 z2 hk
    have hlen : cl.length ≤ 9223372036854775807 := by omega
    exact ⟨⟨cl, A2, q2⟩, e2, ⟨r2, f2, hlen⟩, hbl⟩) ht hw
  have hv1 : v = .slice A1 L.length q1 := by
    obtain ⟨a0, len, cap, rfl⟩ := okWide_slice Try.underlying58 hv
    simpa [Value.cells] using e1
  have hbl : L.length * 24 ≤ 140737488355328 := row_bytes (l := L) 24 (by kernel_rfl) Try.underlying58 z1 hw
  have hlen : L.length ≤ 9223372036854775807 := by omega
  exact ⟨A1, L, q1, hv1, ⟨r1, fun z hz => (f1 z hz).1, hlen⟩, hbl, fun z hz => (f1 z hz).2⟩
end
set_option maxRecDepth 100000 in
theorem values_core {N : Nat} (P : Prog12 N) {H : Type} {enc : TypeId × Value → H} (W : World)
    (v0 : Value) (d0 : DataW H) (p0 : List MemPlace) {r0 : Reach} {b0 : Nat} (hv0 : Value.okWide Try.prog W r0 b0 27 v0) (h0 : DataW.Trod enc Try.prog W 0 (fun _ => true) true 27 v0 d0 p0)
    (s1 : ByteArray) (hs1 : s1.size ≤ maxLen)
    (s2 : ByteArray) (hs2 : s2.size ≤ maxLen)
    (x3 : Int) (_lo3 : 0 ≤ x3) (_hi3 : x3 ≤ 18446744073709551615)
    {d1 d2 d3 : DataW H}
    {ts : List TypeId} {ds : List (DataW H)} (hsz : (DataW.weightsEach Try.prog (27 :: 9 :: 9 :: 28 :: ts) (d0 :: d1 :: d2 :: d3 :: ds)).all (· ≤ reachBytes) = true) :
    Calls Try.prog 9 #[v0, .string s1, .string s2, .int .u64 x3] W fun e W' => e = .returned (.bool true) ∧ Below W.heap.size W W' := by
  obtain ⟨c0, p0, rfl, l0, f0⟩ := open_circ hv0 h0 (of_weights hsz 0 rfl rfl)
  unfold maxLen at hs1
  unfold maxLen at hs2
  exact lawV_walk P c0 p0 s1 s2 x3 W l0 f0 hs1 hs2
set_option maxRecDepth 100000 in
theorem force_core (P : Prog12 17592186044416) {H : Type} {enc : TypeId × Value → H} (W : World)
    (v0 : Value) (d0 : DataW H) (p0 : List MemPlace) {r0 : Reach} {b0 : Nat} (hv0 : Value.okWide Try.prog W r0 b0 27 v0) (h0 : DataW.Trod enc Try.prog W 0 (fun _ => true) true 27 v0 d0 p0)
    (v1 : Value) (d1 : DataW H) (p1 : List MemPlace) {r1 : Reach} {b1 : Nat} (hv1 : Value.okWide Try.prog W r1 b1 58 v1) (h1 : DataW.Trod enc Try.prog W 0 (fun _ => true) true 58 v1 d1 p1)
    (s2 : ByteArray) (hs2 : s2.size ≤ maxLen)
    (s3 : ByteArray) (hs3 : s3.size ≤ maxLen)
    {d2 d3 : DataW H}
    {ts : List TypeId} {ds : List (DataW H)} (hsz : (DataW.weightsEach Try.prog (27 :: 58 :: 9 :: 9 :: ts) (d0 :: d1 :: d2 :: d3 :: ds)).all (· ≤ reachBytes) = true) :
    Calls Try.prog 10 #[v0, v1, .string s2, .string s3] W fun e W' => e = .returned (.bool true) ∧ Below W.heap.size W W' := by
  obtain ⟨c0, p0, rfl, l0, f0⟩ := open_circ hv0 h0 (of_weights hsz 0 rfl rfl)
  obtain ⟨A1, L1, q1, rfl, a1, z1, y1⟩ := open_clausesN hv1 h1 (of_weights hsz 1 rfl rfl)
  unfold maxLen at hs2
  unfold maxLen at hs3
  exact lawF_walk P c0 p0 L1 A1 q1 s2 s3 W l0 f0 a1 hs2 hs3 (by omega) (fun z hz => by have := y1 z hz; omega)
set_option maxRecDepth 100000 in
theorem moves_core (P : Prog12 17592186044416) {H : Type} {enc : TypeId × Value → H} (W : World)
    (v0 : Value) (d0 : DataW H) (p0 : List MemPlace) {r0 : Reach} {b0 : Nat} (hv0 : Value.okWide Try.prog W r0 b0 27 v0) (h0 : DataW.Trod enc Try.prog W 0 (fun _ => true) true 27 v0 d0 p0)
    (v1 : Value) (d1 : DataW H) (p1 : List MemPlace) {r1 : Reach} {b1 : Nat} (hv1 : Value.okWide Try.prog W r1 b1 58 v1) (h1 : DataW.Trod enc Try.prog W 0 (fun _ => true) true 58 v1 d1 p1)
    (x2 : Int) (_lo2 : -9223372036854775808 ≤ x2) (_hi2 : x2 ≤ 9223372036854775807)
    {d2 : DataW H}
    {ts : List TypeId} {ds : List (DataW H)} (hsz : (DataW.weightsEach Try.prog (27 :: 58 :: 3 :: ts) (d0 :: d1 :: d2 :: ds)).all (· ≤ reachBytes) = true) :
    Calls Try.prog 11 #[v0, v1, .int .i64 x2] W fun e W' => e = .returned (.bool true) ∧ Below W.heap.size W W' := by
  obtain ⟨c0, p0, rfl, l0, f0⟩ := open_circ hv0 h0 (of_weights hsz 0 rfl rfl)
  obtain ⟨A1, L1, q1, rfl, a1, z1, y1⟩ := open_clausesN hv1 h1 (of_weights hsz 1 rfl rfl)
  exact lawM_walk P c0 p0 L1 A1 q1 x2 W l0 f0 a1 (by omega) (fun z hz => by have := y1 z hz; omega)
end Go.Proofs.Ytjlnffkieocihaa.Tse
