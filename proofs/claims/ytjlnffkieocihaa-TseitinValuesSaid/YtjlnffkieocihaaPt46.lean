/- tseitin.Force; what the laws of layer 12 ask; condition: at most 2^47 bytes of clauses. The cores of layer 12's laws beside the program's own functions; no condition. -/
import Derived.Test.YtjlnffkieocihaaPt45
import Derived.Test.YtjlnffkieocihaaPt41
namespace Go.Proofs.Ytjlnffkieocihaa.Tse
open Go.ChangeShapes Go.WideShapes Go.ChangeAt Go.RowKit Go.Maps Circ Cw Str Sim Rep Cla

set_option maxHeartbeats 16000000 in
set_option maxRecDepth 100000 in
theorem force_no (c : Cir) (s : Places) (A : Option Addr) (n q : Nat) (b : Int) (w : World) (h : CLies w w.heap.size c s) (hf : CFits c s) (he : errT c b ≠ 0) :
    Calls Try.prog 40 #[cirV c s, .slice A n q, .int .i64 b] w fun e w' => e = .returned (.tuple #[.slice none 0 0, .int .i64 (errT c b)]) ∧ Below w.heap.size w w' := by
  obtain ⟨WA, hWA⟩ : ∃ x, w.alloc (.cells #[.int .i64 c.max, .slice s.ai c.ins.length s.ki, .slice s.al c.lats.length s.kl, .slice s.ao c.outs.length s.ko, .slice s.ab c.bads.length s.kb, .slice s.ac c.invs.length s.kc, .slice s.aa c.ands.length s.ka, .slice s.an c.names.length s.kn] 27) = x := ⟨_, rfl⟩
  have bA : Hid (Below w.heap.size w WA) := by unfold Hid; rw [← hWA]; exact (Below.refl _ _).alloc (Nat.le_refl _) _
  have GA : Hid (WA.heap[w.heap.size]? = some (.cells (cirC c s) 27 (0, 0))) := by unfold Hid; rw [← hWA]; exact Array.getElem?_push_size
  obtain ⟨e0, e1, e2, e3, e4, e5, e6, e7⟩ := cells8 GA.out
  have LW : Hid (∀ x, Below w.heap.size w x → CLies x x.heap.size c s) := fun x hx => (h.below hx).more hx.size
  have CK := Lib.hid (pcheck_any c s b WA (LW.out WA bA.out) hf)
  have hne : (errT c b != 0) = true := bne_iff_ne.2 he
  clear h hf he
  generalize errT c b = x at *
  unfold cirV at CK ⊢
  rw [show cirC c s = #[.int .i64 c.max, .slice s.ai c.ins.length s.ki, .slice s.al c.lats.length s.kl, .slice s.ao c.outs.length s.ko, .slice s.ab c.bads.length s.kb, .slice s.ac c.invs.length s.kc, .slice s.aa c.ands.length s.ka, .slice s.an c.names.length s.kn] from rfl] at CK ⊢
  go_enter Try.func40, Try.ntmps40
  go_wp2_with fail
  refine CK.out.mono ?_
  rintro e w1 ⟨rfl, hb⟩
  have B1 : Hid (Below w.heap.size w w1) := bA.out.trans (hb.mono bA.out.size)
  have G1 : Hid (w1.heap[w.heap.size]? = some (.cells (cirC c s) 27 (0, 0))) := (hb.block _ (lt_of_block GA.out)).trans GA.out
  clear e0 e1 e2 e3 e4 e5 e6 e7 hWA CK hb
  go_wp2
  go_ret2
  exact ⟨rfl, B1.out⟩
set_option maxHeartbeats 16000000 in
set_option maxRecDepth 100000 in
theorem force_yes (c : Cir) (s : Places) (L : List Clz) (A : Option Addr) (q : Nat) (b : Int) (w : World) (h : CLies w w.heap.size c s) (hf : CFits c s) (hA : ALies w w.heap.size A L) (hn : L.length * 3 ≤ 17592186044416) (hz : ∀ z ∈ L, z.l.length ≤ 17592186044416) (he : errT c b = 0) :
    Calls Try.prog 40 #[cirV c s, .slice A L.length q, .int .i64 b] w fun e w' => (∃ K A' q', e = .returned (.tuple #[.slice A' K.length q', .int .i64 0]) ∧ ALies w' w'.heap.size A' K ∧ K.map Clz.l = forceT c (L.map Clz.l) b) ∧ Below w.heap.size w w' := by
  obtain ⟨WA, hWA⟩ : ∃ x, w.alloc (.cells #[.int .i64 c.max, .slice s.ai c.ins.length s.ki, .slice s.al c.lats.length s.kl, .slice s.ao c.outs.length s.ko, .slice s.ab c.bads.length s.kb, .slice s.ac c.invs.length s.kc, .slice s.aa c.ands.length s.ka, .slice s.an c.names.length s.kn] 27) = x := ⟨_, rfl⟩
  have bA : Hid (Below w.heap.size w WA) := by unfold Hid; rw [← hWA]; exact (Below.refl _ _).alloc (Nat.le_refl _) _
  have GA : Hid (WA.heap[w.heap.size]? = some (.cells (cirC c s) 27 (0, 0))) := by unfold Hid; rw [← hWA]; exact Array.getElem?_push_size
  obtain ⟨e0, e1, e2, e3, e4, e5, e6, e7⟩ := cells8 GA.out
  have LW : Hid (∀ x, Below w.heap.size w x → CLies x x.heap.size c s) := fun x hx => (h.below hx).more hx.size
  have CK := Lib.hid (pcheck_any c s b WA (LW.out WA bA.out) hf)
  rw [he] at CK
  have hok : refOk c = true := by
    cases hr : refOk c with
    | true => rfl
    | false => unfold errT at he; rw [hr, if_pos rfl] at he; cases he
  have HF := Lib.hid hf
  have HZ := Lib.hid (ref_sizes hok)
  have HZL := Lib.hid hz
  have HNL := Lib.hid hn
  have AL := Lib.hid hA
  have hLL := hA.len
  have FA := Lib.hid (fun x => from_any b x)
  clear h hf he hok hA hn hz
  unfold cirV at CK ⊢
  rw [show cirC c s = #[.int .i64 c.max, .slice s.ai c.ins.length s.ki, .slice s.al c.lats.length s.kl, .slice s.ao c.outs.length s.ko, .slice s.ab c.bads.length s.kb, .slice s.ac c.invs.length s.kc, .slice s.aa c.ands.length s.ka, .slice s.an c.names.length s.kn] from rfl] at CK ⊢
  go_enter Try.func40, Try.ntmps40
  go_wp2_with fail
  refine CK.out.mono ?_
  rintro e w1 ⟨rfl, hb⟩
  have B1 : Hid (Below w.heap.size w w1) := bA.out.trans (hb.mono bA.out.size)
  have G1 : Hid (w1.heap[w.heap.size]? = some (.cells (cirC c s) 27 (0, 0))) := (hb.block _ (lt_of_block GA.out)).trans GA.out
  clear e0 e1 e2 e3 e4 e5 e6 e7 hWA CK hb
  obtain ⟨e0, e1, e2, e3, e4, e5, e6, e7⟩ := cells8 G1.out
  go_wp2_with fail
  refine (FA.out w1).mono ?_
  unfold litV
  rintro e w3 ⟨⟨bx, rfl, -, hbx⟩, hb⟩
  have BX := Lib.hid hbx
  have B3 : Hid (Below w.heap.size w w3) := B1.out.trans (hb.mono B1.out.size)
  have G3 : Hid (w3.heap[w.heap.size]? = some (.cells (cirC c s) 27 (0, 0))) := (hb.block _ (lt_of_block G1.out)).trans G1.out
  clear e0 e1 e2 e3 e4 e5 e6 e7 hbx hb FA
  obtain ⟨e0, e1, e2, e3, e4, e5, e6, e7⟩ := cells8 G3.out
  go_wp2
  clear e0 e1 e2 e3 e4 e5 e6 e7
  go_loopw [9, 26] (fun v i wr => ∃ (k : Nat) (vv : Value) (K : List Clz), k ≤ c.invs.length ∧ i = .int .i64 k ∧ vv = v ∧ Mk wr w3.heap.size vv K ∧ K.map Clz.l = (c.invs.take k).map (fun l => [litT b l]) ∧ K.length ≤ k ∧ Below w3.heap.size w3 wr) (fun _ i _ => c.invs.length - (intOf i).toNat)
  case atStart => exact ⟨0, _, [], Nat.zero_le _, rfl, rfl, Mk.nil _ _, rfl, Nat.le_refl _, Below.refl _ _⟩
  case round =>
    obtain ⟨k, v1, K, hk, rfl, rfl, hmk, hkl, hkn, hb⟩ := hrel
    have MK := Lib.hid hmk
    have HKF := Lib.hid hkl
    have HKL := Lib.hid hkn
    have BK := Lib.hid hb
    clear hmk hkl hkn hb
    have zi : c.invs.length ≤ 64 := HZ.out.2.2.2.2.1
    by_cases hlt : k < c.invs.length
    · obtain ⟨b0, o, hA, -, hc⟩ := LRow.int (LW.out wr (B3.out.trans (BK.out.mono B3.out.size))).invs hlt
      have L1 := Lib.hid (from1_any b c.invs[k] bx wr (HF.out.invs _ (List.getElem_mem hlt)) (BX.out.below BK.out BX.out.lt))
      have HN2 : Hid (K.map Clz.l ++ [[litT b c.invs[k]]] = (c.invs.take (k + 1)).map (fun l => [litT b l])) := by
        unfold Hid; rw [List.take_succ_eq_append_getElem hlt, List.map_append, HKF.out]; rfl
      have HY : Hid (I64 (litT b c.invs[k])) := lit_i64 _ _
      rw [hA]
      clear hA
      generalize litT b c.invs[k] = y at *
      generalize c.invs[k] = x at *
      go_wp2_with fail
      refine L1.out.mono ?_
      rintro e w2 ⟨rfl, hb2⟩
      have MK2 := Lib.hid (MK.out.below hb2)
      have B2 := Lib.hid (BK.out.trans (hb2.mono BK.out.size))
      clear hb2 L1 MK hc
      obtain ⟨V1, V2, hV1, hV2, bV, mV, cV, lV⟩ := one_made w2 y (HY.out)
      have MV := Lib.hid mV
      have BV := Lib.hid bV
      have CV := Lib.hid cV
      have LV := Lib.hid lV
      have O2 := Lib.hid (MK2.out.below bV)
      have HONE : Hid (∀ u ∈ [Value.slice (some ⟨w2.heap.size, 0, none⟩) 1 1], u.oneCell' = true) := fun u hu => by
        simp only [List.mem_singleton] at hu
        subst hu; rfl
      clear mV bV cV lV
      go_wp2_with (at_builtin; refine wpList_push_far _ rfl (.tmp 30) (.tmp 35) 58 rfl 22 1 24 (.slice none 0 0) Try.underlying58 row_info rfl (by decide) w3.heap.size v1 _ O2.out.own rfl V1.heap.size 1 rfl [.slice (some ⟨w2.heap.size, 0, none⟩) 1 1] CV.out rfl HONE.out (by have h1 := HKL.out; rw [List.length_map]; omega) (by have h1 := HKL.out; rw [List.length_map]; omega) (Nat.le_trans B2.out.size BV.out.size) ?_)
      intro v2 w6 hown hbel hkeep
      have MK6 : Hid (Mk w6 w3.heap.size v2 (K ++ [(⟨[y], some ⟨w2.heap.size, 0, none⟩, 1⟩ : Clz)])) := O2.out.push MV.out hown hkeep
      have B6 : Hid (Below w3.heap.size w3 w6) := (B2.out.trans (BV.out.mono B2.out.size)).trans hbel
      clear hown hbel hkeep hV1 hV2
      go_wp2
      go_roundw
      case rel => exact ⟨k + 1, _, _, by omega, by go_num, rfl, MK6.out, by rw [List.map_append]; exact HN2.out, by have := HKL.out; simp; omega, B6.out⟩
      case measure => simp [intOf]; omega
    · obtain rfl : k = c.invs.length := by omega
      obtain ⟨wq, rfl⟩ : ∃ x, x = wr := ⟨_, rfl⟩
      go_wp2
      go_loopw [9, 40] (fun v i wr => ∃ (j : Nat) (vv : Value) (K : List Clz), j ≤ L.length ∧ i = .int .i64 j ∧ vv = v ∧ Mk wr w3.heap.size vv K ∧ K.map Clz.l = (c.invs.map fun l => [litT b l]) ++ ((L.take j).map Clz.l).map (fun l => l.map (litT b)) ∧ K.length ≤ 64 + j ∧ Below w3.heap.size w3 wr) (fun _ i _ => L.length - (intOf i).toNat)
      case atStart => exact ⟨0, _, K, Nat.zero_le _, rfl, rfl, MK.out, by rw [HKF.out, List.take_length]; simp, by have := HKL.out; omega, BK.out⟩
      case round =>
        clear MK HKF HKL BK hk
        obtain ⟨j, v1, K, hj, rfl, rfl, hmk, hkl, hkn, hb⟩ := hrel
        have MK := Lib.hid hmk
        have HKF := Lib.hid hkl
        have HKL := Lib.hid hkn
        have BK := Lib.hid hb
        clear hmk hkl hkn hb
        by_cases hlt : j < L.length
        · obtain ⟨b0, o, hA, -, hc⟩ := (AL.out.below (B3.out.trans (BK.out.mono B3.out.size))).at hlt
          have hl2 : ILies wr wr.heap.size L[j].A L[j].l := by
            have hq := (B3.out.trans (BK.out.mono B3.out.size))
            exact clz_lies (((AL.out.below hq).more hq.size).each _ (List.getElem_mem hlt))
          have E1 := Lib.hid (each_any b bx L[j].l L[j].A L[j].q wr hl2 (BX.out.below BK.out BX.out.lt) (by have := HZL.out _ (List.getElem_mem hlt); omega))
          have HN2 : Hid (K.map Clz.l ++ [L[j].l.map (litT b)] = (c.invs.map fun l => [litT b l]) ++ ((L.take (j + 1)).map Clz.l).map (fun l => l.map (litT b))) := by
            unfold Hid; rw [List.take_succ_eq_append_getElem hlt, List.map_append, List.map_append, HKF.out, List.append_assoc]; rfl
          subst hA
          clear hl2
          unfold litV at E1
          generalize L[j].l.map (litT b) = ys at *
          generalize L[j] = z at *
          go_wp2_with fail
          refine E1.out.mono ?_
          rintro e w2 ⟨⟨A5, q5, rfl, hmz⟩, hb2⟩
          have MK2 := Lib.hid (MK.out.below hb2)
          have B2 := Lib.hid (BK.out.trans (hb2.mono BK.out.size))
          have MZ := Lib.hid hmz
          clear hb2 hmz E1 MK hc
          obtain ⟨V2, hV2⟩ : ∃ x, w2.alloc (.cells #[.slice A5 ys.length q5] 22) = x := ⟨_, rfl⟩
          have bV : Below w2.heap.size w2 V2 := by rw [← hV2]; exact (Below.refl _ _).alloc (Nat.le_refl _) _
          have CV : Hid (∀ (j : Nat) u, [Value.slice A5 ys.length q5][j]? = some u → V2.cell? ⟨w2.heap.size, j, none⟩ = some u) := fun j u hj => by
            rw [← hV2, Lib.cell_of_heap (show (w2.alloc (.cells #[.slice A5 ys.length q5] 22)).heap[w2.heap.size]? = some (.cells #[.slice A5 ys.length q5] 22 (0, 0)) from Array.getElem?_push_size)]; simpa using hj
          have MV : Hid (∀ q ∈ [(⟨ys, A5, q5⟩ : Clz)], Mz V2 q) := fun q hq => by rw [List.mem_singleton.1 hq]; exact MZ.out.below bV
          have O2 := Lib.hid (MK2.out.below bV)
          have BV := Lib.hid bV
          have HONE : Hid (∀ u ∈ [Value.slice A5 ys.length q5], u.oneCell' = true) := fun u hu => by
            simp only [List.mem_singleton] at hu
            subst hu; rfl
          clear bV MZ MK2
          go_wp2_with (at_builtin; refine wpList_push_far _ rfl (.tmp 44) (.tmp 48) 58 rfl 22 1 24 (.slice none 0 0) Try.underlying58 row_info rfl (by decide) w3.heap.size v1 _ O2.out.own rfl w2.heap.size 1 rfl [.slice A5 ys.length q5] CV.out rfl HONE.out (by have h1 := HKL.out; have h2 := HNL.out; rw [List.length_map]; omega) (by have h1 := HKL.out; have h2 := HNL.out; rw [List.length_map]; omega) (Nat.le_trans B2.out.size BV.out.size) ?_)
          intro v2 w6 hown hbel hkeep
          have MK6 : Hid (Mk w6 w3.heap.size v2 (K ++ [(⟨ys, A5, q5⟩ : Clz)])) := O2.out.push MV.out hown hkeep
          have B6 : Hid (Below w3.heap.size w3 w6) := (B2.out.trans (BV.out.mono B2.out.size)).trans hbel
          clear hown hbel hkeep hV2
          go_wp2
          go_roundw
          case rel => exact ⟨j + 1, _, _, by omega, by go_num, rfl, MK6.out, by rw [List.map_append]; exact HN2.out, by have := HKL.out; simp; omega, B6.out⟩
          case measure => simp [intOf]; omega
        · obtain rfl : j = L.length := by omega
          have HE : Hid (K.map Clz.l = forceT c (L.map Clz.l) b) := by unfold Hid forceT; rw [HKF.out, List.take_length]
          obtain ⟨A', q', hv, hz⟩ := MK.out.lies
          have HV := Lib.hid hv
          have HL := Lib.hid hz
          have BE := Lib.hid (B3.out.trans (BK.out.mono B3.out.size))
          clear hv hz HKF
          go_wp2
          go_ret2
          exact ⟨⟨K, A', q', by rw [← HV.out]; rfl, HL.out, HE.out⟩, BE.out⟩
theorem prog12 : Prog12 17592186044416 where
  lit := fun b l w _ hl => plit_any b l w hl
  gates := fun c s b w h hf _ => pgates_any c s b w h hf
  force := fun c s L A q b w h hf hA _ hn hz => by
    by_cases he : errT c b = 0
    · refine (force_yes c s L A q b w h hf hA hn hz he).mono ?_
      rintro e w' ⟨⟨K, A', q', rfl, h1, h2⟩, hb⟩
      exact ⟨⟨K, A', q', by rw [he], h1, by unfold fListT; rw [if_pos he]; exact h2⟩, hb⟩
    · refine (force_no c s A L.length q b w h hf he).mono ?_
      rintro e w' ⟨rfl, hb⟩
      exact ⟨⟨[], none, 0, rfl, ⟨.inl rfl, fun z hz => (List.not_mem_nil hz).elim, by decide⟩, by unfold fListT; rw [if_neg he]; rfl⟩, hb⟩
end Go.Proofs.Ytjlnffkieocihaa.Tse
namespace Go.Proofs.Ytjlnffkieocihaa.Tse
/-- what the laws ask, at the bound that they use -/
theorem prog12F : Prog12 17592186044416 := prog12
end Go.Proofs.Ytjlnffkieocihaa.Tse
