/- TernaryAlways; no condition. -/
import Derived.Test.YthcigpklbhjglaaPt47
import Derived.Test.YthcigpklbhjglaaPt48
import Derived.Test.YthcigpklbhjglaaPt35
import Derived.Test.YthcigpklbhjglaaPt36
namespace Go.Proofs.Ythcigpklbhjglaa.Ter
open Go.ChangeShapes Go.WideShapes Go.ChangeAt Go.RowKit Go.Maps Circ Cw
open Str Sim

def ints64 (l : List Int) : List (List Value) := l.map fun x => [.int .u64 x]
theorem LRow_u64 {w : World} {B : Nat} {A : Option Addr} {l : List Int} (h : LRow w B 1 A (ints64 l)) {k : Nat} (hk : k < l.length) :
    ∃ b o, A = some ⟨b, o, none⟩ ∧ b < B ∧ w.cell? ⟨b, o + k, none⟩ = some (.int .u64 l[k]) := by
  rcases h with h | ⟨b, o, e, hb, hc⟩
  · simp [ints64] at h; subst h; simp at hk
  · refine ⟨b, o, e, hb, ?_⟩
    have := hc k [.int .u64 l[k]] (by simp [ints64, hk]) 0 _ rfl
    simpa using this
theorem lat_next {c : Cir} (hr : refOk c = true) : ∀ t ∈ c.lats, 0 ≤ t.b ∧ t.b / 2 ≤ c.max := fun t ht => by
  obtain ⟨-, h, -⟩ := ref_parts hr
  have h1 := List.all_eq_true.1 h t ht
  unfold latR at h1
  rw [Bool.and_eq_true] at h1
  exact Str.lit_bound hr h1.2
theorem nxt_bits (c : Cir) (v : List UInt8) : bitsM (sb (nxtL c v)) (c.lats.length : Int) = true := by
  unfold bitsM
  rw [sb_size, sb_list, decide_eq_true (by unfold nxtL; rw [bitL_len]), Bool.true_and, List.all_eq_true]
  intro y hy
  unfold nxtL bitL at hy
  obtain ⟨i, _, rfl⟩ := List.mem_map.1 hy
  show isBit (bitB (trueM v (c.lats.getD i ⟨0, 0, 0⟩).b)) = true
  generalize trueM v (c.lats.getD i ⟨0, 0, 0⟩).b = y
  cases y <;> rfl
theorem fst_trits (c : Cir) : tritsM (sb (fst0 c)) (c.lats.length : Int) = true := trits_of (fst0_len c) (fst0_isT c)
theorem xs_trits (n : Nat) : tritsM (sb (xsL n)) (n : Int) = true := trits_of List.length_replicate (fun y hy => by rw [(List.mem_replicate.1 hy).2]; exact .inr (.inr rfl))
theorem cov_fill {n : Nat} {s : List UInt8} (hs : s.length = n) (b : Int) : Cov s (fillM (sb s) b) := by
  refine ⟨by rw [fillM_len, sb_size], fun i => ?_⟩
  by_cases hi : i < n
  · have h := fillM_cov (sb s) b i (by rw [sb_size]; omega)
    rw [sb_list, sb_list] at h
    rwa [getD_in (by omega) 0 120, getD_in (by rw [fillM_len, sb_size]; omega) 0 120] at h
  · rw [List.getD_eq_getElem?_getD, List.getElem?_eq_none (by omega)]; exact .inr rfl
theorem fill_fst (c : Cir) (b : Int) {i : Nat} (h : i < c.lats.length) : (fillM (sb (fst0 c)) b).getD i 0 = if c.lats[i].c = c.lats[i].a then bitB (kbM b i) else if c.lats[i].c = 1 then 49 else 48 := by
  rw [fillM_at _ _ (by rw [sb_size, fst0_len]; exact h), sb_list]
  have e : (fst0 c).getD i 0 = if c.lats[i].c = c.lats[i].a then 120 else if c.lats[i].c = 1 then 49 else 48 := by
    rw [List.getD_eq_getElem?_getD, List.getElem?_eq_getElem (by rw [fst0_len]; exact h), Option.getD_some, fst_at c h]
  rw [e]
  by_cases h1 : c.lats[i].c = c.lats[i].a
  · rw [if_pos h1, if_pos rfl, if_pos h1]
  · rw [if_neg h1, if_neg h1]
    by_cases h2 : c.lats[i].c = 1
    · rw [if_pos h2, if_neg (by decide)]
    · rw [if_neg h2, if_neg (by decide)]
set_option maxHeartbeats 16000000 in
set_option maxRecDepth 100000 in
theorem always_walk (c : Cir) (s : Places) (b : Int) (l : List Int) (A : Option Addr) (q : Nat) (w : World) (h : CLies w w.heap.size c s) (hf : CFits c s) (hn : l.length ≤ 9223372036854775807) (hrow : LRow w w.heap.size 1 A (ints64 l)) :
    Calls Try.prog 12 #[cirV c s, .int .u64 b, .slice A l.length q] w fun e w' => e = .returned (.bool true) ∧ Below w.heap.size w w' := by
  obtain ⟨WA, hWA⟩ : ∃ x, w.alloc (.cells #[.int .i64 c.max, .slice s.ai c.ins.length s.ki, .slice s.al c.lats.length s.kl, .slice s.ao c.outs.length s.ko, .slice s.ab c.bads.length s.kb, .slice s.ac c.invs.length s.kc, .slice s.aa c.ands.length s.ka, .slice s.an c.names.length s.kn] 27) = x := ⟨_, rfl⟩
  have bA : Hid (Below w.heap.size w WA) := by unfold Hid; rw [← hWA]; exact (Below.refl _ _).alloc (Nat.le_refl _) _
  have GA : Hid (WA.heap[w.heap.size]? = some (.cells (cirC c s) 27 (0, 0))) := by unfold Hid; rw [← hWA]; exact Array.getElem?_push_size
  obtain ⟨e0, e1, e2, e3, e4, e5, e6, e7⟩ := cells8 GA.out
  have LW : Hid (∀ x, Below w.heap.size w x → CLies x x.heap.size c s) := fun x hx => (h.below hx).more hx.size
  have WA9 := Lib.hid (fun x hx => pwid_any c s 80 x (LW.out x hx) hf)
  have LR : Hid (∀ x, Below w.heap.size w x → LRow x x.heap.size 1 A (ints64 l)) := fun x hx => (hrow.below hx).more hx.size
  have hw9 := wnum_bounds c 80
  by_cases he : wErr c 80 = 0
  · obtain ⟨hok, -, -⟩ := werr_is he
    have hws : wStr c 80 = (widR c 80 (fst0 c)).1 := wstr_ok (mo := 80) he
    have hwn : wNum c 80 = ((widR c 80 (fst0 c)).2 : Nat) := wnum_ok (mo := 80) he
    rw [he] at WA9
    by_cases h80 : wNum c 80 < 80
    · have HFX : Hid (widS c (wStr c 80) = wStr c 80) := by unfold Hid; rw [hws]; exact widR_fix c 80 _ (by omega)
      have HSL : Hid ((wStr c 80).length = c.lats.length) := by unfold Hid; rw [hws]; exact widR_len c 80 _ (fst0_len c)
      have HC0 : Hid (Cov (wStr c 80) (fillM (sb (fst0 c)) b)) := by
        unfold Hid; rw [hws]
        exact (widR_cov c 80 _ (fst0_len c)).trans (cov_fill (fst0_len c) b)
      have HZ := Lib.hid (ref_sizes hok)
      have HLN := Lib.hid (lat_next hok)
      have HLR := Lib.hid (fun t ht => lat_reset hok (t := t) ht)
      have HOK := Lib.hid hok
      have CV := Lib.hid (fun (v : List UInt8) (hc : Cov (wStr c 80) v) x => show Calls Try.prog 41 #[.string (sb (wStr c 80)), .string (sb v)] x fun e w' => e = .returned (.bool true) ∧ Below x.heap.size x w' from by
        have := pcovers_any (sb (wStr c 80)) (sb v) x (by rw [sb_size, HSL.out]; have := HZ.out.2.1; omega)
        rwa [show covM (sb (wStr c 80)) (sb v) = true from (covM_iff _ _).2 hc] at this)
      have FL := Lib.hid (fun y x => fill_any (sb (xsL c.ins.length)) y x (by rw [sb_size]; unfold xsL; rw [List.length_replicate]; exact HZ.out.1))
      have NX := Lib.hid (fun (v : List UInt8) (hv : bitsM (sb v) (c.lats.length : Int) = true) y x hx => show Calls Try.prog 26 #[cirV c s, .string (sb v), .string (sb (fillM (sb (xsL c.ins.length)) y))] x fun e w' => e = .returned (.tuple #[.string (sb (nxtL c (valsM c (sb v) (sb (fillM (sb (xsL c.ins.length)) y))))), .int .i64 0]) ∧ Below x.heap.size x w' from by
        have hz := err_ok hok (by unfold okB; rw [hv, fillM_bits (xs_trits _) y]; rfl : okB c (sb v) (sb (fillM (sb (xsL c.ins.length)) y)) = true)
        have := refnext_any c s (sb v) (sb (fillM (sb (xsL c.ins.length)) y)) x (LW.out x hx) hf (by have := (bits_parts hv).1; have := HZ.out.2.1; omega) (by rw [sb_size, fillM_len, sb_size]; unfold xsL; rw [List.length_replicate]; have := HZ.out.1; omega)
        rw [show nStr c (sb v) (sb (fillM (sb (xsL c.ins.length)) y)) = nxtL c (valsM c (sb v) (sb (fillM (sb (xsL c.ins.length)) y))) from if_pos hz, hz] at this
        exact this)
      have NC := Lib.hid (fun (v : List UInt8) (hv : bitsM (sb v) (c.lats.length : Int) = true) (hc : Cov (wStr c 80) v) y => always_next hok HSL.out HFX.out hv (fillM_bits (xs_trits c.ins.length) y) (by rw [sb_list]; exact hc) HLN.out)
      have h79 : ¬ (80 ≤ wNum c 80) := by omega
      have h79d : decide (80 ≤ wNum c 80) = false := decide_eq_false h79
      have hbq : bitsM (sb (fillM (sb (fst0 c)) b)) (c.lats.length : Int) = true := fillM_bits (fst_trits c) b
      have HBQ := Lib.hid hbq
      have HN := Lib.hid hn
      clear h hf hn hrow hok hws hwn he hbq
      unfold sv at WA9
      rw [show (⟨(wStr c 80).toArray⟩ : ByteArray) = sb (wStr c 80) from rfl] at WA9
      generalize sb (wStr c 80) = sw at *
      generalize wNum c 80 = x9 at *
      unfold cirV at WA9 NX ⊢
      rw [show cirC c s = #[.int .i64 c.max, .slice s.ai c.ins.length s.ki, .slice s.al c.lats.length s.kl, .slice s.ao c.outs.length s.ko, .slice s.ab c.bads.length s.kb, .slice s.ac c.invs.length s.kc, .slice s.aa c.ands.length s.ka, .slice s.an c.names.length s.kn] from rfl] at WA9 NX ⊢
      go_enter Try.func12, Try.ntmps12
      go_wp2_with fail
      refine (alive_any WA).mono ?_
      rintro e w1 ⟨rfl, hb⟩
      clear hWA
      have B1 : Hid (Below w.heap.size w w1) := bA.out.trans (hb.mono bA.out.size)
      have G1 : Hid (w1.heap[w.heap.size]? = some (.cells (cirC c s) 27 (0, 0))) := (hb.block _ (lt_of_block GA.out)).trans GA.out
      clear e0 e1 e2 e3 e4 e5 e6 e7 hb
      obtain ⟨e0, e1, e2, e3, e4, e5, e6, e7⟩ := cells8 G1.out
      go_wp2_with fail
      refine (WA9.out w1 B1.out).mono ?_
      rintro e w2 ⟨rfl, hb⟩
      have B2 : Hid (Below w.heap.size w w2) := B1.out.trans (hb.mono B1.out.size)
      have G2 : Hid (w2.heap[w.heap.size]? = some (.cells (cirC c s) 27 (0, 0))) := (hb.block _ (lt_of_block G1.out)).trans G1.out
      clear e0 e1 e2 e3 e4 e5 e6 e7 hb
      obtain ⟨e0, e1, e2, e3, e4, e5, e6, e7⟩ := cells8 G2.out
      clear WA9
      have G9 : Hid (∀ x, Below w2.heap.size w2 x → x.heap[w.heap.size]? = some (.cells (cirC c s) 27 (0, 0))) := fun x hx => (hx.block _ (lt_of_block G2.out)).trans G2.out
      go_wp2_with (go_at_call 40; refine (num_any _ _).mono ?_; rintro e w' ⟨rfl, rfl⟩)
      clear e0 e1 e2 e3 e4 e5 e6 e7
      go_loopw [10, 11] (fun t i wr => ∃ j : Nat, j ≤ c.lats.length ∧ i = .int .i64 j ∧ t = .string ⟨((fillM (sb (fst0 c)) b).take j).toArray⟩ ∧ Below w2.heap.size w2 wr) (fun _ i _ => c.lats.length - (intOf i).toNat)
      case atStart => exact ⟨0, Nat.zero_le _, rfl, rfl, Below.refl _ _⟩
      case round =>
        obtain ⟨j, hj, rfl, rfl, hbw⟩ := hrel
        have HB := Lib.hid hbw
        clear hbw
        have zl : c.lats.length ≤ 64 := HZ.out.2.1
        obtain ⟨e0, e1, e2, e3, e4, e5, e6, e7⟩ := cells8 (G9.out _ HB.out)
        have HFLN : Hid ((fillM (sb (fst0 c)) b).length = c.lats.length) := by unfold Hid; rw [fillM_len, sb_size, fst0_len]
        by_cases hlt : j < c.lats.length
        · obtain ⟨b0, o, hA, -, c0, c1, c2⟩ := LRow.tri (LW.out wr (B2.out.trans (HB.out.mono B2.out.size))).lats hlt
          rw [hA] at e2
          have HTK : Hid (∀ z, (fillM (sb (fst0 c)) b).getD j 0 = z → (⟨((fillM (sb (fst0 c)) b).take j).toArray⟩ : ByteArray) ++ ⟨[z].toArray⟩ = ⟨((fillM (sb (fst0 c)) b).take (j + 1)).toArray⟩) := fun z hz => by
            have hwl : j < (fillM (sb (fst0 c)) b).length := by rw [HFLN.out]; exact hlt
            rw [List.getD_eq_getElem?_getD, List.getElem?_eq_getElem hwl, Option.getD_some] at hz
            apply ByteArray.ext
            rw [ByteArray.data_append]
            apply Array.toList_inj.1
            rw [List.take_succ_eq_append_getElem hwl, hz]
            simp
          rw [fill_fst c b hlt] at HTK
          have hlr := (HLR.out c.lats[j] (List.getElem_mem hlt)).1
          have hsz : (⟨((fillM (sb (fst0 c)) b).take j).toArray⟩ : ByteArray).size ≤ 64 := by rw [sv_size, List.length_take]; omega
          obtain ⟨s4, hs4⟩ : ∃ z, (⟨((fillM (sb (fst0 c)) b).take j).toArray⟩ : ByteArray) = z := ⟨_, rfl⟩
          rw [hs4] at HTK hsz ⊢
          clear hA hs4
          generalize c.lats[j] = t at *
          obtain ⟨wt, hwt⟩ : ∃ x, wr.alloc (.cells #[.int .i64 t.a, .int .i64 t.b, .int .i64 t.c] 39) = x := ⟨_, rfl⟩
          have bt : Below wr.heap.size wr wt := by rw [← hwt]; exact (Below.refl _ _).alloc (Nat.le_refl _) _
          have KT : wt.heap[wr.heap.size]? = some (.cells #[.int .i64 t.a, .int .i64 t.b, .int .i64 t.c] 39 (0, 0)) := by rw [← hwt]; exact Array.getElem?_push_size
          obtain ⟨r0, r1, r2⟩ := two_cells KT
          have BT : Hid (Below w2.heap.size w2 wt) := HB.out.trans (bt.mono HB.out.size)
          clear bt KT
          by_cases hca : t.c = t.a
          · have hbe : (t.c == t.a) = true := by rw [beq_iff_eq]; exact hca
            rw [if_pos hca] at HTK
            clear hca hlr
            have hkb : kbM b j = (bits BinOp.and IntKind.u64 (b / 2 ^ (j % 64)) 1 == 1) := rfl
            rcases bits_one (b / 2 ^ (j % 64)) with hq | hq
            · rw [hq] at hkb
              have HS := Lib.hid (HTK.out 48 (by rw [hkb]; rfl))
              have hcv := conv1 (wt.alloc (.cells #[.int .u8 48] 5)) wt.heap.size 48 (by rw [World.cell?_alloc_new]; rfl)
              rw [show sv [48] = .string ⟨[48].toArray⟩ from rfl] at hcv
              have hz1 : (⟨[(48 : UInt8)].toArray⟩ : ByteArray).size ≤ 64 := by rw [sv_size]; simp
              have BN : Hid (Below w2.heap.size w2 (wt.alloc (.cells #[.int .u8 48] 5))) := BT.out.alloc BT.out.size _
              generalize (⟨[(48 : UInt8)].toArray⟩ : ByteArray) = s5 at *
              clear HTK hkb
              go_wp2
              clear hwt
              go_roundw
              case rel => exact ⟨j + 1, by omega, by go_num, by rw [← HS.out], BN.out⟩
              case measure => simp [intOf]; omega
            · rw [hq] at hkb
              have HS := Lib.hid (HTK.out 49 (by rw [hkb]; rfl))
              have hcv := conv1 (wt.alloc (.cells #[.int .u8 49] 5)) wt.heap.size 49 (by rw [World.cell?_alloc_new]; rfl)
              rw [show sv [49] = .string ⟨[49].toArray⟩ from rfl] at hcv
              have hz1 : (⟨[(49 : UInt8)].toArray⟩ : ByteArray).size ≤ 64 := by rw [sv_size]; simp
              have BN : Hid (Below w2.heap.size w2 (wt.alloc (.cells #[.int .u8 49] 5))) := BT.out.alloc BT.out.size _
              generalize (⟨[(49 : UInt8)].toArray⟩ : ByteArray) = s5 at *
              clear HTK hkb
              go_wp2
              clear hwt
              go_roundw
              case rel => exact ⟨j + 1, by omega, by go_num, by rw [← HS.out], BN.out⟩
              case measure => simp [intOf]; omega
          · have hbe : (t.c == t.a) = false := beq_eq_false_iff_ne.2 hca
            rw [if_neg hca] at HTK
            by_cases hc1 : t.c = 1
            · have hb1 : (t.c == 1) = true := by rw [beq_iff_eq]; exact hc1
              have HS := Lib.hid (HTK.out 49 (if_pos hc1))
              rw [show (⟨[(49 : UInt8)].toArray⟩ : ByteArray) = ⟨#[49]⟩ from rfl] at HS
              clear HTK hca hc1 hlr
              go_wp2
              clear hwt
              go_roundw
              case rel => exact ⟨j + 1, by omega, by go_num, by rw [← HS.out], BT.out⟩
              case measure => simp [intOf]; omega
            · have hb1 : (t.c == 1) = false := beq_eq_false_iff_ne.2 hc1
              have HS := Lib.hid (HTK.out 48 (if_neg hc1))
              rw [show (⟨[(48 : UInt8)].toArray⟩ : ByteArray) = ⟨#[48]⟩ from rfl] at HS
              clear HTK hca hc1 hlr
              go_wp2
              clear hwt
              go_roundw
              case rel => exact ⟨j + 1, by omega, by go_num, by rw [← HS.out], BT.out⟩
              case measure => simp [intOf]; omega
        · obtain rfl : j = c.lats.length := by omega
          rw [List.take_of_length_le (by rw [HFLN.out]; exact Nat.le_refl _)]
          rw [show (⟨(fillM (sb (fst0 c)) b).toArray⟩ : ByteArray) = sb (fillM (sb (fst0 c)) b) from rfl]
          obtain ⟨v0, hv0⟩ : ∃ v, fillM (sb (fst0 c)) b = v := ⟨_, rfl⟩
          rw [hv0] at HC0 HBQ ⊢
          obtain ⟨wo, rfl⟩ : ∃ x, x = wr := ⟨_, rfl⟩
          have zi : c.ins.length ≤ 64 := HZ.out.1
          have BO : Hid (Below w2.heap.size w2 wo) := HB.out
          clear HB hv0 HFLN
          obtain ⟨sv0, hsv0⟩ : ∃ x, sb v0 = x := ⟨_, rfl⟩
          rw [hsv0]
          have HSV0 := Lib.hid hsv0
          clear hsv0
          go_wp2
          clear e0 e1 e2 e3 e4 e5 e6 e7
          go_loop [13, 14] (fun t i => ∃ j : Nat, j ≤ c.ins.length ∧ i = .int .i64 j ∧ t = .string ⟨(List.replicate j (120 : UInt8)).toArray⟩) (fun _ i => c.ins.length - (intOf i).toNat)
          case atStart => exact ⟨0, Nat.zero_le _, rfl, rfl⟩
          case round =>
            obtain ⟨j, hj, rfl, rfl⟩ := hrel
            obtain ⟨e0, e1, e2, e3, e4, e5, e6, e7⟩ := cells8 (G9.out _ BO.out)
            by_cases hlt2 : j < c.ins.length
            · have HA : Hid ((⟨(List.replicate j (120 : UInt8)).toArray⟩ : ByteArray) ++ ⟨#[120]⟩ = ⟨(List.replicate (j + 1) (120 : UInt8)).toArray⟩) := by
                unfold Hid
                apply ByteArray.ext
                rw [ByteArray.data_append]
                apply Array.toList_inj.1
                rw [List.replicate_succ']
                simp
              have hsz : (⟨(List.replicate j (120 : UInt8)).toArray⟩ : ByteArray).size ≤ 64 := by rw [sv_size, List.length_replicate]; omega
              obtain ⟨sj, hsj⟩ : ∃ x, (⟨(List.replicate j (120 : UInt8)).toArray⟩ : ByteArray) = x := ⟨_, rfl⟩
              rw [hsj] at HA hsz ⊢
              clear hsj
              go_wp2
              go_round
              case rel => exact ⟨j + 1, by omega, by go_num, by rw [← HA.out]⟩
              case measure => simp [intOf]; omega
            · obtain rfl : j = c.ins.length := by omega
              rw [show (⟨(List.replicate c.ins.length (120 : UInt8)).toArray⟩ : ByteArray) = sb (xsL c.ins.length) from rfl]
              generalize sb (xsL c.ins.length) = si at *
              go_wp2
              clear e0 e1 e2 e3 e4 e5 e6 e7
              go_loopw [10, 15] (fun t i wr => ∃ (k : Nat) (v : List UInt8), k ≤ l.length ∧ i = .int .i64 k ∧ t = .string (sb v) ∧ bitsM (sb v) (c.lats.length : Int) = true ∧ Cov (wStr c 80) v ∧ Below w2.heap.size w2 wr) (fun _ i _ => l.length - (intOf i).toNat)
              case atStart => exact ⟨0, v0, Nat.zero_le _, rfl, by rw [HSV0.out], HBQ.out, HC0.out, BO.out⟩
              case round =>
                clear BO
                obtain ⟨k, v, hk, rfl, rfl, hvb, hvc, hbw⟩ := hrel
                have HB := Lib.hid hbw
                have hn := HN.out
                have CK := Lib.hid (CV.out v hvc)
                have NK := Lib.hid (NX.out v hvb)
                have NCK := Lib.hid (NC.out v hvb hvc)
                clear hbw hvb hvc
                generalize sb v = sq at *
                have GK : Hid (wr.heap[w.heap.size]? = some (.cells (cirC c s) 27 (0, 0))) := G9.out _ HB.out
                have BW : Hid (Below w.heap.size w wr) := B2.out.trans (HB.out.mono B2.out.size)
                by_cases hlt3 : k < l.length
                · have hkl : (k : Int) < (l.length : Int) := by omega
                  have hk0 : (0 : Int) ≤ (k : Int) := by omega
                  by_cases h20 : k < 20
                  · have hkt : (k : Int) < 20 := by omega
                    obtain ⟨bq, oq, hA, -, hcq⟩ := LRow_u64 (LR.out wr BW.out) hlt3
                    have LRK : Hid (∀ x, Below wr.heap.size wr x → x.cell? ⟨bq, oq + k, none⟩ = some (.int .u64 l[k])) := fun x hx => (hx.cell (World.block_lt_of_cell? _ _ hcq)).trans hcq
                    clear hcq
                    generalize l[k] = y at *
                    have NCY := Lib.hid (NCK.out y)
                    have FY := Lib.hid (FL.out y)
                    have NY := Lib.hid (NK.out y)
                    have NBY := Lib.hid (nxt_bits c (valsM c sq (sb (fillM si y))))
                    generalize nxtL c (valsM c sq (sb (fillM si y))) = v9 at *
                    generalize sb (fillM si y) = fy at *
                    subst hA
                    clear NCK NK
                    go_wp2_with fail
                    refine (CK.out wr).mono ?_
                    rintro e w5 ⟨rfl, hb⟩
                    have B5 : Hid (Below w2.heap.size w2 w5) := HB.out.trans (hb.mono HB.out.size)
                    have G5 : Hid (w5.heap[w.heap.size]? = some (.cells (cirC c s) 27 (0, 0))) := G9.out _ B5.out
                    have hc := LRK.out w5 hb
                    have BW5 : Hid (Below w.heap.size w w5) := B2.out.trans (B5.out.mono B2.out.size)
                    clear hb CK
                    obtain ⟨e0, e1, e2, e3, e4, e5, e6, e7⟩ := cells8 G5.out
                    have K1 := Lib.hid (fun (u : Wd w5.heap.size w5) => Calls.in_wd u (FY.out u.w) (Nat.le_refl _))
                    have K2 := Lib.hid (fun (u : Wd w5.heap.size w5) => Calls.in_wd u (NY.out u.w (BW5.out.trans (u.ok.mono BW5.out.size))) (Nat.le_refl _))
                    obtain ⟨s9, hs9⟩ : ∃ x, sb v9 = x := ⟨_, rfl⟩
                    rw [hs9] at K2
                    have HS9 := Lib.hid hs9
                    clear hs9 FY NY
                    go_wp2
                    have u0 := Wd.cell e0
                    have u1 := Wd.cell e1
                    have u2 := Wd.cell e2
                    have u3 := Wd.cell e3
                    have u4 := Wd.cell e4
                    have u5 := Wd.cell e5
                    have u6 := Wd.cell e6
                    have u7 := Wd.cell e7
                    have ux := Wd.cell hc
                    refine wp_region_wd (by kernel_rfl) (by kernel_rfl) ?_
                    repeat (first | go_big_quiet_skip | (go_big_quiet_want; go_big_quiet_op; first | go_big_quiet_on | (apply Exists.intro; refine ⟨fun u => ?_, ?_⟩; (first | (go_at_call 50; with_reducible exact K1.out u) | (go_at_call 26; with_reducible exact K2.out u)); go_big_quiet_on)))
                    refine wpQuiet_nil ?_
                    intro wz9 hw'
                    obtain ⟨⟨_, hb9⟩, hw''⟩ := hw'
                    subst hw''
                    have BN : Hid (Below w2.heap.size w2 wz9) := B5.out.trans (hb9.mono B5.out.size)
                    clear K1 K2 hb9 e0 e1 e2 e3 e4 e5 e6 e7 u0 u1 u2 u3 u4 u5 u6 u7 ux hc
                    go_wp2
                    go_roundw
                    case rel => exact ⟨k + 1, v9, by omega, by go_num, by rw [HS9.out], NBY.out, NCY.out, BN.out⟩
                    case measure => simp [intOf]; omega
                  · have hkt : ¬ (k : Int) < 20 := by omega
                    have hktd : decide ((k : Int) < 20) = false := decide_eq_false hkt
                    go_wp2_with fail
                    refine (CK.out wr).mono ?_
                    rintro e w5 ⟨rfl, hb⟩
                    have BF : Hid (Below w.heap.size w w5) := BW.out.trans (hb.mono BW.out.size)
                    clear hb CK
                    go_wp2
                    go_ret
                    exact ⟨rfl, BF.out⟩
                · obtain rfl : k = l.length := by omega
                  go_wp2_with fail
                  refine (CK.out wr).mono ?_
                  rintro e w5 ⟨rfl, hb⟩
                  have BF : Hid (Below w.heap.size w w5) := BW.out.trans (hb.mono BW.out.size)
                  clear hb CK
                  go_wp2
                  go_ret
                  exact ⟨rfl, BF.out⟩
    · have h8 : wNum c 80 = 80 := by omega
      rw [h8] at WA9
      clear h hf hn hrow hok hws hwn he h80 h8 hw9
      unfold sv at WA9
      generalize (⟨(wStr c 80).toArray⟩ : ByteArray) = sw at *
      unfold cirV at WA9 ⊢
      rw [show cirC c s = #[.int .i64 c.max, .slice s.ai c.ins.length s.ki, .slice s.al c.lats.length s.kl, .slice s.ao c.outs.length s.ko, .slice s.ab c.bads.length s.kb, .slice s.ac c.invs.length s.kc, .slice s.aa c.ands.length s.ka, .slice s.an c.names.length s.kn] from rfl] at WA9 ⊢
      go_enter Try.func12, Try.ntmps12
      go_wp2_with fail
      refine (alive_any WA).mono ?_
      rintro e w1 ⟨rfl, hb⟩
      clear hWA
      have B1 : Hid (Below w.heap.size w w1) := bA.out.trans (hb.mono bA.out.size)
      have G1 : Hid (w1.heap[w.heap.size]? = some (.cells (cirC c s) 27 (0, 0))) := (hb.block _ (lt_of_block GA.out)).trans GA.out
      clear e0 e1 e2 e3 e4 e5 e6 e7 hb
      obtain ⟨e0, e1, e2, e3, e4, e5, e6, e7⟩ := cells8 G1.out
      go_wp2_with fail
      refine (WA9.out w1 B1.out).mono ?_
      rintro e w2 ⟨rfl, hb⟩
      have B2 : Hid (Below w.heap.size w w2) := B1.out.trans (hb.mono B1.out.size)
      have G2 : Hid (w2.heap[w.heap.size]? = some (.cells (cirC c s) 27 (0, 0))) := (hb.block _ (lt_of_block G1.out)).trans G1.out
      clear e0 e1 e2 e3 e4 e5 e6 e7 hb
      obtain ⟨e0, e1, e2, e3, e4, e5, e6, e7⟩ := cells8 G2.out
      clear WA9 e0 e1 e2 e3 e4 e5 e6 e7
      go_wp2_with (go_at_call 40; refine (num_any _ _).mono ?_; rintro e w' ⟨rfl, rfl⟩)
      go_ret
      exact ⟨rfl, B2.out⟩
  · have h9 : wErr c 80 = 9 := by
      cases h1 : refOk c with
      | false => exact werr_no h1
      | true => exact absurd (werr_ok (c := c) (most := 80) h1 (by omega)) he
    rw [h9] at WA9
    clear h hf hn hrow he h9 hw9
    unfold sv at WA9
    generalize (⟨(wStr c 80).toArray⟩ : ByteArray) = sw at *
    generalize wNum c 80 = x9 at *
    unfold cirV at WA9 ⊢
    rw [show cirC c s = #[.int .i64 c.max, .slice s.ai c.ins.length s.ki, .slice s.al c.lats.length s.kl, .slice s.ao c.outs.length s.ko, .slice s.ab c.bads.length s.kb, .slice s.ac c.invs.length s.kc, .slice s.aa c.ands.length s.ka, .slice s.an c.names.length s.kn] from rfl] at WA9 ⊢
    go_enter Try.func12, Try.ntmps12
    go_wp2_with fail
    refine (alive_any WA).mono ?_
    rintro e w1 ⟨rfl, hb⟩
    clear hWA
    have B1 : Hid (Below w.heap.size w w1) := bA.out.trans (hb.mono bA.out.size)
    have G1 : Hid (w1.heap[w.heap.size]? = some (.cells (cirC c s) 27 (0, 0))) := (hb.block _ (lt_of_block GA.out)).trans GA.out
    clear e0 e1 e2 e3 e4 e5 e6 e7 hb
    obtain ⟨e0, e1, e2, e3, e4, e5, e6, e7⟩ := cells8 G1.out
    go_wp2_with fail
    refine (WA9.out w1 B1.out).mono ?_
    rintro e w2 ⟨rfl, hb⟩
    have B2 : Hid (Below w.heap.size w w2) := B1.out.trans (hb.mono B1.out.size)
    have G2 : Hid (w2.heap[w.heap.size]? = some (.cells (cirC c s) 27 (0, 0))) := (hb.block _ (lt_of_block G1.out)).trans G1.out
    clear e0 e1 e2 e3 e4 e5 e6 e7 hb
    obtain ⟨e0, e1, e2, e3, e4, e5, e6, e7⟩ := cells8 G2.out
    clear WA9 e0 e1 e2 e3 e4 e5 e6 e7
    go_wp2_with (go_at_call 40; refine (num_any _ _).mono ?_; rintro e w' ⟨rfl, rfl⟩)
    go_ret
    exact ⟨rfl, B2.out⟩
theorem el_u64 {H : Type} {enc : TypeId × Value → H} {w : World} {n : Nat} {cs : List Value} {y : DataW H × List MemPlace} (h : DataW.trod enc Try.prog w 0 (fun _ => true) true n 28 cs = some y) : ∃ x : Int, cs = [.int .u64 x] ∧ True := by
  obtain ⟨x, hc, _, _⟩ := DataW.trod_int Try.underlying28 h
  exact ⟨x, hc, trivial⟩
set_option maxRecDepth 100000 in
theorem always_core {H : Type} {enc : TypeId × Value → H} (W : World) (v : Value) (d : DataW H) (p : List MemPlace) {r : Reach} {b0 : Nat} (hv : Value.okWide Try.prog W r b0 27 v) (h : DataW.Trod enc Try.prog W 0 (fun _ => true) true 27 v d p)
    (b : Int) (_hb0 : 0 ≤ b) (_hb1 : b ≤ 18446744073709551615)
    (v1 : Value) (d1 : DataW H) (p1 : List MemPlace) {r1 : Reach} {b1 : Nat} (hv1 : Value.okWide Try.prog W r1 b1 71 v1) (h1 : DataW.Trod enc Try.prog W 0 (fun _ => true) true 71 v1 d1 p1)
    {e1 : DataW H} {t1 : TypeId} {ts : List TypeId} {ds : List (DataW H)} (hsz : (DataW.weightsEach Try.prog (27 :: t1 :: 71 :: ts) (d :: e1 :: d1 :: ds)).all (· ≤ reachBytes) = true) :
    Calls Try.prog 12 #[v, .int .u64 b, v1] W fun e W' => e = .returned (.bool true) ∧ Below W.heap.size W W' := by
  obtain ⟨c, s, rfl, hl, hf⟩ := open_circ hv h (all_weights hsz 0 rfl rfl)
  have hw1 := all_weights hsz 2 (t := 71) (d := d1) rfl rfl
  obtain ⟨fuel, ht⟩ := h1
  obtain ⟨A1, cl, q1, e1, r1', f1, k1, z1⟩ := open_rows 1 (by decide) (fun x : Int => [Value.int .u64 x]) (fun _ => True) (fun _ => rfl) Try.underlying71 (by kernel_rfl) (fun n cs' y h => el_u64 h) ht
  have hv1 : v1 = .slice A1 cl.length q1 := by
    obtain ⟨a0, len, cap, rfl⟩ := okWide_slice Try.underlying71 hv1
    simpa [Value.cells] using e1
  subst hv1
  have hbl : cl.length * 8 ≤ 140737488355328 := row_bytes (l := cl) 8 (by kernel_rfl) Try.underlying71 z1 hw1
  exact always_walk c s b cl A1 q1 W hl hf (by omega) r1'
end Go.Proofs.Ythcigpklbhjglaa.Ter
