/- What stage 6's laws share, and the walk of StrashLess; condition: what is asked of it fits. StrashLess, from what a row hands over; no condition. A frame for laws: whatever the parameters, if the call returns true and turns nothing below its own blocks, the row's post holds. No condition. -/
import Derived.Test.YteopehclmkhbmaaPk20
import Derived.Test.YteopehclmkhbmaaPk13
import Derived.Test.YteopehclmkhbmaaPk21
import Derived.Deep.QuietTactic
import Derived.BigQuiet
import Derived.OwnWalk
import Derived.Test.YteopehclmkhbmaaRows
import Derived.Carry
import Derived.Below
import Derived.ProofKit
import Derived.OpenShut
import Derived.WalkSmall
import Derived.Deep.DeepHandedRow
import Derived.Lib.LaidTab
import Derived.JoinedCond
namespace Go.Proofs.Yteopehclmkhbmaa.Str
open Go.ChangeShapes Go.WideShapes Go.ChangeAt Go.RowKit Go.Maps Circ Cw

theorem num_any (x : Int) (w : World) : Calls Try.prog 8 #[.int .i64 x] w fun e w' => e = .returned (.int .i64 x) ∧ w = w' := by
  go_enter Try.func8, Try.ntmps8
  go_wp2
  go_ret
  exact ⟨rfl, rfl⟩
theorem alive_any (w : World) : Calls Try.prog 6 #[] w fun e w' => e = .returned (.bool true) ∧ w = w' := by
  have PL := Lib.hid (plain_any 4 5 (by constructor <;> decide) (by constructor <;> decide) w)
  rw [show (plainM 4 5) = some 0 from by decide] at PL
  go_enter Try.func6, Try.ntmps6
  go_wp2_with fail
  refine PL.out.mono ?_
  rintro e w' ⟨rfl, rfl⟩
  clear PL
  simp only [Option.getD_some, Option.isSome_some]
  go_wp2
  go_ret
  exact ⟨rfl, rfl⟩
theorem size_any (c : Cir) (s : Places) (w : World) : Calls Try.prog 13 #[cirV c s] w fun e w' => e = .returned (.int .i64 c.ands.length) ∧ Below w.heap.size w w' := by
  obtain ⟨WA, hWA⟩ : ∃ x, w.alloc (.cells #[.int .i64 c.max, .slice s.ai c.ins.length s.ki, .slice s.al c.lats.length s.kl, .slice s.ao c.outs.length s.ko, .slice s.ab c.bads.length s.kb, .slice s.ac c.invs.length s.kc, .slice s.aa c.ands.length s.ka, .slice s.an c.names.length s.kn] 27) = x := ⟨_, rfl⟩
  have bA : Hid (Below w.heap.size w WA) := by unfold Hid; rw [← hWA]; exact (Below.refl _ _).alloc (Nat.le_refl _) _
  have hA : WA.heap[w.heap.size]? = some (.cells (cirC c s) 27 (0, 0)) := by rw [← hWA]; exact Array.getElem?_push_size
  obtain ⟨e0, e1, e2, e3, e4, e5, e6, e7⟩ := cells8 hA
  clear hA
  unfold cirV
  rw [show cirC c s = #[.int .i64 c.max, .slice s.ai c.ins.length s.ki, .slice s.al c.lats.length s.kl, .slice s.ao c.outs.length s.ko, .slice s.ab c.bads.length s.kb, .slice s.ac c.invs.length s.kc, .slice s.aa c.ands.length s.ka, .slice s.an c.names.length s.kn] from rfl]
  go_enter Try.func13, Try.ntmps13
  go_wp2
  go_ret
  exact ⟨rfl, bA.out⟩
set_option maxHeartbeats 16000000 in
set_option maxRecDepth 100000 in
theorem less_walk (c : Cir) (s : Places) (w : World) (h : CLies w w.heap.size c s) (hf : CFits c s) (hnm : ∀ x ∈ c.names, x.kind.size ≤ 281474976710656 ∧ x.text.size ≤ 281474976710656) :
    Calls Try.prog 4 #[cirV c s] w fun e w' => e = .returned (.bool true) ∧ Below w.heap.size w w' := by
  obtain ⟨WA, hWA⟩ : ∃ x, w.alloc (.cells #[.int .i64 c.max, .slice s.ai c.ins.length s.ki, .slice s.al c.lats.length s.kl, .slice s.ao c.outs.length s.ko, .slice s.ab c.bads.length s.kb, .slice s.ac c.invs.length s.kc, .slice s.aa c.ands.length s.ka, .slice s.an c.names.length s.kn] 27) = x := ⟨_, rfl⟩
  have bA : Below w.heap.size w WA := by rw [← hWA]; exact (Below.refl _ _).alloc (Nat.le_refl _) _
  have BA := Lib.hid bA
  have GA : Hid (WA.heap[w.heap.size]? = some (.cells (cirC c s) 27 (0, 0))) := by unfold Hid; rw [← hWA]; exact Array.getElem?_push_size
  obtain ⟨e0, e1, e2, e3, e4, e5, e6, e7⟩ := cells8 GA.out
  have AL := Lib.hid (alive_any WA)
  have HF := Lib.hid hf
  have HNM := Lib.hid hnm
  have HL := Lib.hid h
  cases hc : chk c
  · have HH := Lib.hid (hash_no c s WA ((h.below bA).more bA.size) hf hc)
    rw [show cirV cirZ plZ = .agg #[.int .i64 0, .slice none 0 0, .slice none 0 0, .slice none 0 0, .slice none 0 0, .slice none 0 0, .slice none 0 0, .slice none 0 0] from rfl] at HH
    clear h hf hnm hc bA
    unfold cirV at HH ⊢
    rw [show cirC c s = #[.int .i64 c.max, .slice s.ai c.ins.length s.ki, .slice s.al c.lats.length s.kl, .slice s.ao c.outs.length s.ko, .slice s.ab c.bads.length s.kb, .slice s.ac c.invs.length s.kc, .slice s.aa c.ands.length s.ka, .slice s.an c.names.length s.kn] from rfl] at HH ⊢
    go_enter Try.func4, Try.ntmps4
    go_wp2_with fail
    refine AL.out.mono ?_
    rintro e wq ⟨rfl, rfl⟩
    clear AL
    go_wp2_with fail
    refine HH.out.mono ?_
    rintro e w1 ⟨rfl, hb⟩
    have B1 : Hid (Below w.heap.size w w1) := BA.out.trans (hb.mono BA.out.size)
    clear HH hb e0 e1 e2 e3 e4 e5 e6 e7 hWA
    obtain ⟨W4p, hW4p⟩ : ∃ x, w1.alloc (.cells #[.int .i64 0, .slice none 0 0, .slice none 0 0, .slice none 0 0, .slice none 0 0, .slice none 0 0, .slice none 0 0, .slice none 0 0] 27) = x := ⟨_, rfl⟩
    have g4p : W4p.heap[w1.heap.size]? = some (.cells #[.int .i64 0, .slice none 0 0, .slice none 0 0, .slice none 0 0, .slice none 0 0, .slice none 0 0, .slice none 0 0, .slice none 0 0] 27 (0, 0)) := by rw [← hW4p]; exact Array.getElem?_push_size
    have b4p : Below w1.heap.size w1 W4p := by rw [← hW4p]; exact (Below.refl _ _).alloc (Nat.le_refl _) _
    obtain ⟨p1, p2, p3, p4, p5, p6, p7, Xp, pv0, pv1, pv2, pv3, pv4, pv5, pv6, pv7, ⟨ph1, pa0, pb0⟩, ⟨ph2, pa1, pb1⟩, ⟨ph3, pa2, pb2⟩, ⟨ph4, pa3, pb3⟩, ⟨ph5, pa4, pb4⟩, ⟨ph6, pa5, pb5⟩, ⟨ph7, pa6, pb6⟩, ⟨ph8, pa7, pb7⟩, E8p, FCp⟩ := Cw.store8 g4p rfl (.int .i64 0) (.slice none 0 0) (.slice none 0 0) (.slice none 0 0) (.slice none 0 0) (.slice none 0 0) (.slice none 0 0) (.slice none 0 0)
    have BXp : Hid (Below w1.heap.size w1 Xp) := FCp.below b4p (Nat.le_refl _)
    have GXp : Hid (Xp.heap[w1.heap.size]? = some (.cells #[.int .i64 0, .slice none 0 0, .slice none 0 0, .slice none 0 0, .slice none 0 0, .slice none 0 0, .slice none 0 0, .slice none 0 0] 27 (0, 0))) := E8p
    clear g4p b4p E8p FCp
    obtain ⟨e0, e1, e2, e3, e4, e5, e6, e7⟩ := cells8 (c := cirZ) (s := plZ) GXp.out
    simp only [cirZ, plZ, List.length_nil] at e0 e1 e2 e3 e4 e5 e6 e7
    have SI := Lib.hid (size_any cirZ plZ Xp)
    rw [show cirV cirZ plZ = .agg #[.int .i64 0, .slice none 0 0, .slice none 0 0, .slice none 0 0, .slice none 0 0, .slice none 0 0, .slice none 0 0, .slice none 0 0] from rfl, show ((cirZ.ands.length : Nat) : Int) = 0 from rfl] at SI
    go_wp2_with (first | (go_at_call 8; refine (num_any _ _).mono ?_; rintro e w' ⟨rfl, rfl⟩) | fail)
    refine SI.out.mono ?_
    rintro e w2 ⟨rfl, hb⟩
    have B2 : Hid (Below w.heap.size w w2) := B1.out.trans ((BXp.out.trans (hb.mono BXp.out.size)).mono B1.out.size)
    clear SI hb
    go_wp2
    go_ret
    exact ⟨rfl, B2.out⟩
  · have HH := Lib.hid (hash_yes c s WA ((h.below bA).more bA.size) hf hc hnm)
    have hr : refOk c = true := by rw [← chk_same]; exact hc
    have hp := hash_plain hr
    have PN : Hid (∀ t ∈ (hashM c).ands, plainM t.b t.c = none) := hp.1
    have PD : Hid ((hashM c).ands.Pairwise fun s t => pairM s.b s.c ≠ pairM t.b t.c) := hp.2
    have AG := Lib.hid (hash_again hr)
    have ME := Lib.hid (hash_less hr)
    have CK2 : Hid (chk (hashM c) = true) := by unfold Hid; rw [chk_same]; exact hash_may hr
    have HNM2 : Hid (∀ x ∈ (hashM c).names, x.kind.size ≤ 281474976710656 ∧ x.text.size ≤ 281474976710656) := hnm
    clear h hf hnm hc bA hr hp
    unfold cirV at HH ⊢
    rw [show cirC c s = #[.int .i64 c.max, .slice s.ai c.ins.length s.ki, .slice s.al c.lats.length s.kl, .slice s.ao c.outs.length s.ko, .slice s.ab c.bads.length s.kb, .slice s.ac c.invs.length s.kc, .slice s.aa c.ands.length s.ka, .slice s.an c.names.length s.kn] from rfl] at HH ⊢
    go_enter Try.func4, Try.ntmps4
    go_wp2_with fail
    refine AL.out.mono ?_
    rintro e wq ⟨rfl, rfl⟩
    clear AL
    go_wp2_with fail
    refine HH.out.mono ?_
    rintro e w1 ⟨⟨s', rfl, hl1, hf1⟩, hb⟩
    have B1 : Hid (Below w.heap.size w w1) := BA.out.trans (hb.mono BA.out.size)
    have K1 : Hid (w1.heap[w.heap.size]? = some (.cells (cirC c s) 27 (0, 0))) := (hb.block _ (lt_of_block GA.out)).trans GA.out
    have L1 := Lib.hid hl1
    have F1 := Lib.hid hf1
    clear HH hb e0 e1 e2 e3 e4 e5 e6 e7 hWA hl1 hf1
    have SZ : Hid ((hashM c).ands.length ≤ 5864062014805) := by have := F1.out.la; unfold Hid; omega
    generalize hashM c = d at *
    rw [show cirC d s' = #[.int .i64 d.max, .slice s'.ai d.ins.length s'.ki, .slice s'.al d.lats.length s'.kl, .slice s'.ao d.outs.length s'.ko, .slice s'.ab d.bads.length s'.kb, .slice s'.ac d.invs.length s'.kc, .slice s'.aa d.ands.length s'.ka, .slice s'.an d.names.length s'.kn] from rfl]
    obtain ⟨W4p, hW4p⟩ : ∃ x, w1.alloc (.cells #[.int .i64 0, .slice none 0 0, .slice none 0 0, .slice none 0 0, .slice none 0 0, .slice none 0 0, .slice none 0 0, .slice none 0 0] 27) = x := ⟨_, rfl⟩
    have g4p : W4p.heap[w1.heap.size]? = some (.cells #[.int .i64 0, .slice none 0 0, .slice none 0 0, .slice none 0 0, .slice none 0 0, .slice none 0 0, .slice none 0 0, .slice none 0 0] 27 (0, 0)) := by rw [← hW4p]; exact Array.getElem?_push_size
    have b4p : Below w1.heap.size w1 W4p := by rw [← hW4p]; exact (Below.refl _ _).alloc (Nat.le_refl _) _
    obtain ⟨p1, p2, p3, p4, p5, p6, p7, Xp, pv0, pv1, pv2, pv3, pv4, pv5, pv6, pv7, ⟨ph1, pa0, pb0⟩, ⟨ph2, pa1, pb1⟩, ⟨ph3, pa2, pb2⟩, ⟨ph4, pa3, pb3⟩, ⟨ph5, pa4, pb4⟩, ⟨ph6, pa5, pb5⟩, ⟨ph7, pa6, pb6⟩, ⟨ph8, pa7, pb7⟩, E8p, FCp⟩ := Cw.store8 g4p rfl (.int .i64 d.max) (.slice s'.ai d.ins.length s'.ki) (.slice s'.al d.lats.length s'.kl) (.slice s'.ao d.outs.length s'.ko) (.slice s'.ab d.bads.length s'.kb) (.slice s'.ac d.invs.length s'.kc) (.slice s'.aa d.ands.length s'.ka) (.slice s'.an d.names.length s'.kn)
    have BXp : Hid (Below w1.heap.size w1 Xp) := FCp.below b4p (Nat.le_refl _)
    have GXp : Hid (Xp.heap[w1.heap.size]? = some (.cells #[.int .i64 d.max, .slice s'.ai d.ins.length s'.ki, .slice s'.al d.lats.length s'.kl, .slice s'.ao d.outs.length s'.ko, .slice s'.ab d.bads.length s'.kb, .slice s'.ac d.invs.length s'.kc, .slice s'.aa d.ands.length s'.ka, .slice s'.an d.names.length s'.kn] 27 (0, 0))) := E8p
    clear g4p b4p E8p FCp
    have LD : Hid (∀ x, Below Xp.heap.size Xp x → CLies x x.heap.size d s') := fun x hx => ((L1.out.below (BXp.out.trans (hx.mono BXp.out.size))).more (by have := BXp.out.size; have := hx.size; omega))
    have BP : Hid (Below w.heap.size w Xp) := B1.out.trans (BXp.out.mono B1.out.size)
    go_wp2_with (first | (go_at_call 8; refine (num_any _ _).mono ?_; rintro e w' ⟨rfl, rfl⟩) | fail)
    clear hW4p ph1 pa0 pb0 ph2 pa1 pb1 ph3 pa2 pb2 ph4 pa3 pb3 ph5 pa4 pb4 ph6 pa5 pb5 ph7 pa6 pb6 ph8 pa7 pb7
    go_loopw [5] (fun i wr => ∃ j : Nat, j ≤ d.ands.length ∧ i = .int .i64 j ∧ Below Xp.heap.size Xp wr) (fun i _ => d.ands.length - (intOf i).toNat)
    case atStart => exact ⟨0, Nat.zero_le _, rfl, Below.refl _ _⟩
    case round =>
      obtain ⟨j, hj, rfl, hbj⟩ := hrel
      obtain ⟨wo, rfl⟩ : ∃ x, x = wr := ⟨_, rfl⟩
      have BJ := Lib.hid hbj
      clear hbj
      have zl : d.ands.length ≤ 5864062014805 := SZ.out
      obtain ⟨e0, e1, e2, e3, e4, e5, e6, e7⟩ := cells8 (c := d) (s := s') ((BJ.out.block _ (lt_of_block GXp.out)).trans GXp.out)
      by_cases hlt : j < d.ands.length
      · obtain ⟨b, o, hA, -, c0, c1, c2⟩ := LRow.tri (LD.out wo BJ.out).ands hlt
        have HN := Lib.hid (PN.out _ (List.getElem_mem hlt))
        have HD : Hid (∀ k (hk : k < j), pairM (d.ands[k]'(by omega)).b (d.ands[k]'(by omega)).c ≠ pairM d.ands[j].b d.ands[j].c) := fun k hk => List.pairwise_iff_getElem.1 PD.out k j (by omega) hlt hk
        have HT := Lib.hid (F1.out.ands _ (List.getElem_mem hlt))
        rw [hA] at e6
        have HA := Lib.hid hA
        clear hA
        generalize d.ands[j] = t at *
        obtain ⟨wt, hwt⟩ : ∃ x, wo.alloc (.cells #[.int .i64 t.a, .int .i64 t.b, .int .i64 t.c] 43) = x := ⟨_, rfl⟩
        have bt : Below wo.heap.size wo wt := by rw [← hwt]; exact (Below.refl _ _).alloc (Nat.le_refl _) _
        have KT : Hid (wt.heap[wo.heap.size]? = some (.cells #[.int .i64 t.a, .int .i64 t.b, .int .i64 t.c] 43 (0, 0))) := by unfold Hid; rw [← hwt]; exact Array.getElem?_push_size
        have BT : Hid (Below Xp.heap.size Xp wt) := BJ.out.trans (bt.mono BJ.out.size)
        have k1 : wt.cell? ⟨wo.heap.size, 1, none⟩ = some (.int .i64 t.b) := by rw [Lib.cell_of_heap KT.out]; rfl
        have k2 : wt.cell? ⟨wo.heap.size, 2, none⟩ = some (.int .i64 t.c) := by rw [Lib.cell_of_heap KT.out]; rfl
        have PL := Lib.hid (plain_any t.b t.c HT.out.2.1 HT.out.2.2 wt)
        rw [HN.out] at PL
        simp only [Option.getD_none, Option.isSome_none] at PL
        clear bt
        go_wp2_with fail
        refine PL.out.mono ?_
        rintro e wq ⟨rfl, rfl⟩
        clear PL hwt c0 c1 c2 e0 e1 e2 e3 e4 e5 e6 e7
        go_wp2
        clear k1 k2
        go_loopw [9] (fun i wr => ∃ k : Nat, k ≤ j ∧ i = .int .i64 k ∧ Below wt.heap.size wt wr) (fun i _ => j - (intOf i).toNat)
        case atStart => exact ⟨0, Nat.zero_le _, rfl, Below.refl _ _⟩
        case round =>
          obtain ⟨k, hk, rfl, hbk⟩ := hrel
          have BK := Lib.hid hbk
          clear hbk
          have bpk : Below Xp.heap.size Xp wr := BT.out.trans (BK.out.mono BT.out.size)
          obtain ⟨e0, e1, e2, e3, e4, e5, e6, e7⟩ := cells8 (c := d) (s := s') ((bpk.block _ (lt_of_block GXp.out)).trans GXp.out)
          have KT2 := (BK.out.block _ (lt_of_block KT.out)).trans KT.out
          by_cases hlk : k < j
          · have hkd : k < d.ands.length := by omega
            obtain ⟨b2, o2, hA2, -, c0, c1, c2⟩ := LRow.tri (LD.out wr bpk).ands hkd
            rw [HA.out] at hA2
            simp only [Option.some.injEq, Addr.mk.injEq, and_true] at hA2
            obtain ⟨rfl, rfl⟩ := hA2
            rw [HA.out] at e6
            have HU := HD.out k hlk
            generalize d.ands[k] = u at *
            obtain ⟨wu, hwu⟩ : ∃ x, wr.alloc (.cells #[.int .i64 u.a, .int .i64 u.b, .int .i64 u.c] 43) = x := ⟨_, rfl⟩
            have bu : Below wr.heap.size wr wu := by rw [← hwu]; exact (Below.refl _ _).alloc (Nat.le_refl _) _
            have KU : wu.heap[wr.heap.size]? = some (.cells #[.int .i64 u.a, .int .i64 u.b, .int .i64 u.c] 43 (0, 0)) := by rw [← hwu]; exact Array.getElem?_push_size
            have KT3 := (bu.block _ (lt_of_block KT2)).trans KT2
            have k1 : wu.cell? ⟨wo.heap.size, 1, none⟩ = some (.int .i64 t.b) := by rw [Lib.cell_of_heap KT3]; rfl
            have k2 : wu.cell? ⟨wo.heap.size, 2, none⟩ = some (.int .i64 t.c) := by rw [Lib.cell_of_heap KT3]; rfl
            have k3 : wu.cell? ⟨wr.heap.size, 1, none⟩ = some (.int .i64 u.b) := by rw [Lib.cell_of_heap KU]; rfl
            have k4 : wu.cell? ⟨wr.heap.size, 2, none⟩ = some (.int .i64 u.c) := by rw [Lib.cell_of_heap KU]; rfl
            have BU : Hid (Below wt.heap.size wt wu) := BK.out.trans (bu.mono BK.out.size)
            clear bu KU KT3 KT2 bpk
            by_cases hmin : min t.b t.c = min u.b u.c
            · have hmax : max t.b t.c ≠ max u.b u.c := fun e => HU (by unfold pairM; rw [hmin, e])
              clear HU
              go_wp2
              go_roundw
              case rel => exact ⟨k + 1, by omega, by go_num, BU.out⟩
              case measure => simp [intOf]; omega
            · clear HU
              go_wp2
              go_roundw
              case rel => exact ⟨k + 1, by omega, by go_num, BU.out⟩
              case measure => simp [intOf]; omega
          · obtain rfl : k = j := by omega
            have BN : Hid (Below Xp.heap.size Xp wr) := bpk
            clear bpk
            go_wp2
            go_roundw
            case rel => exact ⟨k + 1, by omega, by go_num, BN.out⟩
            case measure => simp [intOf]; omega
      · obtain rfl : j = d.ands.length := by omega
        have HH := Lib.hid (hash_yes d s' wo (LD.out wo BJ.out) F1.out CK2.out HNM2.out)
        rw [AG.out] at HH
        unfold cirV at HH
        rw [show cirC d s' = #[.int .i64 d.max, .slice s'.ai d.ins.length s'.ki, .slice s'.al d.lats.length s'.kl, .slice s'.ao d.outs.length s'.ko, .slice s'.ab d.bads.length s'.kb, .slice s'.ac d.invs.length s'.kc, .slice s'.aa d.ands.length s'.ka, .slice s'.an d.names.length s'.kn] from rfl] at HH
        go_wp2_with fail
        refine HH.out.mono ?_
        rintro e w2 ⟨⟨s2, rfl, hl2, hf2⟩, hb⟩
        have B2 : Hid (Below Xp.heap.size Xp w2) := BJ.out.trans (hb.mono BJ.out.size)
        have L2 := Lib.hid hl2
        clear HH hb e0 e1 e2 e3 e4 e5 e6 e7 hl2 hf2 BJ
        rw [show cirC d s2 = #[.int .i64 d.max, .slice s2.ai d.ins.length s2.ki, .slice s2.al d.lats.length s2.kl, .slice s2.ao d.outs.length s2.ko, .slice s2.ab d.bads.length s2.kb, .slice s2.ac d.invs.length s2.kc, .slice s2.aa d.ands.length s2.ka, .slice s2.an d.names.length s2.kn] from rfl]
        obtain ⟨W4q, hW4q⟩ : ∃ x, w2.alloc (.cells #[.int .i64 0, .slice none 0 0, .slice none 0 0, .slice none 0 0, .slice none 0 0, .slice none 0 0, .slice none 0 0, .slice none 0 0] 27) = x := ⟨_, rfl⟩
        have g4q : W4q.heap[w2.heap.size]? = some (.cells #[.int .i64 0, .slice none 0 0, .slice none 0 0, .slice none 0 0, .slice none 0 0, .slice none 0 0, .slice none 0 0, .slice none 0 0] 27 (0, 0)) := by rw [← hW4q]; exact Array.getElem?_push_size
        have b4q : Below w2.heap.size w2 W4q := by rw [← hW4q]; exact (Below.refl _ _).alloc (Nat.le_refl _) _
        obtain ⟨q1, q2, q3, q4, q5, q6, q7, Xq, qv0, qv1, qv2, qv3, qv4, qv5, qv6, qv7, ⟨qh1, qa0, qb0⟩, ⟨qh2, qa1, qb1⟩, ⟨qh3, qa2, qb2⟩, ⟨qh4, qa3, qb3⟩, ⟨qh5, qa4, qb4⟩, ⟨qh6, qa5, qb5⟩, ⟨qh7, qa6, qb6⟩, ⟨qh8, qa7, qb7⟩, E8q, FCq⟩ := Cw.store8 g4q rfl (.int .i64 d.max) (.slice s2.ai d.ins.length s2.ki) (.slice s2.al d.lats.length s2.kl) (.slice s2.ao d.outs.length s2.ko) (.slice s2.ab d.bads.length s2.kb) (.slice s2.ac d.invs.length s2.kc) (.slice s2.aa d.ands.length s2.ka) (.slice s2.an d.names.length s2.kn)
        have BXq : Hid (Below w2.heap.size w2 Xq) := FCq.below b4q (Nat.le_refl _)
        have GXq : Hid (Xq.heap[w2.heap.size]? = some (.cells #[.int .i64 d.max, .slice s2.ai d.ins.length s2.ki, .slice s2.al d.lats.length s2.kl, .slice s2.ao d.outs.length s2.ko, .slice s2.ab d.bads.length s2.kb, .slice s2.ac d.invs.length s2.kc, .slice s2.aa d.ands.length s2.ka, .slice s2.an d.names.length s2.kn] 27 (0, 0))) := E8q
        clear g4q b4q E8q FCq
        have BXX : Hid (Below Xp.heap.size Xp Xq) := B2.out.trans (BXq.out.mono B2.out.size)
        have BWX : Hid (Below w.heap.size w Xq) := BP.out.trans (BXX.out.mono BP.out.size)
        have KC : Hid (Xq.heap[w.heap.size]? = some (.cells (cirC c s) 27 (0, 0))) := (BXX.out.block _ (by have := lt_of_block K1.out; have := BXp.out.size; omega)).trans ((BXp.out.block _ (lt_of_block K1.out)).trans K1.out)
        have KD : Hid (Xq.heap[w1.heap.size]? = some (.cells (cirC d s') 27 (0, 0))) := (BXX.out.block _ (lt_of_block GXp.out)).trans GXp.out
        have KE : Hid (Xq.heap[w2.heap.size]? = some (.cells (cirC d s2) 27 (0, 0))) := GXq.out
        obtain ⟨e0, e1, e2, e3, e4, e5, e6, e7⟩ := cells8 KC.out
        obtain ⟨f0, f1, f2, f3, f4, f5, f6, f7⟩ := cells8 KD.out
        obtain ⟨j0, j1, j2, j3, j4, j5, j6, j7⟩ := cells8 KE.out
        have KS := Lib.hid (fun (u : Wd Xq.heap.size Xq) => Calls.in_wd u (refsame_any d s' s2 u.w (LD.out _ (BXX.out.trans (u.ok.mono BXX.out.size))) ((L2.out.below (BXq.out.trans (u.ok.mono BXq.out.size))).more (by have := BXq.out.size; have := u.ok.size; omega)) F1.out) (Nat.le_refl _))
        have KZ := Lib.hid (fun (u : Wd Xq.heap.size Xq) => Calls.in_wd u (size_any d s' u.w) (Nat.le_refl _))
        have KY := Lib.hid (fun (u : Wd Xq.heap.size Xq) => Calls.in_wd u (size_any c s u.w) (Nat.le_refl _))
        have KN := Lib.hid (fun (u : Wd Xq.heap.size Xq) => Calls.in_wd (v := .int .i64 0) u ((num_any 0 u.w).mono fun e w' ⟨h1, h2⟩ => ⟨h1, h2 ▸ Below.refl _ _⟩) (Nat.le_refl _))
        rw [show cirV d s' = .agg #[.int .i64 d.max, .slice s'.ai d.ins.length s'.ki, .slice s'.al d.lats.length s'.kl, .slice s'.ao d.outs.length s'.ko, .slice s'.ab d.bads.length s'.kb, .slice s'.ac d.invs.length s'.kc, .slice s'.aa d.ands.length s'.ka, .slice s'.an d.names.length s'.kn] from rfl, show cirV d s2 = .agg #[.int .i64 d.max, .slice s2.ai d.ins.length s2.ki, .slice s2.al d.lats.length s2.kl, .slice s2.ao d.outs.length s2.ko, .slice s2.ab d.bads.length s2.kb, .slice s2.ac d.invs.length s2.kc, .slice s2.aa d.ands.length s2.ka, .slice s2.an d.names.length s2.kn] from rfl] at KS
        rw [show cirV d s' = .agg #[.int .i64 d.max, .slice s'.ai d.ins.length s'.ki, .slice s'.al d.lats.length s'.kl, .slice s'.ao d.outs.length s'.ko, .slice s'.ab d.bads.length s'.kb, .slice s'.ac d.invs.length s'.kc, .slice s'.aa d.ands.length s'.ka, .slice s'.an d.names.length s'.kn] from rfl] at KZ
        rw [show cirV c s = .agg #[.int .i64 c.max, .slice s.ai c.ins.length s.ki, .slice s.al c.lats.length s.kl, .slice s.ao c.outs.length s.ko, .slice s.ab c.bads.length s.kb, .slice s.ac c.invs.length s.kc, .slice s.aa c.ands.length s.ka, .slice s.an c.names.length s.kn] from rfl] at KY
        have hd : decide ((d.ands.length : Int) ≤ c.ands.length) = true := decide_eq_true (by have := ME.out; omega)
        have hd2 : decide (d.ands.length ≤ c.ands.length) = true := decide_eq_true ME.out
        go_wp2
        clear hW4q qh1 qa0 qb0 qh2 qa1 qb1 qh3 qa2 qb2 qh4 qa3 qb3 qh5 qa4 qb4 qh6 qa5 qb5 qh7 qa6 qb6 qh8 qa7 qb7
        have u0 := Wd.cell e0
        have u1 := Wd.cell e1
        have u2 := Wd.cell e2
        have u3 := Wd.cell e3
        have u4 := Wd.cell e4
        have u5 := Wd.cell e5
        have u6 := Wd.cell e6
        have u7 := Wd.cell e7
        have v0 := Wd.cell f0
        have v1 := Wd.cell f1
        have v2 := Wd.cell f2
        have v3 := Wd.cell f3
        have v4 := Wd.cell f4
        have v5 := Wd.cell f5
        have v6 := Wd.cell f6
        have v7 := Wd.cell f7
        have y0 := Wd.cell j0
        have y1 := Wd.cell j1
        have y2 := Wd.cell j2
        have y3 := Wd.cell j3
        have y4 := Wd.cell j4
        have y5 := Wd.cell j5
        have y6 := Wd.cell j6
        have y7 := Wd.cell j7
        refine wp_region_wd (by kernel_rfl) (by kernel_rfl) ?_
        repeat (first | go_big_quiet_skip | (go_big_quiet_want; go_big_quiet_op; first | go_big_quiet_on | (apply Exists.intro; refine ⟨fun u => ?_, ?_⟩; (first | (go_at_call 10; exact KS.out u) | (go_at_call 13; first | exact KZ.out u | exact KY.out u) | (go_at_call 8; exact KN.out u)); go_big_quiet_on)))
        refine wpQuiet_nil ?_
        intro w9 hw'
        obtain ⟨⟨_, hb9⟩, hw''⟩ := hw'
        subst hw''
        have B9 : Hid (Below w.heap.size w w9) := BWX.out.trans (hb9.mono BWX.out.size)
        clear u0 u1 u2 u3 u4 u5 u6 u7 v0 v1 v2 v3 v4 v5 v6 v7 y0 y1 y2 y3 y4 y5 y6 y7 e0 e1 e2 e3 e4 e5 e6 e7 f0 f1 f2 f3 f4 f5 f6 f7 j0 j1 j2 j3 j4 j5 j6 j7 hb9
        go_wp2
        go_ret
        exact ⟨rfl, B9.out⟩
end Go.Proofs.Yteopehclmkhbmaa.Str
namespace Go.Proofs.Yteopehclmkhbmaa.Str
open Go.ChangeShapes Go.WideShapes Go.ChangeAt Go.RowKit Go.Maps Circ Cw

theorem less_weights {H : Type} {t : TypeId} {d : DataW H} {ts : List TypeId} {ds : List (DataW H)} (hsz : (DataW.weightsEach Try.prog (t :: ts) (d :: ds)).all (· ≤ reachBytes) = true) : ∀ n ∈ DataW.weights Try.prog t d, n ≤ reachBytes := fun n hn => by
  have := List.all_eq_true.1 hsz n (DataW.weights_mem_each (j := 0) rfl rfl n hn)
  simpa using this
set_option maxRecDepth 100000 in
theorem less_core {H : Type} {enc : TypeId × Value → H} (W : World) (v : Value) (d : DataW H) (p : List MemPlace) {r : Reach} {b0 : Nat} (hv : Value.okWide Try.prog W r b0 27 v) (h : DataW.Trod enc Try.prog W 0 (fun _ => true) true 27 v d p)
    {ts : List TypeId} {ds : List (DataW H)} (hsz : (DataW.weightsEach Try.prog (27 :: ts) (d :: ds)).all (· ≤ reachBytes) = true) :
    Calls Try.prog 4 #[v] W fun e W' => e = .returned (.bool true) ∧ Below W.heap.size W W' := by
  obtain ⟨c, s, rfl, hl, hf, hn⟩ := open_circ_n hv h (less_weights hsz)
  exact less_walk c s W hl hf hn
end Go.Proofs.Yteopehclmkhbmaa.Str
namespace Go.Proofs.Yteopehclmkhbmaa.Frame
open Go.ChangeShapes Go.WideShapes Go.ChangeAt Go.RowKit

theorem trodAll_stays {H : Type} {enc : TypeId × Value → H} {P : Program} (hl : laidOutB P = true) {W W' : World} (hb : Below W.heap.size W W') :
    ∀ (ts : List TypeId) (vs : List Value) (ds : List (DataW H)) (ps : List MemPlace), (∀ t ∈ ts, P.readableRec t = true ∧ t < P.types.size) →
      DataW.TrodAll enc P W 0 (fun _ => true) true ts vs ds ps → (∀ p ∈ ps, p.block < W.heap.size) →
      DataW.TrodAll enc P W' 0 (fun b => decide (b < W.heap.size)) true ts vs ds ps
  | [], [], [], _, _, h, _ => h
  | t :: ts, v :: vs, d :: ds, _, ht, ⟨p, q, h0, hr, e⟩, hlt => by
    subst e
    obtain ⟨hr1, hr2⟩ := ht t (List.mem_cons_self ..)
    exact ⟨p, q, Below.trod hl hr1 hr2 h0 hb (fun x hx => hlt x (List.mem_append_left _ hx)), trodAll_stays hl hb ts vs ds q (fun t' h' => ht t' (List.mem_cons_of_mem _ h')) hr (fun x hx => hlt x (List.mem_append_right _ hx)), rfl⟩
  | [], [], _ :: _, _, _, h, _ => h.elim
  | [], _ :: _, _, _, _, h, _ => h.elim
  | _ :: _, [], _, _, _, h, _ => h.elim
  | _ :: _, _ :: _, [], _, _, h, _ => h.elim

theorem trodAll_length {H : Type} {enc : TypeId × Value → H} {P : Program} {W : World} {base : Nat} {sp : Nat → Bool} {held : Bool} :
    ∀ (ts : List TypeId) (vs : List Value) (ds : List (DataW H)) (ps : List MemPlace), DataW.TrodAll enc P W base sp held ts vs ds ps → ds.length = ts.length
  | [], [], [], _, _ => rfl
  | _ :: ts, _ :: vs, _ :: ds, _, ⟨_, q, _, hr, _⟩ => by simp only [List.length_cons]; rw [trodAll_length ts vs ds q hr]
  | [], [], _ :: _, _, h => h.elim
  | [], _ :: _, _, _, h => h.elim
  | _ :: _, [], _, _, h => h.elim
  | _ :: _, _ :: _, [], _, h => h.elim

/-- THE POST OF A LAW: true; each argument reads as it did. -/
theorem law_post {H : Type} {enc : TypeId × Value → H} {P : Program} {f : Func} {s : ChangeSpec} {W W' : World} {args : Array Value} {ds gs : List (DataW H)} {before : List MemPlace} {tb : TypeId}
    (hl : laidOutB P = true) (hts : f.params.toList.all (fun t => P.readableRec t && decide (t < P.types.size)) = true) (hv : s.vars = []) (hres : f.resultTypes = #[tb]) (htb : P.underlying tb = some .bool)
    (hspec : ∀ ds : List (DataW H), ds.length = f.params.size → s.fn H ds = { results := [.lit (.bool true)], args := ds })
    (hW : DataW.Whole enc P f.params.toList s.vars false W args.toList ds gs before) (hb : Below W.heap.size W W') :
    s.post enc P f false true false false W args (.bool true) W' := by
  have hW' := hW
  obtain ⟨p, q, hA, hV, rfl, hfz, hnd⟩ := hW
  rw [hv] at hV
  obtain ⟨rfl, rfl⟩ := trodVars_none hV
  have hlen := trodAll_length _ _ _ _ hA
  have hlt : ∀ x ∈ p, x.block < W.heap.size := fun x hx => hW'.lt x (by simpa using hx)
  have hs := hspec ds (by rw [hlen]; simp)
  refine ⟨ds, [], p ++ [], [], p, [], hW', ?_, ?_, ?_, Below.frame hb _, fun h => by cases h⟩
  · rw [List.append_nil, hs, hres]
    exact trodAll_mk1 (shut_bool htb true)
  · rw [List.append_nil, hs]
    exact trodAll_stays hl hb _ _ _ _ (fun t ht => by
      have := List.all_eq_true.1 hts t ht
      simp only [Bool.and_eq_true, decide_eq_true_eq] at this
      exact this) hA hlt
  · rw [hv, List.append_nil, hs]
    rfl

end Go.Proofs.Yteopehclmkhbmaa.Frame
