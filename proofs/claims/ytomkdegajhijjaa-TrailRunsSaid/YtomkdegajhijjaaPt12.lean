/- TrailBack, from what it asks of the program's own trail; condition: the lists lie in memory. -/
import Derived.Test.YtomkdegajhijjaaPt11
namespace Go.Proofs.Ytomkdegajhijjaa.Tra
open Go.ChangeShapes Go.WideShapes Go.ChangeAt Go.RowKit Go.Maps Circ Cw Cla

/-- a list that was handed out: nobody turns it -/
def Wasl (I : TrailI) (b : Nat) (A : Option Addr) (l : List Int) (w : World) : Prop := l = [] ∨ ∃ g o, A = some ⟨g, o, none⟩ ∧ g < w.heap.size ∧ ¬ I.own w b g ∧ LRow w w.heap.size 1 A (ints l)
section
variable {I : TrailI} {w0 w w' : World} {b : Nat} {vars : Int} {hs L : List Tri} {d : Int} {vs : Value} {A : Option Addr} {l : List Int}
theorem Wasl.start (h : Fresh I w b w' A l) : Wasl I b A l w' := by
  have hr := fresh_row h
  rcases h with h | ⟨g, o, h1, _, h3, h4⟩
  · exact .inl h
  · rcases h4 with h4 | ⟨b', o', e, hb, _⟩
    · left; simpa [ints] using h4
    · rw [h1] at e
      injection e with e
      injection e with e1 e2
      subst e1
      exact .inr ⟨g, o, h1, hb, h3, hr⟩
theorem row_keep {w w' : World} {B B' g o : Nat} {A : Option Addr} {xs : List (List Value)} (h : LRow w B 1 A xs) (hA : A = some ⟨g, o, none⟩) (hg : g < B') (hk : w'.heap[g]? = w.heap[g]?) : LRow w' B' 1 A xs := by
  rcases h with h | ⟨b', o', e, _, hc⟩
  · exact .inl h
  · rw [hA] at e
    injection e with e
    injection e with e1 e2
    subst e1
    subst e2
    refine .inr ⟨g, o, hA, hg, fun i ys hi j u hj => ?_⟩
    have h0 := hc i ys hi j u hj
    unfold World.cell? at h0 ⊢
    simp only [hk]
    exact h0
theorem Wasl.later (P : Prog15 I) (hx : Wasl I b A l w) (h : Inv I w0 b vars hs L d vs w) (hb : Below w.heap.size w w') : Wasl I b A l w' := by
  rcases hx with hx | ⟨g, o, h1, h2, h3, h4⟩
  · exact .inl hx
  · obtain ⟨-, h5⟩ := P.keep w w' b vars hs d h.at_ hb.size (fun k hk => hb.block k (P.lt w b vars hs d k h.at_ hk))
    exact .inr ⟨g, o, h1, Nat.lt_of_lt_of_le h2 hb.size, fun ho => h3 (h5 g ho), row_keep h4 h1 (Nat.lt_of_lt_of_le h2 hb.size) (hb.block g h2)⟩
theorem Wasl.eff (hx : Wasl I b A l w) (he : Eff I w b w') : Wasl I b A l w' := by
  rcases hx with hx | ⟨g, o, h1, h2, h3, h4⟩
  · exact .inl hx
  · refine .inr ⟨g, o, h1, Nat.lt_of_lt_of_le h2 he.size, fun ho => ?_, row_keep h4 h1 (Nat.lt_of_lt_of_le h2 he.size) (he.other g h2 h3)⟩
    rcases he.own g ho with h | h
    · exact h3 h
    · omega
theorem Wasl.row (hx : Wasl I b A l w) : LRow w w.heap.size 1 A (ints l) := by
  rcases hx with hx | ⟨g, o, h1, h2, h3, h4⟩
  · left; rw [hx]; rfl
  · exact h4
end
/-- what was set at first: at level 0 -/
def Flat (L : List Tri) : Prop := ∀ s ∈ L, s.b = 0 ∧ I64 s.a
theorem flat_put {L : List Tri} {vars l r : Int} (h : Flat L) (hl : I64 l) : Flat (putL vars L 0 l r) := by
  unfold putL
  split
  · intro s hs
    rcases List.mem_append.1 hs with hs | hs
    · exact h s hs
    · obtain rfl := List.mem_singleton.1 hs
      exact ⟨rfl, hl⟩
  · exact h
/-- what was set later: at levels above 0 -/
def Over (L1 L : List Tri) : Prop := ∃ M, L = L1 ++ M ∧ ∀ s ∈ M, 1 ≤ s.b
theorem over_put {L1 L : List Tri} {vars d l r : Int} (h : Over L1 L) (hd : 1 ≤ d) : Over L1 (putL vars L d l r) := by
  obtain ⟨M, rfl, hM⟩ := h
  unfold putL
  split
  · refine ⟨M ++ [⟨l, d, r⟩], by rw [List.append_assoc], fun s hs => ?_⟩
    rcases List.mem_append.1 hs with hs | hs
    · exact hM s hs
    · obtain rfl := List.mem_singleton.1 hs
      exact hd
  · exact ⟨M, rfl, hM⟩
theorem over_back {L1 L : List Tri} (h1 : Flat L1) (h : Over L1 L) {d : Int} (hd : 0 ≤ d) (hz : d = 0 → L = L1) : backL L d 0 = L1 ∧ backD d 0 = 0 := by
  obtain ⟨M, rfl, hM⟩ := h
  have hl : lvlM 0 = 0 := rfl
  unfold backL backD
  rw [hl]
  by_cases h0 : 0 < d
  · rw [if_pos h0, if_pos h0]
    refine ⟨?_, rfl⟩
    rw [List.filter_append, List.filter_eq_self.2 (fun s hs => by rw [(h1 s hs).1]; rfl), List.filter_eq_nil_iff.2 (fun s hs => by have := hM s hs; simp; omega), List.append_nil]
  · rw [if_neg h0, if_neg h0]
    exact ⟨hz (by omega), by omega⟩
def nearM (ys : List Int) (x : Int) : Bool := ys.any fun y => decide (absW y = absW x)
theorem near_next (ys : List Int) (x : Int) (k : Nat) (hk : k < ys.length) : nearM (ys.take (k + 1)) x = (nearM (ys.take k) x || decide (absW ys[k] = absW x)) := by
  unfold nearM
  rw [List.take_succ_eq_append_getElem hk, List.any_append]; simp
theorem near_none {L : List Tri} {x : Int} (h : nearM (L.map Tri.a) x = false) : valM L x = 0 := by
  unfold valM
  have : atM L (absW x) = none := by
    unfold atM
    rw [List.find?_eq_none]
    intro s hs
    unfold nearM at h
    rw [List.any_eq_false] at h
    have := h s.a (List.mem_map_of_mem hs)
    simpa using this
  rw [this]
set_option maxHeartbeats 16000000 in
set_option maxRecDepth 100000 in
theorem back_walk {I : TrailI} (P : Prog15 I) (l m : List Int) (A B : Option Addr) (q r : Nat) (w : World) (hl : ILies w w.heap.size A l) (hm : ILies w w.heap.size B m) (hm2 : m.length ≤ 1000000000000000000) :
    Calls Try.prog 5 #[.slice A l.length q, .slice B m.length r] w fun e w' => e = .returned (.bool true) ∧ Below w.heap.size w w' := by
  have AL := Lib.hid (alive_any P w)
  have HL := Lib.hid (fun x (hx : Below w.heap.size w x) => (hl.below hx).row)
  have HM := Lib.hid (fun x (hx : Below w.heap.size w x) => (hm.below hx).row)
  have FL := Lib.hid hl.fits
  have FM := Lib.hid hm.fits
  have hll := hl.len
  clear hl hm
  go_enter Try.func5, Try.ntmps5
  go_wp2_with fail
  refine AL.out.mono ?_
  rintro e w1 ⟨rfl, hb1⟩
  go_wp2_with fail
  refine (P.new 9 w1 (by decide) (by decide)).mono ?_
  rintro e w2 ⟨⟨b, rfl, ha, ho⟩, hb2⟩
  have J2 := Lib.hid (Inv.start (w0 := w) ha (fun k hk => Nat.le_trans hb1.size (ho k hk)) (hb1.trans (hb2.mono hb1.size)))
  clear ha ho hb2 hb1 AL
  go_wp2
  go_loopw [6] (fun i wr => ∃ (k : Nat) (L : List Tri), k ≤ l.length ∧ i = .int .i64 k ∧ Flat L ∧ Inv I w b 9 L [] 0 (.slice none 0 0) wr) (fun i _ => l.length - (intOf i).toNat)
  case atStart => exact ⟨0, [], Nat.zero_le _, rfl, fun _ h => (List.not_mem_nil h).elim, J2.out⟩
  case round =>
    clear J2
    obtain ⟨k, L, hk, rfl, hfl, hJ⟩ := hrel
    have F := Lib.hid hfl
    have J := Lib.hid hJ
    clear hfl hJ
    by_cases hlt : k < l.length
    · obtain ⟨bx, ox, rfl, -, hc⟩ := LRow.int (HL.out wr J.out.bl) hlt
      have HX := Lib.hid (FL.out _ (List.getElem_mem hlt))
      generalize l[k] = x at *
      have k1 : (k : Int) < (l.length : Int) := by omega
      have PU := Lib.hid (P.put wr b _ _ _ x (k : Int) J.out.at_ HX.out ⟨by omega, by omega⟩)
      go_wp2_with fail
      refine PU.out.mono ?_
      rintro e w3 ⟨rfl, ha, he⟩
      have J3 := Lib.hid (J.out.eff ha he)
      have F3 := Lib.hid (flat_put (vars := 9) (r := (k : Int)) F.out HX.out)
      clear ha he PU
      go_wp2
      go_roundw
      case rel => exact ⟨k + 1, _, by omega, by go_num, F3.out, J3.out⟩
      case measure => simp [intOf]; omega
    · have k1 : ¬ (k : Int) < (l.length : Int) := by omega
      obtain ⟨wq, rfl⟩ : ∃ x, x = wr := ⟨_, rfl⟩
      obtain ⟨L1, rfl⟩ : ∃ x, x = L := ⟨_, rfl⟩
      have LI := Lib.hid (P.lits wq b _ _ _ J.out.at_)
      obtain ⟨ys, hys⟩ : ∃ y, L1.map Tri.a = y := ⟨_, rfl⟩
      have hyl : ys.length = L1.length := by rw [← hys, List.length_map]
      rw [hys, ← hyl] at LI
      have HYS := Lib.hid hys
      have HYF : Hid (∀ x ∈ ys, I64 x) := fun x hx => by
        rw [← hys] at hx
        obtain ⟨s, hs, rfl⟩ := List.mem_map.1 hx
        exact (F.out s hs).2
      clear hys hyl
      go_wp2_with fail
      refine LI.out.mono ?_
      rintro e w3 ⟨⟨A5, q5, rfl, hzl, hfr⟩, hb3⟩
      have J3 := Lib.hid (J.out.later P hb3)
      have W3 := Lib.hid (Wasl.start hfr)
      have HZL := Lib.hid hzl
      clear hfr hb3 LI J hzl
      go_wp2
      go_loopw [8] (fun i wr => ∃ (j : Nat) (L : List Tri), j ≤ m.length ∧ i = .int .i64 j ∧ Over L1 L ∧ (j = 0 → L = L1) ∧ Wasl I b A5 ys wr ∧ Inv I w b 9 L [] (j : Int) (.slice none 0 0) wr) (fun i _ => m.length - (intOf i).toNat)
      case atStart => exact ⟨0, L1, Nat.zero_le _, rfl, ⟨[], by simp, fun _ h => (List.not_mem_nil h).elim⟩, fun _ => rfl, W3.out, J3.out⟩
      case round =>
        clear J3 W3
        obtain ⟨j, L, hj, rfl, hov, hz, hW, hJ⟩ := hrel
        have O := Lib.hid hov
        have Z := Lib.hid hz
        have WA := Lib.hid hW
        have J := Lib.hid hJ
        clear hov hz hW hJ
        by_cases hlt : j < m.length
        · have j1 : (j : Int) < (m.length : Int) := by omega
          have PD := Lib.hid (P.deeper wr b _ _ _ J.out.at_ (by omega))
          go_wp2_with fail
          refine PD.out.mono ?_
          rintro e w4 ⟨rfl, ha, he⟩
          have J4 := Lib.hid (J.out.eff ha he)
          have W4 := Lib.hid (WA.out.eff he)
          clear ha he PD J WA
          obtain ⟨bx, ox, rfl, -, hc⟩ := LRow.int (HM.out w4 J4.out.bl) hlt
          have HX := Lib.hid (FM.out _ (List.getElem_mem hlt))
          generalize m[j] = x at *
          have PU := Lib.hid (P.put w4 b _ _ _ x (j : Int) J4.out.at_ HX.out ⟨by omega, by omega⟩)
          go_wp2_with fail
          refine PU.out.mono ?_
          rintro e w5 ⟨rfl, ha, he⟩
          have J5 := Lib.hid (J4.out.eff ha he)
          have W5 := Lib.hid (W4.out.eff he)
          have O5 := Lib.hid (over_put (vars := 9) (l := x) (r := (j : Int)) O.out (show (1 : Int) ≤ (j : Int) + 1 by omega))
          clear ha he PU J4 W4
          go_wp2
          go_roundw
          case rel => exact ⟨j + 1, _, by omega, by go_num, O5.out, fun h => absurd h (by omega), W5.out, J5.out⟩
          case measure => simp [intOf]; omega
        · have j1 : ¬ (j : Int) < (m.length : Int) := by omega
          obtain ⟨wq, rfl⟩ : ∃ x, x = wr := ⟨_, rfl⟩
          have PB := Lib.hid (P.back wq b _ _ _ 0 J.out.at_ ⟨by decide, by decide⟩)
          obtain ⟨hB1, hB2⟩ := over_back F.out O.out (d := (j : Int)) (by omega) (fun h => Z.out (by omega))
          rw [hB1, hB2] at PB
          clear hB1 hB2
          go_wp2_with fail
          refine PB.out.mono ?_
          rintro e w4 ⟨rfl, ha, he⟩
          have J4 := Lib.hid (J.out.eff ha he)
          have W4 := Lib.hid (WA.out.eff he)
          clear ha he PB J WA O Z
          go_wp2
          go_loopw [9] (fun i wr => ∃ (n : Nat), n ≤ m.length ∧ i = .int .i64 n ∧ Wasl I b A5 ys wr ∧ Inv I w b 9 L1 [] 0 (.slice none 0 0) wr) (fun i _ => m.length - (intOf i).toNat)
          case atStart => exact ⟨0, Nat.zero_le _, rfl, W4.out, J4.out⟩
          case round =>
            clear J4 W4
            obtain ⟨n, hn, rfl, hW, hJ⟩ := hrel
            have WA := Lib.hid hW
            have J := Lib.hid hJ
            clear hW hJ
            by_cases hnt : n < m.length
            · have n1 : (n : Int) < (m.length : Int) := by omega
              have HX := Lib.hid (FM.out _ (List.getElem_mem hnt))
              have HMX : Hid (∀ x, Below w.heap.size w x → ∃ b o, B = some ⟨b, o, none⟩ ∧ b < w.heap.size ∧ x.cell? ⟨b, o + n, none⟩ = some (.int .i64 m[n])) := fun x hx => LRow.int (HM.out x hx) hnt
              obtain ⟨bm, om, rfl, -, -⟩ := HMX.out w (Below.refl _ _)
              have HMC : Hid (∀ x, Below w.heap.size w x → x.cell? ⟨bm, om + n, none⟩ = some (.int .i64 m[n])) := fun x hx => by
                obtain ⟨b', o', e, -, h⟩ := HMX.out x hx
                injection e with e
                injection e with e1 e2
                subst e1
                subst e2
                exact h
              generalize m[n] = x at *
              clear HMX
              obtain ⟨wo, rfl⟩ : ∃ x, x = wr := ⟨_, rfl⟩
              have hzl := HZL.out
              go_wp2
              go_loopw [10, 11] (fun s i wr => ∃ (h : Nat), h ≤ ys.length ∧ i = .int .i64 h ∧ s = .bool (nearM (ys.take h) x) ∧ Wasl I b A5 ys wr ∧ Inv I w b 9 L1 [] 0 (.slice none 0 0) wr) (fun _ i _ => ys.length - (intOf i).toNat)
              case atStart => exact ⟨0, Nat.zero_le _, rfl, rfl, WA.out, J.out⟩
              case round =>
                clear WA J
                obtain ⟨h, hh, rfl, rfl, hW, hJ⟩ := hrel
                have WA := Lib.hid hW
                have J := Lib.hid hJ
                clear hW hJ
                by_cases hht : h < ys.length
                · have h1 : (h : Int) < (ys.length : Int) := by omega
                  obtain ⟨by0, oy, rfl, -, hc⟩ := LRow.int WA.out.row hht
                  have HN := Lib.hid (near_next ys x h hht)
                  have AY := Lib.hid (fun w => abs_any ys[h] w (HYF.out _ (List.getElem_mem hht)))
                  have AX := Lib.hid (fun w => abs_any x w HX.out)
                  have hcm := HMC.out wr J.out.bl
                  generalize hb : nearM (ys.take h) x = nb at *
                  have HB := Lib.hid hb
                  clear hb
                  generalize ys[h] = y at *
                  have u0 := Wd.cell hc
                  have u1 := Wd.cell hcm
                  have K1 := Lib.hid (fun (u : Wd wr.heap.size wr) => Calls.in_wd u ((AY.out u.w).mono fun e w' ⟨h1, h2⟩ => ⟨h1, h2 ▸ Below.refl _ _⟩) (Nat.le_refl _))
                  have K2 := Lib.hid (fun (u : Wd wr.heap.size wr) => Calls.in_wd u ((AX.out u.w).mono fun e w' ⟨h1, h2⟩ => ⟨h1, h2 ▸ Below.refl _ _⟩) (Nat.le_refl _))
                  have HD : Hid ((absW y == absW x) = decide (absW y = absW x)) := rfl
                  generalize absW y = ay at *
                  generalize absW x = ax at *
                  cases nb with
                  | true =>
                    have HE : Hid (nearM (ys.take (h + 1)) x = true) := HN.out
                    clear hc hcm AY AX
                    go_wp2
                    refine wp_region_wd (by kernel_rfl) (by kernel_rfl) ?_
                    repeat (first | go_big_quiet_skip | (go_big_quiet_want; go_big_quiet_op; first | go_big_quiet_on | (apply Exists.intro; refine ⟨fun u => ?_, ?_⟩; (first | (go_at_call 8; first | with_reducible exact K1.out u | with_reducible exact K2.out u)); go_big_quiet_on)))
                    refine wpQuiet_nil ?_
                    intro w11 hw'
                    obtain ⟨⟨_, hb9⟩, hw''⟩ := hw'
                    subst hw''
                    have J11 := Lib.hid (J.out.later P hb9)
                    have W11 := Lib.hid (WA.out.later P J.out hb9)
                    clear hb9 u0 u1 K1 K2 J WA
                    go_wp2
                    go_roundw
                    case rel => exact ⟨h + 1, by omega, by go_num, by rw [HE.out], W11.out, J11.out⟩
                    case measure => simp [intOf]; omega
                  | false =>
                    have HE : Hid (nearM (ys.take (h + 1)) x = decide (ay = ax)) := HN.out
                    clear hc hcm AY AX
                    go_wp2
                    refine wp_region_wd (by kernel_rfl) (by kernel_rfl) ?_
                    repeat (first | go_big_quiet_skip | (go_big_quiet_want; go_big_quiet_op; first | go_big_quiet_on | (apply Exists.intro; refine ⟨fun u => ?_, ?_⟩; (first | (go_at_call 8; first | with_reducible exact K1.out u | with_reducible exact K2.out u)); go_big_quiet_on)))
                    refine wpQuiet_nil ?_
                    intro w11 hw'
                    obtain ⟨⟨_, hb9⟩, hw''⟩ := hw'
                    subst hw''
                    have J11 := Lib.hid (J.out.later P hb9)
                    have W11 := Lib.hid (WA.out.later P J.out hb9)
                    clear hb9 u0 u1 K1 K2 J WA
                    go_wp2
                    go_roundw
                    case rel => exact ⟨h + 1, by omega, by go_num, by rw [HE.out]; first | rfl | simp, W11.out, J11.out⟩
                    case measure => simp [intOf]; omega
                · have h1 : ¬ (h : Int) < (ys.length : Int) := by omega
                  have HH : Hid (h = ys.length) := by unfold Hid; omega
                  have HNN : Hid (nearM (ys.take h) x = nearM (L1.map Tri.a) x) := by unfold Hid; rw [HH.out, List.take_length, HYS.out]
                  have hcm := HMC.out wr J.out.bl
                  have PV := Lib.hid (P.value wr b _ _ _ x J.out.at_ HX.out)
                  obtain ⟨wq, rfl⟩ : ∃ x, x = wr := ⟨_, rfl⟩
                  cases hb : nearM (L1.map Tri.a) x with
                  | true =>
                    rw [hb] at HNN
                    have hn2 := HNN.out
                    rw [hn2]
                    clear hb hn2 PV
                    go_wp2
                    go_roundw
                    case rel => exact ⟨n + 1, by omega, by go_num, WA.out, J.out⟩
                    case measure => simp [intOf]; omega
                  | false =>
                    rw [near_none hb] at PV
                    rw [hb] at HNN
                    have hn2 := HNN.out
                    rw [hn2]
                    clear hb hn2
                    go_wp2_with fail
                    refine PV.out.mono ?_
                    rintro e w11 ⟨rfl, hb9⟩
                    have J11 := Lib.hid (J.out.later P hb9)
                    have W11 := Lib.hid (WA.out.later P J.out hb9)
                    clear hb9 PV J WA
                    go_wp2
                    go_roundw
                    case rel => exact ⟨n + 1, by omega, by go_num, W11.out, J11.out⟩
                    case measure => simp [intOf]; omega
            · have n1 : ¬ (n : Int) < (m.length : Int) := by omega
              obtain ⟨wq, rfl⟩ : ∃ x, x = wr := ⟨_, rfl⟩
              have LI := Lib.hid (P.lits wq b _ _ _ J.out.at_)
              rw [show L1.length = ys.length by rw [← HYS.out, List.length_map], HYS.out] at LI
              go_wp2_with fail
              refine LI.out.mono ?_
              rintro e w11 ⟨⟨A7, q7, rfl, hz7, hfr⟩, hb3⟩
              have J11 := Lib.hid (J.out.later P hb3)
              have W11 := Lib.hid (WA.out.later P J.out hb3)
              have IC := Lib.hid (ints_any ys ys A7 A5 q7 q5 w11 ⟨fresh_row hfr, HYF.out, hz7⟩ ⟨W11.out.row, HYF.out, hz7⟩)
              rw [decide_eq_true rfl] at IC
              clear hfr hb3 LI J WA hz7
              go_wp2_with fail
              refine IC.out.mono ?_
              rintro e w12 ⟨rfl, hb3⟩
              have J12 := Lib.hid (J11.out.later P hb3)
              have PD := Lib.hid (P.depth w12 b _ _ _ J12.out.at_)
              clear hb3 IC J11
              go_wp2_with fail
              refine PD.out.mono ?_
              rintro e w13 ⟨rfl, hb3⟩
              have J13 := Lib.hid (J12.out.later P hb3)
              clear hb3 PD J12
              go_wp2
              go_ret
              exact ⟨rfl, J13.out.bl⟩
end Go.Proofs.Ytomkdegajhijjaa.Tra
