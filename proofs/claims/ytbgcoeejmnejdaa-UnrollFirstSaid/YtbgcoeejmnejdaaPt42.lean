/- What layer 13's laws call of the pages' own, and their own right, within: interlockref07.In, interlockref01.Within; condition: lists lie in memory. interlockref07.In: a state is in clauses; the law's own check of a question; condition: lists lie in memory. The law's own check of a question; condition: its lists lie in memory. -/
import Derived.Test.YtbgcoeejmnejdaaPt33
import Derived.Test.YtbgcoeejmnejdaaPt41
namespace Go.Proofs.Ytbgcoeejmnejdaa.Unr
open Go.ChangeShapes Go.WideShapes Go.ChangeAt Go.RowKit Go.Maps Circ Cw Str Sim Rep Cla Tse

set_option maxHeartbeats 8000000 in
set_option maxRecDepth 100000 in
theorem within01_any (m : Int) (l : List Int) (A : Option Addr) (q : Nat) (w : World) (h : ILies w w.heap.size A l) :
    Calls Try.prog 121 #[.int .i64 m, .slice A l.length q] w fun e w' => e = .returned (.bool (withL m l)) ∧ w = w' := by
  have H := Lib.hid h
  have hll := h.len
  have HALL : Hid (∀ k, k < l.length → (decide (0 ≤ m) && (decide (m ≤ 2048) && (decide (0 ≤ l.getD k 0) && decide (l.getD k 0 ≤ 2 * m + 1)))) = false → withL m l = false) := fun k hk hx => by
    unfold withL
    rw [List.all_eq_false]
    refine ⟨l[k], List.getElem_mem hk, ?_⟩
    rw [List.getD_eq_getElem?_getD, List.getElem?_eq_getElem hk] at hx
    simpa using hx
  have HEND : Hid ((∀ k, k < l.length → (decide (0 ≤ m) && (decide (m ≤ 2048) && (decide (0 ≤ l.getD k 0) && decide (l.getD k 0 ≤ 2 * m + 1)))) = true) → withL m l = true) := fun hx => by
    unfold withL
    rw [List.all_eq_true]
    intro x hm
    obtain ⟨k, hk, rfl⟩ := List.getElem_of_mem hm
    have := hx k hk
    rw [List.getD_eq_getElem?_getD, List.getElem?_eq_getElem hk] at this
    exact this
  clear h
  generalize withL m l = y at *
  go_enter Try.func121, Try.ntmps121
  go_wp2
  go_loop [5] (fun i => ∃ k : Nat, k ≤ l.length ∧ i = .int .i64 k ∧ ∀ j, j < k → (decide (0 ≤ m) && (decide (m ≤ 2048) && (decide (0 ≤ l.getD j 0) && decide (l.getD j 0 ≤ 2 * m + 1)))) = true) (fun i => l.length - (intOf i).toNat)
  case atStart => exact ⟨0, Nat.zero_le _, rfl, fun j hj => absurd hj (Nat.not_lt_zero _)⟩
  case round =>
    obtain ⟨k, hk, rfl, ha⟩ := hrel
    have HA := Lib.hid ha
    clear ha
    by_cases hlt : k < l.length
    · obtain ⟨b, o, hA, -, hc⟩ := LRow.int H.out.row hlt
      have HG : Hid (l.getD k 0 = l[k]) := by unfold Hid; rw [List.getD_eq_getElem?_getD, List.getElem?_eq_getElem hlt]; rfl
      have NO := Lib.hid (HALL.out k hlt)
      rw [HG.out] at NO
      have HN : Hid ((decide (0 ≤ m) && (decide (m ≤ 2048) && (decide (0 ≤ l[k]) && decide (l[k] ≤ 2 * m + 1)))) = true → ∀ j, j < k + 1 → (decide (0 ≤ m) && (decide (m ≤ 2048) && (decide (0 ≤ l.getD j 0) && decide (l.getD j 0 ≤ 2 * m + 1)))) = true) := fun hx j hj => by
        by_cases e : j = k
        · subst e; rw [HG.out]; exact hx
        · exact HA.out j (by omega)
      have hkz : (k : Int) < (l.length : Int) := by omega
      subst hA
      clear HG
      generalize l[k] = x at *
      by_cases h1 : m < 0
      · have hd : decide (m < 0) = true := decide_eq_true h1
        have HY : Hid (y = false) := NO.out (by rw [decide_eq_false (show ¬ 0 ≤ m by omega)]; rfl)
        clear NO HN
        go_wp2
        go_ret
        exact ⟨by rw [HY.out]; rfl, rfl⟩
      · have hd : decide (m < 0) = false := decide_eq_false h1
        by_cases h2 : 2048 < m
        · have hd2 : decide (2048 < m) = true := decide_eq_true h2
          have HY : Hid (y = false) := NO.out (by rw [decide_eq_false (show ¬ m ≤ 2048 by omega)]; simp)
          clear NO HN
          go_wp2
          go_ret
          exact ⟨by rw [HY.out]; rfl, rfl⟩
        · have hd2 : decide (2048 < m) = false := decide_eq_false h2
          have hw : wrap64 (2 * m) = 2 * m := by unfold wrap64; omega
          have hw2 : wrap64 (2 * m + 1) = 2 * m + 1 := by unfold wrap64; omega
          by_cases h3 : x < 0
          · have hd3 : decide (x < 0) = true := decide_eq_true h3
            have HY : Hid (y = false) := NO.out (by rw [decide_eq_false (show ¬ 0 ≤ x by omega)]; simp)
            clear NO HN
            go_wp2
            go_ret
            exact ⟨by rw [HY.out]; rfl, rfl⟩
          · have hd3 : decide (x < 0) = false := decide_eq_false h3
            by_cases h4 : 2 * m + 1 < x
            · have hd4 : decide (2 * m + 1 < x) = true := decide_eq_true h4
              have HY : Hid (y = false) := NO.out (by rw [decide_eq_false (show ¬ x ≤ 2 * m + 1 by omega)]; simp)
              clear NO HN
              go_wp2
              go_ret
              exact ⟨by rw [HY.out]; rfl, rfl⟩
            · have hd4 : decide (2 * m + 1 < x) = false := decide_eq_false h4
              have HX := Lib.hid (HN.out (by rw [decide_eq_true (show 0 ≤ m by omega), decide_eq_true (show m ≤ 2048 by omega), decide_eq_true (show 0 ≤ x by omega), decide_eq_true (show x ≤ 2 * m + 1 by omega)]; rfl))
              clear NO HN
              go_wp2
              go_round
              case rel => exact ⟨k + 1, by omega, by go_num, HX.out⟩
              case measure => simp [intOf]; omega
    · obtain rfl : k = l.length := by omega
      have HY : Hid (y = true) := HEND.out HA.out
      go_wp2
      go_ret
      exact ⟨by rw [HY.out]; rfl, rfl⟩
set_option maxHeartbeats 8000000 in
set_option maxRecDepth 100000 in
theorem right_any (c : Cir) (s : Places) (f : Int) (w : World) (h : CLies w w.heap.size c s) (hf : CFits c s) :
    Calls Try.prog 36 #[cirV c s, .int .i64 f] w fun e w' => e = .returned (.bool (rightM c f)) ∧ Below w.heap.size w w' := by
  obtain ⟨WA, hWA⟩ : ∃ x, w.alloc (.cells #[.int .i64 c.max, .slice s.ai c.ins.length s.ki, .slice s.al c.lats.length s.kl, .slice s.ao c.outs.length s.ko, .slice s.ab c.bads.length s.kb, .slice s.ac c.invs.length s.kc, .slice s.aa c.ands.length s.ka, .slice s.an c.names.length s.kn] 27) = x := ⟨_, rfl⟩
  have bA : Hid (Below w.heap.size w WA) := by unfold Hid; rw [← hWA]; exact (Below.refl _ _).alloc (Nat.le_refl _) _
  have GA : Hid (WA.heap[w.heap.size]? = some (.cells (cirC c s) 27 (0, 0))) := by unfold Hid; rw [← hWA]; exact Array.getElem?_push_size
  have CK := Lib.hid (refcheck_any c s WA ((h.below bA.out).more bA.out.size) hf)
  obtain ⟨e0, e1, e2, e3, e4, e5, e6, e7⟩ := cells8 GA.out
  clear h hf
  unfold cirV at *
  rw [show cirC c s = #[.int .i64 c.max, .slice s.ai c.ins.length s.ki, .slice s.al c.lats.length s.kl, .slice s.ao c.outs.length s.ko, .slice s.ab c.bads.length s.kb, .slice s.ac c.invs.length s.kc, .slice s.aa c.ands.length s.ka, .slice s.an c.names.length s.kn] from rfl] at *
  have HR : Hid (rightM c f = (decide (0 ≤ f) && (decide (f ≤ 80) && refOk c))) := rfl
  rw [HR.out]
  by_cases h1 : 0 ≤ f
  · have hd1 : decide (0 ≤ f) = true := decide_eq_true h1
    rw [hd1, Bool.true_and]
    by_cases h2 : f ≤ 80
    · have hd2 : decide (f ≤ 80) = true := decide_eq_true h2
      rw [hd2, Bool.true_and]
      cases hr : refOk c with
      | true =>
        rw [show refV c = 0 from by unfold refV; rw [if_pos hr]] at CK
        clear hr HR
        go_enter Try.func36, Try.ntmps36
        go_wp2_with fail
        refine CK.out.mono ?_
        rintro e w3 ⟨rfl, hb⟩
        have B3 : Hid (Below w.heap.size w w3) := bA.out.trans (hb.mono bA.out.size)
        clear hb CK e0 e1 e2 e3 e4 e5 e6 e7 hWA
        go_wp2
        go_ret
        exact ⟨rfl, B3.out⟩
      | false =>
        rw [show refV c = 9 from by unfold refV; rw [if_neg (by rw [hr]; decide)]] at CK
        clear hr HR
        go_enter Try.func36, Try.ntmps36
        go_wp2_with fail
        refine CK.out.mono ?_
        rintro e w3 ⟨rfl, hb⟩
        have B3 : Hid (Below w.heap.size w w3) := bA.out.trans (hb.mono bA.out.size)
        clear hb CK e0 e1 e2 e3 e4 e5 e6 e7 hWA
        go_wp2
        go_ret
        exact ⟨rfl, B3.out⟩
    · have hd2 : decide (f ≤ 80) = false := decide_eq_false h2
      rw [hd2, Bool.false_and]
      clear CK HR
      go_enter Try.func36, Try.ntmps36
      go_wp2
      go_ret
      exact ⟨rfl, bA.out⟩
  · have hd1 : decide (0 ≤ f) = false := decide_eq_false h1
    rw [hd1, Bool.false_and]
    clear CK HR
    go_enter Try.func36, Try.ntmps36
    go_wp2
    go_ret
    exact ⟨rfl, bA.out⟩
set_option maxHeartbeats 8000000 in
set_option maxRecDepth 100000 in
theorem within13_any (c : Cir) (s : Places) (L : List Clz) (A : Option Addr) (q : Nat) (w : World) (hL : ALies w w.heap.size A L) :
    Calls Try.prog 82 #[cirV c s, .slice A L.length q] w fun e w' => e = .returned (.bool (clsOk c.max (L.map Clz.l))) ∧ Below w.heap.size w w' := by
  obtain ⟨WA, hWA⟩ : ∃ x, w.alloc (.cells #[.int .i64 c.max, .slice s.ai c.ins.length s.ki, .slice s.al c.lats.length s.kl, .slice s.ao c.outs.length s.ko, .slice s.ab c.bads.length s.kb, .slice s.ac c.invs.length s.kc, .slice s.aa c.ands.length s.ka, .slice s.an c.names.length s.kn] 27) = x := ⟨_, rfl⟩
  have bA : Hid (Below w.heap.size w WA) := by unfold Hid; rw [← hWA]; exact (Below.refl _ _).alloc (Nat.le_refl _) _
  have GA : Hid (WA.heap[w.heap.size]? = some (.cells (cirC c s) 27 (0, 0))) := by unfold Hid; rw [← hWA]; exact Array.getElem?_push_size
  have GW : Hid (∀ x, Below WA.heap.size WA x → x.cell? ⟨w.heap.size, 0, none⟩ = some (.int .i64 c.max)) := fun x hx => (cells8 ((hx.block _ (lt_of_block GA.out)).trans GA.out)).1
  have HL : Hid (∀ x, Below WA.heap.size WA x → ALies x x.heap.size A L) := fun x hx => (hL.below (bA.out.trans (hx.mono bA.out.size))).more (bA.out.trans (hx.mono bA.out.size)).size
  have hll := hL.len
  have HCO : Hid (clsOk c.max (L.map Clz.l) = L.all fun z => decide (z.l.length ≤ 1024) && withL c.max z.l) := by
    unfold Hid clsOk; rw [List.all_map]; rfl
  rw [HCO.out]
  clear hL HCO
  obtain ⟨y, hy⟩ : ∃ y, (L.all fun z => decide (z.l.length ≤ 1024) && withL c.max z.l) = y := ⟨_, rfl⟩
  rw [hy]
  have HNO : Hid (∀ k (hk : k < L.length), (decide (L[k].l.length ≤ 1024) && withL c.max L[k].l) = false → y = false) := fun k hk hx => by
    rw [← hy, List.all_eq_false]
    exact ⟨_, List.getElem_mem hk, by rw [hx]; decide⟩
  have HEND : Hid ((L.take L.length).all (fun z => decide (z.l.length ≤ 1024) && withL c.max z.l) = y) := by
    unfold Hid; rw [List.take_length]; exact hy
  clear hy
  unfold cirV
  rw [show cirC c s = #[.int .i64 c.max, .slice s.ai c.ins.length s.ki, .slice s.al c.lats.length s.kl, .slice s.ao c.outs.length s.ko, .slice s.ab c.bads.length s.kb, .slice s.ac c.invs.length s.kc, .slice s.aa c.ands.length s.ka, .slice s.an c.names.length s.kn] from rfl]
  go_enter Try.func82, Try.ntmps82
  go_wp2
  go_loopw [5] (fun i wr => ∃ k : Nat, k ≤ L.length ∧ i = .int .i64 k ∧ (L.take k).all (fun z => decide (z.l.length ≤ 1024) && withL c.max z.l) = true ∧ Below WA.heap.size WA wr) (fun i _ => L.length - (intOf i).toNat)
  case atStart => exact ⟨0, Nat.zero_le _, rfl, by simp, Below.refl _ _⟩
  case round =>
    clear hWA
    obtain ⟨k, hk, rfl, ha, hb⟩ := hrel
    have HA := Lib.hid ha
    have HB := Lib.hid hb
    clear ha hb
    by_cases hlt : k < L.length
    · obtain ⟨b, o, hAB, -, hc⟩ := (HL.out wr HB.out).at hlt
      have HZ := Lib.hid (clz_lies ((HL.out wr HB.out).each _ (List.getElem_mem hlt)))
      have hzl := HZ.out.len
      have WI := Lib.hid (within01_any c.max L[k].l L[k].A L[k].q wr HZ.out)
      have NO := Lib.hid (HNO.out k hlt)
      have HT : Hid ((L.take (k + 1)).all (fun z => decide (z.l.length ≤ 1024) && withL c.max z.l) = (decide (L[k].l.length ≤ 1024) && withL c.max L[k].l)) := by
        unfold Hid; rw [all_take L _ k hlt, HA.out, Bool.true_and]
      have e0 := GW.out wr HB.out
      have k0 : (0 : Int) ≤ (k : Int) := by omega
      have k1 : (k : Int) < (L.length : Int) := by omega
      subst hAB
      generalize L[k] = z at *
      by_cases hz : z.l.length ≤ 1024
      · have hd : decide ((1024 : Int) < (z.l.length : Int)) = false := decide_eq_false (by omega)
        have hdn : ¬ (1024 : Int) < (z.l.length : Int) := by omega
        rw [decide_eq_true hz, Bool.true_and] at HT NO
        have ut0 := Wd.cell e0
        have ut1 := Wd.cell hc
        have K1 := Lib.hid (fun (u : Wd wr.heap.size wr) => Calls.in_wd u ((within01_any c.max z.l z.A z.q u.w ((HZ.out.below u.ok).more u.ok.size)).mono fun e w' ⟨h1, h2⟩ => ⟨h1, h2 ▸ Below.refl _ _⟩) (Nat.le_refl _))
        clear hc e0 WI
        generalize withL c.max z.l = ww at *
        cases ww with
        | true =>
          go_wp2
          refine wp_region_wd (by kernel_rfl) (by kernel_rfl) ?_
          repeat (first | go_big_quiet_skip | (go_big_quiet_want; go_big_quiet_op; first | go_big_quiet_on | (apply Exists.intro; refine ⟨fun u => ?_, ?_⟩; (first | (go_at_call 121; with_reducible exact K1.out u)); go_big_quiet_on)))
          refine wpQuiet_nil ?_
          intro w7 hw'
          obtain ⟨⟨_, hb9⟩, hw''⟩ := hw'
          subst hw''
          have B7 : Hid (Below WA.heap.size WA w7) := HB.out.trans (hb9.mono HB.out.size)
          clear hb9 ut0 ut1 K1
          go_wp2
          go_roundw
          case rel => exact ⟨k + 1, by omega, by go_num, HT.out, B7.out⟩
          case measure => simp [intOf]; omega
        | false =>
          have HY : Hid (y = false) := NO.out rfl
          go_wp2
          refine wp_region_wd (by kernel_rfl) (by kernel_rfl) ?_
          repeat (first | go_big_quiet_skip | (go_big_quiet_want; go_big_quiet_op; first | go_big_quiet_on | (apply Exists.intro; refine ⟨fun u => ?_, ?_⟩; (first | (go_at_call 121; with_reducible exact K1.out u)); go_big_quiet_on)))
          refine wpQuiet_nil ?_
          intro w7 hw'
          obtain ⟨⟨_, hb9⟩, hw''⟩ := hw'
          subst hw''
          have B7 : Hid (Below w.heap.size w w7) := bA.out.trans ((HB.out.trans (hb9.mono HB.out.size)).mono bA.out.size)
          clear hb9 ut0 ut1 K1
          go_wp2
          go_ret
          exact ⟨by rw [HY.out]; rfl, B7.out⟩
      · have hd : decide ((1024 : Int) < (z.l.length : Int)) = true := decide_eq_true (by omega)
        have hdn : (1024 : Int) < (z.l.length : Int) := by omega
        have HY : Hid (y = false) := NO.out (by rw [decide_eq_false hz]; rfl)
        have ut0 := Wd.cell e0
        have ut1 := Wd.cell hc
        clear hc e0 WI
        go_wp2
        refine wp_region_wd (by kernel_rfl) (by kernel_rfl) ?_
        repeat (first | go_big_quiet_skip | (go_big_quiet_want; go_big_quiet_op; go_big_quiet_on))
        refine wpQuiet_nil ?_
        intro w7 hw'
        obtain ⟨⟨_, hb9⟩, hw''⟩ := hw'
        subst hw''
        have B7 : Hid (Below w.heap.size w w7) := bA.out.trans ((HB.out.trans (hb9.mono HB.out.size)).mono bA.out.size)
        clear hb9 ut0 ut1
        go_wp2
        go_ret
        exact ⟨by rw [HY.out]; rfl, B7.out⟩
    · obtain rfl : k = L.length := by omega
      rw [HA.out] at HEND
      have B7 : Hid (Below w.heap.size w wr) := bA.out.trans (HB.out.mono bA.out.size)
      go_wp2
      go_ret
      exact ⟨by rw [← HEND.out]; rfl, B7.out⟩
end Go.Proofs.Ytbgcoeejmnejdaa.Unr
namespace Go.Proofs.Ytbgcoeejmnejdaa.Unr
open Go.ChangeShapes Go.WideShapes Go.ChangeAt Go.RowKit Go.Maps Circ Cw Str Sim Rep Cla Tse

theorem at_getD' (a : ByteArray) (k : Nat) (h : k < a.size) : a.data.toList.getD k 0 = a[k]'h := by
  have hl : k < a.data.toList.length := by simpa using h
  rw [List.getD_eq_getElem?_getD, List.getElem?_eq_getElem hl]
  rfl
theorem any_take {α : Type} (l : List α) (p : α → Bool) (k : Nat) (hk : k < l.length) : (l.take (k + 1)).any p = ((l.take k).any p || p l[k]) := by
  rw [List.take_succ_eq_append_getElem hk, List.any_append]; simp
set_option maxHeartbeats 16000000 in
set_option maxRecDepth 100000 in
theorem refin_any (L : List Clz) (A : Option Addr) (q : Nat) (st : ByteArray) (w : World) (hL : ALies w w.heap.size A L) (hs : st.size ≤ 9223372036854775807) :
    Calls Try.prog 40 #[.slice A L.length q, .string st] w fun e w' => e = .returned (.bool (L.all fun z => oneM st z.l)) ∧ w = w' := by
  have HL := Lib.hid hL
  have hll := hL.len
  obtain ⟨y, hy⟩ : ∃ y, (L.all fun z => oneM st z.l) = y := ⟨_, rfl⟩
  rw [hy]
  have HNO : Hid (∀ k (hk : k < L.length), oneM st L[k].l = false → y = false) := fun k hk hx => by
    rw [← hy, List.all_eq_false]
    exact ⟨_, List.getElem_mem hk, by rw [hx]; decide⟩
  have HEND : Hid ((L.take L.length).all (fun z => oneM st z.l) = y) := by
    unfold Hid; rw [List.take_length]; exact hy
  clear hy hL
  go_enter Try.func40, Try.ntmps40
  go_wp2
  go_loop [5] (fun i => ∃ k : Nat, k ≤ L.length ∧ i = .int .i64 k ∧ (L.take k).all (fun z => oneM st z.l) = true) (fun i => L.length - (intOf i).toNat)
  case atStart => exact ⟨0, Nat.zero_le _, rfl, by simp⟩
  case round =>
    obtain ⟨k, hk, rfl, ha⟩ := hrel
    have HA := Lib.hid ha
    clear ha
    by_cases hlt : k < L.length
    · obtain ⟨b, o, hAB, -, hc⟩ := HL.out.at hlt
      have HZ := Lib.hid (clz_lies (HL.out.each _ (List.getElem_mem hlt)))
      have hzl := HZ.out.len
      have NO := Lib.hid (HNO.out k hlt)
      have HT : Hid ((L.take (k + 1)).all (fun z => oneM st z.l) = oneM st L[k].l) := by
        unfold Hid; rw [all_take L _ k hlt, HA.out, Bool.true_and]
      have k0 : (0 : Int) ≤ (k : Int) := by omega
      have k1 : (k : Int) < (L.length : Int) := by omega
      subst hAB
      generalize L[k] = z at *
      have HON : Hid ((z.l.take z.l.length).any (isM st) = oneM st z.l) := by unfold Hid oneM; rw [List.take_length]
      generalize oneM st z.l = on at *
      go_wp2
      go_loop [7, 6] (fun i a => ∃ j : Nat, j ≤ z.l.length ∧ i = .int .i64 j ∧ a = .bool ((z.l.take j).any (isM st))) (fun i _ => z.l.length - (intOf i).toNat)
      case atStart => exact ⟨0, Nat.zero_le _, rfl, by simp⟩
      case round =>
        obtain ⟨j, hj, rfl, rfl⟩ := hrel
        by_cases hltj : j < z.l.length
        · obtain ⟨b2, o2, hA2, -, hc2⟩ := LRow.int HZ.out.row hltj
          have hx := HZ.out.fits _ (List.getElem_mem hltj)
          have HTJ : Hid ((z.l.take (j + 1)).any (isM st) = ((z.l.take j).any (isM st) || isM st z.l[j])) := any_take z.l _ j hltj
          have j0 : (0 : Int) ≤ (j : Int) := by omega
          have j1 : (j : Int) < (z.l.length : Int) := by omega
          rw [hA2] at hc
          generalize z.l[j] = x at *
          have hmx : ∀ (ts : Array TypeId) (t : TypeId) (W : World), (Builtin.max_ ts t #[.int .i64 x, .int .i64 (wrap64 (-x))]).run Try.prog W = .ok (.int .i64 (absW x)) W := fun ts t W => by
            rw [max2, neg_is hx, abs_is hx]
          have hab := abs_fits hx
          have HIS : Hid (isM st x = (decide (1 ≤ absW x) && (decide (absW x ≤ (st.size : Int)) && (decide ((st.data.toList.getD (absW x - 1).toNat 0).toNat = 49) == decide (0 < x))))) := rfl
          clear hx
          generalize (z.l.take j).any (isM st) = aa at *
          generalize isM st x = is at *
          generalize absW x = v at *
          cases aa with
          | true =>
            rw [Bool.true_or] at HTJ
            go_wp2
            go_round
            case rel => exact ⟨j + 1, by omega, by go_num, by rw [HTJ.out]⟩
            case measure => simp [intOf]; omega
          | false =>
            rw [Bool.false_or] at HTJ
            by_cases h1 : 1 ≤ v
            · have hd1 : decide (1 ≤ v) = true := decide_eq_true h1
              by_cases h2 : v ≤ (st.size : Int)
              · have hd2 : decide (v ≤ (st.size : Int)) = true := decide_eq_true h2
                obtain ⟨m, rfl⟩ : ∃ m : Nat, v = (m : Int) + 1 := ⟨(v - 1).toNat, by omega⟩
                have hm : m < st.size := by omega
                have e1 : st.data.toList.getD ((m : Int) + 1 - 1).toNat 0 = st[m]'hm := by
                  rw [show ((m : Int) + 1 - 1).toNat = m from by omega, at_getD' st m hm]
                rw [hd1, hd2, e1, Bool.true_and, Bool.true_and] at HIS
                have HE : Hid (decide ((st[m]'hm).toNat = 49) = (((st[m]'hm).toNat : Int) == 49)) := by
                  unfold Hid
                  rw [Bool.eq_iff_iff, decide_eq_true_eq, beq_iff_eq]; omega
                rw [HE.out] at HIS
                have m0 : (0 : Int) ≤ (m : Int) := by omega
                have m1 : (m : Int) < (st.size : Int) := by omega
                have hsub : (m : Int) + 1 - 1 = (m : Int) := by omega
                clear e1 HE
                go_wp2
                go_round
                case rel => exact ⟨j + 1, by omega, by go_num, by rw [HTJ.out, HIS.out]⟩
                case measure => simp [intOf]; omega
              · have hd2 : decide (v ≤ (st.size : Int)) = false := decide_eq_false h2
                rw [hd1, hd2, Bool.true_and, Bool.false_and] at HIS
                go_wp2
                go_round
                case rel => exact ⟨j + 1, by omega, by go_num, by rw [HTJ.out, HIS.out]⟩
                case measure => simp [intOf]; omega
            · have hd1 : decide (1 ≤ v) = false := decide_eq_false h1
              rw [hd1, Bool.false_and] at HIS
              go_wp2
              go_round
              case rel => exact ⟨j + 1, by omega, by go_num, by rw [HTJ.out, HIS.out]⟩
              case measure => simp [intOf]; omega
        · obtain rfl : j = z.l.length := by omega
          rw [HON.out]
          cases on with
          | true =>
            go_wp2
            go_round
            case rel => exact ⟨k + 1, by omega, by go_num, HT.out⟩
            case measure => simp [intOf]; omega
          | false =>
            have HY : Hid (y = false) := NO.out rfl
            go_wp2
            go_ret
            exact ⟨by rw [HY.out]; rfl, rfl⟩
    · obtain rfl : k = L.length := by omega
      rw [HA.out] at HEND
      go_wp2
      go_ret
      exact ⟨by rw [← HEND.out]; rfl, rfl⟩
end Go.Proofs.Ytbgcoeejmnejdaa.Unr
namespace Go.Proofs.Ytbgcoeejmnejdaa.Unr
open Go.ChangeShapes Go.WideShapes Go.ChangeAt Go.RowKit Go.Maps Circ Cw Str Sim Rep Cla Tse

theorem cells14 {w : World} {g : Nat} {q : Que} {t : QPlaces} (h : w.heap[g]? = some (.cells (queC q t) 60 (0, 0))) : w.cell? ⟨g, 0, none⟩ = some (.int .i64 q.c.max) ∧ w.cell? ⟨g, 1, none⟩ = some (.slice t.s.ai q.c.ins.length t.s.ki) ∧ w.cell? ⟨g, 2, none⟩ = some (.slice t.s.al q.c.lats.length t.s.kl) ∧ w.cell? ⟨g, 3, none⟩ = some (.slice t.s.ao q.c.outs.length t.s.ko) ∧ w.cell? ⟨g, 4, none⟩ = some (.slice t.s.ab q.c.bads.length t.s.kb) ∧ w.cell? ⟨g, 5, none⟩ = some (.slice t.s.ac q.c.invs.length t.s.kc) ∧ w.cell? ⟨g, 6, none⟩ = some (.slice t.s.aa q.c.ands.length t.s.ka) ∧ w.cell? ⟨g, 7, none⟩ = some (.slice t.s.an q.c.names.length t.s.kn) ∧ w.cell? ⟨g, 8, none⟩ = some (.slice t.Aa t.La.length t.qa) ∧ w.cell? ⟨g, 9, none⟩ = some (.slice t.Al t.Ll.length t.ql) ∧ w.cell? ⟨g, 10, none⟩ = some (.slice t.Ak t.Lk.length t.qk) ∧ w.cell? ⟨g, 11, none⟩ = some (.int .i64 q.bad) ∧ w.cell? ⟨g, 12, none⟩ = some (.int .i64 q.depth) ∧ w.cell? ⟨g, 13, none⟩ = some (.int .i64 q.budget) := by
  have e : ∀ i, w.cell? ⟨g, i, none⟩ = (queC q t)[i]? := fun i => by simp [World.cell?, h]
  exact ⟨e 0, e 1, e 2, e 3, e 4, e 5, e 6, e 7, e 8, e 9, e 10, e 11, e 12, e 13⟩
set_option maxHeartbeats 16000000 in
set_option maxRecDepth 100000 in
theorem check13_any (q : Que) (t : QPlaces) (w : World) (h : QLies w w.heap.size q t) (hf : CFits q.c t.s) :
    Calls Try.prog 37 #[.agg (queC q t)] w fun e w' => e = .returned (.int .i64 (queM q)) ∧ Below w.heap.size w w' := by
  obtain ⟨WQ, hWQ⟩ : ∃ x, w.alloc (.cells (queC q t) 60) = x := ⟨_, rfl⟩
  have bQ : Below w.heap.size w WQ := by rw [← hWQ]; exact (Below.refl _ _).alloc (Nat.le_refl _) _
  have sQ : WQ.heap.size = w.heap.size + 1 := by rw [← hWQ]; simp
  have gQ : WQ.heap[w.heap.size]? = some (.cells (queC q t) 60 (0, 0)) := by rw [← hWQ]; exact Array.getElem?_push_size
  obtain ⟨WA, hWA⟩ : ∃ x, WQ.alloc (.cells #[.int .i64 q.c.max, .slice t.s.ai q.c.ins.length t.s.ki, .slice t.s.al q.c.lats.length t.s.kl, .slice t.s.ao q.c.outs.length t.s.ko, .slice t.s.ab q.c.bads.length t.s.kb, .slice t.s.ac q.c.invs.length t.s.kc, .slice t.s.aa q.c.ands.length t.s.ka, .slice t.s.an q.c.names.length t.s.kn] 27) = x := ⟨_, rfl⟩
  have bA : Below WQ.heap.size WQ WA := by rw [← hWA]; exact (Below.refl _ _).alloc (Nat.le_refl _) _
  have sA : WA.heap.size = w.heap.size + 2 := by rw [← hWA]; simp [sQ]
  have gA : WA.heap[w.heap.size + 1]? = some (.cells (cirC q.c t.s) 27 (0, 0)) := by rw [← hWA, ← sQ]; exact Array.getElem?_push_size
  have BA : Hid (Below w.heap.size w WA) := bQ.trans (bA.mono bQ.size)
  have gQ2 : WA.heap[w.heap.size]? = some (.cells (queC q t) 60 (0, 0)) := (bA.block _ (by omega)).trans gQ
  have GQ0 : Hid (∀ x, Below WA.heap.size WA x → x.heap[w.heap.size]? = some (.cells (queC q t) 60 (0, 0))) := fun x hx => (hx.block _ (by omega)).trans gQ2
  have GC0 : Hid (∀ x, Below WA.heap.size WA x → x.heap[w.heap.size + 1]? = some (.cells (cirC q.c t.s) 27 (0, 0))) := fun x hx => (hx.block _ (by omega)).trans gA
  have HQ0 : Hid (∀ x, Below w.heap.size w x → QLies x x.heap.size q t) := fun x hx => (h.below hx).more hx.size
  have HEA := Lib.hid h.ea
  have HEL := Lib.hid h.el
  have HEK := Lib.hid h.ek
  have CK := Lib.hid (refcheck_any q.c t.s WA (HQ0.out _ BA.out).c hf)
  unfold cirV at CK
  rw [show cirC q.c t.s = #[.int .i64 q.c.max, .slice t.s.ai q.c.ins.length t.s.ki, .slice t.s.al q.c.lats.length t.s.kl, .slice t.s.ao q.c.outs.length t.s.ko, .slice t.s.ab q.c.bads.length t.s.kb, .slice t.s.ac q.c.invs.length t.s.kc, .slice t.s.aa q.c.ands.length t.s.ka, .slice t.s.an q.c.names.length t.s.kn] from rfl] at CK
  obtain ⟨f0, f1, f2, f3, f4, f5, f6, f7, f8, f9, f10, f11, f12, f13⟩ := cells14 gQ
  obtain ⟨e0, e1, e2, e3, e4, e5, e6, e7⟩ := cells8 gA
  have hlb : q.c.bads.length * 8 ≤ 140737488355328 := hf.lb
  have hla := h.a.len
  have hlc := h.l.len
  have hlk := h.k.len
  clear bQ bA gQ gQ2 gA h
  obtain ⟨y, hqy⟩ : ∃ y, queM q = y := ⟨_, rfl⟩
  rw [hqy]
  have HQY := Lib.hid hqy
  clear hqy
  unfold queC at hWQ
  unfold queC
  go_enter Try.func37, Try.ntmps37
  go_wp2_with fail
  refine CK.out.mono ?_
  rintro e w3 ⟨rfl, hb3⟩
  have BF : Hid (Below w.heap.size w w3) := BA.out.trans (hb3.mono BA.out.size)
  have GQ : Hid (∀ x, Below w3.heap.size w3 x → x.heap[w.heap.size]? = some (.cells (queC q t) 60 (0, 0))) := fun x hx => GQ0.out x (hb3.trans (hx.mono hb3.size))
  have GC : Hid (∀ x, Below w3.heap.size w3 x → x.heap[w.heap.size + 1]? = some (.cells (cirC q.c t.s) 27 (0, 0))) := fun x hx => GC0.out x (hb3.trans (hx.mono hb3.size))
  have HL3 : Hid (∀ x, Below w3.heap.size w3 x → QLies x x.heap.size q t) := fun x hx => HQ0.out x (BF.out.trans (hx.mono BF.out.size))
  have HLK := Lib.hid (HL3.out w3 (Below.refl _ _)).k
  have CKA := Lib.hid (within13_any q.c t.s t.La t.Aa t.qa w3 (HL3.out w3 (Below.refl _ _)).a)
  have CKL := Lib.hid (fun x (hx : Below w3.heap.size w3 x) => within13_any q.c t.s t.Ll t.Al t.ql x (HL3.out x hx).l)
  unfold cirV at CKA CKL
  rw [show cirC q.c t.s = #[.int .i64 q.c.max, .slice t.s.ai q.c.ins.length t.s.ki, .slice t.s.al q.c.lats.length t.s.kl, .slice t.s.ao q.c.outs.length t.s.ko, .slice t.s.ab q.c.bads.length t.s.kb, .slice t.s.ac q.c.invs.length t.s.kc, .slice t.s.aa q.c.ands.length t.s.ka, .slice t.s.an q.c.names.length t.s.kn] from rfl] at CKA CKL
  clear hb3 f0 f1 f2 f3 f4 f5 f6 f7 f8 f9 f10 f11 f12 f13 e0 e1 e2 e3 e4 e5 e6 e7 hWA hWQ CK sQ sA
  obtain ⟨f0, f1, f2, f3, f4, f5, f6, f7, f8, f9, f10, f11, f12, f13⟩ := cells14 (GQ.out w3 (Below.refl _ _))
  obtain ⟨e0, e1, e2, e3, e4, e5, e6, e7⟩ := cells8 (GC.out w3 (Below.refl _ _))
  cases hr : refOk q.c with
  | false =>
    rw [show refV q.c = 9 from by unfold refV; rw [if_neg (by rw [hr]; decide)]]
    have HQ : Hid (queM q = 9) := by unfold Hid queM; rw [if_pos hr]
    obtain rfl : y = 9 := HQY.out.symm.trans HQ.out
    clear HQ CKL CKA
    go_wp2
    go_ret
    exact ⟨rfl, BF.out⟩
  | true =>
    rw [show refV q.c = 0 from by unfold refV; rw [if_pos hr]]
    have hR := hr
    by_cases h40 : q.bad < 0
    · have hd : decide (q.bad < 0) = true := decide_eq_true h40
      have HQ : Hid (queM q = 4) := by unfold Hid queM; rw [if_neg (by rw [hr]; decide), if_pos (by simp only [Bool.or_eq_true, decide_eq_true_eq]; omega)]
      obtain rfl : y = 4 := HQY.out.symm.trans HQ.out
      clear HQ CKL CKA
      go_wp2
      go_ret
      exact ⟨rfl, BF.out⟩
    · have hd40 : decide (q.bad < 0) = false := decide_eq_false h40
      by_cases h41 : (q.c.bads.length : Int) ≤ q.bad
      · have hd : decide ((q.c.bads.length : Int) ≤ q.bad) = true := decide_eq_true h41
        have HQ : Hid (queM q = 4) := by unfold Hid queM; rw [if_neg (by rw [hr]; decide), if_pos (by simp only [Bool.or_eq_true, decide_eq_true_eq]; omega)]
        obtain rfl : y = 4 := HQY.out.symm.trans HQ.out
        clear HQ CKL CKA
        go_wp2
        go_ret
        exact ⟨rfl, BF.out⟩
      · have hd41 : decide ((q.c.bads.length : Int) ≤ q.bad) = false := decide_eq_false h41
        by_cases h42 : q.depth < 0
        · have hd : decide (q.depth < 0) = true := decide_eq_true h42
          have HQ : Hid (queM q = 4) := by unfold Hid queM; rw [if_neg (by rw [hr]; decide), if_pos (by simp only [Bool.or_eq_true, decide_eq_true_eq]; omega)]
          obtain rfl : y = 4 := HQY.out.symm.trans HQ.out
          clear HQ CKL CKA
          go_wp2
          go_ret
          exact ⟨rfl, BF.out⟩
        · have hd42 : decide (q.depth < 0) = false := decide_eq_false h42
          by_cases h43 : 80 ≤ q.depth
          · have hd : decide (80 ≤ q.depth) = true := decide_eq_true h43
            have HQ : Hid (queM q = 4) := by unfold Hid queM; rw [if_neg (by rw [hr]; decide), if_pos (by simp only [Bool.or_eq_true, decide_eq_true_eq]; omega)]
            obtain rfl : y = 4 := HQY.out.symm.trans HQ.out
            clear HQ CKL CKA
            go_wp2
            go_ret
            exact ⟨rfl, BF.out⟩
          · have hd43 : decide (80 ≤ q.depth) = false := decide_eq_false h43
            by_cases h44 : q.budget < 0
            · have hd : decide (q.budget < 0) = true := decide_eq_true h44
              have HQ : Hid (queM q = 4) := by unfold Hid queM; rw [if_neg (by rw [hr]; decide), if_pos (by simp only [Bool.or_eq_true, decide_eq_true_eq]; omega)]
              obtain rfl : y = 4 := HQY.out.symm.trans HQ.out
              clear HQ CKL CKA
              go_wp2
              go_ret
              exact ⟨rfl, BF.out⟩
            · have hd44 : decide (q.budget < 0) = false := decide_eq_false h44
              by_cases h45 : 1099511627776 < q.budget
              · have hd : decide (1099511627776 < q.budget) = true := decide_eq_true h45
                have HQ : Hid (queM q = 4) := by unfold Hid queM; rw [if_neg (by rw [hr]; decide), if_pos (by simp only [Bool.or_eq_true, decide_eq_true_eq]; omega)]
                obtain rfl : y = 4 := HQY.out.symm.trans HQ.out
                clear HQ CKL CKA
                go_wp2
                go_ret
                exact ⟨rfl, BF.out⟩
              · have hd45 : decide (1099511627776 < q.budget) = false := decide_eq_false h45
                by_cases h30 : (64 : Int) < (t.La.length : Int)
                · have hd : decide ((64 : Int) < (t.La.length : Int)) = true := decide_eq_true h30
                  have HQ : Hid (queM q = 3) := by unfold Hid queM; rw [if_neg (by rw [hr]; decide), if_neg (by simp only [Bool.or_eq_true, decide_eq_true_eq]; omega), if_pos (by rw [← HEA.out, ← HEL.out, ← HEK.out]; simp only [List.length_map, Bool.or_eq_true, decide_eq_true_eq]; omega)]
                  obtain rfl : y = 3 := HQY.out.symm.trans HQ.out
                  clear HQ CKL CKA
                  go_wp2
                  go_ret
                  exact ⟨rfl, BF.out⟩
                · have hd30 : decide ((64 : Int) < (t.La.length : Int)) = false := decide_eq_false h30
                  by_cases h31 : (64 : Int) < (t.Ll.length : Int)
                  · have hd : decide ((64 : Int) < (t.Ll.length : Int)) = true := decide_eq_true h31
                    have HQ : Hid (queM q = 3) := by unfold Hid queM; rw [if_neg (by rw [hr]; decide), if_neg (by simp only [Bool.or_eq_true, decide_eq_true_eq]; omega), if_pos (by rw [← HEA.out, ← HEL.out, ← HEK.out]; simp only [List.length_map, Bool.or_eq_true, decide_eq_true_eq]; omega)]
                    obtain rfl : y = 3 := HQY.out.symm.trans HQ.out
                    clear HQ CKL CKA
                    go_wp2
                    go_ret
                    exact ⟨rfl, BF.out⟩
                  · have hd31 : decide ((64 : Int) < (t.Ll.length : Int)) = false := decide_eq_false h31
                    by_cases h32 : (256 : Int) < (t.Lk.length : Int)
                    · have hd : decide ((256 : Int) < (t.Lk.length : Int)) = true := decide_eq_true h32
                      have HQ : Hid (queM q = 3) := by unfold Hid queM; rw [if_neg (by rw [hr]; decide), if_neg (by simp only [Bool.or_eq_true, decide_eq_true_eq]; omega), if_pos (by rw [← HEA.out, ← HEL.out, ← HEK.out]; simp only [List.length_map, Bool.or_eq_true, decide_eq_true_eq]; omega)]
                      obtain rfl : y = 3 := HQY.out.symm.trans HQ.out
                      clear HQ CKL CKA
                      go_wp2
                      go_ret
                      exact ⟨rfl, BF.out⟩
                    · have hd32 : decide ((256 : Int) < (t.Lk.length : Int)) = false := decide_eq_false h32
                      have HQ2 : Hid (queM q = if (clsOk q.c.max q.asm && (clsOk q.c.max q.lem && knOk (q.c.lats.length : Int) q.kno)) = true then 0 else 23) := by
                        unfold Hid queM
                        rw [if_neg (by rw [hr]; decide), if_neg (by simp only [Bool.or_eq_true, decide_eq_true_eq]; omega), if_neg (by rw [← HEA.out, ← HEL.out, ← HEK.out]; simp only [List.length_map, Bool.or_eq_true, decide_eq_true_eq]; omega)]
                      have HY2 := Lib.hid (HQY.out.symm.trans HQ2.out)
                      rw [← HEA.out, ← HEL.out, ← HEK.out] at HY2
                      have HKO : Hid (knOk (q.c.lats.length : Int) (t.Lk.map Clz.l) = t.Lk.all fun z => For.chk (q.c.lats.length : Int) z.l == 0) := by unfold Hid knOk; rw [List.all_map]; rfl
                      rw [HKO.out] at HY2
                      clear HQ2 HKO hr hR
                      generalize clsOk q.c.max (t.La.map Clz.l) = ya at *
                      generalize clsOk q.c.max (t.Ll.map Clz.l) = yl at *
                      cases ya with
                      | false =>
                        obtain rfl : y = 23 := HY2.out
                        go_wp2_with fail
                        refine CKA.out.mono ?_
                        rintro e w5 ⟨rfl, hb5⟩
                        have B5 : Hid (Below w.heap.size w w5) := BF.out.trans (hb5.mono BF.out.size)
                        clear hb5 CKA CKL f0 f1 f2 f3 f4 f5 f6 f7 f8 f9 f10 f11 f12 f13 e0 e1 e2 e3 e4 e5 e6 e7
                        go_wp2
                        go_ret
                        exact ⟨rfl, B5.out⟩
                      | true =>
                        go_wp2_with fail
                        refine CKA.out.mono ?_
                        rintro e w5 ⟨rfl, hb5⟩
                        have B5 : Hid (Below w3.heap.size w3 w5) := hb5
                        have CKL2 := Lib.hid (CKL.out w5 hb5)
                        clear hb5 CKA CKL f0 f1 f2 f3 f4 f5 f6 f7 f8 f9 f10 f11 f12 f13 e0 e1 e2 e3 e4 e5 e6 e7
                        obtain ⟨f0, f1, f2, f3, f4, f5, f6, f7, f8, f9, f10, f11, f12, f13⟩ := cells14 (GQ.out w5 B5.out)
                        obtain ⟨e0, e1, e2, e3, e4, e5, e6, e7⟩ := cells8 (GC.out w5 B5.out)
                        cases yl with
                        | false =>
                          obtain rfl : y = 23 := HY2.out
                          go_wp2_with fail
                          refine CKL2.out.mono ?_
                          rintro e w6 ⟨rfl, hb6⟩
                          have B6 : Hid (Below w.heap.size w w6) := BF.out.trans ((B5.out.trans (hb6.mono B5.out.size)).mono BF.out.size)
                          clear hb6 CKL2 f0 f1 f2 f3 f4 f5 f6 f7 f8 f9 f10 f11 f12 f13 e0 e1 e2 e3 e4 e5 e6 e7
                          go_wp2
                          go_ret
                          exact ⟨rfl, B6.out⟩
                        | true =>
                          go_wp2_with fail
                          refine CKL2.out.mono ?_
                          rintro e w6 ⟨rfl, hb6⟩
                          have B6 : Hid (Below w3.heap.size w3 w6) := B5.out.trans (hb6.mono B5.out.size)
                          clear hb6 CKL2 f0 f1 f2 f3 f4 f5 f6 f7 f8 f9 f10 f11 f12 f13 e0 e1 e2 e3 e4 e5 e6 e7
                          obtain ⟨f0, f1, f2, f3, f4, f5, f6, f7, f8, f9, f10, f11, f12, f13⟩ := cells14 (GQ.out w6 B6.out)
                          have hy := HY2.out
                          have HNO : Hid (∀ k (hk : k < t.Lk.length), For.chk (q.c.lats.length : Int) t.Lk[k].l ≠ 0 → y = 23) := fun k hk hx => by
                            rw [hy, if_neg]
                            rw [Bool.true_and, Bool.true_and, List.all_eq_true]
                            intro h
                            exact hx (by have := h _ (List.getElem_mem hk); simpa using this)
                          have HEND : Hid ((∀ k (hk : k < t.Lk.length), For.chk (q.c.lats.length : Int) t.Lk[k].l = 0) → y = 0) := fun h => by
                            rw [hy, if_pos]
                            rw [Bool.true_and, Bool.true_and, List.all_eq_true]
                            intro z hz
                            obtain ⟨k, hk, rfl⟩ := List.getElem_of_mem hz
                            rw [h k hk]; rfl
                          clear hy HY2
                          have hll := HLK.out.len
                          go_wp2
                          clear f0 f1 f2 f3 f4 f5 f6 f7 f8 f9 f10 f11 f12 f13
                          go_loopw [4] (fun i wr => ∃ k : Nat, k ≤ t.Lk.length ∧ i = .int .i64 k ∧ (∀ j (hj : j < t.Lk.length), j < k → For.chk (q.c.lats.length : Int) t.Lk[j].l = 0) ∧ Below w3.heap.size w3 wr) (fun i _ => t.Lk.length - (intOf i).toNat)
                          case atStart => exact ⟨0, Nat.zero_le _, rfl, fun j _ hj => absurd hj (Nat.not_lt_zero _), B6.out⟩
                          case round =>
                            obtain ⟨k, hk, rfl, ha, hb⟩ := hrel
                            have HA := Lib.hid ha
                            have HB := Lib.hid hb
                            clear ha hb
                            obtain ⟨f0, f1, f2, f3, f4, f5, f6, f7, f8, f9, f10, f11, f12, f13⟩ := cells14 (GQ.out wr HB.out)
                            obtain ⟨e0, e1, e2, e3, e4, e5, e6, e7⟩ := cells8 (GC.out wr HB.out)
                            by_cases hlt : k < t.Lk.length
                            · obtain ⟨b, o, hAB, -, hc⟩ := ((HLK.out.below HB.out).more HB.out.size).at hlt
                              have HZ := Lib.hid (clz_lies (((HLK.out.below HB.out).more HB.out.size).each _ (List.getElem_mem hlt)))
                              have NO := Lib.hid (HNO.out k hlt)
                              have K1 := Lib.hid (fun (u : Wd wr.heap.size wr) => Calls.in_wd u ((For.check_any (q.c.lats.length : Int) t.Lk[k].l t.Lk[k].A t.Lk[k].q u.w ((HZ.out.below u.ok).more u.ok.size)).mono fun e w' ⟨h1, h2⟩ => ⟨h1, h2 ▸ Below.refl _ _⟩) (Nat.le_refl _))
                              have HN : Hid (For.chk (q.c.lats.length : Int) t.Lk[k].l = 0 → ∀ j (hj : j < t.Lk.length), j < k + 1 → For.chk (q.c.lats.length : Int) t.Lk[j].l = 0) := fun h j hj hjk => by
                                by_cases e : j = k
                                · subst e; exact h
                                · exact HA.out j hj (by omega)
                              have k0 : (0 : Int) ≤ (k : Int) := by omega
                              have k1 : (k : Int) < (t.Lk.length : Int) := by omega
                              rw [hAB] at f10
                              have u1 := Wd.cell f10
                              have u2 := Wd.cell e2
                              have u3 := Wd.cell hc
                              generalize t.Lk[k] = z at *
                              generalize For.chk (q.c.lats.length : Int) z.l = ck at *
                              by_cases hq : ck = 0
                              · subst hq
                                have HX := Lib.hid (HN.out rfl)
                                clear HN NO
                                go_wp2
                                refine wp_region_wd (by kernel_rfl) (by kernel_rfl) ?_
                                repeat (first | go_big_quiet_skip | (go_big_quiet_want; go_big_quiet_op; first | go_big_quiet_on | (apply Exists.intro; refine ⟨fun u => ?_, ?_⟩; (first | (go_at_call 83; with_reducible exact K1.out u)); go_big_quiet_on)))
                                refine wpQuiet_nil ?_
                                intro wz9 hw'
                                obtain ⟨⟨_, hb9⟩, hw''⟩ := hw'
                                subst hw''
                                have BN : Hid (Below w3.heap.size w3 wz9) := HB.out.trans (hb9.mono HB.out.size)
                                clear hb9 u1 u2 u3 K1 hc f0 f1 f2 f3 f4 f5 f6 f7 f8 f9 f10 f11 f12 f13 e0 e1 e2 e3 e4 e5 e6 e7
                                go_wp2
                                go_roundw
                                case rel => exact ⟨k + 1, by omega, by go_num, HX.out, BN.out⟩
                                case measure => simp [intOf]; omega
                              · have hne : (ck != 0) = true := bne_iff_ne.2 hq
                                have HY := Lib.hid (NO.out hq)
                                clear HN NO
                                go_wp2
                                refine wp_region_wd (by kernel_rfl) (by kernel_rfl) ?_
                                repeat (first | go_big_quiet_skip | (go_big_quiet_want; go_big_quiet_op; first | go_big_quiet_on | (apply Exists.intro; refine ⟨fun u => ?_, ?_⟩; (first | (go_at_call 83; with_reducible exact K1.out u)); go_big_quiet_on)))
                                refine wpQuiet_nil ?_
                                intro wz9 hw'
                                obtain ⟨⟨_, hb9⟩, hw''⟩ := hw'
                                subst hw''
                                have BN : Hid (Below w.heap.size w wz9) := BF.out.trans ((HB.out.trans (hb9.mono HB.out.size)).mono BF.out.size)
                                clear hb9 u1 u2 u3 K1 hc f0 f1 f2 f3 f4 f5 f6 f7 f8 f9 f10 f11 f12 f13 e0 e1 e2 e3 e4 e5 e6 e7
                                go_wp2
                                go_ret
                                exact ⟨by rw [HY.out]; rfl, BN.out⟩
                            · obtain rfl : k = t.Lk.length := by omega
                              have HY := Lib.hid (HEND.out fun j hj => HA.out j hj hj)
                              have BN : Hid (Below w.heap.size w wr) := BF.out.trans (HB.out.mono BF.out.size)
                              go_wp2
                              go_ret
                              exact ⟨by rw [HY.out]; rfl, BN.out⟩
end Go.Proofs.Ytbgcoeejmnejdaa.Unr
