/- interlockref07.Allowed, Initial, Path; condition: what they are handed lies in memory. -/
import Derived.Test.YtfglgapocmnfpaaPt36
import Derived.Test.YtfglgapocmnfpaaPt35
namespace Go.Proofs.Ytfglgapocmnfpaa.Rep
open Go.ChangeShapes Go.WideShapes Go.ChangeAt Go.RowKit Go.Maps Circ Cw
open Str Sim

theorem all_take {α : Type} (l : List α) (p : α → Bool) (k : Nat) (hk : k < l.length) : (l.take (k + 1)).all p = ((l.take k).all p && p l[k]) := by
  rw [List.take_succ_eq_append_getElem hk, List.all_append]; simp
theorem all_not {α : Type} {l : List α} {p : α → Bool} {k : Nat} (hk : k < l.length) (h : p l[k] = false) : l.all p = false := by
  rw [List.all_eq_false]
  exact ⟨l[k], List.getElem_mem hk, by rw [h]; decide⟩
set_option maxHeartbeats 16000000 in
set_option maxRecDepth 100000 in
theorem refallowed_any (c : Cir) (s : Places) (L : List Clz) (A : Option Addr) (q : Nat) (v : ByteArray) (w : World) (h : CLies w w.heap.size c s) (hf : CFits c s) (hz : v.size ≤ 9223372036854775807) (hn : c.invs.length ≤ 9223372036854775807) (hA : ALies w w.heap.size A L) :
    Calls Try.prog 39 #[cirV c s, .slice A L.length q, .string v] w fun e w' => e = .returned (.bool (allowedM c (L.map Clz.l) v.data.toList)) ∧ Below w.heap.size w w' := by
  obtain ⟨WA, hWA⟩ : ∃ x, w.alloc (.cells #[.int .i64 c.max, .slice s.ai c.ins.length s.ki, .slice s.al c.lats.length s.kl, .slice s.ao c.outs.length s.ko, .slice s.ab c.bads.length s.kb, .slice s.ac c.invs.length s.kc, .slice s.aa c.ands.length s.ka, .slice s.an c.names.length s.kn] 27) = x := ⟨_, rfl⟩
  have bA : Hid (Below w.heap.size w WA) := by unfold Hid; rw [← hWA]; exact (Below.refl _ _).alloc (Nat.le_refl _) _
  have GA : Hid (WA.heap[w.heap.size]? = some (.cells (cirC c s) 27 (0, 0))) := by unfold Hid; rw [← hWA]; exact Array.getElem?_push_size
  obtain ⟨e0, e1, e2, e3, e4, e5, e6, e7⟩ := cells8 GA.out
  have LW : Hid (∀ x, Below w.heap.size w x → CLies x x.heap.size c s) := fun x hx => (h.below hx).more hx.size
  have AW : Hid (ALies WA WA.heap.size A L) := (hA.below bA.out).more bA.out.size
  have HF := Lib.hid hf
  have HN := Lib.hid hn
  have HL := Lib.hid hA.len
  clear h hf hA hn
  unfold cirV
  rw [show cirC c s = #[.int .i64 c.max, .slice s.ai c.ins.length s.ki, .slice s.al c.lats.length s.kl, .slice s.ao c.outs.length s.ko, .slice s.ab c.bads.length s.kb, .slice s.ac c.invs.length s.kc, .slice s.aa c.ands.length s.ka, .slice s.an c.names.length s.kn] from rfl]
  go_enter Try.func39, Try.ntmps39
  go_wp2
  clear e0 e1 e2 e3 e4 e5 e6 e7 hWA
  go_loop [7] (fun i => ∃ k : Nat, k ≤ c.invs.length ∧ i = .int .i64 k ∧ (c.invs.take k).all (trueM v.data.toList) = true) (fun i => c.invs.length - (intOf i).toNat)
  case atStart => exact ⟨0, Nat.zero_le _, rfl, rfl⟩
  case round =>
    obtain ⟨k, hk, rfl, ha⟩ := hrel
    have HA := Lib.hid ha
    have hn := HN.out
    clear ha
    obtain ⟨e0, e1, e2, e3, e4, e5, e6, e7⟩ := cells8 GA.out
    by_cases hlt : k < c.invs.length
    · obtain ⟨b, o, hA2, -, hc⟩ := LRow.int (LW.out WA bA.out).invs hlt
      rw [hA2] at e5
      have TJ := Lib.hid (reftrue_any v c.invs[k] WA hz (HF.out.invs _ (List.getElem_mem hlt)).2)
      have HT := Lib.hid (all_take c.invs (trueM v.data.toList) k hlt)
      rw [HA.out, Bool.true_and] at HT
      have HNo := Lib.hid (fun h => all_not (p := trueM v.data.toList) hlt h)
      clear hA2
      generalize c.invs[k] = x at *
      cases hq : trueM v.data.toList x with
      | true =>
        rw [hq] at TJ HT
        clear hq HNo
        go_wp2_with fail
        refine TJ.out.mono ?_
        rintro e w' ⟨rfl, rfl⟩
        go_wp2
        go_round
        case rel => exact ⟨k + 1, by omega, by go_num, HT.out⟩
        case measure => simp [intOf]; omega
      | false =>
        rw [hq] at TJ
        have HF9 : Hid (allowedM c (L.map Clz.l) v.data.toList = false) := by unfold Hid allowedM; rw [HNo.out hq]; rfl
        clear hq HNo HT
        go_wp2_with fail
        refine TJ.out.mono ?_
        rintro e w' ⟨rfl, rfl⟩
        go_wp2
        go_ret
        exact ⟨by rw [HF9.out]; rfl, bA.out⟩
    · obtain rfl : k = c.invs.length := by omega
      rw [List.take_length] at HA
      go_wp2
      clear e0 e1 e2 e3 e4 e5 e6 e7
      go_loop [8] (fun i => ∃ k : Nat, k ≤ L.length ∧ i = .int .i64 k ∧ (L.take k).all (fun z => holdsM v.data.toList z.l) = true) (fun i => L.length - (intOf i).toNat)
      case atStart => exact ⟨0, Nat.zero_le _, rfl, rfl⟩
      case round =>
        obtain ⟨j, hj, rfl, hb⟩ := hrel
        have HB := Lib.hid hb
        have hl := HL.out
        clear hb
        by_cases hlt2 : j < L.length
        · obtain ⟨b, o, hA2, -, hc⟩ := AW.out.at hlt2
          have ZL := AW.out.each L[j] (List.getElem_mem hlt2)
          have HJ := Lib.hid (refholds_any v L[j].l L[j].A L[j].q WA hz ZL.fits ZL.len ZL.row)
          have HT := Lib.hid (all_take L (fun z => holdsM v.data.toList z.l) j hlt2)
          rw [HB.out, Bool.true_and] at HT
          have HNo := Lib.hid (fun h => all_not (p := fun z : Clz => holdsM v.data.toList z.l) hlt2 h)
          have hjz : (j : Int) < (L.length : Int) := by omega
          subst hA2
          clear ZL
          generalize L[j] = z at *
          cases hq : holdsM v.data.toList z.l with
          | true =>
            rw [hq] at HJ HT
            clear hq HNo
            go_wp2_with fail
            refine HJ.out.mono ?_
            rintro e w' ⟨rfl, rfl⟩
            go_wp2
            go_round
            case rel => exact ⟨j + 1, by omega, by go_num, HT.out⟩
            case measure => simp [intOf]; omega
          | false =>
            rw [hq] at HJ
            have HF9 : Hid (allowedM c (L.map Clz.l) v.data.toList = false) := by
              have := HNo.out hq
              unfold Hid allowedM
              rw [List.all_map, show (holdsM v.data.toList ∘ Clz.l) = (fun z : Clz => holdsM v.data.toList z.l) from rfl, this, Bool.and_false]
            clear hq HNo HT
            go_wp2_with fail
            refine HJ.out.mono ?_
            rintro e w' ⟨rfl, rfl⟩
            go_wp2
            go_ret
            exact ⟨by rw [HF9.out]; rfl, bA.out⟩
        · obtain rfl : j = L.length := by omega
          have HF9 : Hid (allowedM c (L.map Clz.l) v.data.toList = true) := by
            have := HB.out
            rw [List.take_length] at this
            unfold Hid allowedM
            rw [HA.out, List.all_map, show (holdsM v.data.toList ∘ Clz.l) = (fun z : Clz => holdsM v.data.toList z.l) from rfl, this]; rfl
          go_wp2
          go_ret
          exact ⟨by rw [HF9.out]; rfl, bA.out⟩
theorem init_take (c : Cir) (s : ByteArray) (k : Nat) (hk : k < c.lats.length) : ((List.range c.lats.length).take (k + 1)).all (fun i => initB (c.lats.getD i ⟨0, 0, 0⟩) (s.data.toList.getD i 0)) = (((List.range c.lats.length).take k).all (fun i => initB (c.lats.getD i ⟨0, 0, 0⟩) (s.data.toList.getD i 0)) && initB c.lats[k] (s.data.toList.getD k 0)) := by
  rw [all_take _ _ k (by simpa using hk), List.getElem_range, lat_at c hk]
theorem init_not (c : Cir) (s : ByteArray) {k : Nat} (hk : k < c.lats.length) (h : initB c.lats[k] (s.data.toList.getD k 0) = false) : initM c s = false := by
  unfold initM
  rw [all_not (k := k) (by simpa using hk) (by rw [List.getElem_range, lat_at c hk]; exact h), Bool.and_false]
theorem at_byte (s : ByteArray) {k : Nat} (h : k < s.size) (d : UInt8) : s.data.toList.getD k d = s[k]'h := by
  have hl : k < s.data.toList.length := by simpa using h
  rw [List.getD_eq_getElem?_getD, List.getElem?_eq_getElem hl, Option.getD_some, Array.getElem_toList]; rfl
set_option maxHeartbeats 16000000 in
set_option maxRecDepth 100000 in
theorem refinitial_any (c : Cir) (s : Places) (st : ByteArray) (w : World) (h : CLies w w.heap.size c s) (hz : st.size ≤ 9223372036854775807) :
    Calls Try.prog 41 #[cirV c s, .string st] w fun e w' => e = .returned (.bool (initM c st)) ∧ Below w.heap.size w w' := by
  obtain ⟨WA, hWA⟩ : ∃ x, w.alloc (.cells #[.int .i64 c.max, .slice s.ai c.ins.length s.ki, .slice s.al c.lats.length s.kl, .slice s.ao c.outs.length s.ko, .slice s.ab c.bads.length s.kb, .slice s.ac c.invs.length s.kc, .slice s.aa c.ands.length s.ka, .slice s.an c.names.length s.kn] 27) = x := ⟨_, rfl⟩
  have bA : Hid (Below w.heap.size w WA) := by unfold Hid; rw [← hWA]; exact (Below.refl _ _).alloc (Nat.le_refl _) _
  have GA : Hid (WA.heap[w.heap.size]? = some (.cells (cirC c s) 27 (0, 0))) := by unfold Hid; rw [← hWA]; exact Array.getElem?_push_size
  obtain ⟨e0, e1, e2, e3, e4, e5, e6, e7⟩ := cells8 GA.out
  have LW : Hid (∀ x, Below w.heap.size w x → CLies x x.heap.size c s) := fun x hx => (h.below hx).more hx.size
  have TB := Lib.hid (refbits_any st (c.lats.length : Int) WA hz)
  have HZ := Lib.hid hz
  clear h hz
  cases hb : bitsM st (c.lats.length : Int) with
  | false =>
    have HF9 : Hid (initM c st = false) := by unfold Hid initM; rw [hb]; rfl
    rw [hb] at TB
    clear hb
    unfold cirV
    rw [show cirC c s = #[.int .i64 c.max, .slice s.ai c.ins.length s.ki, .slice s.al c.lats.length s.kl, .slice s.ao c.outs.length s.ko, .slice s.ab c.bads.length s.kb, .slice s.ac c.invs.length s.kc, .slice s.aa c.ands.length s.ka, .slice s.an c.names.length s.kn] from rfl]
    go_enter Try.func41, Try.ntmps41
    go_wp2_with fail
    refine TB.out.mono ?_
    rintro e w' ⟨rfl, rfl⟩
    clear e0 e1 e2 e3 e4 e5 e6 e7 hWA
    go_wp2
    go_ret
    exact ⟨by rw [HF9.out]; rfl, bA.out⟩
  | true =>
    have HS := Lib.hid (bits_parts hb).1
    have HBT := Lib.hid hb
    rw [hb] at TB
    clear hb
    unfold cirV
    rw [show cirC c s = #[.int .i64 c.max, .slice s.ai c.ins.length s.ki, .slice s.al c.lats.length s.kl, .slice s.ao c.outs.length s.ko, .slice s.ab c.bads.length s.kb, .slice s.ac c.invs.length s.kc, .slice s.aa c.ands.length s.ka, .slice s.an c.names.length s.kn] from rfl]
    go_enter Try.func41, Try.ntmps41
    go_wp2_with fail
    refine TB.out.mono ?_
    rintro e w' ⟨rfl, rfl⟩
    clear e0 e1 e2 e3 e4 e5 e6 e7 hWA
    go_wp2
    go_loopw [5] (fun i wr => ∃ k : Nat, k ≤ st.size ∧ i = .int .i64 k ∧ ((List.range c.lats.length).take k).all (fun i => initB (c.lats.getD i ⟨0, 0, 0⟩) (st.data.toList.getD i 0)) = true ∧ Below WA.heap.size WA wr) (fun i _ => st.size - (intOf i).toNat)
    case atStart => exact ⟨0, Nat.zero_le _, rfl, rfl, Below.refl _ _⟩
    case round =>
      obtain ⟨k, hk, rfl, ha, hbw⟩ := hrel
      have HA := Lib.hid ha
      have HB := Lib.hid hbw
      have hz := HZ.out
      clear ha hbw
      have GW : Hid (wr.heap[w.heap.size]? = some (.cells (cirC c s) 27 (0, 0))) := (HB.out.block _ (lt_of_block GA.out)).trans GA.out
      have BW : Hid (Below w.heap.size w wr) := bA.out.trans (HB.out.mono bA.out.size)
      obtain ⟨e0, e1, e2, e3, e4, e5, e6, e7⟩ := cells8 GW.out
      by_cases hlt : k < st.size
      · have hkl : k < c.lats.length := by have := HS.out; omega
        have hkz : (k : Int) < (c.lats.length : Int) := by omega
        have hk0 : (0 : Int) ≤ (k : Int) := by omega
        have hks : (k : Int) < (st.size : Int) := by omega
        obtain ⟨b, o, hA2, -, c0, c1, c2⟩ := LRow.tri (LW.out wr BW.out).lats hkl
        rw [hA2] at e2
        have HT := Lib.hid (init_take c st k hkl)
        rw [HA.out, Bool.true_and, at_byte st hlt] at HT
        have HNo := Lib.hid (init_not c st hkl)
        rw [at_byte st hlt] at HNo
        clear hA2
        generalize c.lats[k] = t at *
        by_cases hca : t.c = t.a
        · have b0 : (t.c != t.a) = false := bne_eq_false_iff_eq.2 hca
          have HX : Hid (((List.range c.lats.length).take (k + 1)).all (fun i => initB (c.lats.getD i ⟨0, 0, 0⟩) (st.data.toList.getD i 0)) = true) := by
            unfold Hid; rw [HT.out]; unfold initB; rw [decide_eq_true hca]; rfl
          clear HT HNo hca
          go_wp2
          go_roundw
          case rel => exact ⟨k + 1, by omega, by go_num, HX.out, HB.out⟩
          case measure => simp [intOf]; omega
        · have b0 : (t.c != t.a) = true := bne_iff_ne.2 hca
          have hd0 : decide (t.c = t.a) = false := decide_eq_false hca
          by_cases hc1 : t.c = 1
          · have b1 : (t.c == 1) = true := by rw [beq_iff_eq]; exact hc1
            have hd1 : decide (t.c = 1) = true := decide_eq_true hc1
            by_cases h49 : (st[k]'hlt).toNat = 49
            · have b2 : (((st[k]'hlt).toNat : Int) == 49) = true := by rw [beq_iff_eq]; omega
              have HX : Hid (((List.range c.lats.length).take (k + 1)).all (fun i => initB (c.lats.getD i ⟨0, 0, 0⟩) (st.data.toList.getD i 0)) = true) := by
                unfold Hid; rw [HT.out]; unfold initB; rw [hd0, hd1, decide_eq_true h49]; rfl
              clear HT HNo hca hc1 h49 hd0 hd1
              go_wp2
              go_roundw
              case rel => exact ⟨k + 1, by omega, by go_num, HX.out, HB.out⟩
              case measure => simp [intOf]; omega
            · have b2 : (((st[k]'hlt).toNat : Int) == 49) = false := by rw [beq_eq_false_iff_ne]; omega
              have HX := Lib.hid (HNo.out (by unfold initB; rw [hd0, hd1, decide_eq_false h49]; rfl))
              clear HT HNo hca hc1 h49 hd0 hd1
              go_wp2
              go_ret
              exact ⟨by rw [HX.out]; rfl, BW.out⟩
          · have b1 : (t.c == 1) = false := beq_eq_false_iff_ne.2 hc1
            have hd1 : decide (t.c = 1) = false := decide_eq_false hc1
            by_cases h49 : (st[k]'hlt).toNat = 49
            · have b2 : (((st[k]'hlt).toNat : Int) == 49) = true := by rw [beq_iff_eq]; omega
              have HX := Lib.hid (HNo.out (by unfold initB; rw [hd0, hd1, decide_eq_true h49]; rfl))
              clear HT HNo hca hc1 h49 hd0 hd1
              go_wp2
              go_ret
              exact ⟨by rw [HX.out]; rfl, BW.out⟩
            · have b2 : (((st[k]'hlt).toNat : Int) == 49) = false := by rw [beq_eq_false_iff_ne]; omega
              have HX : Hid (((List.range c.lats.length).take (k + 1)).all (fun i => initB (c.lats.getD i ⟨0, 0, 0⟩) (st.data.toList.getD i 0)) = true) := by
                unfold Hid; rw [HT.out]; unfold initB; rw [hd0, hd1, decide_eq_false h49]; rfl
              clear HT HNo hca hc1 h49 hd0 hd1
              go_wp2
              go_roundw
              case rel => exact ⟨k + 1, by omega, by go_num, HX.out, HB.out⟩
              case measure => simp [intOf]; omega
      · obtain rfl : k = st.size := by omega
        have HF9 : Hid (initM c st = true) := by
          have h := HA.out
          rw [List.take_of_length_le (by rw [List.length_range, HS.out]; exact Nat.le_refl _)] at h
          unfold Hid initM
          rw [h, HBT.out]; rfl
        go_wp2
        go_ret
        exact ⟨by rw [HF9.out]; rfl, BW.out⟩
end Go.Proofs.Ytfglgapocmnfpaa.Rep
