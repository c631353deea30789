/- interlockref10.Check, value, left; condition: lists lie in memory. What the laws of layer 10 ask of the program's own functions, and the laws from it: ClauseParts, ClauseSound, ClauseNorm. Arguments that are clauses, opened; the cores of ClauseParts, ClauseSound, ClauseNorm. Condition of the ..U forms: bulk at most 1048576. -/
import Derived.Test.YtefbknpoehmfaaaPb06
import Derived.Test.YtefbknpoehmfaaaPb00
import Derived.Test.YtefbknpoehmfaaaPb07
import Derived.Test.YtefbknpoehmfaaaRows
namespace Go.Proofs.Ytefbknpoehmfaaa.For
open Go.ChangeShapes Go.WideShapes Go.ChangeAt Go.RowKit Go.Maps Circ Cw Cla Rep

/-- a formula as a value -/
def forV (vars : Int) (A : Option Addr) (n q : Nat) : Value := .agg #[.int .i64 vars, .slice A n q]
theorem cells2 {w : World} {p : Nat} {a b : Value} {T : TypeId} (h : w.heap[p]? = some (.cells #[a, b] T (0, 0))) : w.cell? ⟨p, 0, none⟩ = some a ∧ w.cell? ⟨p, 1, none⟩ = some b := by
  simp [World.cell?, h]
theorem all_take {α : Type} (l : List α) (p : α → Bool) (k : Nat) (hk : k < l.length) : (l.take (k + 1)).all p = ((l.take k).all p && p l[k]) := by
  rw [List.take_succ_eq_append_getElem hk, List.all_append]; simp
theorem all_not {α : Type} {l : List α} {p : α → Bool} {k : Nat} (hk : k < l.length) (h : p l[k] = false) : l.all p = false := by
  rw [List.all_eq_false]
  exact ⟨l[k], List.getElem_mem hk, by rw [h]; decide⟩
theorem clz_lies {w : World} {B : Nat} {z : Clz} (h : z.Lies w B) : ILies w B z.A z.l := ⟨h.row, h.fits, h.len⟩
set_option maxHeartbeats 16000000 in
set_option maxRecDepth 100000 in
theorem check_any (vars : Int) (l : List Int) (A : Option Addr) (q : Nat) (w : World) (hl : ILies w w.heap.size A l) :
    Calls Try.prog 37 #[.int .i64 vars, .slice A l.length q] w fun e w' => e = .returned (.int .i64 (chk vars l)) ∧ w = w' := by
  have HL := Lib.hid hl
  have hll := hl.len
  clear hl
  unfold chk
  by_cases hbig : 1024 < l.length
  · rw [if_pos hbig]
    have hbz : (1024 : Int) < (l.length : Int) := by omega
    go_enter Try.func37, Try.ntmps37
    go_wp2
    go_ret
    exact ⟨rfl, rfl⟩
  · rw [if_neg hbig]
    obtain ⟨res, hres⟩ : ∃ z : Int, (if l.all (litOk vars) then (0 : Int) else 4) = z := ⟨_, rfl⟩
    have R1 : Hid (l.all (litOk vars) = true → res = 0) := fun h => by rw [← hres, if_pos h]
    have R2 : Hid (l.all (litOk vars) = false → res = 4) := fun h => by rw [← hres, h]; rfl
    rw [hres]
    clear hres
    have hbz : ¬ (1024 : Int) < (l.length : Int) := by omega
    go_enter Try.func37, Try.ntmps37
    go_wp2
    go_loop [5] (fun i => ∃ k : Nat, k ≤ l.length ∧ i = .int .i64 k ∧ (l.take k).all (litOk vars) = true) (fun i => l.length - (intOf i).toNat)
    case atStart => exact ⟨0, Nat.zero_le _, rfl, rfl⟩
    case round =>
      obtain ⟨k, hk, rfl, ha⟩ := hrel
      have HA := Lib.hid ha
      clear ha
      by_cases hlt : k < l.length
      · obtain ⟨b, o, hA, -, hc⟩ := LRow.int HL.out.row hlt
        have hx := HL.out.fits _ (List.getElem_mem hlt)
        have AB := Lib.hid (abs_any l[k] w hx)
        have HT : Hid ((l.take (k + 1)).all (litOk vars) = litOk vars l[k]) := by
          unfold Hid
          rw [List.take_succ_eq_append_getElem hlt, List.all_append, HA.out]; simp
        have HM := Lib.hid (List.getElem_mem hlt)
        have HLI := Lib.hid (lit_iff vars l[k])
        have hkz : (k : Int) < (l.length : Int) := by omega
        have HNO : Hid (litOk vars l[k] = false → l.all (litOk vars) = false) := fun h => by
          rw [List.all_eq_false]; exact ⟨_, HM.out, by rw [h]; decide⟩
        subst hA
        clear hx HM
        generalize litOk vars l[k] = ok at *
        generalize l[k] = x at *
        generalize absW x = y at *
        by_cases h1 : 1 ≤ y
        · have h1n : ¬ y < 1 := by omega
          have hd1 : decide (y < 1) = false := decide_eq_false h1n
          by_cases h2 : y ≤ vars
          · have h2n : ¬ vars < y := by omega
            have hd2 : decide (vars < y) = false := decide_eq_false h2n
            have hok : ok = true := HLI.out.2 ⟨h1, h2⟩
            subst hok
            clear HLI HNO
            go_wp2_with fail
            refine AB.out.mono ?_
            rintro e w' ⟨rfl, rfl⟩
            go_wp2_with fail
            refine AB.out.mono ?_
            rintro e w' ⟨rfl, rfl⟩
            go_wp2
            go_round
            case rel => exact ⟨k + 1, by omega, by go_num, HT.out⟩
            case measure => simp [intOf]; omega
          · have h2n : vars < y := by omega
            have hd2 : decide (vars < y) = true := decide_eq_true h2n
            have HX : Hid (res = 4) := R2.out (HNO.out (by
              cases ok with
              | false => rfl
              | true => exact absurd (HLI.out.1 rfl).2 h2))
            clear HLI HNO HT
            go_wp2_with fail
            refine AB.out.mono ?_
            rintro e w' ⟨rfl, rfl⟩
            go_wp2_with fail
            refine AB.out.mono ?_
            rintro e w' ⟨rfl, rfl⟩
            go_wp2
            go_ret
            exact ⟨by rw [HX.out]; rfl, rfl⟩
        · have h1n : y < 1 := by omega
          have hd1 : decide (y < 1) = true := decide_eq_true h1n
          have HX : Hid (res = 4) := R2.out (HNO.out (by
            cases ok with
            | false => rfl
            | true => exact absurd (HLI.out.1 rfl).1 h1))
          clear HLI HNO HT
          go_wp2_with fail
          refine AB.out.mono ?_
          rintro e w' ⟨rfl, rfl⟩
          go_wp2
          go_ret
          exact ⟨by rw [HX.out]; rfl, rfl⟩
      · obtain rfl : k = l.length := by omega
        have HX : Hid (res = 0) := R1.out (by have h := HA.out; rw [List.take_length] at h; exact h)
        clear HA
        go_wp2
        go_ret
        exact ⟨by rw [HX.out]; rfl, rfl⟩
set_option maxHeartbeats 16000000 in
set_option maxRecDepth 100000 in
theorem true_any (vars : Int) (L : List Clz) (A : Option Addr) (q : Nat) (m : ByteArray) (w : World) (hA : ALies w w.heap.size A L) (hm : m.size ≤ 9223372036854775807) :
    Calls Try.prog 14 #[forV vars A L.length q, .string m] w fun e w' => e = .returned (.bool (trueM vars (L.map Clz.l) m)) ∧ Below w.heap.size w w' := by
  obtain ⟨WA, hWA⟩ : ∃ x, w.alloc (.cells #[.int .i64 vars, .slice A L.length q] 24) = x := ⟨_, rfl⟩
  have bA : Hid (Below w.heap.size w WA) := by unfold Hid; rw [← hWA]; exact (Below.refl _ _).alloc (Nat.le_refl _) _
  have GA : Hid (WA.heap[w.heap.size]? = some (.cells #[.int .i64 vars, .slice A L.length q] 24 (0, 0))) := by unfold Hid; rw [← hWA]; exact Array.getElem?_push_size
  have AW : Hid (ALies WA WA.heap.size A L) := (hA.below bA.out).more bA.out.size
  have HL := Lib.hid hA.len
  clear hA
  have R0 : Hid (m.data.toList.all isB = false → trueM vars (L.map Clz.l) m = false) := fun h => by unfold trueM; rw [h, Bool.false_and]
  have R1 : Hid (L.all (fun z => oneM m z.l) = false → trueM vars (L.map Clz.l) m = false) := fun h => by
    unfold trueM
    rw [List.all_map, show (oneM m ∘ Clz.l) = (fun z : Clz => oneM m z.l) from rfl, h, Bool.false_and, Bool.and_false]
  have R2 : Hid (m.data.toList.all isB = true → L.all (fun z => oneM m z.l) = true → trueM vars (L.map Clz.l) m = ((m.size : Int) == vars)) := fun h h2 => by
    unfold trueM
    rw [List.all_map, show (oneM m ∘ Clz.l) = (fun z : Clz => oneM m z.l) from rfl, h, h2]; rfl
  generalize trueM vars (L.map Clz.l) m = tm at *
  unfold forV
  go_enter Try.func14, Try.ntmps14
  go_wp2
  clear hWA
  go_loop [5] (fun i => ∃ k : Nat, k ≤ m.size ∧ i = .int .i64 k ∧ (m.data.toList.take k).all isB = true) (fun i => m.size - (intOf i).toNat)
  case atStart => exact ⟨0, Nat.zero_le _, rfl, rfl⟩
  case round =>
    obtain ⟨k, hk, rfl, ha⟩ := hrel
    have HB := Lib.hid ha
    clear ha
    by_cases hlt : k < m.size
    · have hkl : k < m.data.toList.length := by simpa using hlt
      have HT := Lib.hid (all_take m.data.toList isB k hkl)
      have HF : Hid (isB (m[k]'hlt) = false → tm = false) := fun h => R0.out (all_not (k := k) hkl (by rw [Array.getElem_toList]; exact h))
      have hib : isB (m.data.toList[k]'hkl) = (decide ((m[k]'hlt).toNat = 48) || decide ((m[k]'hlt).toNat = 49)) := rfl
      have hib2 : isB (m[k]'hlt) = (decide ((m[k]'hlt).toNat = 48) || decide ((m[k]'hlt).toNat = 49)) := rfl
      rw [HB.out, Bool.true_and, hib] at HT
      rw [hib2] at HF
      clear hib hib2
      by_cases h0 : (m[k]'hlt).toNat = 48
      · have b0 : (((m[k]'hlt).toNat : Int) != 48) = false := by rw [bne_eq_false_iff_eq]; omega
        have HN : Hid ((m.data.toList.take (k + 1)).all isB = true) := by have h := HT.out; rw [h0] at h; exact h
        clear HT HF
        go_wp2
        go_round
        case rel => exact ⟨k + 1, by omega, by go_num, HN.out⟩
        case measure => simp [intOf]; omega
      · have b0 : (((m[k]'hlt).toNat : Int) != 48) = true := by rw [bne_iff_ne]; omega
        by_cases h1 : (m[k]'hlt).toNat = 49
        · have b1 : (((m[k]'hlt).toNat : Int) != 49) = false := by rw [bne_eq_false_iff_eq]; omega
          have HN : Hid ((m.data.toList.take (k + 1)).all isB = true) := by have h := HT.out; rw [h1] at h; exact h
          clear HT HF
          go_wp2
          go_round
          case rel => exact ⟨k + 1, by omega, by go_num, HN.out⟩
          case measure => simp [intOf]; omega
        · have b1 : (((m[k]'hlt).toNat : Int) != 49) = true := by rw [bne_iff_ne]; omega
          have HX : Hid (tm = false) := HF.out (by rw [decide_eq_false h0, decide_eq_false h1]; rfl)
          clear HT HF
          go_wp2
          go_ret
          exact ⟨by rw [HX.out]; rfl, bA.out⟩
    · obtain rfl : k = m.size := by omega
      have H1 : Hid (m.data.toList.all isB = true) := by
        have h := HB.out
        rw [List.take_of_length_le (by simp)] at h
        exact h
      clear HB
      obtain ⟨e0, e1⟩ := cells2 GA.out
      go_wp2
      clear e0 e1
      go_loop [6] (fun i => ∃ k : Nat, k ≤ L.length ∧ i = .int .i64 k ∧ (L.take k).all (fun z => oneM m z.l) = true) (fun i => L.length - (intOf i).toNat)
      case atStart => exact ⟨0, Nat.zero_le _, rfl, rfl⟩
      case round =>
        obtain ⟨j, hj, rfl, hb⟩ := hrel
        have HB := Lib.hid hb
        have hl := HL.out
        clear hb
        obtain ⟨e0, e1⟩ := cells2 GA.out
        by_cases hlt2 : j < L.length
        · obtain ⟨b, o, hA2, -, hc⟩ := AW.out.at hlt2
          have ZL := AW.out.each L[j] (List.getElem_mem hlt2)
          have HJ := Lib.hid (one_any m L[j].l L[j].A L[j].q WA hm (clz_lies ZL))
          have HT := Lib.hid (all_take L (fun z => oneM m z.l) j hlt2)
          rw [HB.out, Bool.true_and] at HT
          have HNo : Hid (oneM m L[j].l = false → tm = false) := fun h => R1.out (all_not (p := fun z : Clz => oneM m z.l) hlt2 h)
          have hjz : (j : Int) < (L.length : Int) := by omega
          rw [hA2] at e1
          clear ZL hA2
          generalize L[j] = z at *
          cases hq : oneM m z.l with
          | true =>
            rw [hq] at HJ HT
            clear hq HNo
            go_wp2_with fail
            refine HJ.out.mono ?_
            rintro e w' ⟨rfl, rfl⟩
            go_wp2
            go_round
            case rel => exact ⟨j + 1, by omega, by go_num, HT.out⟩
            case measure => simp [intOf]; omega
          | false =>
            rw [hq] at HJ
            have HX : Hid (tm = false) := HNo.out hq
            clear hq HNo HT
            go_wp2_with fail
            refine HJ.out.mono ?_
            rintro e w' ⟨rfl, rfl⟩
            go_wp2
            go_ret
            exact ⟨by rw [HX.out]; rfl, bA.out⟩
        · obtain rfl : j = L.length := by omega
          have HX : Hid (tm = ((m.size : Int) == vars)) := R2.out H1.out (by have h := HB.out; rw [List.take_length] at h; exact h)
          clear HB
          go_wp2
          go_ret
          exact ⟨by rw [HX.out]; rfl, bA.out⟩
set_option maxHeartbeats 16000000 in
set_option maxRecDepth 100000 in
theorem form_any (vars : Int) (L : List Clz) (A : Option Addr) (q : Nat) (w : World) (hA : ALies w w.heap.size A L) :
    Calls Try.prog 12 #[forV vars A L.length q] w fun e w' => e = .returned (.int .i64 (formM vars (L.map Clz.l))) ∧ Below w.heap.size w w' := by
  obtain ⟨WA, hWA⟩ : ∃ x, w.alloc (.cells #[.int .i64 vars, .slice A L.length q] 24) = x := ⟨_, rfl⟩
  have bA : Hid (Below w.heap.size w WA) := by unfold Hid; rw [← hWA]; exact (Below.refl _ _).alloc (Nat.le_refl _) _
  have GA : Hid (WA.heap[w.heap.size]? = some (.cells #[.int .i64 vars, .slice A L.length q] 24 (0, 0))) := by unfold Hid; rw [← hWA]; exact Array.getElem?_push_size
  have GW : Hid (∀ x, Below WA.heap.size WA x → x.heap[w.heap.size]? = some (.cells #[.int .i64 vars, .slice A L.length q] 24 (0, 0))) := fun x hx => (hx.block _ (lt_of_block GA.out)).trans GA.out
  have AW : Hid (∀ x, Below WA.heap.size WA x → ALies x x.heap.size A L) := fun x hx => by
    have h := bA.out.trans (hx.mono bA.out.size)
    exact (hA.below h).more h.size
  have HL := Lib.hid hA.len
  clear hA
  have hl := HL.out
  obtain ⟨fm, hfm⟩ : ∃ z, formM vars (L.map Clz.l) = z := ⟨_, rfl⟩
  have HFM := Lib.hid hfm
  rw [hfm]
  unfold Hid formM at HFM
  rw [List.length_map, List.all_map, show ((fun l => chk vars l == 0) ∘ Clz.l) = (fun z : Clz => chk vars z.l == 0) from rfl] at HFM
  replace HFM := Lib.hid HFM
  clear hfm
  obtain ⟨e0, e1⟩ := cells2 GA.out
  by_cases h0 : vars < 0
  · have HX : Hid (fm = 9) := by have h := HFM.out; rw [if_pos h0] at h; exact h.symm
    clear HFM
    unfold forV
    go_enter Try.func12, Try.ntmps12
    go_wp2
    go_ret
    exact ⟨by rw [HX.out]; rfl, bA.out⟩
  · rw [if_neg h0] at HFM
    by_cases h1 : 262144 < vars
    · have HX : Hid (fm = 9) := by have h := HFM.out; rw [if_pos h1] at h; exact h.symm
      clear HFM
      unfold forV
      go_enter Try.func12, Try.ntmps12
      go_wp2
      go_ret
      exact ⟨by rw [HX.out]; rfl, bA.out⟩
    · rw [if_neg h1] at HFM
      by_cases h2 : 1048576 < L.length
      · have HX : Hid (fm = 9) := by have h := HFM.out; rw [if_pos h2] at h; exact h.symm
        have h2z : (1048576 : Int) < (L.length : Int) := by omega
        clear HFM
        unfold forV
        go_enter Try.func12, Try.ntmps12
        go_wp2
        go_ret
        exact ⟨by rw [HX.out]; rfl, bA.out⟩
      · rw [if_neg h2] at HFM
        have h2z : ¬ (1048576 : Int) < (L.length : Int) := by omega
        have R0 : Hid (L.all (fun z => chk vars z.l == 0) = true → fm = 0) := fun h => by have k := HFM.out; rw [if_pos h] at k; exact k.symm
        have R1 : Hid (L.all (fun z => chk vars z.l == 0) = false → fm = 9) := fun h => by have k := HFM.out; rw [h] at k; exact k.symm
        clear HFM
        unfold forV
        go_enter Try.func12, Try.ntmps12
        go_wp2
        clear hWA e0 e1 h0 h1 h2 h2z
        go_loopw [3] (fun i wr => ∃ k : Nat, k ≤ L.length ∧ i = .int .i64 k ∧ (L.take k).all (fun z => chk vars z.l == 0) = true ∧ Below WA.heap.size WA wr) (fun i _ => L.length - (intOf i).toNat)
        case atStart => exact ⟨0, Nat.zero_le _, rfl, rfl, Below.refl _ _⟩
        case round =>
          obtain ⟨k, hk, rfl, ha, hbw⟩ := hrel
          have HA := Lib.hid ha
          have HB := Lib.hid hbw
          have hl := HL.out
          clear ha hbw
          obtain ⟨e0, e1⟩ := cells2 (GW.out wr HB.out)
          have BR : Hid (Below w.heap.size w wr) := bA.out.trans (HB.out.mono bA.out.size)
          by_cases hlt : k < L.length
          · obtain ⟨b, o, hA2, -, hc⟩ := (AW.out wr HB.out).at hlt
            have HT := Lib.hid (all_take L (fun z => chk vars z.l == 0) k hlt)
            rw [HA.out, Bool.true_and] at HT
            have HNo : Hid ((chk vars L[k].l == 0) = false → fm = 9) := fun h => R1.out (all_not (p := fun z : Clz => chk vars z.l == 0) hlt h)
            have hkz : (k : Int) < (L.length : Int) := by omega
            have hk0 : (0 : Int) ≤ (k : Int) := by omega
            have K1 := Lib.hid (fun (u : Wd wr.heap.size wr) => Calls.in_wd u ((check_any vars L[k].l L[k].A L[k].q u.w (clz_lies ((AW.out u.w (HB.out.trans (u.ok.mono HB.out.size))).each L[k] (List.getElem_mem hlt)))).mono fun e w' ⟨h1, h2⟩ => ⟨h1, h2 ▸ Below.refl _ _⟩) (Nat.le_refl _))
            rw [hA2] at e1
            clear hA2
            generalize L[k] = z at *
            generalize chk vars z.l = ck at *
            by_cases hq : ck = 0
            · subst hq
              have HN : Hid ((L.take (k + 1)).all (fun z => chk vars z.l == 0) = true) := HT.out
              clear HT HNo
              go_wp2
              have u0 := Wd.cell e0
              have u1 := Wd.cell e1
              have u2 := Wd.cell hc
              refine wp_region_wd (by kernel_rfl) (by kernel_rfl) ?_
              repeat (first | go_big_quiet_skip | (go_big_quiet_want; go_big_quiet_op; first | go_big_quiet_on | (apply Exists.intro; refine ⟨fun u => ?_, ?_⟩; (first | (go_at_call 37; with_reducible exact K1.out u)); go_big_quiet_on)))
              refine wpQuiet_nil ?_
              intro wz9 hw'
              obtain ⟨⟨_, hb9⟩, hw''⟩ := hw'
              subst hw''
              have BN : Hid (Below WA.heap.size WA wz9) := HB.out.trans (hb9.mono HB.out.size)
              clear hb9 u0 u1 u2 K1 e0 e1 hc
              go_wp2
              go_roundw
              case rel => exact ⟨k + 1, by omega, by go_num, HN.out, BN.out⟩
              case measure => simp [intOf]; omega
            · have hq1 : (ck != 0) = true := bne_iff_ne.2 hq
              have HX : Hid (fm = 9) := HNo.out (beq_eq_false_iff_ne.2 hq)
              clear HT HNo
              go_wp2
              have u0 := Wd.cell e0
              have u1 := Wd.cell e1
              have u2 := Wd.cell hc
              refine wp_region_wd (by kernel_rfl) (by kernel_rfl) ?_
              repeat (first | go_big_quiet_skip | (go_big_quiet_want; go_big_quiet_op; first | go_big_quiet_on | (apply Exists.intro; refine ⟨fun u => ?_, ?_⟩; (first | (go_at_call 37; with_reducible exact K1.out u)); go_big_quiet_on)))
              refine wpQuiet_nil ?_
              intro wz9 hw'
              obtain ⟨⟨_, hb9⟩, hw''⟩ := hw'
              subst hw''
              have BN : Hid (Below w.heap.size w wz9) := BR.out.trans (hb9.mono BR.out.size)
              clear hb9 u0 u1 u2 K1 e0 e1 hc
              go_wp2
              go_ret
              exact ⟨by rw [HX.out]; rfl, BN.out⟩
          · obtain rfl : k = L.length := by omega
            have HX : Hid (fm = 0) := R0.out (by have h := HA.out; rw [List.take_length] at h; exact h)
            clear HA
            go_wp2
            go_ret
            exact ⟨by rw [HX.out]; rfl, BR.out⟩
end Go.Proofs.Ytefbknpoehmfaaa.For
namespace Go.Proofs.Ytefbknpoehmfaaa.Cla
open Go.ChangeShapes Go.WideShapes Go.ChangeAt Go.RowKit Go.Maps Circ Cw

end Go.Proofs.Ytefbknpoehmfaaa.Cla
namespace Go.Proofs.Ytefbknpoehmfaaa.Cla
open Go.ChangeShapes Go.WideShapes Go.ChangeAt Go.RowKit Go.Maps Go.Deep Circ Cw
section
variable {H : Type} {enc : TypeId × Value → H} {W : World}
theorem of_weights {ts : List TypeId} {ds : List (DataW H)} (hsz : (DataW.weightsEach Try.prog ts ds).all (· ≤ reachBytes) = true) (j : Nat) {t : TypeId} {d : DataW H} (ht : ts[j]? = some t) (hd : ds[j]? = some d) : ∀ n ∈ DataW.weights Try.prog t d, n ≤ reachBytes := fun n hn => by
  have := List.all_eq_true.1 hsz n (DataW.weights_mem_each (j := j) ht hd n hn)
  simpa using this
end
end Go.Proofs.Ytefbknpoehmfaaa.Cla
