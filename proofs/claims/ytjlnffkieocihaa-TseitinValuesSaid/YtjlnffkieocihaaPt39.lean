/- TseitinValues, from what it asks of the program; condition: as there. -/
import Derived.Test.YtjlnffkieocihaaPt38
import Derived.Test.YtjlnffkieocihaaPt06
import Derived.Test.YtjlnffkieocihaaPt35
namespace Go.Proofs.Ytjlnffkieocihaa.Tse
open Go.ChangeShapes Go.WideShapes Go.ChangeAt Go.RowKit Go.Maps Circ Cw Str Sim Rep Cla

def gateM (c : Cir) (v : Int) : Bool := c.ands.any fun t => decide (t.a = 2 * v)
/-- may the law turn it? -/
def flipB (c : Cir) (v : Int) : Bool := decide (v = 0) || (gateM c v || (kindOf c v).toList.isEmpty)
theorem kept_of {c : Cir} {n : Nat} (h1 : freeT c (n : Int) = false) (h2 : ∀ t ∈ c.ands, t.a / 2 ≠ (n : Int)) : flipB c (n : Int) = false := by
  unfold freeT at h1
  rw [Bool.or_eq_false_iff] at h1
  unfold flipB gateM
  rw [h1.1, h1.2, Bool.false_or, Bool.or_false, List.any_eq_false]
  intro t ht
  have := h2 t ht
  simp
  omega
theorem take_eq {α : Type} [DecidableEq α] {a v : List α} {i : Nat} (hl : a.length = i) (hi : i < v.length) (y : α) : decide (a ++ [y] = v.take (i + 1)) = (decide (a = v.take i) && decide (y = v[i])) := by
  rw [List.take_succ_eq_append_getElem hi, Bool.eq_iff_iff, Bool.and_eq_true, decide_eq_true_eq, decide_eq_true_eq, decide_eq_true_eq]
  constructor
  · intro h
    have := List.append_inj h (by rw [hl, List.length_take]; omega)
    exact ⟨this.1, by simpa using this.2⟩
  · rintro ⟨rfl, rfl⟩; rfl
set_option maxHeartbeats 16000000 in
set_option maxRecDepth 100000 in
theorem gate_any (c : Cir) (s : Places) (v : Nat) (w : World) (h : CLies w w.heap.size c s) (hf : CFits c s) (hv : v ≤ 4096) :
    Calls Try.prog 38 #[cirV c s, .int .i64 (v : Int)] w fun e w' => e = .returned (.bool (gateM c (v : Int))) ∧ Below w.heap.size w w' := by
  obtain ⟨WA, hWA⟩ : ∃ x, w.alloc (.cells #[.int .i64 c.max, .slice s.ai c.ins.length s.ki, .slice s.al c.lats.length s.kl, .slice s.ao c.outs.length s.ko, .slice s.ab c.bads.length s.kb, .slice s.ac c.invs.length s.kc, .slice s.aa c.ands.length s.ka, .slice s.an c.names.length s.kn] 27) = x := ⟨_, rfl⟩
  have bA : Hid (Below w.heap.size w WA) := by unfold Hid; rw [← hWA]; exact (Below.refl _ _).alloc (Nat.le_refl _) _
  have GA : Hid (WA.heap[w.heap.size]? = some (.cells (cirC c s) 27 (0, 0))) := by unfold Hid; rw [← hWA]; exact Array.getElem?_push_size
  have HAN := Lib.hid (h.ands.below bA.out)
  have hla : c.ands.length * 24 ≤ 140737488355328 := hf.la
  have hw2 : wrap64 (2 * (v : Int)) = 2 * (v : Int) := by unfold wrap64; omega
  have e6 := (cells8 GA.out).2.2.2.2.2.2.1
  clear h hf
  unfold gateM
  unfold cirV
  rw [show cirC c s = #[.int .i64 c.max, .slice s.ai c.ins.length s.ki, .slice s.al c.lats.length s.kl, .slice s.ao c.outs.length s.ko, .slice s.ab c.bads.length s.kb, .slice s.ac c.invs.length s.kc, .slice s.aa c.ands.length s.ka, .slice s.an c.names.length s.kn] from rfl]
  go_enter Try.func38, Try.ntmps38
  go_wp2
  clear hWA
  go_loop [5] (fun i => ∃ k : Nat, k ≤ c.ands.length ∧ i = .int .i64 k ∧ (c.ands.take k).any (fun t => decide (t.a = 2 * (v : Int))) = false) (fun i => c.ands.length - (intOf i).toNat)
  case atStart => exact ⟨0, Nat.zero_le _, rfl, by simp⟩
  case round =>
    obtain ⟨k, hk, rfl, ha⟩ := hrel
    have HA := Lib.hid ha
    clear ha
    by_cases hlt : k < c.ands.length
    · obtain ⟨b, o, hAB, -, c0, c1, c2⟩ := LRow.tri HAN.out hlt
      have HT : Hid ((c.ands.take (k + 1)).any (fun t => decide (t.a = 2 * (v : Int))) = decide (c.ands[k].a = 2 * (v : Int))) := by
        unfold Hid
        rw [List.take_succ_eq_append_getElem hlt, List.any_append, HA.out]; simp
      have HM : Hid (decide (c.ands[k].a = 2 * (v : Int)) = true → c.ands.any (fun t => decide (t.a = 2 * (v : Int))) = true) := fun h => List.any_eq_true.2 ⟨_, List.getElem_mem hlt, h⟩
      rw [hAB] at e6
      have k0 : (0 : Int) ≤ (k : Int) := by omega
      have k1 : (k : Int) < (c.ands.length : Int) := by omega
      clear hAB c1 c2
      generalize c.ands[k] = t at *
      by_cases he : t.a = 2 * (v : Int)
      · have hb : (t.a == 2 * (v : Int)) = true := beq_iff_eq.2 he
        have HX := Lib.hid (HM.out (decide_eq_true he))
        clear he HT HM
        go_wp2
        go_ret
        exact ⟨by rw [HX.out]; rfl, bA.out⟩
      · have hb : (t.a == 2 * (v : Int)) = false := beq_eq_false_iff_ne.2 he
        have HX := HT.out
        rw [decide_eq_false he] at HX
        replace HX := Lib.hid HX
        clear he HT HM
        go_wp2
        go_round
        case rel => exact ⟨k + 1, by omega, by go_num, HX.out⟩
        case measure => simp [intOf]; omega
    · obtain rfl : k = c.ands.length := by omega
      have HX : Hid (c.ands.any (fun t => decide (t.a = 2 * (v : Int))) = false) := by have h := HA.out; rw [List.take_length] at h; exact h
      go_wp2
      go_ret
      exact ⟨by rw [HX.out]; rfl, bA.out⟩
set_option maxHeartbeats 16000000 in
set_option maxRecDepth 100000 in
theorem lawV_walk {N : Nat} (P : Prog12 N) (c : Cir) (s : Places) (st inp : ByteArray) (turn : Int) (w : World) (h : CLies w w.heap.size c s) (hf : CFits c s) (hs : st.size ≤ 9223372036854775807) (hi : inp.size ≤ 9223372036854775807) :
    Calls Try.prog 9 #[cirV c s, .string st, .string inp, .int .u64 turn] w fun e w' => e = .returned (.bool true) ∧ Below w.heap.size w w' := by
  obtain ⟨WA, hWA⟩ : ∃ x, w.alloc (.cells #[.int .i64 c.max, .slice s.ai c.ins.length s.ki, .slice s.al c.lats.length s.kl, .slice s.ao c.outs.length s.ko, .slice s.ab c.bads.length s.kb, .slice s.ac c.invs.length s.kc, .slice s.aa c.ands.length s.ka, .slice s.an c.names.length s.kn] 27) = x := ⟨_, rfl⟩
  have bA : Hid (Below w.heap.size w WA) := by unfold Hid; rw [← hWA]; exact (Below.refl _ _).alloc (Nat.le_refl _) _
  have GA : Hid (WA.heap[w.heap.size]? = some (.cells (cirC c s) 27 (0, 0))) := by unfold Hid; rw [← hWA]; exact Array.getElem?_push_size
  have GW : Hid (∀ x, Below WA.heap.size WA x → x.heap[w.heap.size]? = some (.cells (cirC c s) 27 (0, 0))) := fun x hx => (hx.block _ (lt_of_block GA.out)).trans GA.out
  have CW : Hid (∀ x, Below WA.heap.size WA x → CLies x x.heap.size c s) := fun x hx => by
    have h1 := bA.out.trans (hx.mono bA.out.size)
    exact (h.below h1).more h1.size
  have HF := Lib.hid hf
  have AL := Lib.hid (alive_any P WA)
  clear h hf
  unfold cirV
  rw [show cirC c s = #[.int .i64 c.max, .slice s.ai c.ins.length s.ki, .slice s.al c.lats.length s.kl, .slice s.ao c.outs.length s.ko, .slice s.ab c.bads.length s.kb, .slice s.ac c.invs.length s.kc, .slice s.aa c.ands.length s.ka, .slice s.an c.names.length s.kn] from rfl]
  go_enter Try.func9, Try.ntmps9
  go_wp2_with fail
  refine AL.out.mono ?_
  rintro e w1 ⟨rfl, hb1⟩
  have B1 := Lib.hid hb1
  clear hb1 AL hWA
  have VA := Lib.hid (refvalues_any c s st inp w1 (CW.out _ B1.out) HF.out hs hi)
  obtain ⟨e0, e1, e2, e3, e4, e5, e6, e7⟩ := cells8 (GW.out _ B1.out)
  unfold cirV at VA
  rw [show cirC c s = #[.int .i64 c.max, .slice s.ai c.ins.length s.ki, .slice s.al c.lats.length s.kl, .slice s.ao c.outs.length s.ko, .slice s.ab c.bads.length s.kb, .slice s.ac c.invs.length s.kc, .slice s.aa c.ands.length s.ka, .slice s.an c.names.length s.kn] from rfl] at VA
  obtain ⟨vv, hvv⟩ : ∃ y : ByteArray, sv (vStr c st inp) = .string y := ⟨_, rfl⟩
  have HVV : Hid (vv.data.toList = vStr c st inp) := by
    unfold Hid
    unfold sv at hvv
    have := Value.string.inj hvv
    rw [← this]
  rw [hvv] at VA
  clear hvv
  obtain ⟨ve, hve⟩ : ∃ y, vErr c st inp = y := ⟨_, rfl⟩
  rw [hve] at VA
  have HVE := Lib.hid hve
  clear hve
  go_wp2_with fail
  refine VA.out.mono ?_
  rintro e w3 ⟨rfl, hb3⟩
  have B3 : Hid (Below WA.heap.size WA w3) := B1.out.trans (hb3.mono B1.out.size)
  clear hb3 VA e0 e1 e2 e3 e4 e5 e6 e7
  have FO := Lib.hid (P.gates c s 0 w3 (CW.out _ B3.out) HF.out (by unfold I64; decide))
  obtain ⟨e0, e1, e2, e3, e4, e5, e6, e7⟩ := cells8 (GW.out _ B3.out)
  unfold cirV at FO
  rw [show cirC c s = #[.int .i64 c.max, .slice s.ai c.ins.length s.ki, .slice s.al c.lats.length s.kl, .slice s.ao c.outs.length s.ko, .slice s.ab c.bads.length s.kb, .slice s.ac c.invs.length s.kc, .slice s.aa c.ands.length s.ka, .slice s.an c.names.length s.kn] from rfl] at FO
  obtain ⟨fe, hfe⟩ : ∃ y, errT c 0 = y := ⟨_, rfl⟩
  rw [hfe] at FO
  have HFE := Lib.hid hfe
  clear hfe
  go_wp2_with fail
  refine FO.out.mono ?_
  rintro e w4 ⟨⟨K, A4, q4, rfl, hK, hKM⟩, hb4⟩
  have HK := Lib.hid hK
  have HKM := Lib.hid hKM
  have B4 : Hid (Below WA.heap.size WA w4) := B3.out.trans (hb4.mono B3.out.size)
  have BF : Hid (Below w.heap.size w w4) := bA.out.trans (B4.out.mono bA.out.size)
  clear hK hKM hb4 FO e0 e1 e2 e3 e4 e5 e6 e7
  cases hr : refOk c with
  | false =>
    obtain rfl : ve = 9 := by rw [← HVE.out]; exact err_no hr
    obtain rfl : fe = 9 := by rw [← HFE.out]; unfold errT; rw [if_pos hr]
    go_wp2_with (go_at_call 36; refine (num_any _ _).mono ?_; rintro e w' ⟨rfl, rfl⟩)
    go_ret
    exact ⟨rfl, BF.out⟩
  | true =>
    obtain rfl : fe = 0 := by rw [← HFE.out]; unfold errT; rw [hr]; decide
    cases hok : okB c st inp with
    | false =>
      obtain rfl : ve = 5 := by rw [← HVE.out]; exact err_long hr hok
      go_wp2
      go_ret
      exact ⟨rfl, BF.out⟩
    | true =>
      obtain rfl : ve = 0 := by rw [← HVE.out]; exact err_ok hr hok
      obtain ⟨-, hbs, hbi⟩ := err_is HVE.out
      have HVX : Hid (vv.data.toList = valsM c st inp) := HVV.out.trans (str_ok HVE.out)
      have HKM2 : Hid (K.map Clz.l = gatesT c 0) := by
        have h1 := HKM.out
        unfold gListT at h1
        rw [if_pos HFE.out] at h1
        exact h1
      have hvl : vv.size = (valsM c st inp).length := by rw [← HVX.out]; simp
      have hvz : vv.size ≤ 2049 := by have h1 := (vals_small st inp hr).2; omega
      have HBV : Hid (∀ x ∈ vv.data.toList, isB x) := by unfold Hid; rw [HVX.out]; exact vals_bits hbs hbi
      have HGI : Hid (∀ u : ByteArray, u.size = vv.size → (∀ x ∈ u.data.toList, isB x) → (∀ n : Nat, n < u.size → flipB c (n : Int) = false → u.data.toList[n]? = vv.data.toList[n]?) → K.all (fun z => oneM u z.l) = decide (u.data.toList = vv.data.toList)) := fun u h1 h2 h3 => by
        have h4 := gates_iff st inp hr hbs hbi u (by omega) h2 (fun n hn g1 g2 => by rw [← HVX.out]; exact h3 n hn (kept_of g1 g2))
        rw [← HKM2.out, List.all_map, ← HVX.out] at h4
        exact h4
      have HALL : Hid (∀ k (h : k < K.length), oneM vv K[k].l = true) := fun k hk => by
        have h1 := HGI.out vv rfl HBV.out (fun _ _ _ => rfl)
        rw [decide_eq_true rfl] at h1
        exact List.all_eq_true.1 h1 _ (List.getElem_mem hk)
      have hkl := HK.out.len
      clear HVE HFE HKM HKM2 HVV hok hbs hbi hvl HVX
      have hvz2 : vv.size ≤ 9223372036854775807 := by omega
      go_wp2_with (go_at_call 36; refine (num_any _ _).mono ?_; rintro e w' ⟨rfl, rfl⟩)
      go_loopw [13] (fun i wr => ∃ k : Nat, k ≤ K.length ∧ i = .int .i64 k ∧ Below w4.heap.size w4 wr) (fun i _ => K.length - (intOf i).toNat)
      case atStart => exact ⟨0, Nat.zero_le _, rfl, Below.refl _ _⟩
      case round =>
        obtain ⟨k, hk, rfl, hb5⟩ := hrel
        obtain ⟨wo, rfl⟩ : ∃ y, y = wr := ⟨_, rfl⟩
        have B5 := Lib.hid hb5
        have BW5 : Hid (Below WA.heap.size WA wo) := B4.out.trans (hb5.mono B4.out.size)
        clear hb5
        by_cases hlm : k < K.length
        · obtain ⟨b, o, hAB, -, hc⟩ := ((HK.out.below B5.out).more B5.out.size).at hlm
          have HZ := Lib.hid (clz_lies (((HK.out.below B5.out).more B5.out.size).each _ (List.getElem_mem hlm)))
          have ON := Lib.hid (one_any vv K[k].l K[k].A K[k].q wo hvz2 HZ.out)
          rw [HALL.out k hlm] at ON
          have m0 : (0 : Int) ≤ (k : Int) := by omega
          have m1 : (k : Int) < (K.length : Int) := by omega
          subst hAB
          generalize K[k] = z at *
          go_wp2_with fail
          refine ON.out.mono ?_
          rintro e w' ⟨rfl, rfl⟩
          go_wp2
          go_roundw
          case rel => exact ⟨k + 1, by omega, by go_num, B5.out⟩
          case measure => simp [intOf]; omega
        · obtain rfl : k = K.length := by omega
          clear HALL
          have hvl : vv.data.toList.length = vv.size := by simp
          go_wp2
          go_loopw [17, 14, 15, 16] (fun ii ws gg sm wr => ∃ (i g : Nat) (wl : List UInt8), i ≤ vv.size ∧ ii = .int .i64 i ∧ ws = .string ⟨wl.toArray⟩ ∧ gg = .int .i64 g ∧ g ≤ i ∧ sm = .bool (decide (wl = vv.data.toList.take i)) ∧ wl.length = i ∧ (∀ x ∈ wl, isB x) ∧ (∀ n : Nat, n < i → flipB c (n : Int) = false → wl[n]? = vv.data.toList[n]?) ∧ Below wo.heap.size wo wr) (fun ii _ _ _ _ => vv.size - (intOf ii).toNat)
          case atStart => exact ⟨0, 0, [], Nat.zero_le _, rfl, rfl, rfl, Nat.le_refl _, by simp, rfl, fun x hx => (List.not_mem_nil hx).elim, fun n hn => absurd hn (Nat.not_lt_zero _), Below.refl _ _⟩
          case round =>
            obtain ⟨i, g, wl, hi2, rfl, rfl, rfl, hg, rfl, hwl, hbt, hkp, hb6⟩ := hrel
            have HWL := Lib.hid hwl
            have HBT := Lib.hid hbt
            have HKP := Lib.hid hkp
            have B6 := Lib.hid hb6
            have BW6 : Hid (Below WA.heap.size WA wr) := BW5.out.trans (hb6.mono BW5.out.size)
            clear hwl hbt hkp hb6
            by_cases hlt : i < vv.size
            · have hltl : i < vv.data.toList.length := by omega
              have hxb : isB (vv.data.toList[i]) := HBV.out _ (List.getElem_mem hltl)
              have hxe : vv.data.toList[i] = vv[i]'hlt := by rw [Array.getElem_toList]; rfl
              have HTE := Lib.hid (fun y => take_eq HWL.out hltl y)
              have HXN : Hid (vv.data.toList[i]? = some (vv[i]'hlt)) := by unfold Hid; rw [List.getElem?_eq_getElem hltl, hxe]
              rw [hxe] at hxb HTE
              clear hxe
              have i0 : (0 : Int) ≤ (i : Int) := by omega
              have i1 : (i : Int) < (vv.size : Int) := by omega
              have hgz : (g : Int) ≤ 2049 := by omega
              have hg0 : (0 : Int) ≤ (g : Int) := by omega
              have BT : Hid (∀ y : UInt8, isB y → ∀ x ∈ wl ++ [y], isB x) := fun y hy x hx => by
                rcases List.mem_append.1 hx with hx | hx
                · exact HBT.out x hx
                · rw [List.mem_singleton.1 hx]; exact hy
              have HKN : Hid (∀ y : UInt8, (flipB c (i : Int) = false → y = vv[i]'hlt) → ∀ n : Nat, n < i + 1 → flipB c (n : Int) = false → (wl ++ [y])[n]? = vv.data.toList[n]?) := fun y hy n hn hfl => by
                by_cases e : n = i
                · subst e
                  rw [HXN.out, List.getElem?_append_right (by rw [HWL.out]; exact Nat.le_refl _), HWL.out, Nat.sub_self, ← hy hfl]; rfl
                · rw [List.getElem?_append_left (by rw [HWL.out]; omega)]
                  exact HKP.out n (by omega) hfl
              have HCT : Hid (∀ y : UInt8, (⟨wl.toArray⟩ : ByteArray) ++ ⟨[y].toArray⟩ = ⟨(wl ++ [y]).toArray⟩) := fun y => by
                apply ByteArray.ext
                rw [ByteArray.data_append]
                apply Array.toList_inj.1
                simp
              have hsz : (⟨wl.toArray⟩ : ByteArray).size ≤ 2049 := by rw [sv_size, HWL.out]; omega
              have HLE : Hid ((wl ++ [(48 : UInt8)]).length = i + 1 ∧ (wl ++ [(49 : UInt8)]).length = i + 1) := by unfold Hid; simp [HWL.out]
              obtain ⟨ws, hws⟩ : ∃ y, (⟨wl.toArray⟩ : ByteArray) = y := ⟨_, rfl⟩
              rw [hws] at hsz HCT
              rw [hws]
              clear hws
              have hcv48 : ∀ w : World, (convert 63 9 (.slice (some ⟨w.heap.size, 0, none⟩) 1 1)).run Try.prog (w.alloc (.cells #[.int .u8 48] 5)) = .ok (.string ⟨[(48 : UInt8)].toArray⟩) (w.alloc (.cells #[.int .u8 48] 5)) := fun w => conv1 (w.alloc (.cells #[.int .u8 48] 5)) w.heap.size 48 (by rw [World.cell?_alloc_new]; rfl)
              have hcv49 : ∀ w : World, (convert 63 9 (.slice (some ⟨w.heap.size, 0, none⟩) 1 1)).run Try.prog (w.alloc (.cells #[.int .u8 49] 5)) = .ok (.string ⟨[(49 : UInt8)].toArray⟩) (w.alloc (.cells #[.int .u8 49] 5)) := fun w => conv1 (w.alloc (.cells #[.int .u8 49] 5)) w.heap.size 49 (by rw [World.cell?_alloc_new]; rfl)
              have h48 : (⟨[(48 : UInt8)].toArray⟩ : ByteArray).size = 1 := rfl
              have h49 : (⟨[(49 : UInt8)].toArray⟩ : ByteArray).size = 1 := rfl
              have CT48 := Lib.hid (HCT.out 48)
              have CT49 := Lib.hid (HCT.out 49)
              clear HCT
              generalize (⟨[(48 : UInt8)].toArray⟩ : ByteArray) = s48 at *
              generalize (⟨[(49 : UInt8)].toArray⟩ : ByteArray) = s49 at *
              have GT := Lib.hid (fun x (hx : Below WA.heap.size WA x) => gate_any c s i x (CW.out x hx) HF.out (by omega))
              have KD := Lib.hid (fun x (hx : Below WA.heap.size WA x) => kindref_any c s (i : Int) x (CW.out x hx) HF.out)
              unfold cirV at GT KD
              rw [show cirC c s = #[.int .i64 c.max, .slice s.ai c.ins.length s.ki, .slice s.al c.lats.length s.kl, .slice s.ao c.outs.length s.ko, .slice s.ab c.bads.length s.kb, .slice s.ac c.invs.length s.kc, .slice s.aa c.ands.length s.ka, .slice s.an c.names.length s.kn] from rfl] at GT KD
              have HFB : Hid (flipB c (i : Int) = (decide ((i : Int) = 0) || (gateM c (i : Int) || (kindOf c (i : Int)).toList.isEmpty))) := rfl
              obtain ⟨e0, e1, e2, e3, e4, e5, e6, e7⟩ := cells8 (GW.out _ BW6.out)
              obtain ⟨kb, hkb⟩ : ∃ y, (bits BinOp.and IntKind.u64 (turn / 2 ^ (g % 64)) 1 == 1) = y := ⟨_, rfl⟩
              generalize hxx : vv[i]'hlt = xx at *
              generalize gateM c (i : Int) = gm at *
              generalize kindOf c (i : Int) = kd at *
              generalize hke : kd.toList.isEmpty = ke at *
              clear hltl
              rcases hxb with rfl | rfl
              · by_cases hz0 : (i : Int) = 0
                · obtain rfl : i = 0 := by omega
                  have HD0 := Lib.hid hz0
                  clear GT KD e0 e1 e2 e3 e4 e5 e6 e7 hz0
                  cases kb with
                  | true =>
                    go_wp2
                    go_roundw
                    case rel => exact ⟨0 + 1, g + 1, wl ++ [49], by omega, by go_num, by rw [CT49.out], by go_num, by omega, by rw [(HTE.out 49), decide_eq_false (show ¬ (49 : UInt8) = 48 by decide), Bool.and_false], HLE.out.2, BT.out 49 (.inr rfl), HKN.out 49 (fun h => by rw [HFB.out, decide_eq_true HD0.out, Bool.true_or] at h; cases h), (B6.out.alloc (Nat.le_trans B6.out.size (Nat.le_refl _)) _)⟩
                    case measure => simp [intOf]; omega
                  | false =>
                    go_wp2
                    go_roundw
                    case rel => exact ⟨0 + 1, g + 1, wl ++ [48], by omega, by go_num, by rw [CT48.out], by go_num, by omega, by rw [(HTE.out 48), decide_eq_true (rfl : (48 : UInt8) = 48), Bool.and_true], HLE.out.1, BT.out 48 (.inl rfl), HKN.out 48 (fun _ => rfl), (B6.out.alloc (Nat.le_trans B6.out.size (Nat.le_refl _)) _)⟩
                    case measure => simp [intOf]; omega
                · have hz : ((i : Int) == 0) = false := beq_eq_false_iff_ne.2 hz0
                  go_wp2_with fail
                  refine (GT.out _ BW6.out).mono ?_
                  rintro e w7 ⟨rfl, hb7⟩
                  have B7 : Hid (Below wo.heap.size wo w7) := B6.out.trans (hb7.mono B6.out.size)
                  have BW7 : Hid (Below WA.heap.size WA w7) := BW6.out.trans (hb7.mono BW6.out.size)
                  clear hb7 GT e0 e1 e2 e3 e4 e5 e6 e7
                  cases gm with
                  | true =>
                    clear KD
                    cases kb with
                    | true =>
                      go_wp2
                      go_roundw
                      case rel => exact ⟨i + 1, g + 1, wl ++ [49], by omega, by go_num, by rw [CT49.out], by go_num, by omega, by rw [(HTE.out 49), decide_eq_false (show ¬ (49 : UInt8) = 48 by decide), Bool.and_false], HLE.out.2, BT.out 49 (.inr rfl), HKN.out 49 (fun h => by rw [HFB.out, Bool.true_or, Bool.or_true] at h; cases h), (B7.out.alloc (Nat.le_trans B7.out.size (Nat.le_refl _)) _)⟩
                      case measure => simp [intOf]; omega
                    | false =>
                      go_wp2
                      go_roundw
                      case rel => exact ⟨i + 1, g + 1, wl ++ [48], by omega, by go_num, by rw [CT48.out], by go_num, by omega, by rw [(HTE.out 48), decide_eq_true (rfl : (48 : UInt8) = 48), Bool.and_true], HLE.out.1, BT.out 48 (.inl rfl), HKN.out 48 (fun _ => rfl), (B7.out.alloc (Nat.le_trans B7.out.size (Nat.le_refl _)) _)⟩
                      case measure => simp [intOf]; omega
                  | false =>
                    obtain ⟨e0, e1, e2, e3, e4, e5, e6, e7⟩ := cells8 (GW.out _ BW7.out)
                    go_wp2_with fail
                    refine (KD.out _ BW7.out).mono ?_
                    rintro e w8 ⟨rfl, hb8⟩
                    have B8 : Hid (Below wo.heap.size wo w8) := B7.out.trans (hb8.mono B7.out.size)
                    clear hb8 KD e0 e1 e2 e3 e4 e5 e6 e7
                    cases ke with
                    | true =>
                      skip
                      cases kb with
                      | true =>
                        go_wp2
                        go_roundw
                        case rel => exact ⟨i + 1, g + 1, wl ++ [49], by omega, by go_num, by rw [CT49.out], by go_num, by omega, by rw [(HTE.out 49), decide_eq_false (show ¬ (49 : UInt8) = 48 by decide), Bool.and_false], HLE.out.2, BT.out 49 (.inr rfl), HKN.out 49 (fun h => by rw [HFB.out, Bool.or_true, Bool.or_true] at h; cases h), (B8.out.alloc (Nat.le_trans B8.out.size (Nat.le_refl _)) _)⟩
                        case measure => simp [intOf]; omega
                      | false =>
                        go_wp2
                        go_roundw
                        case rel => exact ⟨i + 1, g + 1, wl ++ [48], by omega, by go_num, by rw [CT48.out], by go_num, by omega, by rw [(HTE.out 48), decide_eq_true (rfl : (48 : UInt8) = 48), Bool.and_true], HLE.out.1, BT.out 48 (.inl rfl), HKN.out 48 (fun _ => rfl), (B8.out.alloc (Nat.le_trans B8.out.size (Nat.le_refl _)) _)⟩
                        case measure => simp [intOf]; omega
                    | false =>
                      go_wp2
                      go_roundw
                      case rel => exact ⟨i + 1, g, wl ++ [48], by omega, by go_num, by rw [CT48.out], by go_num, by omega, by rw [(HTE.out 48), decide_eq_true (rfl : (48 : UInt8) = 48), Bool.and_true], HLE.out.1, BT.out 48 (.inl rfl), HKN.out 48 (fun _ => rfl), (B8.out.alloc (Nat.le_trans B8.out.size (Nat.le_refl _)) _)⟩
                      case measure => simp [intOf]; omega
              · by_cases hz0 : (i : Int) = 0
                · obtain rfl : i = 0 := by omega
                  have HD0 := Lib.hid hz0
                  clear GT KD e0 e1 e2 e3 e4 e5 e6 e7 hz0
                  cases kb with
                  | true =>
                    go_wp2
                    go_roundw
                    case rel => exact ⟨0 + 1, g + 1, wl ++ [48], by omega, by go_num, by rw [CT48.out], by go_num, by omega, by rw [(HTE.out 48), decide_eq_false (show ¬ (48 : UInt8) = 49 by decide), Bool.and_false], HLE.out.1, BT.out 48 (.inl rfl), HKN.out 48 (fun h => by rw [HFB.out, decide_eq_true HD0.out, Bool.true_or] at h; cases h), (B6.out.alloc (Nat.le_trans B6.out.size (Nat.le_refl _)) _)⟩
                    case measure => simp [intOf]; omega
                  | false =>
                    go_wp2
                    go_roundw
                    case rel => exact ⟨0 + 1, g + 1, wl ++ [49], by omega, by go_num, by rw [CT49.out], by go_num, by omega, by rw [(HTE.out 49), decide_eq_true (rfl : (49 : UInt8) = 49), Bool.and_true], HLE.out.2, BT.out 49 (.inr rfl), HKN.out 49 (fun _ => rfl), (B6.out.alloc (Nat.le_trans B6.out.size (Nat.le_refl _)) _)⟩
                    case measure => simp [intOf]; omega
                · have hz : ((i : Int) == 0) = false := beq_eq_false_iff_ne.2 hz0
                  go_wp2_with fail
                  refine (GT.out _ BW6.out).mono ?_
                  rintro e w7 ⟨rfl, hb7⟩
                  have B7 : Hid (Below wo.heap.size wo w7) := B6.out.trans (hb7.mono B6.out.size)
                  have BW7 : Hid (Below WA.heap.size WA w7) := BW6.out.trans (hb7.mono BW6.out.size)
                  clear hb7 GT e0 e1 e2 e3 e4 e5 e6 e7
                  cases gm with
                  | true =>
                    clear KD
                    cases kb with
                    | true =>
                      go_wp2
                      go_roundw
                      case rel => exact ⟨i + 1, g + 1, wl ++ [48], by omega, by go_num, by rw [CT48.out], by go_num, by omega, by rw [(HTE.out 48), decide_eq_false (show ¬ (48 : UInt8) = 49 by decide), Bool.and_false], HLE.out.1, BT.out 48 (.inl rfl), HKN.out 48 (fun h => by rw [HFB.out, Bool.true_or, Bool.or_true] at h; cases h), (B7.out.alloc (Nat.le_trans B7.out.size (Nat.le_refl _)) _)⟩
                      case measure => simp [intOf]; omega
                    | false =>
                      go_wp2
                      go_roundw
                      case rel => exact ⟨i + 1, g + 1, wl ++ [49], by omega, by go_num, by rw [CT49.out], by go_num, by omega, by rw [(HTE.out 49), decide_eq_true (rfl : (49 : UInt8) = 49), Bool.and_true], HLE.out.2, BT.out 49 (.inr rfl), HKN.out 49 (fun _ => rfl), (B7.out.alloc (Nat.le_trans B7.out.size (Nat.le_refl _)) _)⟩
                      case measure => simp [intOf]; omega
                  | false =>
                    obtain ⟨e0, e1, e2, e3, e4, e5, e6, e7⟩ := cells8 (GW.out _ BW7.out)
                    go_wp2_with fail
                    refine (KD.out _ BW7.out).mono ?_
                    rintro e w8 ⟨rfl, hb8⟩
                    have B8 : Hid (Below wo.heap.size wo w8) := B7.out.trans (hb8.mono B7.out.size)
                    clear hb8 KD e0 e1 e2 e3 e4 e5 e6 e7
                    cases ke with
                    | true =>
                      skip
                      cases kb with
                      | true =>
                        go_wp2
                        go_roundw
                        case rel => exact ⟨i + 1, g + 1, wl ++ [48], by omega, by go_num, by rw [CT48.out], by go_num, by omega, by rw [(HTE.out 48), decide_eq_false (show ¬ (48 : UInt8) = 49 by decide), Bool.and_false], HLE.out.1, BT.out 48 (.inl rfl), HKN.out 48 (fun h => by rw [HFB.out, Bool.or_true, Bool.or_true] at h; cases h), (B8.out.alloc (Nat.le_trans B8.out.size (Nat.le_refl _)) _)⟩
                        case measure => simp [intOf]; omega
                      | false =>
                        go_wp2
                        go_roundw
                        case rel => exact ⟨i + 1, g + 1, wl ++ [49], by omega, by go_num, by rw [CT49.out], by go_num, by omega, by rw [(HTE.out 49), decide_eq_true (rfl : (49 : UInt8) = 49), Bool.and_true], HLE.out.2, BT.out 49 (.inr rfl), HKN.out 49 (fun _ => rfl), (B8.out.alloc (Nat.le_trans B8.out.size (Nat.le_refl _)) _)⟩
                        case measure => simp [intOf]; omega
                    | false =>
                      go_wp2
                      go_roundw
                      case rel => exact ⟨i + 1, g, wl ++ [49], by omega, by go_num, by rw [CT49.out], by go_num, by omega, by rw [(HTE.out 49), decide_eq_true (rfl : (49 : UInt8) = 49), Bool.and_true], HLE.out.2, BT.out 49 (.inr rfl), HKN.out 49 (fun _ => rfl), (B8.out.alloc (Nat.le_trans B8.out.size (Nat.le_refl _)) _)⟩
                      case measure => simp [intOf]; omega
            · obtain rfl : i = vv.size := by omega
              have HTF : Hid (decide (wl = vv.data.toList.take vv.size) = decide (wl = vv.data.toList)) := by
                unfold Hid
                rw [List.take_of_length_le (by omega)]
              rw [HTF.out]
              obtain ⟨ws, hws⟩ : ∃ y, (⟨wl.toArray⟩ : ByteArray) = y := ⟨_, rfl⟩
              have hwd : ws.data.toList = wl := by rw [← hws]
              have hwz : ws.size = vv.size := by rw [← hws, sv_size, HWL.out]
              have HEQ : Hid (K.all (fun z => oneM ws z.l) = decide (wl = vv.data.toList)) := by
                unfold Hid
                have h1 := HGI.out ws hwz (by rw [hwd]; exact HBT.out) (fun n hn hfl => by rw [hwd]; exact HKP.out n (by omega) hfl)
                rw [hwd] at h1
                exact h1
              rw [hws]
              have hwz2 : ws.size ≤ 9223372036854775807 := by omega
              generalize decide (wl = vv.data.toList) = same at *
              have HK6 := Lib.hid ((HK.out.below (B5.out.trans (B6.out.mono B5.out.size))).more (B5.out.trans (B6.out.mono B5.out.size)).size)
              clear hws hwd HTF HGI HKP HBT HWL
              obtain ⟨w6, rfl⟩ : ∃ y, y = wr := ⟨_, rfl⟩
              go_wp2
              go_loopw [20, 19] (fun i v wr => ∃ k : Nat, k ≤ K.length ∧ i = .int .i64 k ∧ v = .bool ((K.take k).all (fun z => oneM ws z.l)) ∧ Below w6.heap.size w6 wr) (fun i _ _ => K.length - (intOf i).toNat)
              case atStart => exact ⟨0, Nat.zero_le _, rfl, rfl, Below.refl _ _⟩
              case round =>
                obtain ⟨m, hm, rfl, rfl, hb7⟩ := hrel
                have B7 := Lib.hid hb7
                clear hb7
                by_cases hlm2 : m < K.length
                · obtain ⟨b, o, hAB, -, hc⟩ := ((HK6.out.below B7.out).more B7.out.size).at hlm2
                  have HZ := Lib.hid (clz_lies (((HK6.out.below B7.out).more B7.out.size).each _ (List.getElem_mem hlm2)))
                  have HT := Lib.hid (all_take K (fun z => oneM ws z.l) m hlm2)
                  have ON := Lib.hid (one_any ws K[m].l K[m].A K[m].q wr hwz2 HZ.out)
                  have m0 : (0 : Int) ≤ (m : Int) := by omega
                  have m1 : (m : Int) < (K.length : Int) := by omega
                  subst hAB
                  generalize K[m] = z at *
                  generalize oneM ws z.l = oz at *
                  generalize (K.take m).all (fun z => oneM ws z.l) = al at *
                  cases al with
                  | true =>
                    go_wp2_with fail
                    refine ON.out.mono ?_
                    rintro e w' ⟨rfl, rfl⟩
                    go_wp2
                    go_roundw
                    case rel => exact ⟨m + 1, by omega, by go_num, by rw [HT.out, Bool.true_and], B7.out⟩
                    case measure => simp [intOf]; omega
                  | false =>
                    go_wp2
                    go_roundw
                    case rel => exact ⟨m + 1, by omega, by go_num, by rw [HT.out, Bool.false_and], B7.out⟩
                    case measure => simp [intOf]; omega
                · obtain rfl : m = K.length := by omega
                  rw [List.take_length, HEQ.out]
                  have BE : Hid (Below w.heap.size w wr) := BF.out.trans ((B5.out.trans ((B6.out.trans (B7.out.mono B6.out.size)).mono B5.out.size)).mono BF.out.size)
                  go_wp2
                  go_ret
                  exact ⟨by simp, BE.out⟩
end Go.Proofs.Ytjlnffkieocihaa.Tse
