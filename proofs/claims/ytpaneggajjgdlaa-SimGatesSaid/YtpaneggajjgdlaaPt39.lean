/- What values are, and-gate by and-gate; no program is named here, no condition. SimGates; no condition. -/
import Derived.Test.YtpaneggajjgdlaaPt32
import Derived.Test.YtpaneggajjgdlaaPt21
import Derived.Test.YtpaneggajjgdlaaPt37
namespace Go.Proofs.Ytpaneggajjgdlaa.Sim
open Circ Cw Str

/-- the bit of variable n -/
def bitV (v : List UInt8) (n : Int) : Bool := decide (v[n.toNat]? = some 49)
theorem true_bit (v : List UInt8) {l : Int} (h : 0 ≤ l) : trueM v l = bitM (bitV v) l := by
  unfold trueM bitM bitV
  rw [cnt_pos l h]
theorem eval_other (n : Int) : ∀ (l : List Tri) (V : Int → Bool), (∀ u ∈ l, u.a / 2 ≠ n) → evalM V l n = V n
  | [], _, _ => rfl
  | t :: l, V, h => by
    have e : evalM V (t :: l) n = evalM (setM V (t.a / 2) (bitM V t.b && bitM V t.c)) l n := rfl
    rw [e, eval_other n l _ fun u hu => h u (List.mem_cons_of_mem _ hu)]
    unfold setM
    rw [if_neg fun e => h t List.mem_cons_self e.symm]
theorem bitV_put (v : List UInt8) {l n : Int} (hl : 0 ≤ l) (hn : 0 ≤ n) (hlt : l / 2 < (v.length : Int)) (x : UInt8) : bitV (putV v l x) n = if n = l / 2 then decide (some x = some (49 : UInt8)) else bitV v n := by
  unfold bitV putV
  rw [List.getElem?_set]
  by_cases h : n = l / 2
  · rw [if_pos h, if_pos (by omega), if_pos (by omega)]
  · rw [if_neg h, if_neg (by omega)]
theorem gates_eval {B : Int → Prop} {l : List Tri} (hg : Str.Good B l) (v0 : List UInt8) (hlen : ∀ t ∈ l, t.a / 2 < (v0.length : Int)) (h0 : ∀ t ∈ l, bitV v0 (t.a / 2) = false) : ∀ n, 0 ≤ n → bitV (gatesV v0 l) n = evalM (bitV v0) l n := by
  induction hg with
  | nil => intro n _; rfl
  | snoc l t h1 h2 h3 h4 h5 h6 h7 h8 h9 h10 h11 ih =>
    intro n hn
    have ih := ih (fun u hu => hlen u (List.mem_append_left _ hu)) (fun u hu => h0 u (List.mem_append_left _ hu))
    have ht := hlen t (List.mem_append_right _ (List.mem_singleton.2 rfl))
    have ht0 := h0 t (List.mem_append_right _ (List.mem_singleton.2 rfl))
    have e : gatesV v0 (l ++ [t]) = gateV (gatesV v0 l) t := by unfold gatesV; rw [List.foldl_append]; rfl
    rw [e, eval_snoc]
    have hlv : (gatesV v0 l).length = v0.length := gatesV_len _ _
    have eb : trueM (gatesV v0 l) t.b = bitM (evalM (bitV v0) l) t.b := by
      rw [true_bit _ h5]; unfold bitM; rw [ih _ (by omega)]
    have ec : trueM (gatesV v0 l) t.c = bitM (evalM (bitV v0) l) t.c := by
      rw [true_bit _ h7]; unfold bitM; rw [ih _ (by omega)]
    unfold gateV
    rw [eb, ec]
    cases hq : (bitM (evalM (bitV v0) l) t.b && bitM (evalM (bitV v0) l) t.c) with
    | true =>
      rw [if_pos rfl, bitV_put _ (by omega) hn (by rw [hlv]; exact ht)]
      unfold setM
      by_cases h : n = t.a / 2
      · rw [if_pos h, if_pos h]; rfl
      · rw [if_neg h, if_neg h, ih n hn]
    | false =>
      rw [if_neg (by decide), ih n hn]
      unfold setM
      by_cases h : n = t.a / 2
      · rw [if_pos h, h, eval_other _ _ _ fun u hu => ?_, ht0]
        have := h4 u hu
        have := (h1.mem u hu).2.1
        omega
      · rw [if_neg h]
theorem puts_other (n : Int) (hn : 0 ≤ n) (L : List Int) (s : ByteArray) (v : List UInt8) (hL : ∀ x ∈ L, 0 ≤ x ∧ x / 2 < (v.length : Int)) (ho : ∀ x ∈ L, x / 2 ≠ n) : ∀ k, k ≤ L.length → bitV (putsV v L s k) n = bitV v n
  | 0, _ => rfl
  | k + 1, hk => by
    have hm : L.getD k 0 ∈ L := by rw [List.getD_eq_getElem?_getD, List.getElem?_eq_getElem hk]; exact List.getElem_mem hk
    unfold putsV
    rw [bitV_put _ (hL _ hm).1 hn (by rw [putsV_len]; exact (hL _ hm).2), if_neg (fun e => ho _ hm e.symm), puts_other n hn L s v hL ho k (by omega)]
theorem zero_bit (c : Cir) (n : Int) : bitV (zeroV c) n = false := by
  unfold bitV zeroV
  rw [List.getElem?_replicate]
  split <;> rfl
section
variable {c : Cir} (st inp : ByteArray)
theorem max_len (hr : refOk c = true) : ((zeroV c).length : Int) = c.max + 1 := by
  obtain ⟨m, hm, _⟩ := max_nat hr
  unfold zeroV
  rw [List.length_replicate, hm]; simp
theorem own_in (hr : refOk c = true) {x : Int} (hx : x ∈ own c) : 2 ≤ x ∧ x % 2 = 0 ∧ x / 2 < ((zeroV c).length : Int) := by
  have := (own_facts hr).2 x hx
  rw [max_len hr]; omega
/-- what is no input's, and no latch's, is 0 to begin with -/
theorem base_bit (hr : refOk c = true) (n : Int) (hn : 0 ≤ n) (h1 : ∀ x ∈ c.ins, x / 2 ≠ n) (h2 : ∀ x ∈ c.lats.map Tri.a, x / 2 ≠ n) : bitV (baseB c st inp) n = false := by
  have hi : ∀ x ∈ c.ins, 0 ≤ x ∧ x / 2 < ((zeroV c).length : Int) := fun x hx => by
    have := own_in hr (show x ∈ own c from List.mem_append.2 (.inl hx)); omega
  have hl : ∀ x ∈ c.lats.map Tri.a, 0 ≤ x ∧ x / 2 < ((zeroV c).length : Int) := fun x hx => by
    have := own_in hr (show x ∈ own c from List.mem_append.2 (.inr (List.mem_append.2 (.inl hx)))); omega
  unfold baseB
  rw [puts_other n hn _ _ _ (by rw [putsV_len]; exact hl) h2 _ (by simp), puts_other n hn _ _ _ hi h1 _ (Nat.le_refl _), zero_bit]
theorem vals_eval (hr : refOk c = true) : ∀ n, 0 ≤ n → bitV (valsM c st inp) n = evalM (bitV (baseB c st inp)) c.ands n := by
  have hbl : ((baseB c st inp).length : Int) = ((zeroV c).length : Int) := by unfold baseB; rw [putsV_len, putsV_len]
  refine gates_eval (good_ands hr) _ (fun t ht => ?_) (fun t ht => ?_)
  · rw [hbl]
    exact (own_in hr (List.mem_append.2 (.inr (List.mem_append.2 (.inr (List.mem_map_of_mem ht)))))).2.2
  · have hm : t.a ∈ c.ands.map Tri.a := List.mem_map_of_mem ht
    obtain ⟨a1, a2, _⟩ := own_in hr (List.mem_append.2 (.inr (List.mem_append.2 (.inr hm))))
    have hnd := (own_facts hr).1
    unfold own at hnd
    rw [List.nodup_append] at hnd
    obtain ⟨-, hn2, hn3⟩ := hnd
    rw [List.nodup_append] at hn2
    refine base_bit st inp hr _ (by omega) (fun x hx e => ?_) (fun x hx e => ?_)
    · obtain ⟨b1, b2, _⟩ := own_in hr (show x ∈ own c from List.mem_append.2 (.inl hx))
      exact hn3 x hx t.a (List.mem_append.2 (.inr hm)) (by omega)
    · obtain ⟨b1, b2, _⟩ := own_in hr (show x ∈ own c from List.mem_append.2 (.inr (List.mem_append.2 (.inl hx))))
      exact hn2.2.2 x hx t.a hm (by omega)
/-- EACH AND IS THE AND OF ITS LITERALS -/
theorem vals_and (hr : refOk c = true) {t : Tri} (ht : t ∈ c.ands) : trueM (valsM c st inp) t.a = (trueM (valsM c st inp) t.b && trueM (valsM c st inp) t.c) := by
  obtain ⟨a1, a2, a3, a4, a5, a6, -⟩ := (good_ands hr).mem t ht
  have h := eval_and (bitV (baseB c st inp)) (good_ands hr) t ht
  have e : ∀ x : Int, 0 ≤ x → trueM (valsM c st inp) x = bitM (evalM (bitV (baseB c st inp)) c.ands) x := fun x hx => by
    rw [true_bit _ hx]; unfold bitM; rw [vals_eval st inp hr _ (by omega)]
  rw [e _ (by omega), e _ (by omega), e _ (by omega), ← h]
  unfold bitM
  rw [show decide (t.a % 2 = 1) = false from decide_eq_false (by omega)]
  simp
theorem vals_zero (hr : refOk c = true) : trueM (valsM c st inp) 0 = false := by
  rw [true_bit _ (by omega)]
  unfold bitM
  rw [show (0 : Int) / 2 = 0 from rfl, vals_eval st inp hr _ (by omega), eval_low _ (good_ands hr) (.inl rfl), base_bit st inp hr _ (by omega) (fun x hx => ?_) (fun x hx => ?_)]
  · rfl
  · have := own_in hr (show x ∈ own c from List.mem_append.2 (.inl hx)); omega
  · have := own_in hr (show x ∈ own c from List.mem_append.2 (.inr (List.mem_append.2 (.inl hx)))); omega
end
theorem true_opp (v : List UInt8) {l : Int} (h : 0 ≤ l) : trueM v (opp l) = !trueM v l := by
  have h2 : 0 ≤ opp l := by unfold opp; split <;> omega
  rw [true_bit _ h, true_bit _ h2, bit_opp _ h]
end Go.Proofs.Ytpaneggajjgdlaa.Sim
namespace Go.Proofs.Ytpaneggajjgdlaa.Sim
open Go.ChangeShapes Go.WideShapes Go.ChangeAt Go.RowKit Go.Maps Circ Cw
open Str

set_option maxHeartbeats 16000000 in
set_option maxRecDepth 100000 in
theorem gates_walk (c : Cir) (s : Places) (st inp : ByteArray) (l : Int) (w : World) (h : CLies w w.heap.size c s) (hf : CFits c s) (hl : I64 l) :
    Calls Try.prog 7 #[cirV c s, .string st, .string inp, .int .i64 l] w fun e w' => e = .returned (.bool true) ∧ Below w.heap.size w w' := by
  obtain ⟨WA, hWA⟩ : ∃ x, w.alloc (.cells #[.int .i64 c.max, .slice s.ai c.ins.length s.ki, .slice s.al c.lats.length s.kl, .slice s.ao c.outs.length s.ko, .slice s.ab c.bads.length s.kb, .slice s.ac c.invs.length s.kc, .slice s.aa c.ands.length s.ka, .slice s.an c.names.length s.kn] 27) = x := ⟨_, rfl⟩
  have bA : Hid (Below w.heap.size w WA) := by unfold Hid; rw [← hWA]; exact (Below.refl _ _).alloc (Nat.le_refl _) _
  have GA : Hid (WA.heap[w.heap.size]? = some (.cells (cirC c s) 27 (0, 0))) := by unfold Hid; rw [← hWA]; exact Array.getElem?_push_size
  obtain ⟨e0, e1, e2, e3, e4, e5, e6, e7⟩ := cells8 GA.out
  have LW : Hid (∀ x, Below w.heap.size w x → CLies x x.heap.size c s) := fun x hx => (h.below hx).more hx.size
  have HF := Lib.hid hf
  have VA := Lib.hid (fun x hx => values_any c s st inp x (LW.out x hx) hf)
  have HX := Lib.hid (err_range c st inp)
  have HL := Lib.hid hl
  clear h hf hl
  unfold cirV at VA ⊢
  rw [show cirC c s = #[.int .i64 c.max, .slice s.ai c.ins.length s.ki, .slice s.al c.lats.length s.kl, .slice s.ao c.outs.length s.ko, .slice s.ab c.bads.length s.kb, .slice s.ac c.invs.length s.kc, .slice s.aa c.ands.length s.ka, .slice s.an c.names.length s.kn] from rfl] at VA ⊢
  by_cases hv : vErr c st inp = 0
  · have HE := Lib.hid hv
    have HS := Lib.hid (str_ok hv)
    have HR := Lib.hid (err_is hv).1
    rw [hv, HS.out] at VA
    have HAND := Lib.hid (fun t ht => vals_and (c := c) st inp HR.out (t := t) ht)
    have HZE := Lib.hid (vals_zero (c := c) st inp HR.out)
    have HLEN := Lib.hid (vals_len c st inp)
    have HZ := Lib.hid (ref_sizes HR.out)
    obtain ⟨m, hm, hm1⟩ := max_nat HR.out
    have HM := Lib.hid hm
    rw [hm, Int.toNat_natCast] at HLEN
    clear hv hm
    generalize valsM c st inp = v at *
    have hsz : (⟨v.toArray⟩ : ByteArray).size = m + 1 := by rw [sv_size]; exact HLEN.out
    have HT := Lib.hid (fun x (hx : x ≤ 9223372036854775807) w => true_any ⟨v.toArray⟩ x w (by rw [hsz]; omega) hx)
    rw [show (⟨v.toArray⟩ : ByteArray).data.toList = v from rfl] at HT
    unfold sv at VA
    generalize (⟨v.toArray⟩ : ByteArray) = sx at *
    have HSX := Lib.hid hsz
    go_enter Try.func7, Try.ntmps7
    go_wp2_with fail
    refine (alive_any WA).mono ?_
    rintro e w1 ⟨rfl, hb⟩
    have B1 : Hid (Below w.heap.size w w1) := bA.out.trans (hb.mono bA.out.size)
    have G1 : Hid (w1.heap[w.heap.size]? = some (.cells (cirC c s) 27 (0, 0))) := (hb.block _ (lt_of_block GA.out)).trans GA.out
    clear e0 e1 e2 e3 e4 e5 e6 e7 hb
    obtain ⟨e0, e1, e2, e3, e4, e5, e6, e7⟩ := cells8 G1.out
    go_wp2_with fail
    refine (VA.out w1 B1.out).mono ?_
    rintro e w2 ⟨rfl, hb⟩
    have B2 : Hid (Below w.heap.size w w2) := B1.out.trans (hb.mono B1.out.size)
    have G2 : Hid (w2.heap[w.heap.size]? = some (.cells (cirC c s) 27 (0, 0))) := (hb.block _ (lt_of_block G1.out)).trans G1.out
    clear e0 e1 e2 e3 e4 e5 e6 e7 hb
    obtain ⟨e0, e1, e2, e3, e4, e5, e6, e7⟩ := cells8 G2.out
    clear hWA VA
    go_wp2_with (go_at_call 22; refine (num_any _ _).mono ?_; rintro e w' ⟨rfl, rfl⟩)
    clear e0 e1 e2 e3 e4 e5 e6 e7
    have G9 : Hid (∀ x, Below w2.heap.size w2 x → x.heap[w.heap.size]? = some (.cells (cirC c s) 27 (0, 0))) := fun x hx => (hx.block _ (lt_of_block G2.out)).trans G2.out
    go_loopw [11] (fun i wr => ∃ j : Nat, j ≤ c.ands.length ∧ i = .int .i64 j ∧ Below w2.heap.size w2 wr) (fun i _ => c.ands.length - (intOf i).toNat)
    case atStart => exact ⟨0, Nat.zero_le _, rfl, Below.refl _ _⟩
    case round =>
      obtain ⟨j, hj, rfl, hbw⟩ := hrel
      have HB := Lib.hid hbw
      clear hbw
      have za : c.ands.length ≤ 4097 := HZ.out.2.2.2.2.2
      obtain ⟨e0, e1, e2, e3, e4, e5, e6, e7⟩ := cells8 (G9.out _ HB.out)
      by_cases hlt : j < c.ands.length
      · obtain ⟨b0, o, hA, -, c0, c1, c2⟩ := LRow.tri (LW.out wr (B2.out.trans (HB.out.mono B2.out.size))).ands hlt
        rw [hA] at e6
        have HA := Lib.hid (HAND.out _ (List.getElem_mem hlt))
        have HFT := Lib.hid (HF.out.ands _ (List.getElem_mem hlt))
        clear hA
        generalize c.ands[j] = t at *
        obtain ⟨wt, hwt⟩ : ∃ x, wr.alloc (.cells #[.int .i64 t.a, .int .i64 t.b, .int .i64 t.c] 43) = x := ⟨_, rfl⟩
        have bt : Below wr.heap.size wr wt := by rw [← hwt]; exact (Below.refl _ _).alloc (Nat.le_refl _) _
        have KT : Hid (wt.heap[wr.heap.size]? = some (.cells #[.int .i64 t.a, .int .i64 t.b, .int .i64 t.c] 43 (0, 0))) := by unfold Hid; rw [← hwt]; exact Array.getElem?_push_size
        have BT : Hid (Below w2.heap.size w2 wt) := HB.out.trans (bt.mono HB.out.size)
        have K1 := Lib.hid (fun (u : Wd wt.heap.size wt) => Calls.in_wd u (HT.out t.a HFT.out.1.2 u.w) (Nat.le_refl _))
        have K2 := Lib.hid (fun (u : Wd wt.heap.size wt) => Calls.in_wd u (HT.out t.b HFT.out.2.1.2 u.w) (Nat.le_refl _))
        have K3 := Lib.hid (fun (u : Wd wt.heap.size wt) => Calls.in_wd u (HT.out t.c HFT.out.2.2.2 u.w) (Nat.le_refl _))
        rw [HA.out] at K1
        generalize trueM v t.b = p1 at *
        generalize trueM v t.c = p2 at *
        clear HA HFT bt
        obtain ⟨r0, r1, r2⟩ := two_cells KT.out
        have u0 := Wd.cell r0
        have u1 := Wd.cell r1
        have u2 := Wd.cell r2
        cases p1
        · cases p2
          · rw [show (false && false) = false from rfl] at K1
            go_wp2
            clear hwt c0 c1 c2 e0 e1 e2 e3 e4 e5 e6 e7
            refine wp_region_wd (by kernel_rfl) (by kernel_rfl) ?_
            repeat (first | go_big_quiet_skip | (go_big_quiet_want; go_big_quiet_op; first | go_big_quiet_on | (apply Exists.intro; refine ⟨fun u => ?_, ?_⟩; (go_at_call 25; first | with_reducible exact K1.out u | with_reducible exact K2.out u | with_reducible exact K3.out u); go_big_quiet_on)))
            refine wpQuiet_nil ?_
            intro wz9 hw'
            obtain ⟨⟨_, hb9⟩, hw''⟩ := hw'
            subst hw''
            have BZ : Hid (Below w2.heap.size w2 wz9) := BT.out.trans (hb9.mono BT.out.size)
            clear K1 K2 K3 hb9 u0 u1 u2 r0 r1 r2
            go_wp2
            go_roundw
            case rel => exact ⟨j + 1, by omega, by go_num, BZ.out⟩
            case measure => simp [intOf]; omega
          · rw [show (false && true) = false from rfl] at K1
            go_wp2
            clear hwt c0 c1 c2 e0 e1 e2 e3 e4 e5 e6 e7
            refine wp_region_wd (by kernel_rfl) (by kernel_rfl) ?_
            repeat (first | go_big_quiet_skip | (go_big_quiet_want; go_big_quiet_op; first | go_big_quiet_on | (apply Exists.intro; refine ⟨fun u => ?_, ?_⟩; (go_at_call 25; first | with_reducible exact K1.out u | with_reducible exact K2.out u | with_reducible exact K3.out u); go_big_quiet_on)))
            refine wpQuiet_nil ?_
            intro wz9 hw'
            obtain ⟨⟨_, hb9⟩, hw''⟩ := hw'
            subst hw''
            have BZ : Hid (Below w2.heap.size w2 wz9) := BT.out.trans (hb9.mono BT.out.size)
            clear K1 K2 K3 hb9 u0 u1 u2 r0 r1 r2
            go_wp2
            go_roundw
            case rel => exact ⟨j + 1, by omega, by go_num, BZ.out⟩
            case measure => simp [intOf]; omega
        · cases p2
          · rw [show (true && false) = false from rfl] at K1
            go_wp2
            clear hwt c0 c1 c2 e0 e1 e2 e3 e4 e5 e6 e7
            refine wp_region_wd (by kernel_rfl) (by kernel_rfl) ?_
            repeat (first | go_big_quiet_skip | (go_big_quiet_want; go_big_quiet_op; first | go_big_quiet_on | (apply Exists.intro; refine ⟨fun u => ?_, ?_⟩; (go_at_call 25; first | with_reducible exact K1.out u | with_reducible exact K2.out u | with_reducible exact K3.out u); go_big_quiet_on)))
            refine wpQuiet_nil ?_
            intro wz9 hw'
            obtain ⟨⟨_, hb9⟩, hw''⟩ := hw'
            subst hw''
            have BZ : Hid (Below w2.heap.size w2 wz9) := BT.out.trans (hb9.mono BT.out.size)
            clear K1 K2 K3 hb9 u0 u1 u2 r0 r1 r2
            go_wp2
            go_roundw
            case rel => exact ⟨j + 1, by omega, by go_num, BZ.out⟩
            case measure => simp [intOf]; omega
          · rw [show (true && true) = true from rfl] at K1
            go_wp2
            clear hwt c0 c1 c2 e0 e1 e2 e3 e4 e5 e6 e7
            refine wp_region_wd (by kernel_rfl) (by kernel_rfl) ?_
            repeat (first | go_big_quiet_skip | (go_big_quiet_want; go_big_quiet_op; first | go_big_quiet_on | (apply Exists.intro; refine ⟨fun u => ?_, ?_⟩; (go_at_call 25; first | with_reducible exact K1.out u | with_reducible exact K2.out u | with_reducible exact K3.out u); go_big_quiet_on)))
            refine wpQuiet_nil ?_
            intro wz9 hw'
            obtain ⟨⟨_, hb9⟩, hw''⟩ := hw'
            subst hw''
            have BZ : Hid (Below w2.heap.size w2 wz9) := BT.out.trans (hb9.mono BT.out.size)
            clear K1 K2 K3 hb9 u0 u1 u2 r0 r1 r2
            go_wp2
            go_roundw
            case rel => exact ⟨j + 1, by omega, by go_num, BZ.out⟩
            case measure => simp [intOf]; omega
      · obtain rfl : j = c.ands.length := by omega
        obtain ⟨wo, rfl⟩ : ∃ x, x = wr := ⟨_, rfl⟩
        have BO : Hid (Below w.heap.size w wo) := B2.out.trans (HB.out.mono B2.out.size)
        obtain ⟨x, hx⟩ : ∃ x, x = if l < 0 then 0 else l := ⟨_, rfl⟩
        have hx0 : 0 ≤ x ∧ x ≤ 9223372036854775807 := by have := HL.out; unfold I64 at this; rw [hx]; split <;> omega
        have hxo : bits .xor .i64 x 1 = opp x := xor_one x hx0.1 hx0.2
        have HO1 : opp x ≤ 9223372036854775807 := by unfold opp; split <;> omega
        have Z0 := Lib.hid (HT.out 0 (by decide))
        rw [HZE.out] at Z0
        have Z1 := Lib.hid (HT.out x hx0.2)
        have Z2 := Lib.hid (HT.out (opp x) HO1)
        rw [true_opp v hx0.1] at Z2
        generalize trueM v x = y at *
        rw [HM.out] at e0
        have hm2 : (((m + 1 : Nat)) : Int) = (m : Int) + 1 := by omega
        by_cases hl : l < 0
        · rw [if_pos hl] at hx
          subst hx
          go_wp2_with fail
          refine (Z0.out wo).mono ?_
          rintro e w4 ⟨rfl, hb⟩
          have B4 : Hid (Below w.heap.size w w4) := BO.out.trans (hb.mono BO.out.size)
          have HB4 : Hid (Below w2.heap.size w2 w4) := HB.out.trans (hb.mono HB.out.size)
          clear e0 e1 e2 e3 e4 e5 e6 e7 hb
          go_wp2_with fail
          refine (Z1.out w4).mono ?_
          rintro e w5 ⟨rfl, hb⟩
          have B5 : Hid (Below w.heap.size w w5) := B4.out.trans (hb.mono B4.out.size)
          have HB5 : Hid (Below w2.heap.size w2 w5) := HB4.out.trans (hb.mono HB4.out.size)
          clear hb
          go_wp2_with fail
          refine (Z2.out w5).mono ?_
          rintro e w6 ⟨rfl, hb⟩
          have B6 : Hid (Below w.heap.size w w6) := B5.out.trans (hb.mono B5.out.size)
          have HB6 : Hid (Below w2.heap.size w2 w6) := HB5.out.trans (hb.mono HB5.out.size)
          clear hb
          obtain ⟨e0, e1, e2, e3, e4, e5, e6, e7⟩ := cells8 (G9.out _ HB6.out)
          rw [HM.out] at e0
          cases y <;>
          · simp only [Bool.not_true, Bool.not_false]
            go_wp2
            go_ret
            exact ⟨rfl, B6.out⟩
        · rw [if_neg hl] at hx
          subst hx
          go_wp2_with fail
          refine (Z0.out wo).mono ?_
          rintro e w4 ⟨rfl, hb⟩
          have B4 : Hid (Below w.heap.size w w4) := BO.out.trans (hb.mono BO.out.size)
          have HB4 : Hid (Below w2.heap.size w2 w4) := HB.out.trans (hb.mono HB.out.size)
          clear e0 e1 e2 e3 e4 e5 e6 e7 hb
          go_wp2_with fail
          refine (Z1.out w4).mono ?_
          rintro e w5 ⟨rfl, hb⟩
          have B5 : Hid (Below w.heap.size w w5) := B4.out.trans (hb.mono B4.out.size)
          have HB5 : Hid (Below w2.heap.size w2 w5) := HB4.out.trans (hb.mono HB4.out.size)
          clear hb
          go_wp2_with fail
          refine (Z2.out w5).mono ?_
          rintro e w6 ⟨rfl, hb⟩
          have B6 : Hid (Below w.heap.size w w6) := B5.out.trans (hb.mono B5.out.size)
          have HB6 : Hid (Below w2.heap.size w2 w6) := HB5.out.trans (hb.mono HB5.out.size)
          clear hb
          obtain ⟨e0, e1, e2, e3, e4, e5, e6, e7⟩ := cells8 (G9.out _ HB6.out)
          rw [HM.out] at e0
          cases y <;>
          · simp only [Bool.not_true, Bool.not_false]
            go_wp2
            go_ret
            exact ⟨rfl, B6.out⟩
  · have HS := Lib.hid (str_bad hv)
    rw [HS.out] at VA
    have hz : (vErr c st inp == 0) = false := beq_eq_false_iff_ne.2 hv
    have hz2 : (vErr c st inp != 0) = true := bne_iff_ne.2 hv
    have hxr := HX.out
    generalize vErr c st inp = x at *
    unfold sv at VA
    go_enter Try.func7, Try.ntmps7
    go_wp2_with fail
    refine (alive_any WA).mono ?_
    rintro e w1 ⟨rfl, hb⟩
    have B1 : Hid (Below w.heap.size w w1) := bA.out.trans (hb.mono bA.out.size)
    have G1 : Hid (w1.heap[w.heap.size]? = some (.cells (cirC c s) 27 (0, 0))) := (hb.block _ (lt_of_block GA.out)).trans GA.out
    clear e0 e1 e2 e3 e4 e5 e6 e7 hb
    obtain ⟨e0, e1, e2, e3, e4, e5, e6, e7⟩ := cells8 G1.out
    go_wp2_with fail
    refine (VA.out w1 B1.out).mono ?_
    rintro e w2 ⟨rfl, hb⟩
    have B2 : Hid (Below w.heap.size w w2) := B1.out.trans (hb.mono B1.out.size)
    have G2 : Hid (w2.heap[w.heap.size]? = some (.cells (cirC c s) 27 (0, 0))) := (hb.block _ (lt_of_block G1.out)).trans G1.out
    clear e0 e1 e2 e3 e4 e5 e6 e7 hb
    obtain ⟨e0, e1, e2, e3, e4, e5, e6, e7⟩ := cells8 G2.out
    clear hWA VA
    go_wp2_with (go_at_call 22; refine (num_any _ _).mono ?_; rintro e w' ⟨rfl, rfl⟩)
    go_ret
    exact ⟨rfl, B2.out⟩
set_option maxRecDepth 100000 in
theorem gates_core {H : Type} {enc : TypeId × Value → H} (W : World) (v : Value) (d : DataW H) (p : List MemPlace) {r : Reach} {b0 : Nat} (hv : Value.okWide Try.prog W r b0 27 v) (h : DataW.Trod enc Try.prog W 0 (fun _ => true) true 27 v d p)
    (st : ByteArray) (_hst : st.size ≤ maxLen) (inp : ByteArray) (_hinp : inp.size ≤ maxLen) (l : Int) (l0 : -9223372036854775808 ≤ l) (l1 : l ≤ 9223372036854775807)
    {ts : List TypeId} {ds : List (DataW H)} (hsz : (DataW.weightsEach Try.prog (27 :: ts) (d :: ds)).all (· ≤ reachBytes) = true) :
    Calls Try.prog 7 #[v, .string st, .string inp, .int .i64 l] W fun e W' => e = .returned (.bool true) ∧ Below W.heap.size W W' := by
  obtain ⟨c, s, rfl, hl, hf⟩ := open_circ hv h (all_weights hsz 0 rfl rfl)
  exact gates_walk c s st inp l W hl hf ⟨l0, l1⟩
end Go.Proofs.Ytpaneggajjgdlaa.Sim
