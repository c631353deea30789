/- interlockref10.Units; condition: the lists lie in memory. -/
import Derived.Test.YtefbknpoehmfaaaPt10
namespace Go.Proofs.Ytefbknpoehmfaaa.For
open Go.ChangeShapes Go.WideShapes Go.ChangeAt Go.RowKit Go.Maps Circ Cw Cla Rep

theorem few_abs (m : Nat) : ∀ (l : List Int), l.Nodup → (∀ x ∈ l, 1 ≤ x ∧ x ≤ m) → l.length ≤ m := by
  induction m with
  | zero =>
    intro l _ h
    cases l with
    | nil => exact Nat.le_refl _
    | cons x l => have := h x List.mem_cons_self; omega
  | succ m ih =>
    intro l hn h
    have h1 : (l.filter (fun x => decide (x ≠ ((m : Int) + 1)))).length ≤ m := by
      refine ih _ (hn.filter _) (fun x hx => ?_)
      rw [List.mem_filter] at hx
      have := h x hx.1
      have h2 := of_decide_eq_true hx.2
      omega
    have h2 : ∀ (l : List Int) (y : Int), l.Nodup → l.length ≤ (l.filter (fun x => decide (x ≠ y))).length + 1 := by
      intro l y
      induction l with
      | nil => intro _; simp
      | cons x l ih =>
        intro hn
        obtain ⟨n1, n2⟩ := List.nodup_cons.1 hn
        by_cases hx : x = y
        · subst hx
          rw [List.filter_cons_of_neg (by simp), List.filter_eq_self.2 (fun a ha => decide_eq_true (show a ≠ x from fun e => n1 (by rw [← e]; exact ha)))]
          simp
        · rw [List.filter_cons_of_pos (by simpa using hx)]
          have := ih n2
          simp only [List.length_cons]; omega
    have := h2 l ((m : Int) + 1) hn
    omega
/-- what is set: literals of the variables, of each variable once at most -/
structure SetOk (vars : Int) (s : List Int) : Prop where
  lit : ∀ z ∈ s, I64 z ∧ litOk vars z = true
  one : (s.map absW).Nodup
theorem SetOk.nil (vars : Int) : SetOk vars [] := ⟨fun _ hz => (List.not_mem_nil hz).elim, List.Pairwise.nil⟩
theorem SetOk.len {vars : Int} {s : List Int} (h : SetOk vars s) (hv : 0 ≤ vars) : (s.length : Int) ≤ vars := by
  have := few_abs vars.toNat (s.map absW) h.one (fun x hx => by
    obtain ⟨z, hz, rfl⟩ := List.mem_map.1 hx
    have := (lit_iff vars z).1 (h.lit z hz).2
    omega)
  rw [List.length_map] at this
  omega
theorem abs_same {x y : Int} (hx : I64 x) (hy : I64 y) (h1 : 1 ≤ absW x) (h : absW y = absW x) : y = x ∨ y = negW x := by
  unfold I64 at hx hy
  unfold absW negW at h1 h
  unfold negW
  split at h <;> split at h <;> (try split at h) <;> (try split at h) <;> (try split at h1) <;> (try split at h1) <;> (try split) <;> omega
theorem SetOk.add {vars : Int} {s : List Int} {x : Int} (h : SetOk vars s) (hx : I64 x) (hl : litOk vars x = true) (hv : valM s x = 0) : SetOk vars (s ++ [x]) := by
  refine ⟨fun z hz => ?_, ?_⟩
  · rcases List.mem_append.1 hz with hz | hz
    · exact h.lit z hz
    · rw [List.mem_singleton.1 hz]; exact ⟨hx, hl⟩
  · rw [List.map_append, List.nodup_append]
    refine ⟨h.one, by simp, fun a ha b hb => ?_⟩
    obtain ⟨z, hz, rfl⟩ := List.mem_map.1 ha
    rw [List.map_singleton, List.mem_singleton] at hb
    subst hb
    intro e
    unfold valM at hv
    rcases abs_same hx (h.lit z hz).1 ((lit_iff vars x).1 hl).1 e with e2 | e2
    · rw [if_pos (List.contains_iff_mem.2 (e2 ▸ hz))] at hv; cases hv
    · split at hv
      · cases hv
      · rw [if_pos (List.contains_iff_mem.2 (e2 ▸ hz))] at hv; cases hv
theorem left_val (set : List Int) : ∀ (l : List Int) (f : Int) (many : Bool), (leftGo set l f many).1 ≠ 0 → (leftGo set l f many).1 = f ∨ ((leftGo set l f many).1 ∈ l ∧ valM set (leftGo set l f many).1 = 0)
  | [], f, many, h => by
    unfold leftGo at h ⊢
    cases many with
    | true => exact absurd rfl h
    | false => exact .inl rfl
  | x :: r, f, many, h => by
    unfold leftGo at h ⊢
    by_cases h1 : valM set x = 1
    · rw [if_pos h1] at h; exact absurd rfl h
    · rw [if_neg h1] at h ⊢
      by_cases h0 : valM set x = 0
      · rw [if_pos h0] at h ⊢
        rcases left_val set r x _ h with e | e
        · exact .inr ⟨by rw [e]; exact List.mem_cons_self, by rw [e]; exact h0⟩
        · exact .inr ⟨List.mem_cons_of_mem _ e.1, e.2⟩
      · rw [if_neg h0] at h ⊢
        rcases left_val set r f _ h with e | e
        · exact .inl e
        · exact .inr ⟨List.mem_cons_of_mem _ e.1, e.2⟩
theorem left_new {l set : List Int} (h : (leftM l set).1 ≠ 0) : (leftM l set).1 ∈ l ∧ valM set (leftM l set).1 = 0 := by
  rcases left_val set l 0 false h with e | e
  · exact absurd e h
  · exact e
theorem chk_lit {vars : Int} {l : List Int} (h : chk vars l = 0) : ∀ x ∈ l, litOk vars x = true := by
  unfold chk at h
  split at h
  · cases h
  · split at h
    · rename_i h2; exact List.all_eq_true.1 h2
    · cases h
theorem form_ok {vars : Int} {L : List (List Int)} (h : formM vars L = 0) : 0 ≤ vars ∧ vars ≤ 262144 ∧ L.length ≤ 1048576 ∧ ∀ l ∈ L, chk vars l = 0 := by
  unfold formM at h
  split at h
  · cases h
  · split at h
    · cases h
    · split at h
      · cases h
      · split at h
        · rename_i h1 h2 h3 h4
          exact ⟨by omega, by omega, by omega, fun l hl => eq_of_beq (List.all_eq_true.1 h4 l hl)⟩
        · cases h
set_option maxHeartbeats 16000000 in
set_option maxRecDepth 100000 in
theorem units_any (vars : Int) (L : List Clz) (A : Option Addr) (q : Nat) (l : List Int) (B : Option Addr) (r : Nat) (w : World) (hA : ALies w w.heap.size A L) (hl : ILies w w.heap.size B l) :
    Calls Try.prog 8 #[forV vars A L.length q, .slice B l.length r] w fun e w' => (∃ A' q', e = .returned (.tuple #[.slice A' (unitsM vars (L.map Clz.l) l).1.length q', .bool (unitsM vars (L.map Clz.l) l).2.1, .int .i64 (unitsM vars (L.map Clz.l) l).2.2]) ∧ ILies w' w'.heap.size A' (unitsM vars (L.map Clz.l) l).1) ∧ Below w.heap.size w w' := by
  obtain ⟨WA, hWA⟩ : ∃ x, w.alloc (.cells #[.int .i64 vars, .slice A L.length q] 24) = x := ⟨_, rfl⟩
  have bA : Hid (Below w.heap.size w WA) := by unfold Hid; rw [← hWA]; exact (Below.refl _ _).alloc (Nat.le_refl _) _
  have GA : Hid (WA.heap[w.heap.size]? = some (.cells #[.int .i64 vars, .slice A L.length q] 24 (0, 0))) := by unfold Hid; rw [← hWA]; exact Array.getElem?_push_size
  have GW : Hid (∀ x, Below WA.heap.size WA x → x.heap[w.heap.size]? = some (.cells #[.int .i64 vars, .slice A L.length q] 24 (0, 0))) := fun x hx => (hx.block _ (lt_of_block GA.out)).trans GA.out
  have AW : Hid (∀ x, Below WA.heap.size WA x → ALies x x.heap.size A L) := fun x hx => by
    have h := bA.out.trans (hx.mono bA.out.size)
    exact (hA.below h).more h.size
  have LW : Hid (∀ x, Below WA.heap.size WA x → ILies x x.heap.size B l) := fun x hx => by
    have h := bA.out.trans (hx.mono bA.out.size)
    exact (hl.below h).more h.size
  have hll := hl.len
  have HIF := Lib.hid hl.fits
  have hLL := hA.len
  clear hA hl
  obtain ⟨U, hU⟩ : ∃ y, unitsM vars (L.map Clz.l) l = y := ⟨_, rfl⟩
  rw [hU]
  have FK := Lib.hid (form_any vars L A q WA (AW.out _ (Below.refl _ _)))
  obtain ⟨e0, e1⟩ := cells2 GA.out
  by_cases hf : formM vars (L.map Clz.l) = 0
  · obtain ⟨v0, v1, -, hck⟩ := form_ok hf
    have HCK : Hid (∀ z ∈ L, ∀ x ∈ z.l, litOk vars x = true) := fun z hz => chk_lit (hck _ (List.mem_map_of_mem hz))
    unfold unitsM at hU
    rw [if_neg (by rw [hf]; decide)] at hU
    rw [hf] at FK
    have HU := Lib.hid hU
    clear hU hck hf
    unfold forV at FK ⊢
    go_enter Try.func8, Try.ntmps8
    go_wp2_with fail
    refine FK.out.mono ?_
    rintro e w1 ⟨rfl, hb1⟩
    have B1 := Lib.hid hb1
    clear hb1 FK hWA e0 e1
    go_wp2
    go_loopw [7] (fun i wr => ∃ k : Nat, k ≤ l.length ∧ i = .int .i64 k ∧ (l.take k).all (litOk vars) = true ∧ Below WA.heap.size WA wr) (fun i _ => l.length - (intOf i).toNat)
    case atStart => exact ⟨0, Nat.zero_le _, rfl, rfl, B1.out⟩
    case round =>
      obtain ⟨k, hk, rfl, ha, hb2⟩ := hrel
      have HA := Lib.hid ha
      have B2 := Lib.hid hb2
      clear ha hb2
      obtain ⟨e0, e1⟩ := cells2 (GW.out _ B2.out)
      by_cases hlt : k < l.length
      · obtain ⟨b, o, hAB, -, hc⟩ := LRow.int (LW.out _ B2.out).row hlt
        have HT := Lib.hid (all_take l (litOk vars) k hlt)
        rw [HA.out, Bool.true_and] at HT
        have HN := Lib.hid (fun h => all_not (p := litOk vars) hlt h)
        have HX := Lib.hid (HIF.out _ (List.getElem_mem hlt))
        have k0 : (0 : Int) ≤ (k : Int) := by omega
        have k1 : (k : Int) < (l.length : Int) := by omega
        subst hAB
        have ut0 := Wd.cell hc
        have ut1 := Wd.cell e0
        clear hc e0 e1
        generalize l[k] = x at *
        have KA := Lib.hid (fun (u : Wd wr.heap.size wr) => Calls.in_wd u ((abs_any x u.w HX.out).mono fun e w' ⟨h1, h2⟩ => ⟨h1, h2 ▸ Below.refl _ _⟩) (Nat.le_refl _))
        have HLI : Hid (litOk vars x = (decide (1 ≤ absW x) && decide (absW x ≤ vars))) := rfl
        rw [HLI.out] at HT HN
        generalize absW x = ax at *
        by_cases h1 : ax < 1
        · have hd1 : decide (ax < 1) = true := decide_eq_true h1
          have HF := HN.out
          rw [decide_eq_false (by omega), Bool.false_and] at HF
          replace HF := Lib.hid (HF rfl)
          have HV : Hid (U = ([], false, 4)) := by have h := HU.out; rw [HF.out, if_neg (by decide)] at h; exact h.symm
          clear HT HN
          go_wp2
          refine wp_region_wd (by kernel_rfl) (by kernel_rfl) ?_
          repeat (first | go_big_quiet_skip | (go_big_quiet_want; go_big_quiet_op; first | go_big_quiet_on | (apply Exists.intro; refine ⟨fun u => ?_, ?_⟩; (first | (go_at_call 32; with_reducible exact KA.out u)); go_big_quiet_on)))
          refine wpQuiet_nil ?_
          intro w5 hw'
          obtain ⟨⟨_, hb9⟩, hw''⟩ := hw'
          subst hw''
          have BF : Hid (Below w.heap.size w w5) := bA.out.trans ((B2.out.trans (hb9.mono B2.out.size)).mono bA.out.size)
          clear hb9 KA ut0 ut1
          go_wp2
          go_ret3
          exact ⟨⟨none, 0, by rw [HV.out]; rfl, by rw [HV.out]; exact ILies.nil _ _ _⟩, BF.out⟩
        · have hd1 : decide (ax < 1) = false := decide_eq_false h1
          by_cases h2 : vars < ax
          · have hd2 : decide (vars < ax) = true := decide_eq_true h2
            have HF := HN.out
            rw [decide_eq_true (show 1 ≤ ax by omega), decide_eq_false (show ¬ ax ≤ vars by omega)] at HF
            replace HF := Lib.hid (HF rfl)
            have HV : Hid (U = ([], false, 4)) := by have h := HU.out; rw [HF.out, if_neg (by decide)] at h; exact h.symm
            clear HT HN
            go_wp2
            refine wp_region_wd (by kernel_rfl) (by kernel_rfl) ?_
            repeat (first | go_big_quiet_skip | (go_big_quiet_want; go_big_quiet_op; first | go_big_quiet_on | (apply Exists.intro; refine ⟨fun u => ?_, ?_⟩; (first | (go_at_call 32; with_reducible exact KA.out u)); go_big_quiet_on)))
            refine wpQuiet_nil ?_
            intro w5 hw'
            obtain ⟨⟨_, hb9⟩, hw''⟩ := hw'
            subst hw''
            have BF : Hid (Below w.heap.size w w5) := bA.out.trans ((B2.out.trans (hb9.mono B2.out.size)).mono bA.out.size)
            clear hb9 KA ut0 ut1
            go_wp2
            go_ret3
            exact ⟨⟨none, 0, by rw [HV.out]; rfl, by rw [HV.out]; exact ILies.nil _ _ _⟩, BF.out⟩
          · have hd2 : decide (vars < ax) = false := decide_eq_false h2
            rw [decide_eq_true (show 1 ≤ ax by omega), decide_eq_true (show ax ≤ vars by omega), Bool.true_and] at HT
            clear HN
            go_wp2
            refine wp_region_wd (by kernel_rfl) (by kernel_rfl) ?_
            repeat (first | go_big_quiet_skip | (go_big_quiet_want; go_big_quiet_op; first | go_big_quiet_on | (apply Exists.intro; refine ⟨fun u => ?_, ?_⟩; (first | (go_at_call 32; with_reducible exact KA.out u)); go_big_quiet_on)))
            refine wpQuiet_nil ?_
            intro w5 hw'
            obtain ⟨⟨_, hb9⟩, hw''⟩ := hw'
            subst hw''
            have B5 : Hid (Below WA.heap.size WA w5) := B2.out.trans (hb9.mono B2.out.size)
            clear hb9 KA ut0 ut1
            go_wp2
            go_roundw
            case rel => exact ⟨k + 1, by omega, by go_num, HT.out, B5.out⟩
            case measure => simp [intOf]; omega
      · obtain rfl : k = l.length := by omega
        rw [List.take_length] at HA
        have HV : Hid (U = match followM vars (L.map Clz.l) l with | none => ([], false, 0) | some s => (normM s, true, 0)) := by have h := HU.out; rw [if_pos HA.out] at h; exact h.symm
        have HLT : Hid (∀ x ∈ l, litOk vars x = true) := List.all_eq_true.1 HA.out
        clear HU HA
        obtain ⟨wa, rfl⟩ : ∃ y, y = wr := ⟨_, rfl⟩
        clear e0 e1
        go_wp2
        go_loopw [9, 8] (fun i v wr => ∃ (k : Nat) (vv : Value) (s : List Int), k ≤ l.length ∧ i = .int .i64 k ∧ vv = v ∧ setM l [] = setM (l.drop k) s ∧ SetOk vars s ∧ OwnC wr WA.heap.size 3 1 vv (ints s) ∧ Below WA.heap.size WA wr) (fun i _ _ => l.length - (intOf i).toNat)
        case atStart => exact ⟨0, _, [], Nat.zero_le _, rfl, rfl, rfl, SetOk.nil _, OwnC.nil _ _ _ _, B2.out⟩
        case round =>
          obtain ⟨k, v8, s, hk, rfl, rfl, hset, hso, how, hb3⟩ := hrel
          have HSE := Lib.hid hset
          have HSO := Lib.hid hso
          have HOW := Lib.hid how
          have B3 := Lib.hid hb3
          have hsl := hso.len v0
          clear hset hso how hb3
          by_cases hlt : k < l.length
          · obtain ⟨b, o, hAB, -, hc⟩ := LRow.int (LW.out _ B3.out).row hlt
            have HX := Lib.hid (HIF.out _ (List.getElem_mem hlt))
            have HXL := Lib.hid (HLT.out _ (List.getElem_mem hlt))
            have HSN : Hid (setM (l.drop k) s = if valM s l[k] < 0 then none else if valM s l[k] = 0 then setM (l.drop (k + 1)) (s ++ [l[k]]) else setM (l.drop (k + 1)) s) := by
              unfold Hid
              rw [List.drop_eq_getElem_cons hlt]
              conv => lhs; unfold setM
            have k0 : (0 : Int) ≤ (k : Int) := by omega
            have k1 : (k : Int) < (l.length : Int) := by omega
            obtain ⟨A8, q8, hv8, r8, c8, d8⟩ := HOW.out.row (by decide) (ints_each _)
            rw [ints_len] at hv8 c8
            have HI8 : Hid (ILies wr wr.heap.size A8 s) := ⟨r8, fun x hx => (HSO.out.lit x hx).1, Nat.le_trans c8 d8⟩
            have VA := Lib.hid (fun y h => val_any s A8 q8 l[k] y h HX.out)
            have HV8 := Lib.hid hv8
            subst hAB
            clear r8 c8 d8
            generalize l[k] = x at *
            subst hv8
            have hvc := val_cases s x
            obtain ⟨vx, hvx⟩ : ∃ y, valM s x = y := ⟨_, rfl⟩
            rw [hvx] at HSN VA hvc
            have HVX := Lib.hid hvx
            clear hvx
            by_cases hn : vx < 0
            · have HVN : Hid (U = ([], false, 0)) := by
                have h := HV.out
                have h2 := HSN.out
                rw [if_pos hn] at h2
                unfold followM at h
                rw [HSE.out, h2] at h
                exact h
              clear HSN
              go_wp2_with fail
              refine (VA.out wr HI8.out).mono ?_
              rintro e w' ⟨rfl, rfl⟩
              have BF : Hid (Below w.heap.size w wr) := bA.out.trans (B3.out.mono bA.out.size)
              go_wp2
              go_ret3
              exact ⟨⟨none, 0, by rw [HVN.out]; rfl, by rw [HVN.out]; exact ILies.nil _ _ _⟩, BF.out⟩
            · by_cases hz : vx = 0
              · have hzb : (vx == 0) = true := beq_iff_eq.2 hz
                have HS1 : Hid (setM l [] = setM (l.drop (k + 1)) (s ++ [x])) := by
                  have h2 := HSN.out
                  rw [if_neg hn, if_pos hz] at h2
                  exact HSE.out.trans h2
                have HSA : Hid (SetOk vars (s ++ [x])) := HSO.out.add HX.out HXL.out (HVX.out.trans hz)
                have HLS := HSA.out.len v0
                rw [List.length_append] at HLS
                simp only [List.length_cons, List.length_nil] at HLS
                clear hz hvc
                go_wp2_with fail
                refine (VA.out wr HI8.out).mono ?_
                rintro e w' ⟨rfl, rfl⟩
                go_wp2_with fail
                refine (VA.out wr HI8.out).mono ?_
                rintro e w' ⟨rfl, rfl⟩
                have hal : Below wr.heap.size wr (wr.alloc (.cells #[.int .i64 x] 3)) := (Below.refl _ _).alloc (Nat.le_refl _) _
                have O6 := Lib.hid (HOW.out.keep hal)
                have B6 : Hid (Below WA.heap.size WA (wr.alloc (.cells #[.int .i64 x] 3))) := B3.out.trans (hal.mono B3.out.size)
                have HC : Hid (∀ (i : Nat) u, [Value.int .i64 x][i]? = some u → (wr.alloc (.cells #[.int .i64 x] 3)).cell? ⟨wr.heap.size, i, none⟩ = some u) := fun i u hu => by
                  rw [Lib.cell_of_heap (show (wr.alloc (.cells #[.int .i64 x] 3)).heap[wr.heap.size]? = some (.cells #[.int .i64 x] 3 (0, 0)) from Array.getElem?_push_size)]; simpa using hu
                have HONE : Hid (∀ u ∈ [Value.int .i64 x], u.oneCell' = true) := fun u hu => by
                  simp only [List.mem_singleton] at hu
                  subst hu; rfl
                have HLN : Hid ((ints s).length + 1 ≤ 262144) := by unfold Hid; rw [ints_len]; omega
                clear hal VA
                go_wp2_with (at_builtin; refine wpList_push _ rfl (.tmp 61) (.tmp 66) 25 rfl 3 1 8 (.int .i64 0) Try.underlying25 info_int rfl (by decide) WA.heap.size _ _ O6.out rfl wr.heap.size 1 rfl [.int .i64 x] HC.out rfl HONE.out (by have h1 := HLN.out; omega) (by have h1 := HLN.out; omega) B6.out.size ?_)
                intro v2 w6 hown hbel _
                have HO7 : Hid (OwnC w6 WA.heap.size 3 1 v2 (ints (s ++ [x]))) := by unfold Hid; rw [ints_app]; exact hown
                have B7 : Hid (Below WA.heap.size WA w6) := B6.out.trans hbel
                clear hown hbel O6 B6 HC HONE
                go_wp2
                go_roundw
                case rel => exact ⟨k + 1, _, s ++ [x], by omega, by go_num, rfl, HS1.out, HSA.out, HO7.out, B7.out⟩
                case measure => simp [intOf]; omega
              · have hzb : (vx == 0) = false := beq_eq_false_iff_ne.2 hz
                have HS1 : Hid (setM l [] = setM (l.drop (k + 1)) s) := by
                  have h2 := HSN.out
                  rw [if_neg hn, if_neg hz] at h2
                  exact HSE.out.trans h2
                go_wp2_with fail
                refine (VA.out wr HI8.out).mono ?_
                rintro e w' ⟨rfl, rfl⟩
                go_wp2_with fail
                refine (VA.out wr HI8.out).mono ?_
                rintro e w' ⟨rfl, rfl⟩
                go_wp2
                go_roundw
                case rel => exact ⟨k + 1, _, s, by omega, by go_num, rfl, HS1.out, HSO.out, HOW.out, B3.out⟩
                case measure => simp [intOf]; omega
          · obtain rfl : k = l.length := by omega
            rw [List.drop_length] at HSE
            have HSE2 : Hid (setM l [] = some s) := HSE.out
            replace HV : Hid (U = match runM (L.map Clz.l) (vars.toNat + 1) s with | none => ([], false, 0) | some s => (normM s, true, 0)) := by
              have h := HV.out
              unfold followM at h
              rw [HSE2.out] at h
              exact h
            clear HSE HSE2
            obtain ⟨goal, hgoal⟩ : ∃ y, runM (L.map Clz.l) (vars.toNat + 1) s = y := ⟨_, rfl⟩
            rw [hgoal] at HV
            have HG := Lib.hid hgoal
            clear hgoal
            obtain ⟨wb, rfl⟩ : ∃ y, y = wr := ⟨_, rfl⟩
            go_wp2
            go_loopw [10, 8] (fun i v wr => ∃ (n : Int) (vv : Value) (s : List Int), i = .int .i64 n ∧ vv = v ∧ -1 ≤ n ∧ n ≤ (s.length : Int) ∧ (n = (s.length : Int) → goal = some s) ∧ (n < (s.length : Int) → ∃ f : Nat, vars + 1 ≤ (s.length : Int) + f ∧ goal = runM (L.map Clz.l) f s) ∧ SetOk vars s ∧ OwnC wr WA.heap.size 3 1 vv (ints s) ∧ Below WA.heap.size WA wr) (fun i _ _ => (vars + 1 - intOf i).toNat)
            case atStart => exact ⟨-1, _, s, rfl, rfl, by omega, by omega, fun h => by omega, fun _ => ⟨vars.toNat + 1, by omega, HG.out.symm⟩, HSO.out, HOW.out, B3.out⟩
            case round =>
              clear HSO HOW B3 HG hsl
              obtain ⟨n, v8, s, rfl, rfl, hn1, hn2, hstop, hgo, hso, how, hb3⟩ := hrel
              have HST := Lib.hid hstop
              have HGO := Lib.hid hgo
              have HSO := Lib.hid hso
              have HOW := Lib.hid how
              have B3 := Lib.hid hb3
              have hsl := hso.len v0
              clear hstop hgo hso how hb3
              obtain ⟨wc, rfl⟩ : ∃ y, y = wr := ⟨_, rfl⟩
              obtain ⟨A8, q8, hv8, r8, c8, d8⟩ := HOW.out.row (by decide) (ints_each _)
              rw [ints_len] at hv8 c8
              by_cases hlt : n < (s.length : Int)
              · obtain ⟨f, hf1, hf2⟩ := HGO.out hlt
                obtain ⟨f, rfl⟩ : ∃ g, f = g + 1 := ⟨f - 1, by omega⟩
                unfold runM at hf2
                have HF2 := Lib.hid hf2
                clear hf2 HGO HST r8 c8 d8
                subst hv8
                have HSL0 : Hid ((s.length : Int) ≤ vars) := hsl
                go_wp2
                go_loopw [11, 8] (fun i v wr => ∃ (k : Nat) (vv : Value) (t : List Int), k ≤ L.length ∧ i = .int .i64 k ∧ vv = v ∧ passM (L.map Clz.l) s = passM ((L.map Clz.l).drop k) t ∧ s.length ≤ t.length ∧ SetOk vars t ∧ OwnC wr WA.heap.size 3 1 vv (ints t) ∧ Below WA.heap.size WA wr) (fun i _ _ => L.length - (intOf i).toNat)
                case atStart => exact ⟨0, _, s, Nat.zero_le _, rfl, rfl, rfl, Nat.le_refl _, HSO.out, HOW.out, B3.out⟩
                case round =>
                  clear HSO HOW B3
                  obtain ⟨k, v8, t, hk, rfl, rfl, hps, hst, hso, how, hb3⟩ := hrel
                  have HPS := Lib.hid hps
                  have HSO := Lib.hid hso
                  have HOW := Lib.hid how
                  have B3 := Lib.hid hb3
                  have htl := hso.len v0
                  clear hps hso how hb3
                  obtain ⟨e0, e1⟩ := cells2 (GW.out _ B3.out)
                  by_cases hlk : k < L.length
                  · obtain ⟨b, o, hAB, -, hc⟩ := (AW.out _ B3.out).at hlk
                    have HCL := Lib.hid (clz_lies ((AW.out _ B3.out).each _ (List.getElem_mem hlk)))
                    have HCX := Lib.hid (HCK.out _ (List.getElem_mem hlk))
                    have HPN : Hid (passM ((L.map Clz.l).drop k) t = if (leftM L[k].l t).2 then passM ((L.map Clz.l).drop (k + 1)) (if (leftM L[k].l t).1 = 0 then t else t ++ [(leftM L[k].l t).1]) else none) := by
                      unfold Hid
                      rw [List.drop_eq_getElem_cons (by simpa using hlk)]
                      conv => lhs; unfold passM
                      rw [List.getElem_map]
                    have k0 : (0 : Int) ≤ (k : Int) := by omega
                    have k1 : (k : Int) < (L.length : Int) := by omega
                    obtain ⟨A8, q8, hv8, r8, c8, d8⟩ := HOW.out.row (by decide) (ints_each _)
                    rw [ints_len] at hv8 c8
                    have HI8 : Hid (ILies wr wr.heap.size A8 t) := ⟨r8, fun x hx => (HSO.out.lit x hx).1, Nat.le_trans c8 d8⟩
                    have LA := Lib.hid (left_any L[k].l t L[k].A A8 L[k].q q8 wr HCL.out HI8.out)
                    have HNW := Lib.hid (left_new (l := L[k].l) (set := t))
                    subst hAB
                    clear r8 c8 d8
                    subst hv8
                    generalize L[k] = z at *
                    obtain ⟨lx, lo, hlx⟩ : ∃ a b, leftM z.l t = (a, b) := ⟨_, _, rfl⟩
                    rw [hlx] at HPN LA HNW
                    clear hlx
                    cases lo with
                    | false =>
                      have HVN : Hid (U = ([], false, 0)) := by
                        have h2 := HPN.out
                        rw [if_neg (by simp)] at h2
                        have h3 := HF2.out
                        rw [HPS.out, h2] at h3
                        have h := HV.out
                        rw [h3] at h
                        exact h
                      clear HPN
                      go_wp2_with fail
                      refine LA.out.mono ?_
                      rintro e w' ⟨rfl, rfl⟩
                      have BF : Hid (Below w.heap.size w wr) := bA.out.trans (B3.out.mono bA.out.size)
                      go_wp2
                      go_ret3
                      exact ⟨⟨none, 0, by rw [HVN.out]; rfl, by rw [HVN.out]; exact ILies.nil _ _ _⟩, BF.out⟩
                    | true =>
                      by_cases hz : lx = 0
                      · have hzb : (lx != 0) = false := by rw [bne_eq_false_iff_eq]; exact hz
                        have HP1 : Hid (passM (L.map Clz.l) s = passM ((L.map Clz.l).drop (k + 1)) t) := by
                          have h2 := HPN.out
                          rw [if_pos rfl, if_pos hz] at h2
                          exact HPS.out.trans h2
                        clear HPN hz HNW
                        go_wp2_with fail
                        refine LA.out.mono ?_
                        rintro e w' ⟨rfl, rfl⟩
                        go_wp2
                        go_roundw
                        case rel => exact ⟨k + 1, _, t, by omega, by go_num, rfl, HP1.out, hst, HSO.out, HOW.out, B3.out⟩
                        case measure => simp [intOf]; omega
                      · have hzb : (lx != 0) = true := bne_iff_ne.2 hz
                        have HP1 : Hid (passM (L.map Clz.l) s = passM ((L.map Clz.l).drop (k + 1)) (t ++ [lx])) := by
                          have h2 := HPN.out
                          rw [if_pos rfl, if_neg hz] at h2
                          exact HPS.out.trans h2
                        obtain ⟨n1, n2⟩ := HNW.out hz
                        have HXF : Hid (I64 lx) := HCL.out.fits _ n1
                        have HSA : Hid (SetOk vars (t ++ [lx])) := HSO.out.add HXF.out (HCX.out _ n1) n2
                        have HLS := HSA.out.len v0
                        rw [List.length_append] at HLS
                        simp only [List.length_cons, List.length_nil] at HLS
                        clear HPN hz HNW n1 n2
                        go_wp2_with fail
                        refine LA.out.mono ?_
                        rintro e w' ⟨rfl, rfl⟩
                        have hal : Below wr.heap.size wr (wr.alloc (.cells #[.int .i64 lx] 3)) := (Below.refl _ _).alloc (Nat.le_refl _) _
                        have O6 := Lib.hid (HOW.out.keep hal)
                        have B6 : Hid (Below WA.heap.size WA (wr.alloc (.cells #[.int .i64 lx] 3))) := B3.out.trans (hal.mono B3.out.size)
                        have HC : Hid (∀ (i : Nat) u, [Value.int .i64 lx][i]? = some u → (wr.alloc (.cells #[.int .i64 lx] 3)).cell? ⟨wr.heap.size, i, none⟩ = some u) := fun i u hu => by
                          rw [Lib.cell_of_heap (show (wr.alloc (.cells #[.int .i64 lx] 3)).heap[wr.heap.size]? = some (.cells #[.int .i64 lx] 3 (0, 0)) from Array.getElem?_push_size)]; simpa using hu
                        have HONE : Hid (∀ u ∈ [Value.int .i64 lx], u.oneCell' = true) := fun u hu => by
                          simp only [List.mem_singleton] at hu
                          subst hu; rfl
                        have HLN : Hid ((ints t).length + 1 ≤ 262144) := by unfold Hid; rw [ints_len]; omega
                        clear hal LA
                        go_wp2_with (at_builtin; refine wpList_push _ rfl (.tmp 95) (.tmp 97) 25 rfl 3 1 8 (.int .i64 0) Try.underlying25 info_int rfl (by decide) WA.heap.size _ _ O6.out rfl wr.heap.size 1 rfl [.int .i64 lx] HC.out rfl HONE.out (by have h1 := HLN.out; omega) (by have h1 := HLN.out; omega) B6.out.size ?_)
                        intro v2 w6 hown hbel _
                        have HO7 : Hid (OwnC w6 WA.heap.size 3 1 v2 (ints (t ++ [lx]))) := by unfold Hid; rw [ints_app]; exact hown
                        have B7 : Hid (Below WA.heap.size WA w6) := B6.out.trans hbel
                        have HT1 : Hid (s.length ≤ (t ++ [lx]).length) := by unfold Hid; rw [List.length_append]; omega
                        clear hown hbel O6 B6 HC HONE e0 e1
                        go_wp2
                        go_roundw
                        case rel => exact ⟨k + 1, _, t ++ [lx], by omega, by go_num, rfl, HP1.out, HT1.out, HSA.out, HO7.out, B7.out⟩
                        case measure => simp [intOf]; omega
                  · obtain rfl : k = L.length := by omega
                    have HP1 : Hid (passM (L.map Clz.l) s = some t) := by
                      have h := HPS.out
                      rw [List.drop_of_length_le (by simp)] at h
                      exact h
                    have HG2 := HF2.out
                    rw [HP1.out] at HG2
                    have HE1 : Hid ((s.length : Int) = (t.length : Int) → goal = some t) := fun h => by
                      simp only at HG2
                      rw [if_pos (by omega)] at HG2
                      exact HG2
                    have HE2 : Hid ((s.length : Int) < (t.length : Int) → ∃ f : Nat, vars + 1 ≤ (t.length : Int) + f ∧ goal = runM (L.map Clz.l) f t) := fun h => by
                      simp only at HG2
                      rw [if_neg (by omega)] at HG2
                      exact ⟨f, by omega, HG2⟩
                    clear HG2 HPS HP1
                    go_wp2
                    go_roundw
                    case rel => exact ⟨(s.length : Int), _, t, rfl, rfl, by omega, by omega, HE1.out, HE2.out, HSO.out, HOW.out, B3.out⟩
                    case measure => simp [intOf]; omega
              · have HGS : Hid (goal = some s) := HST.out (by omega)
                have HVN : Hid (U = (normM s, true, 0)) := by
                  have h := HV.out
                  rw [HGS.out] at h
                  exact h
                have HI8 : Hid (ILies wc wc.heap.size A8 s) := ⟨r8, fun x hx => (HSO.out.lit x hx).1, Nat.le_trans c8 d8⟩
                have NM := Lib.hid (norm_any s A8 q8 wc HI8.out (by omega))
                clear r8 c8 d8 HGO HST
                subst hv8
                go_wp2_with fail
                refine NM.out.mono ?_
                rintro e w7 ⟨⟨A7, q7, rfl, h7⟩, hb7⟩
                have H7 := Lib.hid h7
                have BF : Hid (Below w.heap.size w w7) := bA.out.trans ((B3.out.trans (hb7.mono B3.out.size)).mono bA.out.size)
                clear h7 hb7 NM
                go_wp2
                go_ret3
                exact ⟨⟨A7, q7, by rw [HVN.out]; rfl, by rw [HVN.out]; exact H7.out⟩, BF.out⟩
  · have HV : Hid (U = ([], false, 9)) := by unfold Hid; rw [← hU]; unfold unitsM; rw [if_pos hf]
    have hfb : (formM vars (L.map Clz.l) != 0) = true := bne_iff_ne.2 hf
    clear hU hf
    generalize formM vars (L.map Clz.l) = fv at *
    unfold forV at FK ⊢
    go_enter Try.func8, Try.ntmps8
    go_wp2_with fail
    refine FK.out.mono ?_
    rintro e w1 ⟨rfl, hb1⟩
    have BF : Hid (Below w.heap.size w w1) := bA.out.trans (hb1.mono bA.out.size)
    clear hb1 FK hWA e0 e1
    go_wp2
    go_ret3
    exact ⟨⟨none, 0, by rw [HV.out]; rfl, by rw [HV.out]; exact ILies.nil _ _ _⟩, BF.out⟩
end Go.Proofs.Ytefbknpoehmfaaa.For
