/- CircuitFinds, walked: of a circuit that may be each name's literal is found by its text, the first one's of alike ones; condition: the form's own reach. -/
import Derived.Test.YtefhhldfelmnkaaKinds
import Derived.Test.YtefhhldfelmnkaaFindR
import Derived.Test.YtefhhldfelmnkaaLawK
namespace Go.Proofs.Ytefhhldfelmnkaa.Cw
open Go.ChangeShapes Go.WideShapes Go.ChangeAt Go.RowKit Go.Maps Circ

/-- each literal that a name may name is known -/
theorem kindLits_known (c : Cir) (h : refOk c = true) (t : ByteArray) (x : Int) (hx : x ∈ kindLits c t) : knownL c x = true := by
  obtain ⟨-, -, -, hg, ho, hb, hi⟩ := refOk_parts c h
  have hm := goodAll_mem c.max (own c) [] hg
  have ofOwn : x ∈ own c → knownL c x = true := fun hx => by
    have := hm x hx
    unfold knownL
    rw [decide_eq_true (show 0 ≤ x by omega), Bool.true_and, ← set_known c _ (fun y hy => (hm y hy).1), setP_mem, Bool.or_eq_true]
    right
    rw [List.any_eq_true]
    exact ⟨x, hx, by rw [cnt_pos x (by omega)]; simp⟩
  have ofAll : ∀ l : List Int, allKnown c l = true → x ∈ l → knownL c x = true := fun l hl hx => by
    unfold allKnown at hl
    rw [Bool.and_eq_true] at hl
    exact List.all_eq_true.1 hl.1 x hx
  unfold kindLits at hx
  split at hx
  · exact ofOwn (by unfold own; simp [hx])
  split at hx
  · exact ofOwn (by unfold own; simp only [List.mem_append]; exact .inr (.inl hx))
  split at hx
  · exact ofAll _ ho hx
  split at hx
  · exact ofAll _ hb hx
  · exact ofAll _ hi hx
theorem findV_known (c : Cir) (h : refOk c = true) (t : ByteArray) : ∀ (l : List Nam) (x : Int), findV c t l = some x → knownL c x = true
  | [], x, hx => by cases hx
  | n :: l, x, hx => by
    simp only [findV] at hx
    split at hx
    · rename_i hc
      simp only [Bool.and_eq_true, decide_eq_true_eq] at hc
      have hlt : n.num.toNat < (kindLits c n.kind).length := by omega
      rw [List.getD_eq_getElem?_getD, List.getElem?_eq_getElem hlt] at hx
      have : (kindLits c n.kind)[n.num.toNat] = x := Option.some.inj hx
      rw [← this]
      exact kindLits_known c h n.kind _ (List.getElem_mem _)
    · exact findV_known c h t l x hx
theorem name_ok (c : Cir) (h : refOk c = true) (k : Nat) (hk : k < c.names.length) : 0 ≤ c.names[k].num ∧ c.names[k].num < ((kindLits c c.names[k].kind).length : Int) := by
  obtain ⟨hh, -⟩ := refOk_parts c h
  unfold refHead at hh
  simp only [Bool.and_eq_true] at hh
  have hn := List.all_eq_true.1 hh.2.2.2.2 k (List.mem_range.2 hk)
  have hr : refName c c.names[k] = true := by
    cases hq : refName c c.names[k]
    · rw [refAt_no c k hk hq] at hn; cases hn
    · rfl
  unfold refName at hr
  simp only [Bool.and_eq_true, Bool.not_eq_true', decide_eq_false_iff_not] at hr
  rcases count_rank c c.names[k].kind with ⟨h1, h2⟩ | ⟨h1, h2⟩
  · rw [h2] at hr; omega
  · rw [h2] at hr; omega
theorem findV_some (c : Cir) (t : ByteArray) : ∀ (l : List Nam) (x : Nam), x ∈ l → x.text.toList = t.toList → 0 ≤ x.num → x.num < ((kindLits c x.kind).length : Int) → ∃ y, findV c t l = some y
  | [], x, hx, _, _, _ => by cases hx
  | n :: l, x, hx, ht, h0, h1 => by
    simp only [findV]
    split
    · exact ⟨_, rfl⟩
    · rename_i hc
      rcases List.mem_cons.1 hx with e | e
      · subst e
        exact absurd (by simp only [Bool.and_eq_true, decide_eq_true_eq, beq_iff_eq]; exact ⟨ht, h0, h1⟩) hc
      · exact findV_some c t l x e ht h0 h1

theorem finds_pure (c : Cir) (h : refOk c = true) (k : Nat) (hk : k < c.names.length) : ∃ x, findV c c.names[k].text c.names = some x ∧ 0 ≤ x ∧ (kindOf c (x / 2)).toList.isEmpty = false := by
  obtain ⟨h0, h1⟩ := name_ok c h k hk
  obtain ⟨x, hx⟩ := findV_some c c.names[k].text c.names c.names[k] (List.getElem_mem _) rfl h0 h1
  obtain ⟨a, b⟩ := known_kind c x (findV_known c h _ _ x hx)
  exact ⟨x, hx, a, b⟩
theorem findV_i64 (c : Cir) (s : Places) (hf : CFits c s) (t : ByteArray) : ∀ (l : List Nam) (x : Int), findV c t l = some x → I64 x
  | [], x, hx => by cases hx
  | n :: l, x, hx => by
    simp only [findV] at hx
    split at hx
    · rename_i hc
      simp only [Bool.and_eq_true, decide_eq_true_eq] at hc
      have hlt : n.num.toNat < (kindLits c n.kind).length := by omega
      rw [List.getD_eq_getElem?_getD, List.getElem?_eq_getElem hlt] at hx
      have e : (kindLits c n.kind)[n.num.toNat] = x := Option.some.inj hx
      have hm : x ∈ kindLits c n.kind := by rw [← e]; exact List.getElem_mem _
      unfold kindLits at hm
      split at hm
      · exact hf.ins x hm
      split at hm
      · obtain ⟨t, ht, rfl⟩ := List.mem_map.1 hm
        exact (hf.lats t ht).1
      split at hm
      · exact hf.outs x hm
      split at hm
      · exact hf.bads x hm
      · exact hf.invs x hm
    · exact findV_i64 c s hf t l x hx

set_option maxHeartbeats 8000000 in
set_option maxRecDepth 100000 in
theorem finds_walk (c : Cir) (s : Places) (w : World) (h : CLies w w.heap.size c s) (hf : CFits c s) :
    Calls Try.prog 6 #[cirV c s] w fun e w' => e = .returned (.bool true) ∧ Below w.heap.size w w' := by
  have HB1 : Hid (Below w.heap.size w (w.alloc (.cells (cirC c s) 27))) := (Below.refl _ _).alloc (Nat.le_refl _) _
  have HS1 : Hid ((w.alloc (.cells (cirC c s) 27)).heap.size = w.heap.size + 1) := by unfold Hid; simp
  have CK := Lib.hid (fun w h => check_any c s w h hf)
  have RK := Lib.hid (fun w h => refcheck_any c s w h hf)
  have FA := Lib.hid (fun t w h => find_any c s t w h hf)
  have FR := Lib.hid (fun t w h => reffind_any c s t w h hf)
  have KR := Lib.hid (fun v w h => kindref_any c s v w h hf)
  have I6 := Lib.hid (fun t l x hx => findV_i64 c s hf t l x hx)
  have H := Lib.hid h
  have ln := hf.ln
  clear h hf
  have hee := chkV_refV c
  rw [hee] at CK
  clear hee
  have hcase : (refV c = 0 ∧ refOk c = true) ∨ refV c = 9 := by
    cases hq : refOk c
    · exact .inr (refV_no c hq)
    · exact .inl ⟨refV_yes c hq, rfl⟩
  generalize refV c = cv at *
  unfold cirV at *
  rw [show cirC c s = #[.int .i64 c.max, .slice s.ai c.ins.length s.ki, .slice s.al c.lats.length s.kl, .slice s.ao c.outs.length s.ko, .slice s.ab c.bads.length s.kb, .slice s.ac c.invs.length s.kc, .slice s.aa c.ands.length s.ka, .slice s.an c.names.length s.kn] from rfl] at CK RK FA FR KR ⊢
  go_enter Try.func6, Try.ntmps6
  go_wp2_with fail
  refine (alive_any _).mono ?_
  rintro e w1 ⟨rfl, hba⟩
  have hb1 : Below (w.heap.size + 1) (w.alloc (.cells (cirC c s) 27)) w1 := hba.mono (by simp)
  have hz1 : w.heap.size + 1 ≤ w1.heap.size := by have := hb1.size; rw [show (w.alloc (.cells (cirC c s) 27)).heap.size = w.heap.size + 1 from HS1.out] at this; exact this
  have hbw1 : Below w.heap.size w w1 := HB1.out.trans (hb1.mono (by omega))
  obtain ⟨e0, e1, e2, e3, e4, e5, e6, e7⟩ := ((Box.made w c s).keep hb1 (Nat.lt_succ_self _)).cells
  have D1 := Lib.hid (RK.out w1 ((H.out.below hbw1).more (by omega)))
  clear hba
  go_wp2_with fail
  refine D1.out.mono ?_
  rintro e w2 ⟨rfl, hbc⟩
  have hb2 := hb1.trans (hbc.mono hz1)
  have hz2 : w.heap.size + 1 ≤ w2.heap.size := Nat.le_trans hz1 hbc.size
  have hbw2 : Below w.heap.size w w2 := HB1.out.trans (hb2.mono (by omega))
  obtain ⟨f0, f1, f2, f3, f4, f5, f6, f7⟩ := ((Box.made w c s).keep hb2 (Nat.lt_succ_self _)).cells
  clear e0 e1 e2 e3 e4 e5 e6 e7
  rcases hcase with ⟨rfl, hok⟩ | rfl
  case inr =>
    have D2 := Lib.hid (CK.out w2 ((H.out.below hbw2).more (by omega)))
    go_wp2_with fail
    refine D2.out.mono ?_
    rintro e w3 ⟨rfl, hbr⟩
    go_wp2
    go_ret
    exact ⟨rfl, hbw2.trans (hbr.mono hbw2.size)⟩
  case inl =>
  have HOk := Lib.hid hok
  clear hok
  go_wp2
  go_loopw [3] (fun i wr => ∃ k : Nat, k ≤ c.names.length ∧ i = .int .i64 k ∧ Below (w.heap.size + 1) (w.alloc (.cells (cirC c s) 27)) wr) (fun i _ => c.names.length - (intOf i).toNat)
  case atStart => exact ⟨0, Nat.zero_le _, rfl, hb2⟩
  case round =>
    obtain ⟨k, hk, rfl, hb⟩ := hrel
    have hbw : Below w.heap.size w wr := HB1.out.trans (hb.mono (by omega))
    have hwz : w.heap.size + 1 ≤ wr.heap.size := by have := hb.size; rw [show (w.alloc (.cells (cirC c s) 27)).heap.size = w.heap.size + 1 from HS1.out] at this; exact this
    obtain ⟨e0, e1, e2, e3, e4, e5, e6, e7⟩ := ((Box.made w c s).keep hb (Nat.lt_succ_self _)).cells
    by_cases hlt : k < c.names.length
    · obtain ⟨b, o, ha, hbb, hx0, hx1, hx2⟩ := (H.out.names.below hbw).nam hlt
      have HAn : Hid (s.an = some ⟨b, o, none⟩) := ha
      obtain ⟨x, hfx, hx0', hkx⟩ := finds_pure c HOk.out k hlt
      have hxi := I6.out _ _ x hfx
      rw [ha] at e7
      rw [ha] at FA
      rw [ha] at FR
      rw [ha] at KR
      rw [ha]
      clear ha hx0 hx1
      have HH := Lib.hid H.out.names
      generalize c.names[k].text = z at *
      have hbz : ∀ w9, Below wr.heap.size wr w9 → w9.cell? ⟨b, o + k * 3 + 2, none⟩ = some (.string z) := fun w9 h9 => cell_later h9 hx2
      have HZ := Lib.hid hbz
      clear hbz
      have hk1 : (k : Int) < c.names.length := by omega
      have K1 := Lib.hid (fun (u : Wd wr.heap.size wr) => Calls.in_wd u ((FA.out z u.w ((H.out.below (hbw.trans (u.ok.mono (by omega)))).more (by have := u.ok.size; omega))).mono (fun e w' ⟨he, hw⟩ => (⟨by rw [he, hfx]; unfold foundE; simp only []; rw [cnt_pos x hx0'], hw⟩ : e = .returned (.tuple #[.int .i64 x, .bool true]) ∧ Below u.w.heap.size u.w w'))) (Nat.le_refl _))
      go_wp2
      have u0 := Wd.cell e0
      have u1 := Wd.cell e1
      have u2 := Wd.cell e2
      have u3 := Wd.cell e3
      have u4 := Wd.cell e4
      have u5 := Wd.cell e5
      have u6 := Wd.cell e6
      have u7 := Wd.cell e7
      have u8 := Wd.cell hx2
      clear e0 e1 e2 e3 e4 e5 e6 e7 hx2
      refine wp_region_wd (by kernel_rfl) (by kernel_rfl) ?_
      repeat (first | go_big_quiet_skip | (go_big_quiet_want; go_big_quiet_op; first | go_big_quiet_on | (apply Exists.intro; refine ⟨fun u => ?_, ?_⟩; (go_at_call 18; exact K1.out u); go_big_quiet_on)))
      refine wpQuiet_nil ?_
      intro w5 hw'
      obtain ⟨⟨_, hb5⟩, hw''⟩ := hw'
      subst hw''
      clear u0 u1 u2 u3 u4 u5 u6 u7 u8 K1
      have hb6 := hb.trans (hb5.mono hwz)
      have hbw6 : Below w.heap.size w w5 := HB1.out.trans (hb6.mono (by omega))
      have hz6 : w.heap.size + 1 ≤ w5.heap.size := Nat.le_trans hwz hb5.size
      obtain ⟨e0, e1, e2, e3, e4, e5, e6, e7⟩ := ((Box.made w c s).keep hb6 (Nat.lt_succ_self _)).cells
      rw [HAn.out] at e7
      have hx2 := HZ.out w5 hb5
      have K2 := Lib.hid (fun (u : Wd w5.heap.size w5) => Calls.in_wd u ((FR.out z u.w ((H.out.below (hbw6.trans (u.ok.mono (by omega)))).more (by have := u.ok.size; omega))).mono (fun e w' ⟨he, hw⟩ => (⟨by rw [he, hfx]; rfl, hw⟩ : e = .returned (.tuple #[.int .i64 x, .bool true]) ∧ Below u.w.heap.size u.w w'))) (Nat.le_refl _))
      go_wp2
      have u0 := Wd.cell e0
      have u1 := Wd.cell e1
      have u2 := Wd.cell e2
      have u3 := Wd.cell e3
      have u4 := Wd.cell e4
      have u5 := Wd.cell e5
      have u6 := Wd.cell e6
      have u7 := Wd.cell e7
      have u8 := Wd.cell hx2
      clear e0 e1 e2 e3 e4 e5 e6 e7 hx2
      refine wp_region_wd (by kernel_rfl) (by kernel_rfl) ?_
      repeat (first | go_big_quiet_skip | (go_big_quiet_want; go_big_quiet_op; first | go_big_quiet_on | (apply Exists.intro; refine ⟨fun u => ?_, ?_⟩; (go_at_call 19; exact K2.out u); go_big_quiet_on)))
      refine wpQuiet_nil ?_
      intro w7 hw'
      obtain ⟨⟨_, hb7⟩, hw''⟩ := hw'
      subst hw''
      clear u0 u1 u2 u3 u4 u5 u6 u7 u8 K2
      have hb8 := hb6.trans (hb7.mono hz6)
      have hbw8 : Below w.heap.size w w7 := HB1.out.trans (hb8.mono (by omega))
      have hz8 : w.heap.size + 1 ≤ w7.heap.size := Nat.le_trans hz6 hb7.size
      obtain ⟨e0, e1, e2, e3, e4, e5, e6, e7⟩ := ((Box.made w c s).keep hb8 (Nat.lt_succ_self _)).cells
      rw [HAn.out] at e7
      have D3 := KR.out (x / 2) w7 ((H.out.below hbw8).more (by omega))
      obtain ⟨kd, hkd⟩ : ∃ kd, kd = kindOf c (x / 2) := ⟨_, rfl⟩
      rw [← hkd] at D3 hkx
      clear hkd
      have HD3 := Lib.hid D3
      clear D3 hfx
      obtain ⟨x0, x1⟩ := hxi
      have hxx : (x != x) = false := by simp
      go_wp2_with fail
      refine HD3.out.mono ?_
      rintro e w9 ⟨rfl, hb9⟩
      go_wp2
      go_roundw
      case rel => exact ⟨k + 1, by omega, by go_num, hb8.trans (hb9.mono hz8)⟩
      case measure => simp [intOf]; omega
    · obtain rfl : k = c.names.length := by omega
      go_wp2
      go_ret
      exact ⟨rfl, hbw⟩

set_option maxRecDepth 100000 in
theorem finds_law {H : Type} {enc : TypeId × Value → H} (W : World) (v : Value) (d : DataW H) (p : List MemPlace) {r : Reach} {b0 : Nat} (hv : Value.okWide Try.prog W r b0 27 v) (h : DataW.Trod enc Try.prog W 0 (fun _ => true) true 27 v d p)
    {ts : List TypeId} {ds : List (DataW H)} (hsz : (DataW.weightsEach Try.prog (27 :: ts) (d :: ds)).all (· ≤ reachBytes) = true) :
    Calls Try.prog 6 #[v] W fun e W' => e = .returned (.bool true) ∧ Below W.heap.size W W' := by
  obtain ⟨c, s, rfl, hl, hf⟩ := open_circ hv h (first_weights hsz)
  exact finds_walk c s W hl hf
end Go.Proofs.Ytefhhldfelmnkaa.Cw
