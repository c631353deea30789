/- CircuitKinds, walked: of a circuit that may be each variable that a gate names is something; no condition. -/
import Derived.Test.YtefhhldfelmnkaaEq
import Derived.Test.YtefhhldfelmnkaaRefE
namespace Go.Proofs.Ytefhhldfelmnkaa.Cw
open Go.ChangeShapes Go.WideShapes Go.ChangeAt Go.RowKit Go.Maps Circ

theorem goodAll_split (m : Int) (x : Int) (b : List Int) : ∀ (a p : List Int), goodAll m p (a ++ x :: b) = true → x ∉ p ++ a
  | [], p, h => by
    simp only [List.nil_append, goodAll, Bool.and_eq_true] at h
    have h1 := h.1
    unfold goodAt at h1
    simp only [Bool.and_eq_true, Bool.not_eq_true', List.any_eq_false] at h1
    intro hm
    rw [List.append_nil] at hm
    exact h1.2.2.2 x hm (by simp)
  | y :: a, p, h => by
    simp only [List.cons_append, goodAll, Bool.and_eq_true] at h
    have := goodAll_split m x b a (p ++ [y]) h.2
    simpa using this

theorem refOk_parts (c : Cir) (h : refOk c = true) : refHead c = true ∧ c.lats.all (latR c) = true ∧ (List.range c.ands.length).all (andAt c) = true ∧ goodAll c.max [] (own c) = true ∧ allKnown c c.outs = true ∧ allKnown c c.bads = true ∧ allKnown c c.invs = true := by
  unfold refOk at h
  simp only [Bool.and_eq_true] at h
  rw [← own_good]
  exact ⟨h.1, h.2.1, h.2.2.1, h.2.2.2.1, h.2.2.2.2.1, h.2.2.2.2.2.1, h.2.2.2.2.2.2⟩

theorem hasVar_mem (l : List Int) (v : Int) (h : hasVar l v = true) : ∃ x ∈ l, 0 ≤ x ∧ x / 2 = v := by
  unfold hasVar at h
  rw [List.any_eq_true] at h
  obtain ⟨x, hx, he⟩ := h
  simp at he
  exact ⟨x, hx, he⟩

theorem kind_a (c : Cir) (h : refOk c = true) (t : Tri) (ht : t ∈ c.ands) : kindOf c (t.a / 2) = ⟨#[97]⟩ ∧ 2 ≤ t.a ∧ t.a % 2 = 0 := by
  obtain ⟨-, -, -, hg, -⟩ := refOk_parts c h
  have hm := goodAll_mem c.max (own c) [] hg
  obtain ⟨A, B, hAB⟩ := List.append_of_mem (List.mem_map_of_mem (f := Tri.a) ht)
  have hown : own c = (c.ins ++ c.lats.map Tri.a ++ A) ++ t.a :: B := by unfold own; rw [hAB]; simp
  have hno := goodAll_split c.max t.a B (c.ins ++ c.lats.map Tri.a ++ A) [] (by rw [← hown]; exact hg)
  rw [List.nil_append] at hno
  have ha := hm t.a (by rw [hown]; simp)
  have same : ∀ l : List Int, (∀ x ∈ l, x ∈ own c) → t.a ∉ l → hasVar l (t.a / 2) = false := fun l hl hn => by
    cases hq : hasVar l (t.a / 2)
    · rfl
    · obtain ⟨x, hx, x0, xe⟩ := hasVar_mem l _ hq
      have := hm x (hl x hx)
      exfalso; apply hn
      have : x = t.a := by omega
      rw [← this]; exact hx
  have e1 := same c.ins (fun x hx => by unfold own; simp [hx]) (fun hx => hno (by simp [hx]))
  have e2 : hasTri c.lats (t.a / 2) = false := same (c.lats.map Tri.a) (fun x hx => by unfold own; simp only [List.mem_append]; exact .inr (.inl hx)) (fun hx => hno (by simp only [List.mem_append]; exact .inl (.inr hx)))
  have e3 : hasTri c.ands (t.a / 2) = true := by
    unfold hasTri hasVar
    rw [List.any_eq_true]
    exact ⟨t.a, List.mem_map_of_mem ht, by rw [decide_eq_true (show 0 ≤ t.a by omega)]; simp⟩
  refine ⟨?_, ha.1, ha.2.1⟩
  unfold kindOf
  rw [if_neg (by omega), e1, e2, e3]; rfl

theorem and_parts (c : Cir) (h : refOk c = true) (k : Nat) (hk : k < c.ands.length) : c.ands[k].b < c.ands[k].a ∧ c.ands[k].c < c.ands[k].a ∧ knownL c c.ands[k].b = true ∧ knownL c c.ands[k].c = true := by
  obtain ⟨-, -, ha, -⟩ := refOk_parts c h
  have := List.all_eq_true.1 ha k (List.mem_range.2 hk)
  unfold andAt at this
  rw [List.getElem?_eq_getElem hk] at this
  simp only [Bool.and_eq_true, decide_eq_true_eq] at this
  exact this.2
theorem known_kind (c : Cir) (l : Int) (h : knownL c l = true) : 0 ≤ l ∧ (kindOf c (l / 2)).toList.isEmpty = false := by
  unfold knownL at h
  simp only [Bool.and_eq_true, decide_eq_true_eq] at h
  exact ⟨h.1, by rw [kind_known, h.2]; rfl⟩

theorem chkV_refV (c : Cir) : chkV c = refV c := by unfold chkV refV; rw [chk_same]

set_option maxHeartbeats 4000000 in
set_option maxRecDepth 100000 in
theorem kinds_walk (c : Cir) (s : Places) (w : World) (h : CLies w w.heap.size c s) (hf : CFits c s) :
    Calls Try.prog 5 #[cirV c s] w fun e w' => e = .returned (.bool true) ∧ Below w.heap.size w w' := by
  have HB1 : Hid (Below w.heap.size w (w.alloc (.cells (cirC c s) 27))) := (Below.refl _ _).alloc (Nat.le_refl _) _
  have HS1 : Hid ((w.alloc (.cells (cirC c s) 27)).heap.size = w.heap.size + 1) := by unfold Hid; simp
  have CK := Lib.hid (fun w h => check_any c s w h hf)
  have RK := Lib.hid (fun w h => refcheck_any c s w h hf)
  have KD := Lib.hid (fun v w h => kind_any c s v w h hf)
  have H := Lib.hid h
  have la := hf.la
  have HFa := Lib.hid hf.ands
  clear h hf
  have hee := chkV_refV c
  rw [← hee] at RK
  clear hee
  have hcase : (chkV c = 0 ∧ refOk c = true) ∨ chkV c = 9 := by
    cases hq : chk c
    · exact .inr (chkV_no c hq)
    · exact .inl ⟨chkV_yes c hq, by rw [← chk_same]; exact hq⟩
  generalize chkV c = cv at *
  unfold cirV at *
  rw [show cirC c s = #[.int .i64 c.max, .slice s.ai c.ins.length s.ki, .slice s.al c.lats.length s.kl, .slice s.ao c.outs.length s.ko, .slice s.ab c.bads.length s.kb, .slice s.ac c.invs.length s.kc, .slice s.aa c.ands.length s.ka, .slice s.an c.names.length s.kn] from rfl] at CK RK KD ⊢
  go_enter Try.func5, Try.ntmps5
  go_wp2_with fail
  refine (alive_any _).mono ?_
  rintro e w1 ⟨rfl, hba⟩
  have hb1 : Below (w.heap.size + 1) (w.alloc (.cells (cirC c s) 27)) w1 := hba.mono (by simp)
  have hz1 : w.heap.size + 1 ≤ w1.heap.size := by have := hb1.size; rw [show (w.alloc (.cells (cirC c s) 27)).heap.size = w.heap.size + 1 from HS1.out] at this; exact this
  have hbw1 : Below w.heap.size w w1 := HB1.out.trans (hb1.mono (by omega))
  obtain ⟨e0, e1, e2, e3, e4, e5, e6, e7⟩ := ((Box.made w c s).keep hb1 (Nat.lt_succ_self _)).cells
  have D1 := Lib.hid (CK.out w1 ((H.out.below hbw1).more (by omega)))
  clear hba
  go_wp2_with fail
  refine D1.out.mono ?_
  rintro e w2 ⟨rfl, hbc⟩
  have hb2 := hb1.trans (hbc.mono hz1)
  have hz2 : w.heap.size + 1 ≤ w2.heap.size := Nat.le_trans hz1 hbc.size
  have hbw2 : Below w.heap.size w w2 := HB1.out.trans (hb2.mono (by omega))
  obtain ⟨f0, f1, f2, f3, f4, f5, f6, f7⟩ := ((Box.made w c s).keep hb2 (Nat.lt_succ_self _)).cells
  clear e0 e1 e2 e3 e4 e5 e6 e7
  rcases hcase with ⟨rfl, hok⟩ | rfl
  case inr =>
    have D2 := Lib.hid (RK.out w2 ((H.out.below hbw2).more (by omega)))
    go_wp2_with fail
    refine D2.out.mono ?_
    rintro e w3 ⟨rfl, hbr⟩
    go_wp2
    go_ret
    exact ⟨rfl, hbw2.trans (hbr.mono hbw2.size)⟩
  case inl =>
  have HOk := Lib.hid hok
  clear hok
  go_wp2
  go_loopw [3] (fun i wr => ∃ k : Nat, k ≤ c.ands.length ∧ i = .int .i64 k ∧ Below (w.heap.size + 1) (w.alloc (.cells (cirC c s) 27)) wr) (fun i _ => c.ands.length - (intOf i).toNat)
  case atStart => exact ⟨0, Nat.zero_le _, rfl, hb2⟩
  case round =>
    obtain ⟨k, hk, rfl, hb⟩ := hrel
    have hbw : Below w.heap.size w wr := HB1.out.trans (hb.mono (by omega))
    have hwz : w.heap.size + 1 ≤ wr.heap.size := by have := hb.size; rw [show (w.alloc (.cells (cirC c s) 27)).heap.size = w.heap.size + 1 from HS1.out] at this; exact this
    obtain ⟨e0, e1, e2, e3, e4, e5, e6, e7⟩ := ((Box.made w c s).keep hb (Nat.lt_succ_self _)).cells
    by_cases hlt : k < c.ands.length
    · obtain ⟨b, o, ha, hbb, hx0, hx1, hx2⟩ := (H.out.ands.below hbw).tri hlt
      have HAn : Hid (s.aa = some ⟨b, o, none⟩) := ha
      obtain ⟨⟨_, fx⟩, ⟨_, fy⟩, ⟨_, fz⟩⟩ := HFa.out c.ands[k] (List.getElem_mem _)
      obtain ⟨q1, q2, q3⟩ := kind_a c HOk.out c.ands[k] (List.getElem_mem _)
      obtain ⟨p1, p2, p3, p4⟩ := and_parts c HOk.out k hlt
      obtain ⟨r1, r2⟩ := known_kind c _ p3
      obtain ⟨r3, r4⟩ := known_kind c _ p4
      have HQ1 := Lib.hid q1
      have HR2 := Lib.hid r2
      have HR4 := Lib.hid r4
      clear q1 r2 r4 p3 p4
      rw [ha] at e6
      rw [ha] at KD
      rw [ha]
      clear ha
      generalize c.ands[k].a = x at *
      generalize c.ands[k].b = y at *
      generalize c.ands[k].c = z at *
      have hb5 := hb.alloc hwz (.cells #[.int .i64 x, .int .i64 y, .int .i64 z] 40)
      have hz5 : w.heap.size + 1 ≤ (wr.alloc (.cells #[.int .i64 x, .int .i64 y, .int .i64 z] 40)).heap.size := by simp; omega
      have hbw5 : Below w.heap.size w (wr.alloc (.cells #[.int .i64 x, .int .i64 y, .int .i64 z] 40)) := HB1.out.trans (hb5.mono (by omega))
      have D1 := KD.out (x / 2) _ ((H.out.below hbw5).more (by omega))
      rw [HQ1.out] at D1
      have HD1 := Lib.hid D1
      have HZ5 := Lib.hid hz5
      have hlt0 : w.heap.size < wr.heap.size := by omega
      clear D1 hz5
      have t1 : ((⟨#[97]⟩ : ByteArray).toList == [97]) = true := by rw [ByteArray.toList_eq]; rfl
      have t2 : ((⟨#[97]⟩ : ByteArray).toList != [97]) = false := by rw [ByteArray.toList_eq]; rfl
      have x0 : 0 ≤ x := by omega
      have HW5 := Lib.hid hbw5
      clear hbw5
      go_wp2_with fail
      refine HD1.out.mono ?_
      rintro e w6 ⟨rfl, hbk⟩
      obtain ⟨d0, d1, d2⟩ := tri_cells wr x y z 40 w6 hbk
      have hb6 := hb5.trans (hbk.mono HZ5.out)
      have hz6 : w.heap.size + 1 ≤ w6.heap.size := Nat.le_trans HZ5.out hbk.size
      obtain ⟨f0, f1, f2, f3, f4, f5, f6, f7⟩ := ((Box.made w c s).keep hb6 (Nat.lt_succ_self _)).cells
      rw [HAn.out] at f6
      have D2 := KD.out (y / 2) w6 ((H.out.below (HB1.out.trans (hb6.mono (by omega)))).more (by omega))
      obtain ⟨kd, hkd⟩ : ∃ kd, kd = kindOf c (y / 2) := ⟨_, rfl⟩
      rw [← hkd] at D2 HR2
      clear hkd
      have HD2 := Lib.hid D2
      clear D2
      have s1 := HR2.out
      go_wp2_with fail
      refine HD2.out.mono ?_
      rintro e w7 ⟨rfl, hbk2⟩
      obtain ⟨d3, d4, d5⟩ := tri_cells wr x y z 40 w7 (hbk.trans (hbk2.mono hbk.size))
      have hb7 := hb6.trans (hbk2.mono hz6)
      have hz7 : w.heap.size + 1 ≤ w7.heap.size := Nat.le_trans hz6 hbk2.size
      obtain ⟨g0, g1, g2, g3, g4, g5, g6, g7⟩ := ((Box.made w c s).keep hb7 (Nat.lt_succ_self _)).cells
      rw [HAn.out] at g6
      have D3 := KD.out (z / 2) w7 ((H.out.below (HB1.out.trans (hb7.mono (by omega)))).more (by omega))
      obtain ⟨ke, hke⟩ : ∃ ke, ke = kindOf c (z / 2) := ⟨_, rfl⟩
      rw [← hke] at D3 HR4
      clear hke
      have HD3 := Lib.hid D3
      clear D3
      have s2 := HR4.out
      go_wp2_with fail
      refine HD3.out.mono ?_
      rintro e w8 ⟨rfl, hbk3⟩
      obtain ⟨d6, d7, d8⟩ := tri_cells wr x y z 40 w8 ((hbk.trans (hbk2.mono hbk.size)).trans (hbk3.mono (Nat.le_trans hbk.size hbk2.size)))
      have hb8 := hb7.trans (hbk3.mono hz7)
      have l1 : ¬ x / 2 ≤ y / 2 := by omega
      have l2 : ¬ x / 2 ≤ z / 2 := by omega
      go_wp2
      go_roundw
      case rel => exact ⟨k + 1, by omega, by go_num, hb8⟩
      case measure => simp [intOf]; omega
    · obtain rfl : k = c.ands.length := by omega
      go_wp2
      go_ret
      exact ⟨rfl, hbw⟩
end Go.Proofs.Ytefhhldfelmnkaa.Cw
