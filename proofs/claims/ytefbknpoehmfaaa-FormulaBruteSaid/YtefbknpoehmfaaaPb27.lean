/- The setter's takes and loses, in memory. Condition: what the setter holds is as its invariant says; at most 2^18 variables, 2^20 clauses. The setter's listed, and the setter as Units lays it. Condition: at most 2^18 variables. -/
import Derived.Test.YtefbknpoehmfaaaPb26
namespace Go.Proofs.Ytefbknpoehmfaaa.For
open Go.ChangeShapes Go.WideShapes Go.ChangeAt Go.RowKit Go.Maps Circ Cw Cla Rep

/-- what a call on the setter leaves, where of the lists' slices nothing is told -/
def PostT (B : Nat) (W : World) (M : Mem) (r : Option St) (e : Ending) (W' : World) : Prop :=
  (r = none → e = .panicked (faultI 0) ∧ Below B W W') ∧
  ∀ s', r = some s' → e = .returned (.tuple #[]) ∧ (∃ M' : Mem, Mat W' B M' s' ∧ M'.R = M.R ∧ M'.bs = M.bs ∧ M'.bw = M.bw) ∧ Below B W W'
theorem nodup_lt {l : List Nat} {n : Nat} (h : l.Nodup) (hn : ∀ i ∈ l, i < n) : l.length ≤ n := by
  have := few_abs n (l.map fun (i : Nat) => ((i : Int) + 1)) (by
    rw [List.Nodup, List.pairwise_map]
    exact List.Pairwise.imp (fun {a b} h e => h (by omega)) (show List.Pairwise (· ≠ ·) l from h)) (fun y hy => by
    obtain ⟨x, hx, rfl⟩ := List.mem_map.1 hy
    have := hn x hx
    omega)
  rwa [List.length_map] at this
section
variable {V : Nat} {L : List (List Int)} {l : List Int}
theorem Inv.bounds {s : St} {done : Int → Prop} {x : Int} {pend : List Nat} (h : Inv V L l s done x pend) : s.ws.length ≤ L.length ∧ ∀ y, litN V y → (waitsOf s y).length ≤ s.ws.length := by
  constructor
  · rcases Nat.eq_zero_or_pos s.ws.length with h0 | h0
    · omega
    · obtain ⟨c, hc, -⟩ := h.good (s.ws.length - 1) _ (List.getElem?_eq_getElem (by omega))
      have := (List.getElem?_eq_some_iff.1 hc).1
      omega
  · intro y hy
    refine nodup_lt (h.nd y hy) fun i hi => ?_
    obtain ⟨w, hw, -⟩ := h.wait y hy i hi
    exact (List.getElem?_eq_some_iff.1 hw).1
/-- what another leaves as it was, nearly -/
theorem another_frame {s s' : St} {i : Nat} (h : anotherP s i = some s') (hi : i < s.ws.length) : s'.set.length = s.set.length ∧ s'.waits.length = s.waits.length ∧ s'.ws.length = s.ws.length ∧ s'.queue.length ≤ s.queue.length + 1 ∧ (∀ p, (s'.waits.getD p []).length ≤ (s.waits.getD p []).length + 1) ∧
    ∀ w, s.ws[i]? = some w → ∃ w', s'.ws[i]? = some w' ∧ w'.kept = w.kept ∧ (w'.other = w.other ∨ w'.other ∈ w.rest) ∧ ∀ y ∈ w'.rest, y ∈ w.rest := by
  unfold anotherP at h
  cases hf : findP s.set (s.ws.getD i default).kept (s.ws.getD i default).rest with
  | none =>
    rw [hf] at h
    simp only [setsP] at h
    split at h
    · cases h
    · split at h
      · cases h
      · split at h
        · obtain rfl := Option.some.inj h
          exact ⟨by simp, rfl, rfl, by simp, fun p => Nat.le_succ _, fun w hw => ⟨w, hw, rfl, .inl rfl, fun y hy => hy⟩⟩
        · obtain rfl := Option.some.inj h
          exact ⟨rfl, rfl, rfl, Nat.le_succ _, fun p => Nat.le_succ _, fun w hw => ⟨w, hw, rfl, .inl rfl, fun y hy => hy⟩⟩
  | some p =>
    obtain ⟨n, q⟩ := p
    rw [hf] at h
    obtain rfl := Option.some.inj h
    obtain ⟨f1, f2, f3, f4, f5⟩ := find_some hf
    refine ⟨rfl, by simp, by simp, Nat.le_succ _, fun p => ?_, fun w hw => ?_⟩
    · simp only
      by_cases hp : plc n = p
      · subst hp
        by_cases hl : plc n < s.waits.length
        · rw [getD_set_self _ _ hl]; simp [waitsOf]
        · rw [List.getD_eq_getElem?_getD, List.getElem?_eq_none_iff.2 (by simp; omega)]; simp
      · rw [getD_set_ne _ _ hp]; exact Nat.le_succ _
    · rw [getD_some hw] at f1 f4
      exact ⟨⟨(s.ws.getD i default).kept, n, q⟩, List.getElem?_set_self hi, by rw [getD_some hw], .inr f1, f4⟩
set_option maxHeartbeats 16000000 in
set_option maxRecDepth 100000 in
theorem takes_mem (hL : ∀ c ∈ L, ∀ y ∈ c, litN V y) (hV : V ≤ 262144) (hLL : L.length ≤ 1048576) (W : World) (B : Nat) (M : Mem) (s : St) (c : List Int) (A : Option Addr) (q : Nat) (h : Mat W B M s) (hB : B ≤ W.heap.size) (hI : Inv V L l s (fun _ => False) 0 []) (hc : L[s.ws.length]? = some c) (hA : ILies W B A c) (hq : c.length ≤ q) :
    Calls Try.prog 29 #[.pointer (some ⟨M.R, 0, none⟩), .slice A c.length q] W (PostT B W M (takesP s c)) := by
  obtain ⟨hb1, hb2⟩ := hI.bounds
  have hcL : c ∈ L := List.mem_of_getElem? hc
  have hsl := hI.base.sl
  have hqu := hI.base.few
  have hwl := hI.wl
  have hcl := hL c hcL
  obtain ⟨W1, hW1⟩ : ∃ y, W.alloc (.cells #[.int .i64 0, .int .i64 0, .slice A c.length q] 83) = y := ⟨_, rfl⟩
  have b1 : Below W.heap.size W W1 := by rw [← hW1]; exact (Below.refl _ _).alloc (Nat.le_refl _) _
  have HM1 := h.fresh hB c A q hA hq
  rw [hW1] at HM1
  have hbl : (M.bl ++ [W.heap.size]).getD s.ws.length 0 = W.heap.size := by rw [← h.bll]; simp
  have hgd : (newP s c).ws.getD s.ws.length default = ⟨0, 0, c⟩ := by unfold newP; simp
  have hil : s.ws.length < (newP s c).ws.length := by unfold newP; simp
  have A1 := another_mem W1 B { M with bl := M.bl ++ [W.heap.size] } (newP s c) s.ws.length HM1 (Nat.le_trans hB b1.size) hil (by show s.set.length ≤ _; omega) (by show s.queue.length ≤ _; omega) (fun y hy => by
    rw [hgd] at hy
    show y.natAbs < s.set.length
    rcases hy with rfl | hy
    · simp; omega
    · have := hcl y hy; unfold litN at this; omega) (fun x hx => by
    rw [hgd] at hx
    show plc x < s.waits.length
    rw [hwl]
    exact plc_lt (hcl x hx)) (fun x hx => by
    rw [hgd] at hx
    have := hb2 x (hcl x hx)
    unfold waitsOf at this
    show (s.waits.getD (plc x) []).length ≤ _
    omega)
  simp only [hbl] at A1
  have A1 := Lib.hid A1
  have HT : Hid (takesP s c = (anotherP (newP s c) s.ws.length).bind fun s1 => anotherP (keepP s1 s.ws.length) s.ws.length) := rfl
  have HB1 : Hid (Below B W W1) := b1.mono hB
  have HBS : Hid (B ≤ W1.heap.size) := Nat.le_trans hB b1.size
  rw [HT.out]
  clear HM1 b1
  cases hA1 : anotherP (newP s c) s.ws.length with
  | none =>
    rw [hA1] at A1
    go_enter Try.func29, Try.ntmps29
    go_wp2_with fail
    refine A1.out.mono ?_
    rintro e w2 ⟨h1, -⟩
    obtain ⟨rfl, h2⟩ := h1 rfl
    exact ⟨rfl, fun _ => ⟨rfl, HB1.out.trans h2⟩, (fun s' h => by cases h)⟩
  | some s1 =>
    rw [hA1] at A1
    obtain ⟨f1, f2, f3, f4, f5, f6⟩ := another_frame hA1 hil
    obtain ⟨w1, hw1, k1, k2, k3⟩ := f6 ⟨0, 0, c⟩ (by unfold newP; simp)
    have hoc : w1.other ∈ c ∨ w1.other = 0 := by
      rcases k2 with k2 | k2
      · exact .inr k2
      · exact .inl k2
    have hi1 : s.ws.length < s1.ws.length := by rw [f3]; exact hil
    go_enter Try.func29, Try.ntmps29
    go_wp2_with fail
    refine A1.out.mono ?_
    rintro e w2 ⟨-, h1⟩
    obtain ⟨rfl, ⟨M1, m1, m2, m3, m4, ⟨t, m5⟩, -⟩, h2⟩ := h1 s1 rfl
    simp only at m2 m3 m4 m5
    have hbl1 : M1.bl.getD s.ws.length 0 = W.heap.size := by
      rw [m5, List.append_assoc, ← h.bll, List.getD_eq_getElem?_getD, List.getElem?_append_right (Nat.le_refl _)]
      simp
    obtain ⟨A1x, q1, hbx, hre, hcq⟩ := (m1.wat _ _ hw1).box
    rw [hbl1] at hbx
    obtain ⟨c0, c1, c2⟩ := cells3 hbx
    have hz := thaw3 hbx 0
    obtain ⟨W3, hW3⟩ : ∃ y, w2.setCell ⟨W.heap.size, 0, none⟩ (.int .i64 w1.other) = y := ⟨_, rfl⟩
    have hbx3 : W3.heap[W.heap.size]? = some (.cells #[.int .i64 w1.other, .int .i64 w1.other, .slice A1x w1.rest.length q1] 83 (0, 0)) := by rw [← hW3, set_cells hbx]; rfl
    have b3 : Below B w2 W3 := by rw [← hW3]; exact (Below.refl _ _).setCell (by exact hB) _
    have HM3 := m1.turn hi1 ⟨w1.other, w1.other, w1.rest⟩ (W' := W3) (fun k hk => by rw [hbl1] at hk; rw [← hW3]; exact set_others _ _ _ _ k hk) b3 (by rw [hbl1]; exact ⟨A1x, q1, hbx3, hre.below b3, hcq⟩)
    have hkp : ({ s1 with ws := s1.ws.set s.ws.length ⟨w1.other, w1.other, w1.rest⟩ } : St) = keepP s1 s.ws.length := by unfold keepP; rw [getD_some hw1]
    rw [hkp] at HM3
    have hgd2 : (keepP s1 s.ws.length).ws.getD s.ws.length default = ⟨w1.other, w1.other, w1.rest⟩ := by
      rw [← hkp]
      exact getD_set_self _ _ hi1
    have A2 := another_mem W3 B M1 (keepP s1 s.ws.length) s.ws.length HM3 (Nat.le_trans HBS.out (Nat.le_trans h2.size b3.size)) (by rw [(keep_frame s1 _).2.2.2]; exact hi1) (by show s1.set.length ≤ _; rw [f1]; show s.set.length ≤ _; omega) (by show s1.queue.length ≤ _; have : (newP s c).queue.length = s.queue.length := rfl; omega) (fun y hy => by
      rw [hgd2] at hy
      show y.natAbs < s1.set.length
      rw [f1]
      show y.natAbs < s.set.length
      have key : y ∈ c ∨ y = 0 := by
        rcases hy with rfl | hy
        · exact hoc
        · exact .inl (k3 y hy)
      rcases key with hy | rfl
      · have := hcl y hy; unfold litN at this; omega
      · simp; omega) (fun x hx => by
      rw [hgd2] at hx
      show plc x < s1.waits.length
      rw [f2]
      show plc x < s.waits.length
      rw [hwl]
      exact plc_lt (hcl x (k3 x hx))) (fun x hx => by
      rw [hgd2] at hx
      have h1 := hb2 x (hcl x (k3 x hx))
      have h2 := f5 (plc x)
      have h3 : ((newP s c).waits.getD (plc x) []).length = (s.waits.getD (plc x) []).length := rfl
      unfold waitsOf at h1
      show (s1.waits.getD (plc x) []).length ≤ _
      omega)
    rw [hbl1, m2] at A2
    have A2 := Lib.hid A2
    have HBF : Hid (Below B W W3) := (HB1.out.trans h2).trans b3
    have HRR : Hid (M1.R = M.R ∧ M1.bs = M.bs ∧ M1.bw = M.bw) := ⟨m2, m3, m4⟩
    clear h1 h2 m1 m5 hbl1 hbx hre hbx3 b3 HM3 hkp hgd2 A1
    go_wp2_with fail
    refine A2.out.mono ?_
    rintro e w4 ⟨h3, h4⟩
    cases hA2 : anotherP (keepP s1 s.ws.length) s.ws.length with
    | none =>
      obtain ⟨rfl, h5⟩ := h3 hA2
      exact ⟨rfl, fun _ => ⟨rfl, HBF.out.trans h5⟩, (fun s' h => by rw [Option.bind_some, hA2] at h; cases h)⟩
    | some s2 =>
      obtain ⟨rfl, ⟨M2, n1, n2, n3, n4, -, -⟩, h5⟩ := h4 s2 hA2
      have HN := Lib.hid n1
      have HNR : Hid (M2.R = M.R ∧ M2.bs = M.bs ∧ M2.bw = M.bw) := ⟨n2.trans HRR.out.1, n3.trans HRR.out.2.1, n4.trans HRR.out.2.2⟩
      have HB5 : Hid (Below B W w4) := HBF.out.trans h5
      clear n1 n2 n3 n4 h3 h4 h5 A2
      go_wp2
      go_end0
      exact ⟨(fun h => by rw [Option.bind_some, hA2] at h; cases h), fun s' h => by
        rw [Option.bind_some, hA2] at h
        obtain rfl := Option.some.inj h
        exact ⟨rfl, ⟨M2, HN.out, HNR.out⟩, HB5.out⟩⟩
/-- the row of the clauses that wait for a literal, as it lies -/
theorem ptr_at {W : World} {B : Nat} {v : Value} {bl is : List Nat} (h : OwnC W B 81 1 v (ptrs bl is)) {k : Nat} (hk : k < is.length) : ∃ g q, v = .slice (some ⟨g, 0, none⟩) is.length q ∧ W.cell? ⟨g, k, none⟩ = some (.pointer (some ⟨bl.getD is[k] 0, 0, none⟩)) := by
  obtain ⟨h0, h1⟩ := h
  have hln : (ptrs bl is).length = is.length := by simp [ptrs]
  rcases h1 with ⟨_, h1⟩ | ⟨g, cap, cur, rfl, _, hh, _, _, _, ht⟩
  · omega
  · refine ⟨g, cap, by rw [hln], ?_⟩
    have e := congrArg (fun l : List Value => l[k]?) ht
    simp only [List.getElem?_take] at e
    rw [hln, if_pos (by omega)] at e
    have hf : (ptrs bl is).flatten[k]? = some (.pointer (some ⟨bl.getD is[k] 0, 0, none⟩)) := by
      have h2 := flatten_at 1 (by decide) (ptrs bl is) (fun y hy => by
        unfold ptrs at hy
        obtain ⟨z, -, rfl⟩ := List.mem_map.1 hy
        rfl) k
      rw [h2]
      simp [ptrs, hk, Nat.mod_one]
    rw [hf] at e
    simp [World.cell?, hh]
    simpa using e
set_option maxHeartbeats 16000000 in
set_option maxRecDepth 100000 in
theorem loses_mem (hL : ∀ c ∈ L, ∀ y ∈ c, litN V y) (hV : V ≤ 262144) (hLL : L.length ≤ 1048576) (W : World) (B : Nat) (M : Mem) (s : St) (done : Int → Prop) (x : Int) (h : Mat W B M s) (hB : B ≤ W.heap.size) (hI : Inv V L l s done x (waitsOf s x)) (hx : litN V x) (hxq : -x ∈ s.queue) (hdone : ∀ m, done m → -m ∈ s.queue) :
    Calls Try.prog 30 #[.pointer (some ⟨M.R, 0, none⟩), .int .i64 x] W (PostT B W M (losesP s x)) := by
  have hdl := hdone
  have hx0 : x ≠ 0 := by unfold litN at hx; omega
  obtain ⟨hb1, hb2⟩ := hI.bounds
  have hsl := hI.base.sl
  have hwl := hI.wl
  have hpx : plc x < s.waits.length := by rw [hwl]; exact plc_lt hx
  have hpv : plc x < M.vs.length := by rw [h.vl]; exact hpx
  obtain ⟨v, hv⟩ : ∃ v, M.vs[plc x]? = some v := ⟨_, List.getElem?_eq_getElem hpv⟩
  have hrow := h.row _ v hv
  obtain ⟨Av, qv, hveq, -, -, -⟩ := hrow.row (by decide) (fun y hy => by
    unfold ptrs at hy
    obtain ⟨z, -, rfl⟩ := List.mem_map.1 hy
    rfl)
  have hlen : (ptrs M.bl (s.waits.getD (plc x) [])).length = (waitsOf s x).length := by unfold ptrs waitsOf; simp
  rw [hlen] at hveq
  obtain ⟨c0, c1, c2⟩ := cells3 h.box
  have hcv : W.cell? ⟨M.bw, plc x, none⟩ = some (.slice Av (waitsOf s x).length qv) := by
    rw [← hveq]
    simp [World.cell?, h.wts, hv]
  have PL := Lib.hid (fun w => place_any x w (by unfold litN at hx; omega))
  obtain ⟨p, hp⟩ : ∃ p, plc x = p := ⟨_, rfl⟩
  have hpz : (p : Int) < (s.waits.length : Int) := by omega
  have hp0 : (0 : Int) ≤ (p : Int) := by omega
  obtain ⟨ks, hks⟩ : ∃ ks, waitsOf s x = ks := ⟨_, rfl⟩
  have hkl : ks.length ≤ 1048576 := by rw [← hks]; have := hb2 x hx; omega
  have HKB : Hid (∀ i ∈ ks, i < s.ws.length) := fun i hi => by
    rw [← hks] at hi
    obtain ⟨w, hw, -⟩ := hI.wait x hx i hi
    exact (List.getElem?_eq_some_iff.1 hw).1
  have HND : Hid ks.Nodup := by unfold Hid; rw [← hks]; exact hI.nd x hx
  have HLO : Hid (losesP s x = foldO (loseP x) ks s) := by unfold Hid losesP; rw [hks]
  rw [HLO.out]
  rw [hks] at hI hcv hveq
  rw [hp] at PL hcv
  have HI0 := Lib.hid hI
  have HM0 := Lib.hid h
  have HB0 := Lib.hid hB
  have HV : Hid (M.vs[plc x]? = some (.slice Av ks.length qv)) := by rw [← hveq]; exact hv
  have HKS := Lib.hid hks
  have HXQ := Lib.hid hxq
  have HDL := Lib.hid hdl
  have HL := Lib.hid hL
  have HX := Lib.hid hx
  have HSL := Lib.hid hsl
  have HWL := Lib.hid hwl
  clear hrow hlen hveq hv hpx hpv hI h hB hks hb1 hb2 hxq hdl hL hx hsl hwl hdone
  go_enter Try.func30, Try.ntmps30
  go_wp2
  go_quiet ((go_at_call 27; exact Calls.quiet_of_same ((PL.out _).mono (by rintro e w' ⟨rfl, rfl⟩; exact ⟨rfl, rfl⟩))))
  go_wp2
  go_loopw [15] (fun i wr => ∃ (k : Nat) (s1 : St) (M1 : Mem), k ≤ ks.length ∧ i = .int .i64 k ∧ foldO (loseP x) ks s = foldO (loseP x) (ks.drop k) s1 ∧ Inv V L l s1 done x (ks.drop k) ∧ Mat wr B M1 s1 ∧ (M1.R = M.R ∧ M1.bs = M.bs ∧ M1.bw = M.bw) ∧ M1.vs[plc x]? = some (.slice Av ks.length qv) ∧ waitsOf s1 x = ks ∧ s1.ws.length = s.ws.length ∧ (∃ t, s1.queue = s.queue ++ t) ∧ Below B W wr) (fun i _ => ks.length - (intOf i).toNat)
  case atStart => exact ⟨0, s, M, Nat.zero_le _, rfl, rfl, HI0.out, HM0.out.keep HB0.out (Below.drewN_self _ _ _), ⟨rfl, rfl, rfl⟩, HV.out, HKS.out, rfl, ⟨[], by simp⟩, Below.drewN_self _ _ _⟩
  case round =>
    obtain ⟨k, s1, M1, hk, rfl, hf, hI1, hM1, hR1, hv1, hw1, hl1, ⟨t1, ht1⟩, hb1⟩ := hrel
    by_cases hlt : k < ks.length
    · have hdr : ks.drop k = ks[k] :: ks.drop (k + 1) := List.drop_eq_getElem_cons hlt
      have hkz : (k : Int) < (ks.length : Int) := by omega
      rw [hdr] at hI1 hf
      obtain ⟨i, hi⟩ : ∃ i, ks[k] = i := ⟨_, rfl⟩
      have hrow := hM1.row _ _ hv1
      rw [show s1.waits.getD (plc x) [] = ks from hw1] at hrow
      obtain ⟨g, q2, hve, hcg⟩ := ptr_at hrow hlt
      simp only [Value.slice.injEq] at hve
      obtain ⟨rfl, -, rfl⟩ := hve
      rw [hi] at hI1 hf hcg
      have him : i < s1.ws.length := by rw [hl1, ← hi]; exact HKB.out _ (List.getElem_mem hlt)
      obtain ⟨w, hw⟩ : ∃ w, s1.ws[i]? = some w := ⟨_, List.getElem?_eq_getElem him⟩
      have hgd : s1.ws.getD i default = w := getD_some hw
      obtain ⟨c, hc, gd⟩ := hI1.good i w hw
      have hcl := HL.out c (List.mem_of_getElem? hc)
      obtain ⟨Ax, qx, hbx, hre, hcq⟩ := (hM1.wat i w hw).box
      obtain ⟨b, hb⟩ : ∃ b, M1.bl.getD i 0 = b := ⟨_, rfl⟩
      rw [hb] at hcg hbx
      obtain ⟨d0, d1, d2⟩ := cells3 hbx
      have hz := thaw3 hbx 0
      have hnd : (i :: ks.drop (k + 1)).Nodup := by
        rw [← hi, ← hdr]
        exact (List.drop_sublist k ks).nodup HND.out
      have ST := Lib.hid (lose_step HL.out (fun m hm => by rw [ht1]; exact List.mem_append_left _ (HDL.out m hm)) hI1 him (by rw [ht1]; exact List.mem_append_left _ HXQ.out) hx0 hnd)
      have HFO : Hid (foldO (loseP x) ks s = (loseP x s1 i).bind (foldO (loseP x) (ks.drop (k + 1)))) := hf
      have hqu := hI1.base.few
      have hsl1 := hI1.base.sl
      have hwl1 := hI1.wl
      obtain ⟨hb2, hb3⟩ := hI1.bounds
      have hBr : B ≤ wr.heap.size := Nat.le_trans HB0.out hb1.size
      have HBB0 := Lib.hid hb1
      have HR1 := Lib.hid hR1
      have HV1 := Lib.hid hv1
      have HW1 := Lib.hid hw1
      have HL1 := Lib.hid hl1
      have HT1 := Lib.hid ht1
      by_cases hk1 : w.kept = x
      · have hd : (w.kept == x) = true := by simpa using hk1
        have HLP : Hid (loseP x s1 i = anotherP (keepP s1 i) i) := by unfold Hid loseP; rw [hgd, if_pos hk1]
        obtain ⟨W2, hW2⟩ : ∃ y, wr.setCell ⟨b, 0, none⟩ (.int .i64 w.other) = y := ⟨_, rfl⟩
        have hbx2 : W2.heap[b]? = some (.cells #[.int .i64 w.other, .int .i64 w.other, .slice Ax w.rest.length qx] 83 (0, 0)) := by rw [← hW2, set_cells hbx]; rfl
        have hbge : B ≤ b := by rw [← hb]; exact hM1.geb _ (bl_at (by rw [hM1.bll]; exact him)).1
        have b2 : Below B wr W2 := by rw [← hW2]; exact (Below.refl _ _).setCell (by exact hbge) _
        have hM2 := hM1.turn him ⟨w.other, w.other, w.rest⟩ (W' := W2) (fun j hj => by rw [hb] at hj; rw [← hW2]; exact set_others _ _ _ _ j hj) b2 (by rw [hb]; exact ⟨Ax, qx, hbx2, hre.below b2, hcq⟩)
        have hkp : ({ s1 with ws := s1.ws.set i ⟨w.other, w.other, w.rest⟩ } : St) = keepP s1 i := by unfold keepP; rw [hgd]
        rw [hkp] at hM2
        have hgd2 : (keepP s1 i).ws.getD i default = ⟨w.other, w.other, w.rest⟩ := by
          rw [← hkp]
          exact getD_set_self _ _ him
        have AN := another_mem W2 B M1 (keepP s1 i) i hM2 (Nat.le_trans hBr b2.size) (by rw [(keep_frame s1 _).2.2.2]; exact him) (by show s1.set.length ≤ _; omega) (by show s1.queue.length ≤ _; omega) (fun y hy => by
          rw [hgd2] at hy
          show y.natAbs < s1.set.length
          have key : y ∈ c := by
            rcases hy with rfl | hy
            · exact gd.oc
            · exact gd.rc y hy
          have := hcl y key
          unfold litN at this; omega) (fun y hy => by
          rw [hgd2] at hy
          show plc y < s1.waits.length
          rw [hwl1]
          exact plc_lt (hcl y (gd.rc y hy))) (fun y hy => by
          rw [hgd2] at hy
          have h1 := hb3 y (hcl y (gd.rc y hy))
          unfold waitsOf at h1
          show (s1.waits.getD (plc y) []).length ≤ _
          omega)
        rw [hb, hR1.1] at AN
        have AN := Lib.hid AN
        have HBB : Hid (Below B W W2) := HBB0.out.trans b2
        clear hI1 hf hM1 hR1 hv1 hw1 hl1 ht1 hb1 hrow hre hbx hbx2 b2 hM2 hkp hgd2 hnd hdr HBB0 gd hcl hc hw hb hBr hb2 hb3
        go_wp2_with fail
        refine AN.out.mono ?_
        rintro e w3 ⟨h3, h4⟩
        cases hl3 : loseP x s1 i with
        | none =>
          rw [hl3] at ST
          obtain ⟨rfl, h5⟩ := h3 (by rw [← HLP.out]; exact hl3)
          exact ⟨rfl, fun _ => ⟨rfl, HBB.out.trans h5⟩, (fun s' h => by rw [HFO.out, hl3] at h; cases h)⟩
        | some s3 =>
          have st := ST.out
          rw [hl3] at st
          obtain ⟨st1, ⟨t3, st2⟩, st3, st4⟩ := st
          obtain ⟨rfl, ⟨M3, n1, n2, n3, n4, -, n5⟩, h5⟩ := h4 s3 (by rw [← HLP.out]; exact hl3)
          have HFN : Hid (foldO (loseP x) ks s = foldO (loseP x) (ks.drop (k + 1)) s3) := by unfold Hid; rw [HFO.out, hl3]; rfl
          have HI3 := Lib.hid st1
          have HM3 := Lib.hid n1
          have HR3 : Hid (M3.R = M.R ∧ M3.bs = M.bs ∧ M3.bw = M.bw) := ⟨n2.trans HR1.out.1, n3.trans HR1.out.2.1, n4.trans HR1.out.2.2⟩
          have HV3 : Hid (M3.vs[plc x]? = some (.slice (some ⟨g, 0, none⟩) ks.length qv)) := (n5 _ (by exact st4)).trans HV1.out
          have HW3 : Hid (waitsOf s3 x = ks) := st4.trans HW1.out
          have HL3 : Hid (s3.ws.length = s.ws.length) := st3.trans HL1.out
          have HQ3 : Hid (∃ t, s3.queue = s.queue ++ t) := ⟨t1 ++ t3, by rw [st2, HT1.out, List.append_assoc]⟩
          have HB5 : Hid (Below B W w3) := HBB.out.trans h5
          clear n1 n2 n3 n4 n5 h3 h4 h5 st1 st2 st3 st4 AN ST HFO HLP HBB HR1 HV1 HW1 HL1 HT1 hl3
          go_wp2
          go_roundw
          case rel => exact ⟨k + 1, s3, M3, by omega, by go_num, HFN.out, HI3.out, HM3.out, HR3.out, HV3.out, HW3.out, HL3.out, HQ3.out, HB5.out⟩
          case measure => simp [intOf]; omega
      · have hd : (w.kept == x) = false := by simpa using hk1
        have HLP : Hid (loseP x s1 i = anotherP s1 i) := by unfold Hid loseP; rw [hgd, if_neg hk1]
        have AN := another_mem wr B M1 s1 i hM1 hBr him (by omega) (by omega) (fun y hy => by
          rw [hgd] at hy
          have key : y ∈ c := by
            rcases hy with rfl | hy
            · exact gd.kc
            · exact gd.rc y hy
          have := hcl y key
          unfold litN at this; omega) (fun y hy => by
          rw [hgd] at hy
          rw [hwl1]
          exact plc_lt (hcl y (gd.rc y hy))) (fun y hy => by
          rw [hgd] at hy
          have h1 := hb3 y (hcl y (gd.rc y hy))
          unfold waitsOf at h1
          omega)
        rw [hb, hR1.1] at AN
        have AN := Lib.hid AN
        have HBB := HBB0
        clear hI1 hf hM1 hR1 hv1 hw1 hl1 ht1 hb1 hrow hre hbx hnd hdr HBB0 gd hcl hc hw hb hBr hb2 hb3
        go_wp2_with fail
        refine AN.out.mono ?_
        rintro e w3 ⟨h3, h4⟩
        cases hl3 : loseP x s1 i with
        | none =>
          rw [hl3] at ST
          obtain ⟨rfl, h5⟩ := h3 (by rw [← HLP.out]; exact hl3)
          exact ⟨rfl, fun _ => ⟨rfl, HBB.out.trans h5⟩, (fun s' h => by rw [HFO.out, hl3] at h; cases h)⟩
        | some s3 =>
          have st := ST.out
          rw [hl3] at st
          obtain ⟨st1, ⟨t3, st2⟩, st3, st4⟩ := st
          obtain ⟨rfl, ⟨M3, n1, n2, n3, n4, -, n5⟩, h5⟩ := h4 s3 (by rw [← HLP.out]; exact hl3)
          have HFN : Hid (foldO (loseP x) ks s = foldO (loseP x) (ks.drop (k + 1)) s3) := by unfold Hid; rw [HFO.out, hl3]; rfl
          have HI3 := Lib.hid st1
          have HM3 := Lib.hid n1
          have HR3 : Hid (M3.R = M.R ∧ M3.bs = M.bs ∧ M3.bw = M.bw) := ⟨n2.trans HR1.out.1, n3.trans HR1.out.2.1, n4.trans HR1.out.2.2⟩
          have HV3 : Hid (M3.vs[plc x]? = some (.slice (some ⟨g, 0, none⟩) ks.length qv)) := (n5 _ (by exact st4)).trans HV1.out
          have HW3 : Hid (waitsOf s3 x = ks) := st4.trans HW1.out
          have HL3 : Hid (s3.ws.length = s.ws.length) := st3.trans HL1.out
          have HQ3 : Hid (∃ t, s3.queue = s.queue ++ t) := ⟨t1 ++ t3, by rw [st2, HT1.out, List.append_assoc]⟩
          have HB5 : Hid (Below B W w3) := HBB.out.trans h5
          clear n1 n2 n3 n4 n5 h3 h4 h5 st1 st2 st3 st4 AN ST HFO HLP HBB HR1 HV1 HW1 HL1 HT1 hl3
          go_wp2
          go_roundw
          case rel => exact ⟨k + 1, s3, M3, by omega, by go_num, HFN.out, HI3.out, HM3.out, HR3.out, HV3.out, HW3.out, HL3.out, HQ3.out, HB5.out⟩
          case measure => simp [intOf]; omega
    · obtain rfl : k = ks.length := by omega
      have hd0 : ks.drop ks.length = [] := List.drop_length
      rw [hd0] at hf hI1
      have HF : Hid (foldO (loseP x) ks s = some s1) := hf
      have HM1 := Lib.hid hM1
      have HR1 := Lib.hid hR1
      have HBB := Lib.hid hb1
      clear hf hI1 hM1 hR1 hv1 hw1 hl1 ht1 hb1
      go_wp2
      go_end0
      exact ⟨(fun h => by rw [HF.out] at h; cases h), fun s' h => by
        rw [HF.out] at h
        obtain rfl := Option.some.inj h
        exact ⟨rfl, ⟨M1, HM1.out, HR1.out⟩, HBB.out⟩⟩
end
end Go.Proofs.Ytefbknpoehmfaaa.For
namespace Go.Proofs.Ytefbknpoehmfaaa.For
open Go.ChangeShapes Go.WideShapes Go.ChangeAt Go.RowKit Go.Maps Circ Cw Cla Rep

/-- what is set, by the first k variables -/
def listK (s : St) (k : Nat) : List Int := ((List.range k).map fun v => s.set.getD (v + 1) 0).filter (· ≠ 0)
theorem listK_succ (s : St) (k : Nat) : listK s (k + 1) = listK s k ++ if s.set.getD (k + 1) 0 = 0 then [] else [s.set.getD (k + 1) 0] := by
  unfold listK
  rw [List.range_succ, List.map_append, List.filter_append]
  congr 1
  rw [List.map_singleton]
  by_cases h : s.set.getD (k + 1) 0 = 0
  · rw [if_pos h, h]; rfl
  · rw [if_neg h]
    exact List.filter_cons_of_pos (decide_eq_true h)
theorem listK_len (s : St) (k : Nat) : (listK s k).length ≤ k := by
  unfold listK
  refine Nat.le_trans (List.length_filter_le _ _) ?_
  simp
set_option maxHeartbeats 16000000 in
set_option maxRecDepth 100000 in
theorem listed_mem (W : World) (B : Nat) (M : Mem) (s : St) (V : Nat) (h : Mat W B M s) (hs : s.set.length = V + 1) (hV : V ≤ 262144) :
    Calls Try.prog 31 #[.pointer (some ⟨M.R, 0, none⟩), .int .i64 (V : Int)] W fun e W' => (∃ v', e = .returned v' ∧ OwnI W' W.heap.size v' (listP V s)) ∧ Below W.heap.size W W' := by
  have HS := Lib.hid h.set
  have HBX := Lib.hid h.box
  have HSL := Lib.hid hs
  have HLP : Hid (listP V s = listK s V) := rfl
  rw [HLP.out]
  clear h HLP
  go_enter Try.func31, Try.ntmps31
  go_wp2
  go_loopw [5, 9] (fun t i wr => ∃ (k : Nat) (v1 : Value), k ≤ V ∧ i = .int .i64 k ∧ t = v1 ∧ OwnI wr W.heap.size v1 (listK s k) ∧ Below W.heap.size W wr) (fun _ i _ => V - (intOf i).toNat)
  case atStart => exact ⟨0, _, Nat.zero_le _, rfl, rfl, OwnI.nil _ _, Below.refl _ _⟩
  case round =>
    obtain ⟨k, v1, hk, rfl, hzv, how, hb⟩ := hrel
    obtain rfl := hzv.symm
    clear hzv
    have HOW := Lib.hid how
    have HB := Lib.hid hb
    by_cases hlt : k < V
    · have hkz : (k : Int) < (V : Int) := by omega
      have hbx := (hb.block _ (at_heap HBX.out)).trans HBX.out
      have hbs := (hb.block _ (at_heap HS.out)).trans HS.out
      obtain ⟨c0, c1, c2⟩ := cells3 hbx
      have hkl : k + 1 < s.set.length := by omega
      have hcz := nums_cell hbs hkl
      have HK1 := Lib.hid (listK_succ s k)
      have HKL := Lib.hid (listK_len s k)
      obtain ⟨z, hz⟩ : ∃ z, s.set.getD (k + 1) 0 = z := ⟨_, rfl⟩
      rw [hz] at hcz HK1
      obtain ⟨N, hN⟩ : ∃ N, s.set.length = N := ⟨_, rfl⟩
      rw [hN] at c0
      have hkn : (k : Int) + 1 < (N : Int) := by omega
      have hkn0 : (0 : Int) ≤ (k : Int) + 1 := by omega
      have hcc : W.heap.size ≤ wr.heap.size := hb.size
      clear how hb hbx hbs c1 c2 hz hkl hN
      by_cases hz0 : z = 0
      · have hd : (z != 0) = false := by simp [hz0]
        have HN : Hid (listK s (k + 1) = listK s k) := by
          unfold Hid
          rw [HK1.out, if_pos hz0, List.append_nil]
        clear hz0 HK1
        go_wp2
        go_roundw
        case rel => exact ⟨k + 1, _, by omega, by go_num, rfl, by rw [HN.out]; exact HOW.out, HB.out⟩
        case measure => simp [intOf]; omega
      · have hd : (z != 0) = true := by simpa using hz0
        have HN : Hid (listK s (k + 1) = listK s k ++ [z]) := by
          unfold Hid
          rw [HK1.out, if_neg hz0]
        have hba : Below wr.heap.size wr (wr.alloc (.cells #[.int .i64 z] 3)) := (Below.refl _ _).alloc (Nat.le_refl _) _
        have HBB := Lib.hid hba
        have HONE := Lib.hid (one_row wr z 3)
        have HLn : Hid (((listK s k).length + [z].length) * 8 ≤ 140737488355328) := by
          have := HKL.out
          unfold Hid
          simp only [List.length_singleton]
          omega
        have HCC := Lib.hid hcc
        clear hba hz0 HK1
        generalize listK s k = ys at *
        go_wp2_with (at_builtin; refine wpList_app _ rfl (.tmp 22) (.tmp 24) rfl W.heap.size _ v1 ys [z] rfl (HOW.out.keep HBB.out) _ 1 1 rfl rfl HONE.out HLn.out (Nat.le_trans HCC.out HBB.out.size) ?_)
        intro v2 w3 hown2 hg2 hloc2
        rw [← HN.out] at hown2
        have HO2 := Lib.hid hown2
        have HB3 : Hid (Below W.heap.size W w3) := (HB.out.trans (HBB.out.mono HCC.out)).grown hg2 (Nat.le_trans HCC.out HBB.out.size) fun j hj => (HOW.out.block_lt j hj).1
        clear hown2 hg2 hloc2
        go_wp2
        go_roundw
        case rel => exact ⟨k + 1, _, by omega, by go_num, rfl, HO2.out, HB3.out⟩
        case measure => simp [intOf]; omega
    · obtain rfl : k = V := by omega
      obtain ⟨A', q', rfl, hrow, hq1, hq2⟩ := how.row
      clear how hb hrow hq1 hq2
      go_wp2
      go_ret
      exact ⟨⟨_, rfl, HOW.out⟩, HB.out⟩
end Go.Proofs.Ytefbknpoehmfaaa.For
