/- The walk of AigWrites; conditions: the table of powers of ten is as it is laid, what is asked of it fits. -/
import Derived.Test.YtopjddmgejfalaaDoorPk23
import Derived.Test.YtopjddmgejfalaaDoorPk24
namespace Go.Proofs.YtopjddmgejfalaaDoor.Aig
open Go.ChangeShapes Go.WideShapes Go.ChangeAt Go.RowKit Go.Maps Dig Circ Cw Aag

theorem flat_snoc {α : Type} (P : List UInt8) (f : α → List UInt8) (xs : List α) (k : Nat) (h : k < xs.length) : P ++ ((xs.take (k + 1)).map f).flatten = (P ++ ((xs.take k).map f).flatten) ++ f xs[k] := by
  rw [List.take_succ_eq_append_getElem h, List.map_append, List.flatten_append]
  simp only [List.map_cons, List.map_nil, List.flatten_cons, List.flatten_nil, List.append_nil, List.append_assoc]
theorem flat_le {α : Type} (P : List UInt8) (f : α → List UInt8) (xs : List α) (k : Nat) : (P ++ ((xs.take k).map f).flatten).length ≤ (P ++ (xs.map f).flatten).length := by
  have e : xs.map f = (xs.take k).map f ++ (xs.drop k).map f := by rw [← List.map_append, List.take_append_drop]
  rw [e, List.flatten_append]
  simp only [List.length_append]
  omega
theorem join_cons (x : List UInt8) : ∀ (l : List (List UInt8)), joinL (x :: l) = x ++ (l.map fun y => 32 :: y).flatten
  | [] => by simp [joinL]
  | y :: l => by rw [joinL, join_cons y l]; simp
def spaced (x : Int) : List UInt8 := 32 :: Lib.itoa x
def litN (x : Int) : List UInt8 := Lib.itoa x ++ [10]
def latN (t : Tri) : List UInt8 := lat5 t ++ [10]
def namN (x : Nam) : List UInt8 := namL x ++ [10]
theorem head_spaced (c : Cir) : head5 c = [97, 105, 103] ++ ((headN c).map spaced).flatten := by
  unfold head5
  rw [join_cons]
  simp [nums, headN, spaced]
theorem lit_n (l : List Int) : nlL (l.map litL) = (l.map litN).flatten := by
  rw [nl_map]
  congr 1
theorem lat_n (l : List Tri) : nlL (l.map lat5) = (l.map latN).flatten := nl_map _ _
theorem nam_n (l : List Nam) : nlL (l.map namL) = (l.map namN).flatten := nl_map _ _
theorem lat_zero (x y : Int) : latN ⟨x, y, 0⟩ = Lib.itoa y ++ [10] := by simp [latN, lat5, nums, joinL]
theorem lat_more (x y z : Int) (h : z ≠ 0) : latN ⟨x, y, z⟩ = Lib.itoa y ++ 32 :: (Lib.itoa z ++ [10]) := by simp [latN, lat5, nums, joinL, h]
theorem nam_lit (kl tl : List UInt8) (n : Int) : namN ⟨⟨kl.toArray⟩, n, ⟨tl.toArray⟩⟩ = kl ++ (Lib.itoa n ++ 32 :: (tl ++ [10])) := by simp [namN, namL, joinL]
theorem oct_pieces (c : Cir) : oct5 c = [97, 105, 103] ++ ((headN c).map spaced).flatten ++ [10] ++ (c.lats.map latN).flatten ++ ((c.outs ++ (c.bads ++ c.invs)).map litN).flatten ++ (c.ands.map and5).flatten ++ (c.names.map namN).flatten := by
  rw [oct_parts, head_spaced, lat_n, nam_n, parts_all, lit_n, lit_n, lit_n]
  simp
theorem ba_list (b : ByteArray) : ∃ l : List UInt8, b = ⟨l.toArray⟩ := ⟨b.data.toList, bytes_eq5 _ _ rfl⟩

set_option maxHeartbeats 32000000 in
set_option maxRecDepth 100000 in
theorem writes_walk (c : Cir) (s : Places) (w : World) (h : CLies w w.heap.size c s) (hf : CFits c s) (htab : Tab w) :
    Calls Tryd.prog 4 #[cirV c s] w fun e w' => e = .returned (.bool true) ∧ Below w.heap.size w w' := by
  obtain ⟨WA, hWA⟩ : ∃ x, w.alloc (.cells #[.int .i64 c.max, .slice s.ai c.ins.length s.ki, .slice s.al c.lats.length s.kl, .slice s.ao c.outs.length s.ko, .slice s.ab c.bads.length s.kb, .slice s.ac c.invs.length s.kc, .slice s.aa c.ands.length s.ka, .slice s.an c.names.length s.kn] 27) = x := ⟨_, rfl⟩
  have bA : Below w.heap.size w WA := by rw [← hWA]; exact (Below.refl _ _).alloc (Nat.le_refl _) _
  have hA : WA.heap[w.heap.size]? = some (.cells (cirC c s) 27 (0, 0)) := by rw [← hWA]; exact Array.getElem?_push_size
  have TB : Hid (∀ x, Below w.heap.size w x → Tab x) := fun x hx => Tab.later htab hx
  have LW : Hid (∀ x, Below w.heap.size w x → CLies x x.heap.size c s) := fun x hx => (h.below hx).more hx.size
  have HF := Lib.hid hf
  have AL := Lib.hid (alive_any WA (TB.out _ bA))
  have HA := Lib.hid hA
  have BA := Lib.hid bA
  clear h hf htab bA hA
  rw [show cirV c s = .agg #[.int .i64 c.max, .slice s.ai c.ins.length s.ki, .slice s.al c.lats.length s.kl, .slice s.ao c.outs.length s.ko, .slice s.ab c.bads.length s.kb, .slice s.ac c.invs.length s.kc, .slice s.aa c.ands.length s.ka, .slice s.an c.names.length s.kn] from rfl]
  go_enter Tryd.func4, Tryd.ntmps4
  go_wp2_with fail
  refine AL.out.mono ?_
  rintro e w1 ⟨rfl, hb⟩
  have B1 : Hid (Below w.heap.size w w1) := BA.out.trans (hb.mono BA.out.size)
  have K1 : Hid (w1.heap[w.heap.size]? = some (.cells (cirC c s) 27 (0, 0))) := (hb.block _ (lt_of_block HA.out)).trans HA.out
  clear hb AL hWA HA BA
  obtain ⟨e0, e1, e2, e3, e4, e5, e6, e7⟩ := cells8 K1.out
  cases hov : ordV c
  · have WR := Lib.hid (write_no c s w1 (LW.out _ B1.out) HF.out hov)
    rw [show cirV c s = .agg #[.int .i64 c.max, .slice s.ai c.ins.length s.ki, .slice s.al c.lats.length s.kl, .slice s.ao c.outs.length s.ko, .slice s.ab c.bads.length s.kb, .slice s.ac c.invs.length s.kc, .slice s.aa c.ands.length s.ka, .slice s.an c.names.length s.kn] from rfl] at WR
    clear hov
    go_wp2_with fail
    refine WR.out.mono ?_
    rintro e w2 ⟨rfl, hb⟩
    have B2 : Hid (Below w.heap.size w w2) := B1.out.trans (hb.mono B1.out.size)
    clear hb WR e0 e1 e2 e3 e4 e5 e6 e7 K1
    go_wp2_with (go_at_call 9; refine (num_any _ _).mono ?_; rintro e w' ⟨rfl, rfl⟩)
    go_ret
    exact ⟨rfl, B2.out⟩
  · have WR := Lib.hid (write_yes c s w1 (LW.out _ B1.out) HF.out hov (TB.out _ B1.out))
    rw [show cirV c s = .agg #[.int .i64 c.max, .slice s.ai c.ins.length s.ki, .slice s.al c.lats.length s.kl, .slice s.ao c.outs.length s.ko, .slice s.ab c.bads.length s.kb, .slice s.ac c.invs.length s.kc, .slice s.aa c.ands.length s.ka, .slice s.an c.names.length s.kn] from rfl] at WR
    have hco : chk c = true ∧ ordB c = true := by unfold ordV at hov; simpa using hov
    have F5 := Lib.hid (fine5_of c hco.1 hco.2).d
    obtain ⟨-, z1, z2, z3, z4, z5, -, -, -⟩ := chk_fine c hco.1
    have SZ : Hid (c.outs.length ≤ 64 ∧ c.bads.length ≤ 64 ∧ c.invs.length ≤ 64) := ⟨z3, z4, z5⟩
    clear hov hco z1 z2 z3 z4 z5 TB
    go_wp2_with fail
    refine WR.out.mono ?_
    rintro e w2 ⟨⟨g, cap, rfl, how⟩, hb⟩
    have KB : Hid (∀ x, Below w2.heap.size w2 x → x.heap[w.heap.size]? = some (.cells (cirC c s) 27 (0, 0))) := fun x hx => (hx.block _ (Nat.lt_of_lt_of_le (lt_of_block K1.out) hb.size)).trans ((hb.block _ (lt_of_block K1.out)).trans K1.out)
    have FIN : Hid (∀ x, Below w2.heap.size w2 x → Below w.heap.size w x) := fun x hx => (B1.out.trans (hb.mono B1.out.size)).trans (hx.mono (Nat.le_trans B1.out.size hb.size))
    have LL : Hid (∀ x, Below w2.heap.size w2 x → CLies x x.heap.size c s) := fun x hx => LW.out x (FIN.out x hx)
    have CVX : Hid ((oct5 c).length ≤ 9223372036854775807 ∧ ∀ x, Below w2.heap.size w2 x → (convert 36 9 (.slice (some ⟨g, 0, none⟩) (oct5 c).length cap)).run Tryd.prog x = .ok (sv (oct5 c)) x) := by
      obtain ⟨h1, h2, h3, h4, h5, h6⟩ := row_cells how
      exact ⟨Nat.le_trans h2 h3, fun x hx => conv_cells h1 (fun i b hi => (hx.cell h5).trans (h6 i b hi))⟩
    have TOT : Hid (([97, 105, 103] ++ ((headN c).map spaced).flatten ++ [10] ++ (c.lats.map latN).flatten ++ ((c.outs ++ (c.bads ++ c.invs)).map litN).flatten ++ (c.ands.map and5).flatten ++ (c.names.map namN).flatten).length ≤ 9223372036854775807) := by
      unfold Hid
      rw [← oct_pieces]
      exact CVX.out.1
    clear hb how WR e0 e1 e2 e3 e4 e5 e6 e7 K1 B1 LW
    obtain ⟨e0, e1, e2, e3, e4, e5, e6, e7⟩ := cells8 (KB.out _ (Below.refl _ _))
    obtain ⟨W3, hW3⟩ : ∃ x, w2.alloc (.cells #[.int .i64 c.max, .int .i64 c.ins.length, .int .i64 c.lats.length, .int .i64 c.outs.length, .int .i64 c.ands.length, .int .i64 c.bads.length, .int .i64 c.invs.length] 3) = x := ⟨_, rfl⟩
    have BL : Hid (Below w2.heap.size w2 W3) := by rw [← hW3]; exact (Below.refl _ _).alloc (Nat.le_refl _) _
    have hg3 : W3.heap[w2.heap.size]? = some (.cells #[.int .i64 c.max, .int .i64 c.ins.length, .int .i64 c.lats.length, .int .i64 c.outs.length, .int .i64 c.ands.length, .int .i64 c.bads.length, .int .i64 c.invs.length] 3 (0, 0)) := by rw [← hW3]; exact Array.getElem?_push_size
    have ROW : Hid (∀ (k : Nat) (hk : k < (headN c).length) x, Below W3.heap.size W3 x → x.cell? ⟨w2.heap.size, k, none⟩ = some (.int .i64 (headN c)[k])) := fun k hk x hx => by
      rw [hx.cell (lt_of_block hg3)]
      match k, hk with
      | 0, _ => simp [World.cell?, hg3, headN]
      | 1, _ => simp [World.cell?, hg3, headN]
      | 2, _ => simp [World.cell?, hg3, headN]
      | 3, _ => simp [World.cell?, hg3, headN]
      | 4, _ => simp [World.cell?, hg3, headN]
      | 5, _ => simp [World.cell?, hg3, headN]
      | 6, _ => simp [World.cell?, hg3, headN]
      | k + 7, hk => exact absurd hk (by simp [headN])
    have HI : Hid (∀ x ∈ headN c, I64 x) := headNs_i64 c s HF.out
    clear hg3
    go_wp2_with (go_at_call 9; refine (num_any _ _).mono ?_; rintro e w' ⟨rfl, rfl⟩)
    clear hW3 e0 e1 e2 e3 e4 e5 e6 e7
    have HP : Hid ((([97, 105, 103] : List UInt8) ++ ((headN c).map spaced).flatten).length ≤ 9223372036854775807) := by have := TOT.out; unfold Hid; simp only [List.length_append] at this ⊢; omega
    go_loopw [7, 6] (fun i t wr => ∃ k : Nat, k ≤ 7 ∧ i = .int .i64 k ∧ t = sv (([97, 105, 103] : List UInt8) ++ (((headN c).take k).map spaced).flatten) ∧ Below W3.heap.size W3 wr) (fun i _ _ => 7 - (intOf i).toNat)
    case atStart => exact ⟨0, Nat.zero_le _, rfl, by simp [sv], Below.refl _ _⟩
    case round =>
      obtain ⟨k, hk, rfl, rfl, hb⟩ := hrel
      obtain ⟨sk, hsk⟩ : ∃ l, l = ([97, 105, 103] : List UInt8) ++ (((headN c).take k).map spaced).flatten := ⟨_, rfl⟩
      have HSK := Lib.hid hsk
      rw [← hsk]
      clear hsk
      have HBR := Lib.hid hb
      have HBW : Hid (Below w2.heap.size w2 wr) := BL.out.trans (hb.mono BL.out.size)
      clear hb
      obtain ⟨e0, e1, e2, e3, e4, e5, e6, e7⟩ := cells8 (KB.out _ HBW.out)
      by_cases hlt : k < 7
      · have HN := Lib.hid (flat_snoc (([97, 105, 103] : List UInt8)) spaced (headN c) k (by first | exact hlt | simpa using hlt))
        rw [← HSK.out] at HN
        have hlim : 7 ≤ 140737488355328 := by have h1 := HF.out.ll; have h2 := HF.out.la; have h3 := HF.out.ln; (try have h4 := TLN.out); first | decide | omega | (simp only [List.length_append]; omega)
        have hl2 := Nat.le_trans (flat_le (([97, 105, 103] : List UInt8)) spaced (headN c) (k + 1)) HP.out
        rw [HN.out] at hl2
        have HX := ROW.out k (by simpa [headN] using hlt) wr HBR.out
        have PR := Lib.hid (refprint_any ((headN c)[k]'(by simpa [headN] using hlt)) (HI.out _ (List.getElem_mem _)) wr)
        generalize (headN c)[k]'(by simpa [headN] using hlt) = y at *
        simp only [spaced, List.length_append, List.length_cons] at hl2
        rw [show spaced y = 32 :: Lib.itoa y from rfl] at HN
        unfold sv at PR ⊢
        generalize Lib.itoa y = ty at *
        go_wp2_with fail
        refine PR.out.mono ?_
        rintro e w4 ⟨rfl, hb4⟩
        have HB4 := Lib.hid (HBR.out.trans (hb4.mono HBR.out.size))
        clear hb4 PR
        go_wp2
        go_roundw
        case rel => exact ⟨k + 1, hlt, by go_num, by rw [HN.out]; exact congrArg Value.string (bytes_eq5 _ _ (by simp)), HB4.out⟩
        case measure => simp [intOf]; omega
      · have hkn : k = 7 := by omega
        have HE : Hid (sk = ([97, 105, 103] : List UInt8) ++ ((headN c).map spaced).flatten) := by
          unfold Hid
          rw [HSK.out, List.take_of_length_le (by rw [hkn]; first | exact Nat.le_refl _ | simp)]
        have hskl : sk.length ≤ 9223372036854775807 := by rw [HE.out]; exact HP.out
        clear HSK HP BL HBR
        obtain ⟨w3, rfl⟩ : ∃ x, x = wr := ⟨_, rfl⟩
        have BL := HBW
        clear HBW
        clear ROW HI
        have hs1 : sk.length + 1 ≤ 9223372036854775807 := by rw [HE.out]; have := TOT.out; simp only [List.length_append, List.length_cons, List.length_nil] at this ⊢; omega
        unfold sv
        go_wp2
        clear hkn hk hlt
        have HP : Hid ((([97, 105, 103] ++ ((headN c).map spaced).flatten ++ [10]) ++ ((c.lats).map latN).flatten).length ≤ 9223372036854775807) := by have := TOT.out; unfold Hid; simp only [List.length_append] at this ⊢; omega
        go_loopw [8, 6] (fun i t wr => ∃ k : Nat, k ≤ c.lats.length ∧ i = .int .i64 k ∧ t = sv (([97, 105, 103] ++ ((headN c).map spaced).flatten ++ [10]) ++ (((c.lats).take k).map latN).flatten) ∧ Below w3.heap.size w3 wr) (fun i _ _ => c.lats.length - (intOf i).toNat)
        case atStart => exact ⟨0, Nat.zero_le _, rfl, by unfold sv; exact congrArg Value.string (bytes_eq5 _ _ (by simp [HE.out])), Below.refl _ _⟩
        case round =>
          obtain ⟨k, hk, rfl, rfl, hb⟩ := hrel
          obtain ⟨sk, hsk⟩ : ∃ l, l = ([97, 105, 103] ++ ((headN c).map spaced).flatten ++ [10]) ++ (((c.lats).take k).map latN).flatten := ⟨_, rfl⟩
          have HSK := Lib.hid hsk
          rw [← hsk]
          clear hsk
          have HBR := Lib.hid hb
          have HBW : Hid (Below w2.heap.size w2 wr) := BL.out.trans (hb.mono BL.out.size)
          clear hb
          obtain ⟨e0, e1, e2, e3, e4, e5, e6, e7⟩ := cells8 (KB.out _ HBW.out)
          by_cases hlt : k < c.lats.length
          · have HN := Lib.hid (flat_snoc (([97, 105, 103] ++ ((headN c).map spaced).flatten ++ [10])) latN (c.lats) k (by first | exact hlt | simpa using hlt))
            rw [← HSK.out] at HN
            have hlim : c.lats.length ≤ 140737488355328 := by have h1 := HF.out.ll; have h2 := HF.out.la; have h3 := HF.out.ln; (try have h4 := TLN.out); first | decide | omega | (simp only [List.length_append]; omega)
            have hl2 := Nat.le_trans (flat_le (([97, 105, 103] ++ ((headN c).map spaced).flatten ++ [10])) latN (c.lats) (k + 1)) HP.out
            rw [HN.out] at hl2
            obtain ⟨b, o, ha, hbb, hx0, hx1, hx2⟩ := (LL.out _ HBW.out).lats.tri hlt
            have hfit := HF.out.lats c.lats[k] (List.getElem_mem _)
            rw [ha] at e2
            replace ha := Lib.hid ha
            generalize c.lats[k] = t at *
            obtain ⟨x, y, z⟩ := t
            obtain ⟨-, i3, i4⟩ := hfit
            simp only at i3 i4 hx0 hx1 hx2
            have PR := Lib.hid (refprint_any y i3 wr)
            have hone : sk.length + (Lib.itoa y).length ≤ 9223372036854775807 := by
              by_cases hz : z = 0
              · subst hz
                rw [lat_zero] at hl2
                simp only [List.length_append, List.length_cons] at hl2; omega
              · rw [lat_more _ _ _ hz] at hl2
                simp only [List.length_append, List.length_cons] at hl2; omega
            obtain ⟨ty, hty⟩ : ∃ l, l = Lib.itoa y := ⟨_, rfl⟩
            unfold sv at PR ⊢
            rw [← hty] at PR hone
            go_wp2_with fail
            refine PR.out.mono ?_
            rintro e w4 ⟨rfl, hb4⟩
            have HB4 := Lib.hid (HBR.out.trans (hb4.mono HBR.out.size))
            have HBX := Lib.hid (HBW.out.trans (hb4.mono HBW.out.size))
            have hx2' := (hb4.cell hbb).trans hx2
            clear e0 e1 e2 e3 e4 e5 e6 e7 hx0 hx1 hx2 hb4 PR
            obtain ⟨e0, e1, e2, e3, e4, e5, e6, e7⟩ := cells8 (KB.out _ HBX.out)
            rw [ha.out] at e2
            by_cases hz : z = 0
            · subst hz
              rw [lat_zero, ← hty] at HN hl2
              simp only [List.length_append, List.length_cons, List.length_nil] at hl2
              clear hty
              go_wp2
              go_roundw
              case rel => exact ⟨k + 1, hlt, by go_num, by rw [HN.out]; exact congrArg Value.string (bytes_eq5 _ _ (by simp)), HB4.out⟩
              case measure => simp [intOf]; omega
            · rw [lat_more _ _ _ hz, ← hty] at HN hl2
              simp only [List.length_append, List.length_cons, List.length_nil] at hl2
              clear hty
              have PR := Lib.hid (refprint_any z i4 w4)
              unfold sv at PR
              generalize Lib.itoa z = tz at *
              have hzz : (z == 0) = false := by simpa using hz
              go_wp2_with fail
              refine PR.out.mono ?_
              rintro e w5 ⟨rfl, hb5⟩
              have HB5 := Lib.hid (HB4.out.trans (hb5.mono HB4.out.size))
              clear hb5 PR
              go_wp2
              go_roundw
              case rel => exact ⟨k + 1, hlt, by go_num, by rw [HN.out]; exact congrArg Value.string (bytes_eq5 _ _ (by simp)), HB5.out⟩
              case measure => simp [intOf]; omega
          · have hkn : k = c.lats.length := by omega
            have HE : Hid (sk = ([97, 105, 103] ++ ((headN c).map spaced).flatten ++ [10]) ++ ((c.lats).map latN).flatten) := by
              unfold Hid
              rw [HSK.out, List.take_of_length_le (by rw [hkn]; first | exact Nat.le_refl _ | simp)]
            have hskl : sk.length ≤ 9223372036854775807 := by rw [HE.out]; exact HP.out
            clear HSK HP BL HBR
            obtain ⟨w6, rfl⟩ : ∃ x, x = wr := ⟨_, rfl⟩
            have BL := HBW
            clear HBW
            unfold sv
            go_wp2
            clear hkn hk hlt
            obtain ⟨v1, W1, v2, W2, v3, W3, hr1, hr2, hr3, hb1, hb2, hb3, how⟩ := told_runs w6.drew c.outs c.bads c.invs s.ao s.ab s.ac s.ko s.kb s.kc ((LL.out _ BL.out).outs.below (Below.refl _ _).drew) ((LL.out _ BL.out).bads.below (Below.refl _ _).drew) ((LL.out _ BL.out).invs.below (Below.refl _ _).drew) SZ.out
            have HR1 := Lib.hid hr1
            have HR2 := Lib.hid hr2
            have HR3 := Lib.hid hr3
            have HB1 := Lib.hid hb1
            have HB2 := Lib.hid hb2
            have HB3 := Lib.hid hb3
            have OW := Lib.hid how
            have HB0 : Hid (Below w6.heap.size w6 w6.drew) := (Below.refl _ _).drew
            have HCX : Hid (∀ x, Below w6.heap.size w6 x → x.cell? ⟨w.heap.size, 3, none⟩ = some (.slice s.ao c.outs.length s.ko) ∧ x.cell? ⟨w.heap.size, 4, none⟩ = some (.slice s.ab c.bads.length s.kb) ∧ x.cell? ⟨w.heap.size, 5, none⟩ = some (.slice s.ac c.invs.length s.kc)) := fun x hx => by
              obtain ⟨-, -, -, a, b, d, -, -⟩ := cells8 (KB.out _ (BL.out.trans (hx.mono BL.out.size)))
              exact ⟨a, b, d⟩
            clear hr1 hr2 hr3 hb1 hb2 hb3 how e0 e1 e2 e3 e4 e5 e6 e7
            refine wp_region_valsE (by kernel_rfl) (by kernel_rfl) toldM (by kernel_rfl) (by kernel_rfl)
              (Told w6.drew W1 W2 W3) (toldR w.heap.size (.slice s.ao c.outs.length s.ko) (.slice s.ab c.bads.length s.kb) (.slice s.ac c.invs.length s.kc) v1 v2 v3) (Told.start _ _ _ _) (fun jj f f' w w' hb hf h => told_stab jj  hf h) ?_ ?_
            · intro i oo d a' w' ho hd hun hdf hok hDE K hK hK0
              match i, ho, hd, hDE, hK, hK0, hun with
              | 0, ho, hd, hDE, hK, hK0, hun =>
                have e := (congrArg Oper.op (Option.some.inj ho)).symm
                obtain rfl := Option.some.inj ho
                exact wp_val (op_move a' w' 9 _ e) (hK _ _ (Below.refl _ _) (hok.read (by decide) (by decide) (by decide)) (fun f h1 _ => (h1 _ rfl).trans (hun 9 (by kernel_rfl))))
              | 1, ho, hd, hDE, hK, hK0, hun =>
                have e := (congrArg Oper.op (Option.some.inj ho)).symm
                obtain rfl := Option.some.inj ho
                exact wp_val (op_field_api_Circuit_3 a' w' _ 1 (hun 1 (by kernel_rfl)) _ e) (hK _ _ (Below.refl _ _) (hok.read (by decide) (by decide) (by decide)) (fun f h1 _ => h1 _ rfl))
              | 2, ho, hd, hDE, hK, hK0, hun =>
                have e := (congrArg Oper.op (Option.some.inj ho)).symm
                obtain rfl := Option.some.inj ho
                exact wp_val (op_load_Lint a' w' _ 99 _ (hDE 1 (by kernel_rfl)).2 (by have hc := HCX.out _ (HB0.out.trans (hok.bel HB1.out HB2.out HB3.out)); exact hc.1) _ e) (hK _ _ (Below.refl _ _) (hok.read (by decide) (by decide) (by decide)) (fun f h1 _ => h1 _ rfl))
              | 3, ho, hd, hDE, hK, hK0, hun =>
                have e := (congrArg Oper.op (Option.some.inj ho)).symm
                obtain rfl := Option.some.inj ho
                have hw' := hok.c0 (hd 3 (by kernel_rfl))
                rw [hw']
                exact wp_val (op_app a' _ _ 98 100 _ _ _ (hDE 0 (by kernel_rfl)).2 (hDE 2 (by kernel_rfl)).2 _ HR1.out e) (hK0 _ _ (hok.first (hd 6 (by kernel_rfl)) (hd 9 (by kernel_rfl))) (fun f h1 _ => h1 _ rfl) (fun j f hj hf hq => told_stab j hf hq))
              | 4, ho, hd, hDE, hK, hK0, hun =>
                have e := (congrArg Oper.op (Option.some.inj ho)).symm
                obtain rfl := Option.some.inj ho
                exact wp_val (op_field_api_Circuit_4 a' w' _ 1 (hun 1 (by kernel_rfl)) _ e) (hK _ _ (Below.refl _ _) (hok.read (by decide) (by decide) (by decide)) (fun f h1 _ => h1 _ rfl))
              | 5, ho, hd, hDE, hK, hK0, hun =>
                have e := (congrArg Oper.op (Option.some.inj ho)).symm
                obtain rfl := Option.some.inj ho
                exact wp_val (op_load_Lint a' w' _ 102 _ (hDE 4 (by kernel_rfl)).2 (by have hc := HCX.out _ (HB0.out.trans (hok.bel HB1.out HB2.out HB3.out)); exact hc.2.1) _ e) (hK _ _ (Below.refl _ _) (hok.read (by decide) (by decide) (by decide)) (fun f h1 _ => h1 _ rfl))
              | 6, ho, hd, hDE, hK, hK0, hun =>
                have e := (congrArg Oper.op (Option.some.inj ho)).symm
                obtain rfl := Option.some.inj ho
                have hw' := hok.c1 (hDE 3 (by kernel_rfl)).1 (hd 6 (by kernel_rfl))
                rw [hw']
                exact wp_val (op_app a' _ _ 101 103 _ _ _ (hDE 3 (by kernel_rfl)).2 (hDE 5 (by kernel_rfl)).2 _ HR2.out e) (hK0 _ _ (hok.second (hDE 3 (by kernel_rfl)).1 (hd 9 (by kernel_rfl))) (fun f h1 _ => h1 _ rfl) (fun j f hj hf hq => told_stab j hf hq))
              | 7, ho, hd, hDE, hK, hK0, hun =>
                have e := (congrArg Oper.op (Option.some.inj ho)).symm
                obtain rfl := Option.some.inj ho
                exact wp_val (op_field_api_Circuit_5 a' w' _ 1 (hun 1 (by kernel_rfl)) _ e) (hK _ _ (Below.refl _ _) (hok.read (by decide) (by decide) (by decide)) (fun f h1 _ => h1 _ rfl))
              | 8, ho, hd, hDE, hK, hK0, hun =>
                have e := (congrArg Oper.op (Option.some.inj ho)).symm
                obtain rfl := Option.some.inj ho
                exact wp_val (op_load_Lint a' w' _ 105 _ (hDE 7 (by kernel_rfl)).2 (by have hc := HCX.out _ (HB0.out.trans (hok.bel HB1.out HB2.out HB3.out)); exact hc.2.2) _ e) (hK _ _ (Below.refl _ _) (hok.read (by decide) (by decide) (by decide)) (fun f h1 _ => h1 _ rfl))
              | 9, ho, hd, hDE, hK, hK0, hun =>
                have e := (congrArg Oper.op (Option.some.inj ho)).symm
                obtain rfl := Option.some.inj ho
                have hw' := hok.c2 (hDE 6 (by kernel_rfl)).1 (hd 9 (by kernel_rfl))
                rw [hw']
                exact wp_val (op_app a' _ _ 104 106 _ _ _ (hDE 6 (by kernel_rfl)).2 (hDE 8 (by kernel_rfl)).2 _ HR3.out e) (hK0 _ _ (hok.third (hDE 6 (by kernel_rfl)).1) (fun f h1 _ => h1 _ rfl) (fun j f hj hf hq => told_stab j hf hq))
              | 10, ho, hd, hDE, hK, hK0, hun =>
                have e := (congrArg Oper.op (Option.some.inj ho)).symm
                obtain rfl := Option.some.inj ho
                exact wp_val (op_assign a' w' 107 _ e) (hK _ _ (Below.refl _ _) (hok.read (by decide) (by decide) (by decide)) (fun f h1 _ => (h1 _ rfl).trans (hDE 9 (by kernel_rfl)).2))
              | i + 11, ho, _, _, _, _, _ => exact absurd ho (by simp)
            · intro a' w5 hsz hdf hkt hok hR
              have HF3 := frame_sets [9, 98, 99, 100, 101, 102, 103, 104, 105, 106, 107] (by kernel_rfl) hsz hkt
              obtain ⟨d, hok, hall⟩ := hok
              have h9 : a'.tmps.getD 9 undef = v3 := hR 10 (by decide)
              have hw7 := hok.c3 (hall 9 (by decide))
              subst hw7
              obtain ⟨tm, df⟩ := a'
              obtain rfl : df = _ := hdf
              simp only [List.foldl_cons, List.foldl_nil] at HF3
              clear hkt hR hsz
              replace h9 : tm.getD 9 undef = _ := h9
              rw [h9] at HF3
              clear h9
              generalize tm.getD 98 undef = y98 at HF3
              generalize tm.getD 99 undef = y99 at HF3
              generalize tm.getD 100 undef = y100 at HF3
              generalize tm.getD 101 undef = y101 at HF3
              generalize tm.getD 102 undef = y102 at HF3
              generalize tm.getD 103 undef = y103 at HF3
              generalize tm.getD 104 undef = y104 at HF3
              generalize tm.getD 105 undef = y105 at HF3
              generalize tm.getD 106 undef = y106 at HF3
              generalize tm.getD 107 undef = y107 at HF3
              simp only [List.setIfInBounds_toArray, List.set_cons_succ, List.set_cons_zero] at HF3
              subst HF3
              have BL3 : Hid (Below w2.heap.size w2 w5) := BL.out.trans ((HB0.out.trans HB3.out).mono BL.out.size)
              clear BL HB0 HB1 HB2 HB3 HR1 HR2 HR3 hok hall HCX
              have BL := BL3
              clear BL3
              obtain ⟨A7, q7, rfl, hr7, hq7, hm7⟩ := OW.out.row
              have ROW7 : Hid (∀ x, Below w5.heap.size w5 x → LRow x w5.heap.size 1 A7 (ints (c.outs ++ (c.bads ++ c.invs)))) := fun x hx => hr7.below hx
              have ALLI : Hid (∀ x ∈ (c.outs ++ (c.bads ++ c.invs)), I64 x) := fun x hx => by
                rcases List.mem_append.1 hx with h | h
                · exact HF.out.outs x h
                · rcases List.mem_append.1 h with h | h
                  · exact HF.out.bads x h
                  · exact HF.out.invs x h
              have TLN : Hid ((c.outs ++ (c.bads ++ c.invs)).length ≤ 192) := by have := SZ.out; unfold Hid; simp only [List.length_append]; omega
              clear OW hr7 hq7 hm7 SZ
              generalize hTL : (c.outs ++ (c.bads ++ c.invs)) = tl at *
              have HTL := Lib.hid hTL
              clear hTL
              try unfold sv
              go_wp2
              have HP : Hid (((([97, 105, 103] ++ ((headN c).map spaced).flatten ++ [10]) ++ (c.lats.map latN).flatten) ++ ((tl).map litN).flatten).length ≤ 9223372036854775807) := by have := TOT.out; unfold Hid; simp only [List.length_append] at this ⊢; omega
              go_loopw [10, 6] (fun i t wr => ∃ k : Nat, k ≤ tl.length ∧ i = .int .i64 k ∧ t = sv ((([97, 105, 103] ++ ((headN c).map spaced).flatten ++ [10]) ++ (c.lats.map latN).flatten) ++ (((tl).take k).map litN).flatten) ∧ Below w5.heap.size w5 wr) (fun i _ _ => tl.length - (intOf i).toNat)
              case atStart => exact ⟨0, Nat.zero_le _, rfl, by unfold sv; exact congrArg Value.string (bytes_eq5 _ _ (by simp [HE.out])), Below.refl _ _⟩
              case round =>
                obtain ⟨k, hk, rfl, rfl, hb⟩ := hrel
                obtain ⟨sk, hsk⟩ : ∃ l, l = (([97, 105, 103] ++ ((headN c).map spaced).flatten ++ [10]) ++ (c.lats.map latN).flatten) ++ (((tl).take k).map litN).flatten := ⟨_, rfl⟩
                have HSK := Lib.hid hsk
                rw [← hsk]
                clear hsk
                have HBR := Lib.hid hb
                have HBW : Hid (Below w2.heap.size w2 wr) := BL.out.trans (hb.mono BL.out.size)
                clear hb
                obtain ⟨e0, e1, e2, e3, e4, e5, e6, e7⟩ := cells8 (KB.out _ HBW.out)
                by_cases hlt : k < tl.length
                · have HN := Lib.hid (flat_snoc ((([97, 105, 103] ++ ((headN c).map spaced).flatten ++ [10]) ++ (c.lats.map latN).flatten)) litN (tl) k (by first | exact hlt | simpa using hlt))
                  rw [← HSK.out] at HN
                  have hlim : tl.length ≤ 140737488355328 := by have h1 := HF.out.ll; have h2 := HF.out.la; have h3 := HF.out.ln; (try have h4 := TLN.out); first | decide | omega | (simp only [List.length_append]; omega)
                  have hl2 := Nat.le_trans (flat_le ((([97, 105, 103] ++ ((headN c).map spaced).flatten ++ [10]) ++ (c.lats.map latN).flatten)) litN (tl) (k + 1)) HP.out
                  rw [HN.out] at hl2
                  obtain ⟨b, o, ha, hbb, hx0⟩ := (ROW7.out _ HBR.out).int hlt
                  have hfit := ALLI.out _ (List.getElem_mem hlt)
                  generalize tl[k] = x at *
                  subst ha
                  have PR := Lib.hid (refprint_any x hfit wr)
                  rw [show litN x = Lib.itoa x ++ [10] from rfl] at HN hl2
                  simp only [List.length_append, List.length_cons, List.length_nil] at hl2
                  unfold sv at PR ⊢
                  generalize Lib.itoa x = ty at *
                  go_wp2_with fail
                  refine PR.out.mono ?_
                  rintro e w4 ⟨rfl, hb4⟩
                  have HB4 := Lib.hid (HBR.out.trans (hb4.mono HBR.out.size))
                  clear hb4 PR
                  go_wp2
                  go_roundw
                  case rel => exact ⟨k + 1, hlt, by go_num, by rw [HN.out]; exact congrArg Value.string (bytes_eq5 _ _ (by simp)), HB4.out⟩
                  case measure => simp [intOf]; omega
                · have hkn : k = tl.length := by omega
                  have HE : Hid (sk = (([97, 105, 103] ++ ((headN c).map spaced).flatten ++ [10]) ++ (c.lats.map latN).flatten) ++ ((tl).map litN).flatten) := by
                    unfold Hid
                    rw [HSK.out, List.take_of_length_le (by rw [hkn]; first | exact Nat.le_refl _ | simp)]
                  have hskl : sk.length ≤ 9223372036854775807 := by rw [HE.out]; exact HP.out
                  clear HSK HP BL HBR
                  obtain ⟨w7, rfl⟩ : ∃ x, x = wr := ⟨_, rfl⟩
                  have BL := HBW
                  clear HBW
                  clear ROW7 ALLI
                  unfold sv
                  go_wp2
                  clear hkn hk hlt
                  have HP : Hid ((((([97, 105, 103] ++ ((headN c).map spaced).flatten ++ [10]) ++ (c.lats.map latN).flatten) ++ (tl.map litN).flatten) ++ ((c.ands).map and5).flatten).length ≤ 9223372036854775807) := by have := TOT.out; unfold Hid; simp only [List.length_append] at this ⊢; omega
                  go_loopw [11, 6] (fun i t wr => ∃ k : Nat, k ≤ c.ands.length ∧ i = .int .i64 k ∧ t = sv (((([97, 105, 103] ++ ((headN c).map spaced).flatten ++ [10]) ++ (c.lats.map latN).flatten) ++ (tl.map litN).flatten) ++ (((c.ands).take k).map and5).flatten) ∧ Below w7.heap.size w7 wr) (fun i _ _ => c.ands.length - (intOf i).toNat)
                  case atStart => exact ⟨0, Nat.zero_le _, rfl, by unfold sv; exact congrArg Value.string (bytes_eq5 _ _ (by simp [HE.out])), Below.refl _ _⟩
                  case round =>
                    obtain ⟨k, hk, rfl, rfl, hb⟩ := hrel
                    obtain ⟨sk, hsk⟩ : ∃ l, l = ((([97, 105, 103] ++ ((headN c).map spaced).flatten ++ [10]) ++ (c.lats.map latN).flatten) ++ (tl.map litN).flatten) ++ (((c.ands).take k).map and5).flatten := ⟨_, rfl⟩
                    have HSK := Lib.hid hsk
                    rw [← hsk]
                    clear hsk
                    have HBR := Lib.hid hb
                    have HBW : Hid (Below w2.heap.size w2 wr) := BL.out.trans (hb.mono BL.out.size)
                    clear hb
                    obtain ⟨e0, e1, e2, e3, e4, e5, e6, e7⟩ := cells8 (KB.out _ HBW.out)
                    by_cases hlt : k < c.ands.length
                    · have HN := Lib.hid (flat_snoc (((([97, 105, 103] ++ ((headN c).map spaced).flatten ++ [10]) ++ (c.lats.map latN).flatten) ++ (tl.map litN).flatten)) and5 (c.ands) k (by first | exact hlt | simpa using hlt))
                      rw [← HSK.out] at HN
                      have hlim : c.ands.length ≤ 140737488355328 := by have h1 := HF.out.ll; have h2 := HF.out.la; have h3 := HF.out.ln; (try have h4 := TLN.out); first | decide | omega | (simp only [List.length_append]; omega)
                      have hl2 := Nat.le_trans (flat_le (((([97, 105, 103] ++ ((headN c).map spaced).flatten ++ [10]) ++ (c.lats.map latN).flatten) ++ (tl.map litN).flatten)) and5 (c.ands) (k + 1)) HP.out
                      rw [HN.out] at hl2
                      obtain ⟨b, o, ha, hbb, hx0, hx1, hx2⟩ := (LL.out _ HBW.out).ands.tri hlt
                      have hfit := HF.out.ands c.ands[k] (List.getElem_mem _)
                      have hdf := F5.out c.ands[k] (List.getElem_mem _)
                      rw [ha] at e6
                      replace ha := Lib.hid ha
                      generalize c.ands[k] = t at *
                      obtain ⟨x, y, z⟩ := t
                      obtain ⟨⟨d1, d2⟩, d3, d4⟩ := hdf
                      obtain ⟨⟨i1, i2⟩, ⟨i3, i4⟩, i5, i6⟩ := hfit
                      simp only at d1 d2 d3 d4 i1 i2 i3 i4 i5 i6 hx0 hx1 hx2
                      have K1 := fun (u : Wd wr.heap.size wr) => Calls.in_wd u (group_any (x - y).toNat (by omega) u.w) (Nat.le_refl _)
                      have K2 := fun (u : Wd wr.heap.size wr) => Calls.in_wd u (group_any (y - z).toNat (by omega) u.w) (Nat.le_refl _)
                      rw [Int.toNat_of_nonneg d1] at K1
                      rw [Int.toNat_of_nonneg d3] at K2
                      rw [show and5 ⟨x, y, z⟩ = grp (x - y).toNat ++ grp (y - z).toNat from rfl] at HN hl2
                      generalize grp (x - y).toNat = g1 at *
                      generalize grp (y - z).toNat = g2 at *
                      simp only [List.length_append] at hl2
                      unfold sv at K1 K2 ⊢
                      replace K1 := Lib.hid K1
                      replace K2 := Lib.hid K2
                      go_wp2
                      have u6 := Wd.cell e6
                      have y0 := Wd.cell hx0
                      have y1 := Wd.cell hx1
                      have y2 := Wd.cell hx2
                      refine wp_region_wd (by kernel_rfl) (by kernel_rfl) ?_
                      repeat (first | go_big_quiet_skip | (go_big_quiet_want; go_big_quiet_op; first | go_big_quiet_on | (apply Exists.intro; refine ⟨fun u => ?_, ?_⟩; (first | (go_at_call 14; with_reducible exact K1.out u) | (go_at_call 14; with_reducible exact K2.out u)); go_big_quiet_on)))
                      refine wpQuiet_nil ?_
                      intro w9 hw'
                      obtain ⟨⟨_, hb9⟩, hw''⟩ := hw'
                      subst hw''
                      have HB4 := Lib.hid (HBR.out.trans (hb9.mono HBR.out.size))
                      clear hb9 K1 K2 u6 y0 y1 y2
                      go_wp2
                      go_roundw
                      case rel => exact ⟨k + 1, hlt, by go_num, by rw [HN.out]; exact congrArg Value.string (bytes_eq5 _ _ (by simp)), HB4.out⟩
                      case measure => simp [intOf]; omega
                    · have hkn : k = c.ands.length := by omega
                      have HE : Hid (sk = ((([97, 105, 103] ++ ((headN c).map spaced).flatten ++ [10]) ++ (c.lats.map latN).flatten) ++ (tl.map litN).flatten) ++ ((c.ands).map and5).flatten) := by
                        unfold Hid
                        rw [HSK.out, List.take_of_length_le (by rw [hkn]; first | exact Nat.le_refl _ | simp)]
                      have hskl : sk.length ≤ 9223372036854775807 := by rw [HE.out]; exact HP.out
                      clear HSK HP BL HBR
                      obtain ⟨w8, rfl⟩ : ∃ x, x = wr := ⟨_, rfl⟩
                      have BL := HBW
                      clear HBW
                      unfold sv
                      go_wp2
                      clear hkn hk hlt
                      have HP : Hid (((((([97, 105, 103] ++ ((headN c).map spaced).flatten ++ [10]) ++ (c.lats.map latN).flatten) ++ (tl.map litN).flatten) ++ (c.ands.map and5).flatten) ++ ((c.names).map namN).flatten).length ≤ 9223372036854775807) := by have := TOT.out; unfold Hid; simp only [List.length_append] at this ⊢; omega
                      go_loopw [12, 6] (fun i t wr => ∃ k : Nat, k ≤ c.names.length ∧ i = .int .i64 k ∧ t = sv ((((([97, 105, 103] ++ ((headN c).map spaced).flatten ++ [10]) ++ (c.lats.map latN).flatten) ++ (tl.map litN).flatten) ++ (c.ands.map and5).flatten) ++ (((c.names).take k).map namN).flatten) ∧ Below w8.heap.size w8 wr) (fun i _ _ => c.names.length - (intOf i).toNat)
                      case atStart => exact ⟨0, Nat.zero_le _, rfl, by unfold sv; exact congrArg Value.string (bytes_eq5 _ _ (by simp [HE.out])), Below.refl _ _⟩
                      case round =>
                        obtain ⟨k, hk, rfl, rfl, hb⟩ := hrel
                        obtain ⟨sk, hsk⟩ : ∃ l, l = (((([97, 105, 103] ++ ((headN c).map spaced).flatten ++ [10]) ++ (c.lats.map latN).flatten) ++ (tl.map litN).flatten) ++ (c.ands.map and5).flatten) ++ (((c.names).take k).map namN).flatten := ⟨_, rfl⟩
                        have HSK := Lib.hid hsk
                        rw [← hsk]
                        clear hsk
                        have HBR := Lib.hid hb
                        have HBW : Hid (Below w2.heap.size w2 wr) := BL.out.trans (hb.mono BL.out.size)
                        clear hb
                        obtain ⟨e0, e1, e2, e3, e4, e5, e6, e7⟩ := cells8 (KB.out _ HBW.out)
                        by_cases hlt : k < c.names.length
                        · have HN := Lib.hid (flat_snoc ((((([97, 105, 103] ++ ((headN c).map spaced).flatten ++ [10]) ++ (c.lats.map latN).flatten) ++ (tl.map litN).flatten) ++ (c.ands.map and5).flatten)) namN (c.names) k (by first | exact hlt | simpa using hlt))
                          rw [← HSK.out] at HN
                          have hlim : c.names.length ≤ 140737488355328 := by have h1 := HF.out.ll; have h2 := HF.out.la; have h3 := HF.out.ln; (try have h4 := TLN.out); first | decide | omega | (simp only [List.length_append]; omega)
                          have hl2 := Nat.le_trans (flat_le ((((([97, 105, 103] ++ ((headN c).map spaced).flatten ++ [10]) ++ (c.lats.map latN).flatten) ++ (tl.map litN).flatten) ++ (c.ands.map and5).flatten)) namN (c.names) (k + 1)) HP.out
                          rw [HN.out] at hl2
                          obtain ⟨b, o, ha, hbb, hx0, hx1, hx2⟩ := (LL.out _ HBW.out).names.nam hlt
                          have hfit := HF.out.names c.names[k] (List.getElem_mem _)
                          rw [ha] at e7
                          replace ha := Lib.hid ha
                          generalize c.names[k] = nm at *
                          obtain ⟨kk, nn, tt⟩ := nm
                          obtain ⟨kl, rfl⟩ := ba_list kk
                          obtain ⟨tl, rfl⟩ := ba_list tt
                          have hni : I64 nn := hfit.2.1
                          have KP := Lib.hid (fun (u : Wd wr.heap.size wr) => Calls.in_wd u (refprint_any nn hni u.w) (Nat.le_refl _))
                          rw [nam_lit] at HN hl2
                          simp only [List.length_append, List.length_cons, List.length_nil] at hl2 hx0 hx1 hx2
                          unfold sv at KP ⊢
                          generalize Lib.itoa nn = ty at *
                          clear hfit hni
                          go_wp2
                          have u7 := Wd.cell e7
                          have y0 := Wd.cell hx0
                          have y1 := Wd.cell hx1
                          have y2 := Wd.cell hx2
                          refine wp_region_wd (by kernel_rfl) (by kernel_rfl) ?_
                          repeat (first | go_big_quiet_skip | (go_big_quiet_want; go_big_quiet_op; first | go_big_quiet_on | (apply Exists.intro; refine ⟨fun u => ?_, ?_⟩; (first | (go_at_call 13; with_reducible exact KP.out u)); go_big_quiet_on)))
                          refine wpQuiet_nil ?_
                          intro w9 hw'
                          obtain ⟨⟨_, hb9⟩, hw''⟩ := hw'
                          subst hw''
                          have HB4 := Lib.hid (HBR.out.trans (hb9.mono HBR.out.size))
                          clear hb9 KP u7 y0 y1 y2
                          go_wp2
                          go_roundw
                          case rel => exact ⟨k + 1, hlt, by go_num, by rw [HN.out]; exact congrArg Value.string (bytes_eq5 _ _ (by simp)), HB4.out⟩
                          case measure => simp [intOf]; omega
                        · have hkn : k = c.names.length := by omega
                          have HE : Hid (sk = (((([97, 105, 103] ++ ((headN c).map spaced).flatten ++ [10]) ++ (c.lats.map latN).flatten) ++ (tl.map litN).flatten) ++ (c.ands.map and5).flatten) ++ ((c.names).map namN).flatten) := by
                            unfold Hid
                            rw [HSK.out, List.take_of_length_le (by rw [hkn]; first | exact Nat.le_refl _ | simp)]
                          have hskl : sk.length ≤ 9223372036854775807 := by rw [HE.out]; exact HP.out
                          clear HSK HP BL HBR
                          obtain ⟨wL, rfl⟩ : ∃ x, x = wr := ⟨_, rfl⟩
                          have BL := HBW
                          clear HBW
                          have HO : Hid (sk = oct5 c) := by unfold Hid; rw [HE.out, oct_pieces, HTL.out]
                          have cv := CVX.out.2 _ BL.out
                          rw [← HO.out] at cv
                          unfold sv at cv ⊢
                          rw [← HO.out]
                          go_wp2
                          go_ret
                          exact ⟨rfl, FIN.out _ BL.out⟩
              

end Go.Proofs.YtopjddmgejfalaaDoor.Aig
