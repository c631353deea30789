/- The walk of strash.needed; no condition but that there is not too much. The walks of slices.Clone over a circuit's lists; no condition. A region that draws its order, by what holds behind each of its operations whatever came before it; no condition. -/
import Derived.Test.YtpaneggajjgdlaaPk12
import Derived.Test.YtpaneggajjgdlaaPk10
import Derived.Test.YtpaneggajjgdlaaPk14
import Derived.Test.YtpaneggajjgdlaaPk09
import Derived.Lib.SliceRun
import Derived.Test.YtpaneggajjgdlaaPk08
namespace Go.Proofs.Ytpaneggajjgdlaa.Str
open Go.ChangeShapes Go.WideShapes Go.ChangeAt Go.RowKit Go.Maps Circ Cw

theorem those_take (P : Int → Prop) [DecidablePred P] (l : List Tri) (k : Nat) (h : k < l.length) : those P (l.take (k + 1)) = if P (cnt l[k].a / 2) then those P (l.take k) ++ [l[k]] else those P (l.take k) := by
  rw [List.take_succ_eq_append_getElem h, those_snoc]
theorem those_len (P : Int → Prop) [DecidablePred P] (l : List Tri) (k : Nat) : (those P (l.take k)).length ≤ k := by
  have h1 := (those_sub P (l.take k)).length_le
  rw [List.length_take] at h1
  omega
theorem tri_three {w : World} {g : Nat} {T : TypeId} (x y z : Value) (h : w.heap[g]? = some (.cells #[x, y, z] T (0, 0))) : w.cell? ⟨g, 0, none⟩ = some x ∧ w.cell? ⟨g, 1, none⟩ = some y ∧ w.cell? ⟨g, 2, none⟩ = some z := two_cells h

theorem _root_.Go.Proofs.Ytpaneggajjgdlaa.Cw.OwnC.mono_base {w : World} {base C : Nat} {e : TypeId} {m : Nat} {v : Value} {xs : List (List Value)} (h : OwnC w base e m v xs) (hC : C ≤ base) : OwnC w C e m v xs := by
  obtain ⟨h0, h⟩ := h
  refine ⟨h0, ?_⟩
  rcases h with h | ⟨g, cap, cur, hv, hg, r⟩
  · exact .inl h
  · exact .inr ⟨g, cap, cur, hv, Nat.le_trans hC hg, r⟩
def upTo (tl : List Int) (l : List Tri) (k : Nat) : List Int := tl ++ (l.take k).map Tri.b
theorem upTo_snoc (tl : List Int) (l : List Tri) (k : Nat) (h : k < l.length) : upTo tl l (k + 1) = upTo tl l k ++ [l[k].b] := by
  unfold upTo
  rw [List.take_succ_eq_append_getElem h, List.map_append, List.append_assoc]
  rfl
theorem upTo_len (tl : List Int) (l : List Tri) (k : Nat) : (upTo tl l k).length ≤ tl.length + k := by
  unfold upTo
  rw [List.length_append, List.length_map, List.length_take]; omega
open Classical in
set_option maxHeartbeats 16000000 in
set_option maxRecDepth 100000 in
theorem needed_any (c : Cir) (s : Places) (w : World) (h : CLies w w.heap.size c s) (hf : CFits c s) (hz : c.outs.length ≤ 64 ∧ c.bads.length ≤ 64 ∧ c.invs.length ≤ 64 ∧ c.lats.length ≤ 64 ∧ c.ands.length ≤ 4097) :
    Calls Try.prog 35 #[cirV c s] w fun e w' => (∃ v, e = .returned v ∧ OwnC w' w.heap.size 43 3 v (tris (those (Hangs c.ands (toldL c)) c.ands))) ∧ Below w.heap.size w w' := by
  obtain ⟨z1, z2, z3, z4, z5⟩ := hz
  obtain ⟨WA, hWA⟩ : ∃ x, w.alloc (.cells (cirC c s) 27) = x := ⟨_, rfl⟩
  obtain ⟨W2, hW2⟩ : ∃ x, WA.alloc (.cells #[.slice s.ao c.outs.length s.ko, .slice s.ab c.bads.length s.kb, .slice s.ac c.invs.length s.kc] 22) = x := ⟨_, rfl⟩
  have gA : WA.heap[w.heap.size]? = some (.cells (cirC c s) 27 (0, 0)) := by rw [← hWA]; exact Array.getElem?_push_size
  have sA : WA.heap.size = w.heap.size + 1 := by rw [← hWA]; simp
  have s2 : W2.heap.size = WA.heap.size + 1 := by rw [← hW2]; simp
  have bA : Below w.heap.size w WA := by rw [← hWA]; exact (Below.refl _ _).alloc (Nat.le_refl _) _
  have b2 : Below w.heap.size w W2 := by rw [← hW2]; exact bA.alloc bA.size _
  have gR : W2.heap[WA.heap.size]? = some (.cells #[.slice s.ao c.outs.length s.ko, .slice s.ab c.bads.length s.kb, .slice s.ac c.invs.length s.kc] 22 (0, 0)) := by rw [← hW2]; exact Array.getElem?_push_size
  have gB : W2.heap[w.heap.size]? = some (.cells (cirC c s) 27 (0, 0)) := by
    have : W2.heap[w.heap.size]? = WA.heap[w.heap.size]? := by rw [← hW2]; exact Below.heap_alloc _ _ _ (by omega)
    exact this.trans gA
  obtain ⟨f0, f1, f2⟩ := tri_three _ _ _ gR
  have KB : Hid (∀ x, Below W2.heap.size W2 x → x.heap[w.heap.size]? = some (.cells (cirC c s) 27 (0, 0))) := fun x hx => (hx.block _ (by omega)).trans gB
  have BW : Hid (∀ x, Below W2.heap.size W2 x → Below w.heap.size w x) := fun x hx => b2.trans (hx.mono (by omega))
  have LL : Hid (∀ x, Below W2.heap.size W2 x → CLies x x.heap.size c s) := fun x hx => (h.below (BW.out x hx)).more (BW.out x hx).size
  have L2 := h.below b2
  have CC := Lib.hid (concat_any [⟨s.ao, c.outs, s.ko⟩, ⟨s.ab, c.bads, s.kb⟩, ⟨s.ac, c.invs, s.kc⟩] WA.heap.size 3 W2 (fun i hi => by
      match i, hi with
      | 0, _ => exact f0
      | 1, _ => exact f1
      | 2, _ => exact f2
      | i + 3, hi => exact absurd hi (by simp)) (fun _ => by omega) (fun r hr => by
      simp only [List.mem_cons, List.not_mem_nil, or_false] at hr
      rcases hr with rfl | rfl | rfl
      · exact L2.outs.more b2.size
      · exact L2.bads.more b2.size
      · exact L2.invs.more b2.size) (by simp) (by simp [all3]; omega))
  simp only [List.length_cons, List.length_nil, Nat.zero_add, Nat.reduceAdd] at CC
  have HTL : Hid (all3 [⟨s.ao, c.outs, s.ko⟩, ⟨s.ab, c.bads, s.kb⟩, ⟨s.ac, c.invs, s.kc⟩] ++ c.lats.map Tri.b = toldL c) := by unfold Hid all3 toldL; simp
  have HAL : Hid ((all3 [⟨s.ao, c.outs, s.ko⟩, ⟨s.ab, c.bads, s.kb⟩, ⟨s.ac, c.invs, s.kc⟩]).length ≤ 192 ∧ ∀ x ∈ all3 [⟨s.ao, c.outs, s.ko⟩, ⟨s.ab, c.bads, s.kb⟩, ⟨s.ac, c.invs, s.kc⟩], I64 x) := by
    refine ⟨by simp [all3]; omega, fun x hx => ?_⟩
    simp only [all3, List.map_cons, List.map_nil, List.flatten_cons, List.flatten_nil, List.append_nil, List.mem_append] at hx
    rcases hx with hx | hx | hx
    · exact hf.outs x hx
    · exact hf.bads x hx
    · exact hf.invs x hx
  generalize all3 [⟨s.ao, c.outs, s.ko⟩, ⟨s.ab, c.bads, s.kb⟩, ⟨s.ac, c.invs, s.kc⟩] = tl at *
  have HF := Lib.hid hf
  have HZ : Hid (c.lats.length ≤ 64 ∧ c.ands.length ≤ 4097) := ⟨z4, z5⟩
  obtain ⟨e0, e1, e2, e3, e4, e5, e6, e7⟩ := ((Box.made w c s)).cells
  rw [hWA] at e0 e1 e2 e3 e4 e5 e6 e7
  clear h hf gA sA s2 bA b2 gR gB f0 f1 f2 L2 z1 z2 z3 z4 z5
  unfold cirV
  unfold cirC at hWA ⊢
  go_enter Try.func35, Try.ntmps35
  go_wp2_with fail
  refine CC.out.mono ?_
  rintro e w3 ⟨⟨v3, rfl, how⟩, hb⟩
  have HO3 := Lib.hid how
  have HB3 := Lib.hid hb
  clear how hb CC e0 e1 e2 e3 e4 e5 e6 e7 hWA hW2
  have KB3 := KB.out _ HB3.out
  have e2 : w3.cell? ⟨w.heap.size, 2, none⟩ = some (.slice s.al c.lats.length s.kl) := by simp [World.cell?, KB3, cirC]
  clear KB3
  go_wp2
  go_loopw [23, 3] (fun i q wr => ∃ (k : Nat) (v : Value), k ≤ c.lats.length ∧ i = .int .i64 k ∧ q = v ∧ OwnI wr W2.heap.size v (upTo tl c.lats k) ∧ Below W2.heap.size W2 wr) (fun i _ _ => c.lats.length - (intOf i).toNat)
  case atStart => exact ⟨0, v3, Nat.zero_le _, rfl, rfl, by unfold upTo; simpa using HO3.out, HB3.out⟩
  case round =>
    obtain ⟨k, v, hk, rfl, hzv, how, hb⟩ := hrel
    obtain rfl := hzv.symm
    have HOW := Lib.hid how
    have HBR := Lib.hid hb
    have hkl := HZ.out.1
    clear how hb
    by_cases hlt : k < c.lats.length
    · obtain ⟨b, o, ha, hbb, hx0, hx1, hx2⟩ := (LL.out _ HBR.out).lats.tri hlt
      have hfit := HF.out.lats c.lats[k] (List.getElem_mem _)
      have HS := Lib.hid (upTo_snoc tl c.lats k hlt)
      generalize c.lats[k] = t at *
      obtain ⟨x, y, z⟩ := t
      simp only at hx0 hx1 hx2
      obtain ⟨W4, hW4⟩ : ∃ q, wr.alloc (.cells #[.int .i64 0, .int .i64 0, .int .i64 0] 39) = q := ⟨_, rfl⟩
      obtain ⟨g5, hg5⟩ : ∃ q, wr.heap.size = q := ⟨_, rfl⟩
      have hbz : ∀ x, But wr.heap.size W4 x → Below wr.heap.size wr x := fun x hx => hx.below (by rw [← hW4]; exact (Below.refl _ _).alloc (Nat.le_refl _) _) (Nat.le_refl _)
      have g4 : W4.heap[wr.heap.size]? = some (.cells #[.int .i64 0, .int .i64 0, .int .i64 0] 39 (0, 0)) := by rw [← hW4]; exact Array.getElem?_push_size
      rw [hg5] at g4
      have hbz2 : ∀ x, But g5 W4 x → Below wr.heap.size wr x := fun x hx => hbz x (by rw [hg5]; exact hx)
      obtain ⟨Y1, Y2, W5, u0, u1, u2, ⟨s0, q0, r0⟩, ⟨s1, q1, r1⟩, ⟨s2, q2, r2⟩, E5, FC⟩ := store3 g4 rfl (.int .i64 x) (.int .i64 y) (.int .i64 z)
      have b5 : Below wr.heap.size wr W5 := hbz2 W5 FC
      obtain ⟨n0, n1, n2⟩ := tri_three _ _ _ E5
      have b6 : Below wr.heap.size wr (W5.alloc (.cells #[.int .i64 y] 3)) := b5.alloc b5.size _
      have hone := one_row W5 y 3
      have HO6 := HOW.out.keep b6
      have hby : ((upTo tl c.lats k).length + [y].length) * 8 ≤ 140737488355328 := by have := HAL.out.1; have := upTo_len tl c.lats k; simp; omega
      have hbs : W2.heap.size ≤ (W5.alloc (.cells #[.int .i64 y] 3)).heap.size := Nat.le_trans HBR.out.size b6.size
      have HBY := Lib.hid hby
      have HBS := Lib.hid hbs
      have HB6 := Lib.hid b6
      have HO6' := Lib.hid HO6
      have HONE := Lib.hid hone
      clear g4 hbz hbz2 E5 FC b5 b6 hone HO6 hby hbs
      generalize s.al = A at *
      subst ha
      go_wp2_with (at_builtin; refine wpList_app _ rfl (.tmp 27) (.tmp 30) rfl W2.heap.size _ v (upTo tl c.lats k) [y] rfl HO6'.out _ 1 1 rfl rfl HONE.out HBY.out HBS.out ?_)
      intro v2 w2 hown2 hg2 hloc2
      have HO2 : Hid (OwnI w2 W2.heap.size v2 (upTo tl c.lats (k + 1))) := by unfold Hid; rw [HS.out]; exact hown2
      have HB2 : Hid (Below W2.heap.size W2 w2) := HBR.out.trans ((HB6.out.mono HBR.out.size).trans (own_below HO6'.out hg2 HBS.out))
      clear hown2 hg2 hloc2
      go_wp2
      go_roundw
      case rel => exact ⟨k + 1, v2, hlt, by go_num, rfl, HO2.out, HB2.out⟩
      case measure => simp [intOf]; omega
    · obtain rfl : k = c.lats.length := by omega
      have HOT : Hid (OwnI wr W2.heap.size v (toldL c)) := by have := HOW.out; unfold upTo at this; rw [List.take_length, HTL.out] at this; exact this
      obtain ⟨w4, rfl⟩ : ∃ x, x = wr := ⟨_, rfl⟩
      clear HOW
      obtain ⟨AT, qT, rfl, hrT, hqT, hmT⟩ := HOT.out.row
      have hll : (toldL c).length ≤ 256 := by rw [← HTL.out]; have := HAL.out.1; simp; omega
      have hli : ∀ x ∈ toldL c, I64 x := fun x hx => by
        rw [← HTL.out] at hx
        rcases List.mem_append.1 hx with hx | hx
        · exact HAL.out.2 x hx
        · obtain ⟨t, ht, rfl⟩ := List.mem_map.1 hx
          exact (HF.out.lats t ht).2.1
      have CN := Lib.hid (cone_any c s (toldL c) AT qT w4 (LL.out _ HBR.out) HF.out hrT hli (by omega) 9000 (fun T hT hu => by have := hangs_len hT hu; have := HZ.out.2; omega) (by decide))
      unfold cirV at CN
      have KB4 := KB.out _ HBR.out
      obtain ⟨e0, e1, e2, e3, e4, e5, e6, e7⟩ : _ ∧ _ ∧ _ ∧ _ ∧ _ ∧ _ ∧ _ ∧ _ := (⟨by simp [World.cell?, KB4, cirC], by simp [World.cell?, KB4, cirC], by simp [World.cell?, KB4, cirC], by simp [World.cell?, KB4, cirC], by simp [World.cell?, KB4, cirC], by simp [World.cell?, KB4, cirC], by simp [World.cell?, KB4, cirC], by simp [World.cell?, KB4, cirC]⟩ : w4.cell? ⟨w.heap.size, 0, none⟩ = some (.int .i64 c.max) ∧ w4.cell? ⟨w.heap.size, 1, none⟩ = some (.slice s.ai c.ins.length s.ki) ∧ w4.cell? ⟨w.heap.size, 2, none⟩ = some (.slice s.al c.lats.length s.kl) ∧ w4.cell? ⟨w.heap.size, 3, none⟩ = some (.slice s.ao c.outs.length s.ko) ∧ w4.cell? ⟨w.heap.size, 4, none⟩ = some (.slice s.ab c.bads.length s.kb) ∧ w4.cell? ⟨w.heap.size, 5, none⟩ = some (.slice s.ac c.invs.length s.kc) ∧ w4.cell? ⟨w.heap.size, 6, none⟩ = some (.slice s.aa c.ands.length s.ka) ∧ w4.cell? ⟨w.heap.size, 7, none⟩ = some (.slice s.an c.names.length s.kn))
      unfold cirC at CN
      generalize (toldL c).length = tn at *
      clear KB4 hrT hqT hmT hll hli hkl hk hlt
      go_wp2_with fail
      refine CN.out.mono ?_
      rintro e w5 ⟨⟨v5, R, rfl, hR, hup, hin, hRN⟩, hb5⟩
      have HB5 : Hid (Below W2.heap.size W2 w5) := HBR.out.trans (hb5.mono HBR.out.size)
      obtain ⟨AR, qR, rfl, hrR, -, -⟩ := hR.row
      have ROW : Hid (∀ x, Below w5.heap.size w5 x → LRow x x.heap.size 1 AR (ints R)) := fun x hx => (hrR.below hx).more hx.size
      have UP := Lib.hid hup
      have IN := Lib.hid hin
      have RN := Lib.hid hRN
      clear hR hup hin hRN hb5 hrR CN e0 e1 e2 e3 e4 e5 e6 e7
      have KB5 := KB.out _ HB5.out
      have e6 : w5.cell? ⟨w.heap.size, 6, none⟩ = some (.slice s.aa c.ands.length s.ka) := by simp [World.cell?, KB5, cirC]
      clear KB5
      go_wp2
      obtain ⟨D, hD⟩ : ∃ D : Nat → List Tri, D = fun k => those (Hangs c.ands (toldL c)) (c.ands.take k) := ⟨_, rfl⟩
      have HD0 : Hid (D 0 = []) := by rw [hD]; rfl
      have HDS : Hid (∀ (k : Nat) (h : k < c.ands.length), D (k + 1) = if cnt c.ands[k].a / 2 ∈ R then D k ++ [c.ands[k]] else D k) := fun k h => by
        rw [hD]
        simp only
        rw [those_take _ _ _ h]
        by_cases hm : Hangs c.ands (toldL c) (cnt c.ands[k].a / 2)
        · rw [if_pos hm, if_pos ((IN.out _).2 hm)]
        · rw [if_neg hm, if_neg (fun e => hm ((IN.out _).1 e))]
      have HDL : Hid (∀ k, (D k).length ≤ k) := fun k => by rw [hD]; exact those_len _ _ _
      have HDN : Hid (D c.ands.length = those (Hangs c.ands (toldL c)) c.ands) := by rw [hD]; show those _ (c.ands.take c.ands.length) = _; rw [List.take_length]
      clear hD IN
      have HBB5 := BW.out _ HB5.out
      go_loopw [39, 7] (fun i q wr => ∃ (k : Nat) (v : Value), k ≤ c.ands.length ∧ i = .int .i64 k ∧ q = v ∧ OwnC wr w5.heap.size 43 3 v (tris (D k)) ∧ Below w5.heap.size w5 wr) (fun i _ _ => c.ands.length - (intOf i).toNat)
      case atStart => exact ⟨0, _, Nat.zero_le _, rfl, rfl, by rw [HD0.out]; exact OwnC.nil _ _ _ _, Below.refl _ _⟩
      case round =>
        obtain ⟨k, v, hk, rfl, hzv, how, hb⟩ := hrel
        obtain rfl := hzv.symm
        have HOW := Lib.hid how
        have HBQ := Lib.hid hb
        have hkl := HZ.out.2
        clear how hb
        by_cases hlt : k < c.ands.length
        · obtain ⟨b, o, ha, hbb, hx0, hx1, hx2⟩ := (LL.out _ (HB5.out.trans (HBQ.out.mono HB5.out.size))).ands.tri hlt
          have hfit := HF.out.ands c.ands[k] (List.getElem_mem _)
          have HS := Lib.hid (HDS.out k hlt)
          have hdl := HDL.out k
          generalize c.ands[k] = t at *
          obtain ⟨x, y, z⟩ := t
          obtain ⟨i0, -, -⟩ := hfit
          simp only at hx0 hx1 hx2 i0
          obtain ⟨W4, hW4⟩ : ∃ q, wr.alloc (.cells #[.int .i64 0, .int .i64 0, .int .i64 0] 43) = q := ⟨_, rfl⟩
          obtain ⟨g5, hg5⟩ : ∃ q, wr.heap.size = q := ⟨_, rfl⟩
          have hbz : ∀ x, But wr.heap.size W4 x → Below wr.heap.size wr x := fun x hx => hx.below (by rw [← hW4]; exact (Below.refl _ _).alloc (Nat.le_refl _) _) (Nat.le_refl _)
          have g4 : W4.heap[wr.heap.size]? = some (.cells #[.int .i64 0, .int .i64 0, .int .i64 0] 43 (0, 0)) := by rw [← hW4]; exact Array.getElem?_push_size
          rw [hg5] at g4
          have hbz2 : ∀ x, But g5 W4 x → Below wr.heap.size wr x := fun x hx => hbz x (by rw [hg5]; exact hx)
          obtain ⟨Y1, Y2, W5, u0, u1, u2, ⟨s0, q0, r0⟩, ⟨s1, q1, r1⟩, ⟨s2, q2, r2⟩, E5, FC⟩ := store3 g4 rfl (.int .i64 x) (.int .i64 y) (.int .i64 z)
          have b5 : Below wr.heap.size wr W5 := hbz2 W5 FC
          obtain ⟨n0, n1, n2⟩ := tri_three _ _ _ E5
          have CV := Lib.hid (var_any x W5 i0.2)
          have hx5 : Below w5.heap.size w5 W5 := HBQ.out.trans (b5.mono HBQ.out.size)
          have BS := Lib.hid (bsearch_any R AR qR (cnt x / 2) W5 (by have := RN.out; omega) (ROW.out _ hx5) UP.out)
          have b6 : Below wr.heap.size wr (W5.alloc (.cells #[.int .i64 x, .int .i64 y, .int .i64 z] 43)) := b5.alloc b5.size _
          have HO5 := Lib.hid (HOW.out.keep b5)
          have HO6 := Lib.hid (HOW.out.keep b6)
          have HB6 := Lib.hid b6
          have HX5 := Lib.hid hx5
          have HY6 : Hid (∀ (j : Nat) u, ([.int .i64 x, .int .i64 y, .int .i64 z] : List Value)[j]? = some u → (W5.alloc (.cells #[.int .i64 x, .int .i64 y, .int .i64 z] 43)).cell? ⟨W5.heap.size, j, none⟩ = some u) := tri_at Array.getElem?_push_size
          have HONE : Hid (∀ u ∈ ([.int .i64 x, .int .i64 y, .int .i64 z] : List Value), u.oneCell' = true) := fun u hu => by
            simp only [List.mem_cons, List.not_mem_nil, or_false] at hu
            rcases hu with rfl | rfl | rfl <;> rfl
          have HBY : Hid (((tris (D k)).length + 1) * 24 ≤ 140737488355328) := by unfold Hid tris; rw [List.length_map]; omega
          have HMX : Hid ((tris (D k)).length + 1 ≤ 9223372036854775807) := by unfold Hid tris; rw [List.length_map]; omega
          have HBS : Hid (w5.heap.size ≤ (W5.alloc (.cells #[.int .i64 x, .int .i64 y, .int .i64 z] 43)).heap.size) := Nat.le_trans HBQ.out.size b6.size
          obtain ⟨vr, hvr⟩ : ∃ q, q = cnt x / 2 := ⟨_, rfl⟩
          simp only at HS
          rw [← hvr] at CV BS HS
          clear g4 hbz hbz2 E5 FC b5 b6 hx5 hdl hvr
          generalize s.aa = A at *
          subst ha
          go_wp2_with fail
          refine CV.out.mono ?_
          rintro e w' ⟨rfl, rfl⟩
          go_wp2_with fail
          refine BS.out.mono ?_
          rintro e w' ⟨⟨kk, rfl⟩, rfl⟩
          by_cases hm : vr ∈ R
          · have hd : decide (vr ∈ R) = true := by simpa using hm
            have HS1 := HS.out
            rw [if_pos hm] at HS1
            replace HS1 := Lib.hid HS1
            rw [hd]
            clear HS CV BS hm hd
            go_wp2_with (at_builtin; refine wpList_push _ rfl (.tmp 52) (.tmp 54) 24 rfl 43 3 24 (.agg #[.int .i64 0, .int .i64 0, .int .i64 0]) Try.underlying24 ainfo rfl (by decide) w5.heap.size v (tris (D k)) HO6.out rfl W5.heap.size 1 rfl [.int .i64 x, .int .i64 y, .int .i64 z] HY6.out rfl HONE.out HBY.out HMX.out HBS.out ?_)
            intro v2 w2 hown2 hb2 hk2
            have HO2 : Hid (OwnC w2 w5.heap.size 43 3 v2 (tris (D (k + 1)))) := by unfold Hid; rw [HS1.out]; unfold tris; rw [List.map_append]; exact hown2
            have HB2 : Hid (Below w5.heap.size w5 w2) := HBQ.out.trans ((HB6.out.mono HBQ.out.size).trans hb2)
            clear hown2 hb2 hk2
            go_wp2
            go_roundw
            case rel => exact ⟨k + 1, v2, hlt, by go_num, rfl, HO2.out, HB2.out⟩
            case measure => simp [intOf]; omega
          · have hd : decide (vr ∈ R) = false := by simpa using hm
            have HS1 := HS.out
            rw [if_neg hm] at HS1
            replace HS1 := Lib.hid HS1
            rw [hd]
            clear HS CV BS hm hd
            go_wp2
            go_roundw
            case rel => exact ⟨k + 1, v, hlt, by go_num, rfl, by rw [HS1.out]; exact HO5.out, HX5.out⟩
            case measure => simp [intOf]; omega
        · obtain rfl : k = c.ands.length := by omega
          have HFO : Hid (OwnC wr w.heap.size 43 3 v (tris (those (Hangs c.ands (toldL c)) c.ands))) := by
            have h1 := HOW.out
            rw [HDN.out] at h1
            exact h1.mono_base HBB5.size
          have HFB : Hid (Below w.heap.size w wr) := HBB5.trans (HBQ.out.mono HBB5.size)
          clear HOW
          go_wp2
          go_ret
          exact ⟨⟨v, rfl, HFO.out⟩, HFB.out⟩
end Go.Proofs.Ytpaneggajjgdlaa.Str
namespace Go.Proofs.Ytpaneggajjgdlaa.Cw
open Go.ChangeShapes Go.WideShapes Go.ChangeAt Go.RowKit Go.Maps Circ

theorem own_empty (w : World) (base : Nat) (e : TypeId) (m : Nat) (hb : base ≤ w.heap.size) : OwnC (w.alloc (.cells #[] e)) base e m (.slice (some ⟨w.heap.size, 0, none⟩) 0 0) [] :=
  ⟨by simp, .inr ⟨w.heap.size, 0, #[], rfl, hb, Array.getElem?_push_size, Nat.le_refl _, by decide, by simp, by simp⟩⟩
theorem ints_len (l : List Int) : ∀ y ∈ ints l, y.length = 1 := fun y hy => by obtain ⟨x, _, rfl⟩ := List.mem_map.1 hy; rfl
theorem tris_len (l : List Tri) : ∀ y ∈ tris l, y.length = 3 := fun y hy => by obtain ⟨x, _, rfl⟩ := List.mem_map.1 hy; rfl
theorem nams_len (l : List Nam) : ∀ y ∈ nams l, y.length = 3 := fun y hy => by obtain ⟨x, _, rfl⟩ := List.mem_map.1 hy; rfl
theorem ints_one (l : List Int) : ∀ y ∈ ints l, ∀ u ∈ y, u.oneCell' = true := fun y hy u hu => by
  obtain ⟨x, _, rfl⟩ := List.mem_map.1 hy
  simp at hu; subst hu; rfl
theorem tris_one (l : List Tri) : ∀ y ∈ tris l, ∀ u ∈ y, u.oneCell' = true := fun y hy u hu => by
  obtain ⟨x, _, rfl⟩ := List.mem_map.1 hy
  simp [Tri.cells] at hu; rcases hu with rfl | rfl | rfl <;> rfl
theorem nams_one (l : List Nam) : ∀ y ∈ nams l, ∀ u ∈ y, u.oneCell' = true := fun y hy u hu => by
  obtain ⟨x, _, rfl⟩ := List.mem_map.1 hy
  simp [Nam.cells] at hu; rcases hu with rfl | rfl | rfl <;> rfl
theorem ints_length (l : List Int) : (ints l).length = l.length := by simp [ints]
theorem tris_length (l : List Tri) : (tris l).length = l.length := by simp [tris]
theorem nams_length (l : List Nam) : (nams l).length = l.length := by simp [nams]
theorem infoI : (Try.prog.info? 3).map (fun i => (i.zero, i.size, i.bytes)) = some (some (.int .i64 0), 1, 8) := by kernel_rfl
theorem infoL : (Try.prog.info? 39).map (fun i => (i.zero, i.size, i.bytes)) = some (some (.agg #[.int .i64 0, .int .i64 0, .int .i64 0]), 3, 24) := by kernel_rfl
theorem infoA : (Try.prog.info? 43).map (fun i => (i.zero, i.size, i.bytes)) = some (some (.agg #[.int .i64 0, .int .i64 0, .int .i64 0]), 3, 24) := by kernel_rfl
theorem infoN : (Try.prog.info? 73).map (fun i => (i.zero, i.size, i.bytes)) = some (some (.agg #[.string ⟨#[]⟩, .int .i64 0, .string ⟨#[]⟩]), 3, 40) := by kernel_rfl

set_option maxRecDepth 100000 in
set_option maxHeartbeats 1000000 in
theorem clone22_any (l : List Int) (A : Option Addr) (q : Nat) (w : World) (hr : LRow w w.heap.size 1 A (ints l)) (hl : l.length * 8 ≤ 140737488355328) :
    Calls Try.prog 68 #[.slice A l.length q] w fun e w' => (∃ v, e = .returned v ∧ OwnC w' w.heap.size 3 1 v (ints l)) ∧ Below w.heap.size w w' := by
  have qT : ∀ (w : World) (a : Option Addr) (n c n' c' : Nat), (binOp .eql 22 (.slice a n c) (.slice none n' c')).run Try.prog w = .ok (.bool a.isNone) w := fun w a n c n' c' => Lib.run_eql_slice_nil w _ _ a n c n' c' Try.underlying22
  rcases A with _ | ad
  · have h0 : l = [] := by
      rcases hr with h | ⟨b, o, h, _⟩
      · simpa [ints] using h
      · cases h
    subst h0
    go_enter Try.func68, Try.ntmps68
    go_wp2
    go_ret
    exact ⟨⟨_, rfl, OwnC.nil _ _ _ _⟩, Below.refl _ _⟩
  · have hb1 : Below w.heap.size w (w.alloc (.cells #[] 3)) := (Below.refl _ _).alloc (Nat.le_refl _) _
    have HO := Lib.hid (own_empty w w.heap.size 3 1 (Nat.le_refl _))
    have HR := Lib.hid (hr.below hb1)
    have HB := Lib.hid hb1
    have HL : Hid ((ints l).length * 8 ≤ 140737488355328) := by unfold Hid; rw [ints_length]; exact hl
    clear hr hb1
    go_enter Try.func68, Try.ntmps68
    go_wp2_with (at_builtin; refine wpList_fill _ rfl (.tmp 5) (.tmp 6) 22 rfl 3 1 8 _ Try.underlying22 infoI rfl (by decide) w.heap.size w.heap.size _ HO.out w.heap.size (ints l) rfl rfl (some ad) l.length q (ints_length l).symm rfl HR.out (ints_len l) (ints_one l) HL.out HB.out.size (by have := HL.out; omega) ?_)
    intro v' w' hown hg hloc
    have hb2 : Below w.heap.size w w' := HB.out.trans ⟨hg.os, hg.tape, hg.output, hg.size, fun k hk => hg.block k (by have := HB.out.size; omega) (fun e => by simp [Value.ownBlock] at e; omega)⟩
    have HOW := Lib.hid hown
    have HB2 := Lib.hid hb2
    clear hown hg hloc hb2
    go_wp2
    go_ret
    exact ⟨⟨_, rfl, HOW.out⟩, HB2.out⟩

set_option maxRecDepth 100000 in
set_option maxHeartbeats 1000000 in
theorem clone23_any (l : List Tri) (A : Option Addr) (q : Nat) (w : World) (hr : LRow w w.heap.size 3 A (tris l)) (hl : l.length * 24 ≤ 140737488355328) :
    Calls Try.prog 69 #[.slice A l.length q] w fun e w' => (∃ v, e = .returned v ∧ OwnC w' w.heap.size 39 3 v (tris l)) ∧ Below w.heap.size w w' := by
  have qT : ∀ (w : World) (a : Option Addr) (n c n' c' : Nat), (binOp .eql 23 (.slice a n c) (.slice none n' c')).run Try.prog w = .ok (.bool a.isNone) w := fun w a n c n' c' => Lib.run_eql_slice_nil w _ _ a n c n' c' Try.underlying23
  rcases A with _ | ad
  · have h0 : l = [] := by
      rcases hr with h | ⟨b, o, h, _⟩
      · simpa [tris] using h
      · cases h
    subst h0
    go_enter Try.func69, Try.ntmps69
    go_wp2
    go_ret
    exact ⟨⟨_, rfl, OwnC.nil _ _ _ _⟩, Below.refl _ _⟩
  · have hb1 : Below w.heap.size w (w.alloc (.cells #[] 39)) := (Below.refl _ _).alloc (Nat.le_refl _) _
    have HO := Lib.hid (own_empty w w.heap.size 39 3 (Nat.le_refl _))
    have HR := Lib.hid (hr.below hb1)
    have HB := Lib.hid hb1
    have HL : Hid ((tris l).length * 24 ≤ 140737488355328) := by unfold Hid; rw [tris_length]; exact hl
    clear hr hb1
    go_enter Try.func69, Try.ntmps69
    go_wp2_with (at_builtin; refine wpList_fill _ rfl (.tmp 5) (.tmp 6) 23 rfl 39 3 24 _ Try.underlying23 infoL rfl (by decide) w.heap.size w.heap.size _ HO.out w.heap.size (tris l) rfl rfl (some ad) l.length q (tris_length l).symm rfl HR.out (tris_len l) (tris_one l) HL.out HB.out.size (by have := HL.out; omega) ?_)
    intro v' w' hown hg hloc
    have hb2 : Below w.heap.size w w' := HB.out.trans ⟨hg.os, hg.tape, hg.output, hg.size, fun k hk => hg.block k (by have := HB.out.size; omega) (fun e => by simp [Value.ownBlock] at e; omega)⟩
    have HOW := Lib.hid hown
    have HB2 := Lib.hid hb2
    clear hown hg hloc hb2
    go_wp2
    go_ret
    exact ⟨⟨_, rfl, HOW.out⟩, HB2.out⟩

set_option maxRecDepth 100000 in
set_option maxHeartbeats 1000000 in
theorem clone24_any (l : List Tri) (A : Option Addr) (q : Nat) (w : World) (hr : LRow w w.heap.size 3 A (tris l)) (hl : l.length * 24 ≤ 140737488355328) :
    Calls Try.prog 70 #[.slice A l.length q] w fun e w' => (∃ v, e = .returned v ∧ OwnC w' w.heap.size 43 3 v (tris l)) ∧ Below w.heap.size w w' := by
  have qT : ∀ (w : World) (a : Option Addr) (n c n' c' : Nat), (binOp .eql 24 (.slice a n c) (.slice none n' c')).run Try.prog w = .ok (.bool a.isNone) w := fun w a n c n' c' => Lib.run_eql_slice_nil w _ _ a n c n' c' Try.underlying24
  rcases A with _ | ad
  · have h0 : l = [] := by
      rcases hr with h | ⟨b, o, h, _⟩
      · simpa [tris] using h
      · cases h
    subst h0
    go_enter Try.func70, Try.ntmps70
    go_wp2
    go_ret
    exact ⟨⟨_, rfl, OwnC.nil _ _ _ _⟩, Below.refl _ _⟩
  · have hb1 : Below w.heap.size w (w.alloc (.cells #[] 43)) := (Below.refl _ _).alloc (Nat.le_refl _) _
    have HO := Lib.hid (own_empty w w.heap.size 43 3 (Nat.le_refl _))
    have HR := Lib.hid (hr.below hb1)
    have HB := Lib.hid hb1
    have HL : Hid ((tris l).length * 24 ≤ 140737488355328) := by unfold Hid; rw [tris_length]; exact hl
    clear hr hb1
    go_enter Try.func70, Try.ntmps70
    go_wp2_with (at_builtin; refine wpList_fill _ rfl (.tmp 5) (.tmp 6) 24 rfl 43 3 24 _ Try.underlying24 infoA rfl (by decide) w.heap.size w.heap.size _ HO.out w.heap.size (tris l) rfl rfl (some ad) l.length q (tris_length l).symm rfl HR.out (tris_len l) (tris_one l) HL.out HB.out.size (by have := HL.out; omega) ?_)
    intro v' w' hown hg hloc
    have hb2 : Below w.heap.size w w' := HB.out.trans ⟨hg.os, hg.tape, hg.output, hg.size, fun k hk => hg.block k (by have := HB.out.size; omega) (fun e => by simp [Value.ownBlock] at e; omega)⟩
    have HOW := Lib.hid hown
    have HB2 := Lib.hid hb2
    clear hown hg hloc hb2
    go_wp2
    go_ret
    exact ⟨⟨_, rfl, HOW.out⟩, HB2.out⟩

set_option maxRecDepth 100000 in
set_option maxHeartbeats 1000000 in
theorem clone25_any (l : List Nam) (A : Option Addr) (q : Nat) (w : World) (hr : LRow w w.heap.size 3 A (nams l)) (hl : l.length * 40 ≤ 140737488355328) :
    Calls Try.prog 71 #[.slice A l.length q] w fun e w' => (∃ v, e = .returned v ∧ OwnC w' w.heap.size 73 3 v (nams l)) ∧ Below w.heap.size w w' := by
  have qT : ∀ (w : World) (a : Option Addr) (n c n' c' : Nat), (binOp .eql 25 (.slice a n c) (.slice none n' c')).run Try.prog w = .ok (.bool a.isNone) w := fun w a n c n' c' => Lib.run_eql_slice_nil w _ _ a n c n' c' Try.underlying25
  rcases A with _ | ad
  · have h0 : l = [] := by
      rcases hr with h | ⟨b, o, h, _⟩
      · simpa [nams] using h
      · cases h
    subst h0
    go_enter Try.func71, Try.ntmps71
    go_wp2
    go_ret
    exact ⟨⟨_, rfl, OwnC.nil _ _ _ _⟩, Below.refl _ _⟩
  · have hb1 : Below w.heap.size w (w.alloc (.cells #[] 73)) := (Below.refl _ _).alloc (Nat.le_refl _) _
    have HO := Lib.hid (own_empty w w.heap.size 73 3 (Nat.le_refl _))
    have HR := Lib.hid (hr.below hb1)
    have HB := Lib.hid hb1
    have HL : Hid ((nams l).length * 40 ≤ 140737488355328) := by unfold Hid; rw [nams_length]; exact hl
    clear hr hb1
    go_enter Try.func71, Try.ntmps71
    go_wp2_with (at_builtin; refine wpList_fill _ rfl (.tmp 5) (.tmp 6) 25 rfl 73 3 40 _ Try.underlying25 infoN rfl (by decide) w.heap.size w.heap.size _ HO.out w.heap.size (nams l) rfl rfl (some ad) l.length q (nams_length l).symm rfl HR.out (nams_len l) (nams_one l) HL.out HB.out.size (by have := HL.out; omega) ?_)
    intro v' w' hown hg hloc
    have hb2 : Below w.heap.size w w' := HB.out.trans ⟨hg.os, hg.tape, hg.output, hg.size, fun k hk => hg.block k (by have := HB.out.size; omega) (fun e => by simp [Value.ownBlock] at e; omega)⟩
    have HOW := Lib.hid hown
    have HB2 := Lib.hid hb2
    clear hown hg hloc hb2
    go_wp2
    go_ret
    exact ⟨⟨_, rfl, HOW.out⟩, HB2.out⟩
end Go.Proofs.Ytpaneggajjgdlaa.Cw
namespace Go.Proofs.Ytpaneggajjgdlaa.Cpy
open Go.ChangeShapes Go.WideShapes Go.ChangeAt Go.RowKit Circ Cw

theorem open_set : ∀ (l : List Bool) (i : Nat), l[i]? = some false → ((l.set i true).filter (· == false)).length + 1 = (l.filter (· == false)).length
  | [], i, h => by simp at h
  | b :: l, 0, h => by
    have hb : b = false := by simpa using h
    subst hb
    simp
  | b :: l, i + 1, h => by
    have h' : l[i]? = some false := by simpa using h
    have ih := open_set l i h'
    cases b <;> simp [List.set_cons_succ] at ih ⊢ <;> omega

theorem ready_open {md : Region.Mode} {ops : Array Oper} {listed : Array Bool} {i : Nat} (hi : i ∈ Region.ready md ops listed) : listed.toList[i]? = some false ∧ i < ops.size ∧ (∀ o, ops[i]? = some o → ∀ e ∈ o.after, Region.binds md e = true → listed.getD e.on false = true) := by
  unfold Region.ready at hi
  rw [List.mem_filter, List.mem_range] at hi
  obtain ⟨h1, h2⟩ := hi
  simp only [Bool.and_eq_true, Bool.not_eq_true'] at h2
  obtain ⟨h2, h3⟩ := h2
  refine ⟨?_, h1, fun o ho e he hb => ?_⟩
  · rw [Array.getElem?_toList]
    rw [Array.getD_eq_getD_getElem?] at h2
    cases hq : listed[i]? with
    | none => rw [hq] at h2; simp at h2
    | some b => rw [hq] at h2; simp at h2; rw [h2]
  · rw [ho] at h3
    simp only [Option.map_some, Option.getD_some, Array.all_eq_true_iff_forall_mem] at h3
    have := h3 e he
    simpa [hb] using this

theorem wpAny_inv {P : Program} {md : Region.Mode} {ops : Array Oper} {Q : Exit → Act → World → Prop} (Inv : Array Bool → Act → World → Prop)
    (hstep : ∀ listed a w i, Inv listed a w → i ∈ Region.ready md ops listed → wpOp P ops Q i (Inv (listed.setIfInBounds i true)) a w)
    (hend : ∀ listed a w, Inv listed a w → Region.ready md ops listed = [] → Q .normal a w) :
    ∀ fuel listed a w, Inv listed a w → (listed.toList.filter (· == false)).length ≤ fuel → wpAny P md ops Q fuel listed a w
  | 0, listed, a, w, h, hf => by
    by_cases hr : Region.ready md ops listed = []
    · exact ⟨hr, hend _ _ _ h hr⟩
    · obtain ⟨i, hi⟩ := List.exists_mem_of_ne_nil _ hr
      have h1 := (ready_open hi).1
      have : false ∈ listed.toList.filter (· == false) := List.mem_filter.2 ⟨List.mem_of_getElem? h1, rfl⟩
      have := List.length_pos_of_mem this
      omega
  | fuel + 1, listed, a, w, h, hf => by
    refine ⟨fun hr => hend _ _ _ h hr, fun i hi => ?_⟩
    refine wpOp_mono (fun a' w' h' => wpAny_inv Inv hstep hend fuel _ a' w' h' ?_) (hstep _ _ _ _ h hi)
    have := open_set listed.toList i (ready_open hi).1
    rw [Array.toList_setIfInBounds]
    omega

/-- A region that draws its order: what holds of the operations that are done, whichever they are, is kept by each one that may come next. -/
theorem wp_region_inv {P : Program} {id : Nat} {ops : Array Oper} {Q : Exit → Act → World → Prop} {a : Act} {w : World} (hm : P.follows .mixedOrders = true) (Inv : Array Bool → Act → World → Prop)
    (h0 : Inv (Array.replicate ops.size false) a w.drew)
    (hstep : ∀ listed a w i, Inv listed a w → i ∈ Region.ready .any ops listed → wpOp P ops Q i (Inv (listed.setIfInBounds i true)) a w)
    (hend : ∀ listed a w, Inv listed a w → Region.ready .any ops listed = [] → Q .normal a w) : (Code.region id ops true).wp P Q a w :=
  wp_region_any hm (wpAny_inv Inv hstep hend _ _ _ _ h0 (by simp))
end Go.Proofs.Ytpaneggajjgdlaa.Cpy
