/- The walk of aig's renumbering of a circuit that may be; no further condition. The walks of slices.Clone over a circuit's lists; no condition. A region that draws its order, by what holds behind each of its operations whatever came before it; no condition. -/
import Derived.Test.YtopjddmgejfalaaDoorPk11
import Derived.Test.YtopjddmgejfalaaDoorPk05
import Derived.Lib.SliceRun
import Derived.Test.YtopjddmgejfalaaDoorPk04
namespace Go.Proofs.YtopjddmgejfalaaDoor.Aig
open Go.ChangeShapes Go.WideShapes Go.ChangeAt Go.RowKit Dig Circ Cw Aag

theorem own_step (c : Cir) (h : refOk c = true) (k : Nat) (hk : k < (own c).length) : (∃ v : Nat, cnt (own c)[k] / 2 = (v : Int) ∧ v ≤ c.max.toNat) ∧ (own c)[k] ≤ 9223372036854775807 ∧ ((own c).take (k + 1)).reverse = (own c)[k] :: ((own c).take k).reverse := by
  obtain ⟨_, hg⟩ := good_all c.max (own c) [] (ref_parts h).2.2.2.1
  have h1 := hg _ (List.getElem_mem hk)
  have h2 := own_count h
  obtain ⟨hh, -⟩ := ref_parts h
  unfold refHead at hh
  simp only [Bool.and_eq_true, Bool.not_eq_true', decide_eq_false_iff_not] at hh
  refine ⟨⟨((own c)[k] / 2).toNat, ?_, ?_⟩, by omega, ?_⟩
  · rw [cnt_pos _ (by omega)]; omega
  · omega
  · rw [List.take_succ_eq_append_getElem hk]; simp
theorem num_start (m : Nat) : madeCells #[Value.int .i64 0] (m + 1) = numC m [] := by
  apply Array.ext_getElem?
  intro i
  by_cases hi : i < m + 1
  · rw [numC_at m i _ hi]
    unfold madeCells
    rw [Array.getElem?_map, Array.getElem?_range, if_pos hi]
    simp [numAt, Nat.mod_one]
  · rw [Array.getElem?_eq_none (by rw [size_madeCells]; omega), Array.getElem?_eq_none (by rw [numC_size]; omega)]
theorem make_nums (m : Nat) (hm : m ≤ 2048) (w : World) : (Instr.makeSlice 22 (.int .i64 ((m : Int) + 1)) (.int .i64 ((m : Int) + 1))).run Tryd.prog w = .ok (.slice (some ⟨w.heap.size, 0, none⟩) (m + 1) (m + 1)) (w.alloc (.cells (numC m []) 3)) := by
  obtain ⟨i, hi, hz, hs, hb⟩ := info_parts infoInt
  have := run_make (P := Tryd.prog) w 22 3 i (.int .i64 0) Tryd.underlying22 hi hz .i64 .i64 ((m : Int) + 1) ((m : Int) + 1) (by omega) (by omega) (by rw [hb]; omega) (by omega)
  rw [this, hs, show ((m : Int) + 1).toNat = m + 1 by omega, Nat.mul_one, show (Value.int IntKind.i64 0).cells = #[Value.int IntKind.i64 0] from rfl, num_start]

set_option maxHeartbeats 4000000 in
set_option maxRecDepth 100000 in
theorem renumbering_any (c : Cir) (s : Places) (w : World) (h : CLies w w.heap.size c s) (hf : CFits c s) (hc : refOk c = true) :
    Calls Tryd.prog 17 #[cirV c s] w fun e w' => ∃ gl gn nb, e = .returned (.func (.func 48) #[] #[.pointer (some ⟨gn, 0, none⟩)]) ∧ Num w.heap.size gl gn nb c.max.toNat (own c).reverse w' ∧ Below w.heap.size w w' := by
  obtain ⟨m, hm⟩ : ∃ m : Nat, c.max = (m : Int) := ⟨c.max.toNat, by have := own_count hc; omega⟩
  have hm1 : m ≤ 2048 := by
    obtain ⟨hh, -⟩ := ref_parts hc
    unfold refHead at hh
    simp only [Bool.and_eq_true, Bool.not_eq_true', decide_eq_false_iff_not] at hh
    omega
  have HM := Lib.hid hm
  have HC := Lib.hid hc
  have H := Lib.hid h
  have HF := Lib.hid hf
  have hll : c.ins.length ≤ 64 ∧ c.lats.length ≤ 64 ∧ c.ands.length ≤ 2048 := by
    have h1 := own_count hc
    rw [own_len] at h1
    obtain ⟨hh, -⟩ := ref_parts hc
    unfold refHead at hh
    simp only [Bool.and_eq_true, Bool.not_eq_true', decide_eq_false_iff_not] at hh
    omega
  have HLL := Lib.hid hll
  have EN : Hid (∀ args w, (callFunc 46 args).run Tryd.prog w = .ok (.enter 46 args) w) := enters_of Tryd.func46 (by kernel_rfl) rfl
  have OS := Lib.hid (own_step c hc)
  clear h hf hc hll
  unfold cirV
  rw [show cirC c s = #[.int .i64 c.max, .slice s.ai c.ins.length s.ki, .slice s.al c.lats.length s.kl, .slice s.ao c.outs.length s.ko, .slice s.ab c.bads.length s.kb, .slice s.ac c.invs.length s.kc, .slice s.aa c.ands.length s.ka, .slice s.an c.names.length s.kn] from rfl]
  rw [HM.out]
  go_enter Tryd.func17, Tryd.ntmps17
  have MK : ∀ w, (Instr.makeSlice 22 (.int .i64 ((m : Int) + 1)) (.int .i64 ((m : Int) + 1))).run Tryd.prog w = .ok (.slice (some ⟨w.heap.size, 0, none⟩) (m + 1) (m + 1)) (w.alloc (.cells (numC m []) 3)) := make_nums m hm1
  obtain ⟨WB, hWB⟩ : ∃ x, (w.alloc (.cells #[.int .i64 (m : Int), .slice s.ai c.ins.length s.ki, .slice s.al c.lats.length s.kl, .slice s.ao c.outs.length s.ko, .slice s.ab c.bads.length s.kb, .slice s.ac c.invs.length s.kc, .slice s.aa c.ands.length s.ka, .slice s.an c.names.length s.kn] 27)) = x := ⟨_, rfl⟩
  have BWB : Hid (Below w.heap.size w WB) := by rw [← hWB]; exact (Below.refl _ _).alloc (Nat.le_refl _) _
  have s1 : WB.heap.size = w.heap.size + 1 := by rw [← hWB]; simp
  have WBS := Lib.hid s1
  have WBH : Hid (WB.heap[w.heap.size]? = some (.cells (cirC c s) 27 (0, 0))) := by
    rw [← hWB, ← HM.out]; exact Array.getElem?_push_size
  have e0 : WB.cell? ⟨w.heap.size, 0, none⟩ = some (.int .i64 (m : Int)) := by rw [(cells8 WBH.out).1, HM.out]
  have XX : Hid (∀ x, Below (w.heap.size + 1) WB x → x.cell? ⟨w.heap.size, 1, none⟩ = some (.slice s.ai c.ins.length s.ki) ∧ x.cell? ⟨w.heap.size, 2, none⟩ = some (.slice s.al c.lats.length s.kl) ∧ x.cell? ⟨w.heap.size, 6, none⟩ = some (.slice s.aa c.ands.length s.ka)) := fun x hx => by
    have e : x.heap[w.heap.size]? = some (.cells (cirC c s) 27 (0, 0)) := (hx.block _ (by omega)).trans WBH.out
    obtain ⟨-, a1, a2, -, -, -, a6, -⟩ := cells8 e
    exact ⟨a1, a2, a6⟩
  obtain ⟨W2, hW2⟩ : ∃ x, WB.alloc (.cells (numC m []) 3) = x := ⟨_, rfl⟩
  have s2 : W2.heap.size = w.heap.size + 2 := by rw [← hW2]; simp [s1]
  obtain ⟨W3, hW3⟩ : ∃ x, W2.alloc (.cells #[.slice (some ⟨w.heap.size + 1, 0, none⟩) (m + 1) (m + 1)] 22) = x := ⟨_, rfl⟩
  have s3 : W3.heap.size = w.heap.size + 3 := by rw [← hW3]; simp [s2]
  obtain ⟨W4, hW4⟩ : ∃ x, W3.alloc (.cells #[.int .i64 0] 3) = x := ⟨_, rfl⟩
  have q4 : W4.heap[w.heap.size + 3]? = some (.cells #[.int .i64 0] 3 (0, 0)) := by rw [← hW4, ← s3]; exact Array.getElem?_push_size
  obtain ⟨W5, u0, ⟨hS5, p5, t5⟩, E5, F5⟩ := store1 q4 rfl (.int .i64 0)
  have N0 : Hid (Num (w.heap.size + 1) (w.heap.size + 3) (w.heap.size + 2) (w.heap.size + 1) m ((own c).take (0 + 0)).reverse W5) := by
    have q2 : W2.heap[w.heap.size + 1]? = some (.cells (numC m []) 3 (0, 0)) := by rw [← hW2, ← s1]; exact Array.getElem?_push_size
    have q3 : W3.heap[w.heap.size + 2]? = some (.cells #[.slice (some ⟨w.heap.size + 1, 0, none⟩) (m + 1) (m + 1)] 22 (0, 0)) := by rw [← hW3, ← s2]; exact Array.getElem?_push_size
    have q3' : W3.heap[w.heap.size + 1]? = some (.cells (numC m []) 3 (0, 0)) := by rw [← hW3, Below.heap_alloc _ _ _ (by omega)]; exact q2
    refine ⟨?_, ?_, ?_, by omega, by omega⟩
    · exact E5
    · rw [F5.b _ (by omega), ← hW4, Below.heap_alloc _ _ _ (by omega)]; exact q3
    · rw [F5.b _ (by omega), ← hW4, Below.heap_alloc _ _ _ (by omega)]; exact q3'
  have B0 : Hid (Below (w.heap.size + 1) WB W5) := by
    refine F5.below ?_ (by omega)
    rw [← hW4, ← hW3, ← hW2]
    exact (((Below.refl _ _).alloc (by omega) _).alloc (by simp; omega) _).alloc (by simp; omega) _
  obtain ⟨e1, e2, e6⟩ := XX.out _ B0.out
  clear E5 F5 q4
  go_wp2
  clear hWB s1 e0 hW2 s2 hW3 s3 hW4 hS5 p5 t5
  go_loopw [20] (fun i wr => ∃ j : Nat, j ≤ c.ins.length ∧ i = .int .i64 j ∧ Num (w.heap.size + 1) (w.heap.size + 3) (w.heap.size + 2) (w.heap.size + 1) m ((own c).take (0 + j)).reverse wr ∧ Below (w.heap.size + 1) WB wr) (fun i _ => c.ins.length - (intOf i).toNat)
  case atStart => exact ⟨0, Nat.zero_le _, rfl, N0.out, B0.out⟩
  case round =>
    obtain ⟨j, hj, rfl, hnum, hb⟩ := hrel
    have NM := Lib.hid hnum
    have BJ := Lib.hid hb
    clear hnum hb e1 e2 e6
    have hl3 := HLL.out
    by_cases hlt : j < c.ins.length
    · obtain ⟨ho, heq⟩ := own_ins c j hlt
      obtain ⟨⟨v, hv1, hv2⟩, hv3, hv4⟩ := OS.out (j) ho
      rw [heq] at hv1 hv3 hv4
      rw [HM.out, Int.toNat_natCast] at hv2
      have HT : Hid (((own c).take (0 + (j + 1))).reverse = c.ins[j] :: ((own c).take (0 + j)).reverse) := by
        unfold Hid
        rw [show 0 + (j + 1) = j + 1 by omega, hv4, show 0 + j = j by omega]
      have hbw : Below w.heap.size w wr := BWB.out.trans (BJ.out.mono (by omega))
      have hrl : ((own c).take (0 + j)).reverse.length ≤ 1099511627776 := by rw [List.length_reverse, List.length_take]; omega
      obtain ⟨b1, o1, hA, hbb, c0⟩ := (H.out.ins.below hbw).int hlt
      have DF := Lib.hid (define_any (w.heap.size + 1) (w.heap.size + 3) (w.heap.size + 2) (w.heap.size + 1) m v c.ins[j] _ _ NM.out hv1 hv2 hv3 hrl)
      clear ho heq hv1 hv2 hv3 hv4 hbw hrl
      rw [hA]
      clear hA
      generalize c.ins[j] = t at *
      go_wp2_with fail
      refine DF.out.mono ?_
      rintro e w2 ⟨rfl, hn2, hb2⟩
      have N2 := Lib.hid hn2
      have B2 : Hid (Below (w.heap.size + 1) WB w2) := BJ.out.trans (hb2)
      clear hn2 hb2 DF
      go_wp2
      go_roundw
      case rel => exact ⟨j + 1, by omega, by go_num, by rw [HT.out]; exact N2.out, B2.out⟩
      case measure => simp [intOf]; omega
    · obtain rfl : j = c.ins.length := by omega
      clear B0 N0
      have B0 := Lib.hid BJ.out
      have N0 := Lib.hid NM.out
      clear BJ NM
      rw [Nat.zero_add] at N0
      obtain ⟨e1, e2, e6⟩ := XX.out _ B0.out
      go_wp2
      go_loopw [31] (fun i wr => ∃ j : Nat, j ≤ c.lats.length ∧ i = .int .i64 j ∧ Num (w.heap.size + 1) (w.heap.size + 3) (w.heap.size + 2) (w.heap.size + 1) m ((own c).take (c.ins.length + j)).reverse wr ∧ Below (w.heap.size + 1) WB wr) (fun i _ => c.lats.length - (intOf i).toNat)
      case atStart => exact ⟨0, Nat.zero_le _, rfl, N0.out, B0.out⟩
      case round =>
        obtain ⟨j, hj, rfl, hnum, hb⟩ := hrel
        have NM := Lib.hid hnum
        have BJ := Lib.hid hb
        clear hnum hb e1 e2 e6
        have hl3 := HLL.out
        by_cases hlt : j < c.lats.length
        · obtain ⟨ho, heq⟩ := own_lats c j hlt
          obtain ⟨⟨v, hv1, hv2⟩, hv3, hv4⟩ := OS.out (c.ins.length + j) ho
          rw [heq] at hv1 hv3 hv4
          rw [HM.out, Int.toNat_natCast] at hv2
          have HT : Hid (((own c).take (c.ins.length + (j + 1))).reverse = c.lats[j].a :: ((own c).take (c.ins.length + j)).reverse) := by
            unfold Hid
            rw [show c.ins.length + (j + 1) = c.ins.length + j + 1 by omega, hv4, show c.ins.length + j = c.ins.length + j by omega]
          have hbw : Below w.heap.size w wr := BWB.out.trans (BJ.out.mono (by omega))
          have hrl : ((own c).take (c.ins.length + j)).reverse.length ≤ 1099511627776 := by rw [List.length_reverse, List.length_take]; omega
          obtain ⟨b1, o1, hA, hbb, c0, c1, c2⟩ := (H.out.lats.below hbw).tri hlt
          have hal : Below wr.heap.size wr (wr.alloc (.cells #[.int .i64 c.lats[j].a, .int .i64 c.lats[j].b, .int .i64 c.lats[j].c] 41)) := (Below.refl _ _).alloc (Nat.le_refl _) _
          have HAL := Lib.hid hal
          have DF := Lib.hid (define_any (w.heap.size + 1) (w.heap.size + 3) (w.heap.size + 2) (w.heap.size + 1) m v c.lats[j].a _ _ (NM.out.below hal) hv1 hv2 hv3 hrl)
          clear ho heq hv1 hv2 hv3 hv4 hbw hrl hal
          rw [hA]
          clear hA
          generalize c.lats[j] = t at *
          go_wp2_with fail
          refine DF.out.mono ?_
          rintro e w2 ⟨rfl, hn2, hb2⟩
          have N2 := Lib.hid hn2
          have B2 : Hid (Below (w.heap.size + 1) WB w2) := BJ.out.trans ((HAL.out.mono (by have := BJ.out.size; have := WBS.out; omega)).trans hb2)
          clear hn2 hb2 DF
          go_wp2
          go_roundw
          case rel => exact ⟨j + 1, by omega, by go_num, by rw [HT.out]; exact N2.out, B2.out⟩
          case measure => simp [intOf]; omega
        · obtain rfl : j = c.lats.length := by omega
          clear B0 N0
          have B0 := Lib.hid BJ.out
          have N0 := Lib.hid NM.out
          clear BJ NM
          obtain ⟨e1, e2, e6⟩ := XX.out _ B0.out
          go_wp2
          go_loopw [43] (fun i wr => ∃ j : Nat, j ≤ c.ands.length ∧ i = .int .i64 j ∧ Num (w.heap.size + 1) (w.heap.size + 3) (w.heap.size + 2) (w.heap.size + 1) m ((own c).take ((c.ins.length + c.lats.length) + j)).reverse wr ∧ Below (w.heap.size + 1) WB wr) (fun i _ => c.ands.length - (intOf i).toNat)
          case atStart => exact ⟨0, Nat.zero_le _, rfl, N0.out, B0.out⟩
          case round =>
            obtain ⟨j, hj, rfl, hnum, hb⟩ := hrel
            have NM := Lib.hid hnum
            have BJ := Lib.hid hb
            clear hnum hb e1 e2 e6
            have hl3 := HLL.out
            by_cases hlt : j < c.ands.length
            · obtain ⟨ho, heq⟩ := own_ands c j hlt
              obtain ⟨⟨v, hv1, hv2⟩, hv3, hv4⟩ := OS.out ((c.ins.length + c.lats.length) + j) ho
              rw [heq] at hv1 hv3 hv4
              rw [HM.out, Int.toNat_natCast] at hv2
              have HT : Hid (((own c).take ((c.ins.length + c.lats.length) + (j + 1))).reverse = c.ands[j].a :: ((own c).take ((c.ins.length + c.lats.length) + j)).reverse) := by
                unfold Hid
                rw [show (c.ins.length + c.lats.length) + (j + 1) = (c.ins.length + c.lats.length) + j + 1 by omega, hv4, show (c.ins.length + c.lats.length) + j = (c.ins.length + c.lats.length) + j by omega]
              have hbw : Below w.heap.size w wr := BWB.out.trans (BJ.out.mono (by omega))
              have hrl : ((own c).take ((c.ins.length + c.lats.length) + j)).reverse.length ≤ 1099511627776 := by rw [List.length_reverse, List.length_take]; omega
              obtain ⟨b1, o1, hA, hbb, c0, c1, c2⟩ := (H.out.ands.below hbw).tri hlt
              have hal : Below wr.heap.size wr (wr.alloc (.cells #[.int .i64 c.ands[j].a, .int .i64 c.ands[j].b, .int .i64 c.ands[j].c] 43)) := (Below.refl _ _).alloc (Nat.le_refl _) _
              have HAL := Lib.hid hal
              have DF := Lib.hid (define_any (w.heap.size + 1) (w.heap.size + 3) (w.heap.size + 2) (w.heap.size + 1) m v c.ands[j].a _ _ (NM.out.below hal) hv1 hv2 hv3 hrl)
              clear ho heq hv1 hv2 hv3 hv4 hbw hrl hal
              rw [hA]
              clear hA
              generalize c.ands[j] = t at *
              go_wp2_with fail
              refine DF.out.mono ?_
              rintro e w2 ⟨rfl, hn2, hb2⟩
              have N2 := Lib.hid hn2
              have B2 : Hid (Below (w.heap.size + 1) WB w2) := BJ.out.trans ((HAL.out.mono (by have := BJ.out.size; have := WBS.out; omega)).trans hb2)
              clear hn2 hb2 DF
              go_wp2
              go_roundw
              case rel => exact ⟨j + 1, by omega, by go_num, by rw [HT.out]; exact N2.out, B2.out⟩
              case measure => simp [intOf]; omega
            · obtain rfl : j = c.ands.length := by omega
              clear B0 N0
              have B0 := Lib.hid BJ.out
              have N0 := Lib.hid NM.out
              clear BJ NM
              rw [← own_len, List.take_length] at N0
              go_wp2
              go_ret
              have hb := B0.out
              refine ⟨w.heap.size + 3, w.heap.size + 2, w.heap.size + 1, rfl, ?_, BWB.out.trans (hb.mono (by omega))⟩
              rw [Int.toNat_natCast]
              have hn := N0.out
              exact ⟨hn.l, hn.n, hn.r, hn.d, by have := hn.b; omega⟩
end Go.Proofs.YtopjddmgejfalaaDoor.Aig
namespace Go.Proofs.YtopjddmgejfalaaDoor.Cw
open Go.ChangeShapes Go.WideShapes Go.ChangeAt Go.RowKit Go.Maps Circ

theorem own_empty (w : World) (base : Nat) (e : TypeId) (m : Nat) (hb : base ≤ w.heap.size) : OwnC (w.alloc (.cells #[] e)) base e m (.slice (some ⟨w.heap.size, 0, none⟩) 0 0) [] :=
  ⟨by simp, .inr ⟨w.heap.size, 0, #[], rfl, hb, Array.getElem?_push_size, Nat.le_refl _, by decide, by simp, by simp⟩⟩
theorem ints_len (l : List Int) : ∀ y ∈ ints l, y.length = 1 := fun y hy => by obtain ⟨x, _, rfl⟩ := List.mem_map.1 hy; rfl
theorem tris_len (l : List Tri) : ∀ y ∈ tris l, y.length = 3 := fun y hy => by obtain ⟨x, _, rfl⟩ := List.mem_map.1 hy; rfl
theorem nams_len (l : List Nam) : ∀ y ∈ nams l, y.length = 3 := fun y hy => by obtain ⟨x, _, rfl⟩ := List.mem_map.1 hy; rfl
theorem ints_one (l : List Int) : ∀ y ∈ ints l, ∀ u ∈ y, u.oneCell' = true := fun y hy u hu => by
  obtain ⟨x, _, rfl⟩ := List.mem_map.1 hy
  simp at hu; subst hu; rfl
theorem tris_one (l : List Tri) : ∀ y ∈ tris l, ∀ u ∈ y, u.oneCell' = true := fun y hy u hu => by
  obtain ⟨x, _, rfl⟩ := List.mem_map.1 hy
  simp [Tri.cells] at hu; rcases hu with rfl | rfl | rfl <;> rfl
theorem nams_one (l : List Nam) : ∀ y ∈ nams l, ∀ u ∈ y, u.oneCell' = true := fun y hy u hu => by
  obtain ⟨x, _, rfl⟩ := List.mem_map.1 hy
  simp [Nam.cells] at hu; rcases hu with rfl | rfl | rfl <;> rfl
theorem ints_length (l : List Int) : (ints l).length = l.length := by simp [ints]
theorem tris_length (l : List Tri) : (tris l).length = l.length := by simp [tris]
theorem nams_length (l : List Nam) : (nams l).length = l.length := by simp [nams]
theorem infoI : (Tryd.prog.info? 3).map (fun i => (i.zero, i.size, i.bytes)) = some (some (.int .i64 0), 1, 8) := by kernel_rfl
theorem infoL : (Tryd.prog.info? 41).map (fun i => (i.zero, i.size, i.bytes)) = some (some (.agg #[.int .i64 0, .int .i64 0, .int .i64 0]), 3, 24) := by kernel_rfl
theorem infoA : (Tryd.prog.info? 43).map (fun i => (i.zero, i.size, i.bytes)) = some (some (.agg #[.int .i64 0, .int .i64 0, .int .i64 0]), 3, 24) := by kernel_rfl
theorem infoN : (Tryd.prog.info? 45).map (fun i => (i.zero, i.size, i.bytes)) = some (some (.agg #[.string ⟨#[]⟩, .int .i64 0, .string ⟨#[]⟩]), 3, 40) := by kernel_rfl

set_option maxRecDepth 100000 in
set_option maxHeartbeats 1000000 in
theorem clone22_any (l : List Int) (A : Option Addr) (q : Nat) (w : World) (hr : LRow w w.heap.size 1 A (ints l)) (hl : l.length * 8 ≤ 140737488355328) :
    Calls Tryd.prog 51 #[.slice A l.length q] w fun e w' => (∃ v, e = .returned v ∧ OwnC w' w.heap.size 3 1 v (ints l)) ∧ Below w.heap.size w w' := by
  have qT : ∀ (w : World) (a : Option Addr) (n c n' c' : Nat), (binOp .eql 22 (.slice a n c) (.slice none n' c')).run Tryd.prog w = .ok (.bool a.isNone) w := fun w a n c n' c' => Lib.run_eql_slice_nil w _ _ a n c n' c' Tryd.underlying22
  rcases A with _ | ad
  · have h0 : l = [] := by
      rcases hr with h | ⟨b, o, h, _⟩
      · simpa [ints] using h
      · cases h
    subst h0
    go_enter Tryd.func51, Tryd.ntmps51
    go_wp2
    go_ret
    exact ⟨⟨_, rfl, OwnC.nil _ _ _ _⟩, Below.refl _ _⟩
  · have hb1 : Below w.heap.size w (w.alloc (.cells #[] 3)) := (Below.refl _ _).alloc (Nat.le_refl _) _
    have HO := Lib.hid (own_empty w w.heap.size 3 1 (Nat.le_refl _))
    have HR := Lib.hid (hr.below hb1)
    have HB := Lib.hid hb1
    have HL : Hid ((ints l).length * 8 ≤ 140737488355328) := by unfold Hid; rw [ints_length]; exact hl
    clear hr hb1
    go_enter Tryd.func51, Tryd.ntmps51
    go_wp2_with (at_builtin; refine wpList_fill _ rfl (.tmp 5) (.tmp 6) 22 rfl 3 1 8 _ Tryd.underlying22 infoI rfl (by decide) w.heap.size w.heap.size _ HO.out w.heap.size (ints l) rfl rfl (some ad) l.length q (ints_length l).symm rfl HR.out (ints_len l) (ints_one l) HL.out HB.out.size (by have := HL.out; omega) ?_)
    intro v' w' hown hg hloc
    have hb2 : Below w.heap.size w w' := HB.out.trans ⟨hg.os, hg.tape, hg.output, hg.size, fun k hk => hg.block k (by have := HB.out.size; omega) (fun e => by simp [Value.ownBlock] at e; omega)⟩
    have HOW := Lib.hid hown
    have HB2 := Lib.hid hb2
    clear hown hg hloc hb2
    go_wp2
    go_ret
    exact ⟨⟨_, rfl, HOW.out⟩, HB2.out⟩

set_option maxRecDepth 100000 in
set_option maxHeartbeats 1000000 in
theorem clone23_any (l : List Tri) (A : Option Addr) (q : Nat) (w : World) (hr : LRow w w.heap.size 3 A (tris l)) (hl : l.length * 24 ≤ 140737488355328) :
    Calls Tryd.prog 52 #[.slice A l.length q] w fun e w' => (∃ v, e = .returned v ∧ OwnC w' w.heap.size 41 3 v (tris l)) ∧ Below w.heap.size w w' := by
  have qT : ∀ (w : World) (a : Option Addr) (n c n' c' : Nat), (binOp .eql 23 (.slice a n c) (.slice none n' c')).run Tryd.prog w = .ok (.bool a.isNone) w := fun w a n c n' c' => Lib.run_eql_slice_nil w _ _ a n c n' c' Tryd.underlying23
  rcases A with _ | ad
  · have h0 : l = [] := by
      rcases hr with h | ⟨b, o, h, _⟩
      · simpa [tris] using h
      · cases h
    subst h0
    go_enter Tryd.func52, Tryd.ntmps52
    go_wp2
    go_ret
    exact ⟨⟨_, rfl, OwnC.nil _ _ _ _⟩, Below.refl _ _⟩
  · have hb1 : Below w.heap.size w (w.alloc (.cells #[] 41)) := (Below.refl _ _).alloc (Nat.le_refl _) _
    have HO := Lib.hid (own_empty w w.heap.size 41 3 (Nat.le_refl _))
    have HR := Lib.hid (hr.below hb1)
    have HB := Lib.hid hb1
    have HL : Hid ((tris l).length * 24 ≤ 140737488355328) := by unfold Hid; rw [tris_length]; exact hl
    clear hr hb1
    go_enter Tryd.func52, Tryd.ntmps52
    go_wp2_with (at_builtin; refine wpList_fill _ rfl (.tmp 5) (.tmp 6) 23 rfl 41 3 24 _ Tryd.underlying23 infoL rfl (by decide) w.heap.size w.heap.size _ HO.out w.heap.size (tris l) rfl rfl (some ad) l.length q (tris_length l).symm rfl HR.out (tris_len l) (tris_one l) HL.out HB.out.size (by have := HL.out; omega) ?_)
    intro v' w' hown hg hloc
    have hb2 : Below w.heap.size w w' := HB.out.trans ⟨hg.os, hg.tape, hg.output, hg.size, fun k hk => hg.block k (by have := HB.out.size; omega) (fun e => by simp [Value.ownBlock] at e; omega)⟩
    have HOW := Lib.hid hown
    have HB2 := Lib.hid hb2
    clear hown hg hloc hb2
    go_wp2
    go_ret
    exact ⟨⟨_, rfl, HOW.out⟩, HB2.out⟩

set_option maxRecDepth 100000 in
set_option maxHeartbeats 1000000 in
theorem clone24_any (l : List Tri) (A : Option Addr) (q : Nat) (w : World) (hr : LRow w w.heap.size 3 A (tris l)) (hl : l.length * 24 ≤ 140737488355328) :
    Calls Tryd.prog 53 #[.slice A l.length q] w fun e w' => (∃ v, e = .returned v ∧ OwnC w' w.heap.size 43 3 v (tris l)) ∧ Below w.heap.size w w' := by
  have qT : ∀ (w : World) (a : Option Addr) (n c n' c' : Nat), (binOp .eql 24 (.slice a n c) (.slice none n' c')).run Tryd.prog w = .ok (.bool a.isNone) w := fun w a n c n' c' => Lib.run_eql_slice_nil w _ _ a n c n' c' Tryd.underlying24
  rcases A with _ | ad
  · have h0 : l = [] := by
      rcases hr with h | ⟨b, o, h, _⟩
      · simpa [tris] using h
      · cases h
    subst h0
    go_enter Tryd.func53, Tryd.ntmps53
    go_wp2
    go_ret
    exact ⟨⟨_, rfl, OwnC.nil _ _ _ _⟩, Below.refl _ _⟩
  · have hb1 : Below w.heap.size w (w.alloc (.cells #[] 43)) := (Below.refl _ _).alloc (Nat.le_refl _) _
    have HO := Lib.hid (own_empty w w.heap.size 43 3 (Nat.le_refl _))
    have HR := Lib.hid (hr.below hb1)
    have HB := Lib.hid hb1
    have HL : Hid ((tris l).length * 24 ≤ 140737488355328) := by unfold Hid; rw [tris_length]; exact hl
    clear hr hb1
    go_enter Tryd.func53, Tryd.ntmps53
    go_wp2_with (at_builtin; refine wpList_fill _ rfl (.tmp 5) (.tmp 6) 24 rfl 43 3 24 _ Tryd.underlying24 infoA rfl (by decide) w.heap.size w.heap.size _ HO.out w.heap.size (tris l) rfl rfl (some ad) l.length q (tris_length l).symm rfl HR.out (tris_len l) (tris_one l) HL.out HB.out.size (by have := HL.out; omega) ?_)
    intro v' w' hown hg hloc
    have hb2 : Below w.heap.size w w' := HB.out.trans ⟨hg.os, hg.tape, hg.output, hg.size, fun k hk => hg.block k (by have := HB.out.size; omega) (fun e => by simp [Value.ownBlock] at e; omega)⟩
    have HOW := Lib.hid hown
    have HB2 := Lib.hid hb2
    clear hown hg hloc hb2
    go_wp2
    go_ret
    exact ⟨⟨_, rfl, HOW.out⟩, HB2.out⟩

set_option maxRecDepth 100000 in
set_option maxHeartbeats 1000000 in
theorem clone25_any (l : List Nam) (A : Option Addr) (q : Nat) (w : World) (hr : LRow w w.heap.size 3 A (nams l)) (hl : l.length * 40 ≤ 140737488355328) :
    Calls Tryd.prog 54 #[.slice A l.length q] w fun e w' => (∃ v, e = .returned v ∧ OwnC w' w.heap.size 45 3 v (nams l)) ∧ Below w.heap.size w w' := by
  have qT : ∀ (w : World) (a : Option Addr) (n c n' c' : Nat), (binOp .eql 25 (.slice a n c) (.slice none n' c')).run Tryd.prog w = .ok (.bool a.isNone) w := fun w a n c n' c' => Lib.run_eql_slice_nil w _ _ a n c n' c' Tryd.underlying25
  rcases A with _ | ad
  · have h0 : l = [] := by
      rcases hr with h | ⟨b, o, h, _⟩
      · simpa [nams] using h
      · cases h
    subst h0
    go_enter Tryd.func54, Tryd.ntmps54
    go_wp2
    go_ret
    exact ⟨⟨_, rfl, OwnC.nil _ _ _ _⟩, Below.refl _ _⟩
  · have hb1 : Below w.heap.size w (w.alloc (.cells #[] 45)) := (Below.refl _ _).alloc (Nat.le_refl _) _
    have HO := Lib.hid (own_empty w w.heap.size 45 3 (Nat.le_refl _))
    have HR := Lib.hid (hr.below hb1)
    have HB := Lib.hid hb1
    have HL : Hid ((nams l).length * 40 ≤ 140737488355328) := by unfold Hid; rw [nams_length]; exact hl
    clear hr hb1
    go_enter Tryd.func54, Tryd.ntmps54
    go_wp2_with (at_builtin; refine wpList_fill _ rfl (.tmp 5) (.tmp 6) 25 rfl 45 3 40 _ Tryd.underlying25 infoN rfl (by decide) w.heap.size w.heap.size _ HO.out w.heap.size (nams l) rfl rfl (some ad) l.length q (nams_length l).symm rfl HR.out (nams_len l) (nams_one l) HL.out HB.out.size (by have := HL.out; omega) ?_)
    intro v' w' hown hg hloc
    have hb2 : Below w.heap.size w w' := HB.out.trans ⟨hg.os, hg.tape, hg.output, hg.size, fun k hk => hg.block k (by have := HB.out.size; omega) (fun e => by simp [Value.ownBlock] at e; omega)⟩
    have HOW := Lib.hid hown
    have HB2 := Lib.hid hb2
    clear hown hg hloc hb2
    go_wp2
    go_ret
    exact ⟨⟨_, rfl, HOW.out⟩, HB2.out⟩
end Go.Proofs.YtopjddmgejfalaaDoor.Cw
namespace Go.Proofs.YtopjddmgejfalaaDoor.Cpy
open Go.ChangeShapes Go.WideShapes Go.ChangeAt Go.RowKit Circ Cw

theorem open_set : ∀ (l : List Bool) (i : Nat), l[i]? = some false → ((l.set i true).filter (· == false)).length + 1 = (l.filter (· == false)).length
  | [], i, h => by simp at h
  | b :: l, 0, h => by
    have hb : b = false := by simpa using h
    subst hb
    simp
  | b :: l, i + 1, h => by
    have h' : l[i]? = some false := by simpa using h
    have ih := open_set l i h'
    cases b <;> simp [List.set_cons_succ] at ih ⊢ <;> omega

theorem ready_open {md : Region.Mode} {ops : Array Oper} {listed : Array Bool} {i : Nat} (hi : i ∈ Region.ready md ops listed) : listed.toList[i]? = some false ∧ i < ops.size ∧ (∀ o, ops[i]? = some o → ∀ e ∈ o.after, Region.binds md e = true → listed.getD e.on false = true) := by
  unfold Region.ready at hi
  rw [List.mem_filter, List.mem_range] at hi
  obtain ⟨h1, h2⟩ := hi
  simp only [Bool.and_eq_true, Bool.not_eq_true'] at h2
  obtain ⟨h2, h3⟩ := h2
  refine ⟨?_, h1, fun o ho e he hb => ?_⟩
  · rw [Array.getElem?_toList]
    rw [Array.getD_eq_getD_getElem?] at h2
    cases hq : listed[i]? with
    | none => rw [hq] at h2; simp at h2
    | some b => rw [hq] at h2; simp at h2; rw [h2]
  · rw [ho] at h3
    simp only [Option.map_some, Option.getD_some, Array.all_eq_true_iff_forall_mem] at h3
    have := h3 e he
    simpa [hb] using this

theorem wpAny_inv {P : Program} {md : Region.Mode} {ops : Array Oper} {Q : Exit → Act → World → Prop} (Inv : Array Bool → Act → World → Prop)
    (hstep : ∀ listed a w i, Inv listed a w → i ∈ Region.ready md ops listed → wpOp P ops Q i (Inv (listed.setIfInBounds i true)) a w)
    (hend : ∀ listed a w, Inv listed a w → Region.ready md ops listed = [] → Q .normal a w) :
    ∀ fuel listed a w, Inv listed a w → (listed.toList.filter (· == false)).length ≤ fuel → wpAny P md ops Q fuel listed a w
  | 0, listed, a, w, h, hf => by
    by_cases hr : Region.ready md ops listed = []
    · exact ⟨hr, hend _ _ _ h hr⟩
    · obtain ⟨i, hi⟩ := List.exists_mem_of_ne_nil _ hr
      have h1 := (ready_open hi).1
      have : false ∈ listed.toList.filter (· == false) := List.mem_filter.2 ⟨List.mem_of_getElem? h1, rfl⟩
      have := List.length_pos_of_mem this
      omega
  | fuel + 1, listed, a, w, h, hf => by
    refine ⟨fun hr => hend _ _ _ h hr, fun i hi => ?_⟩
    refine wpOp_mono (fun a' w' h' => wpAny_inv Inv hstep hend fuel _ a' w' h' ?_) (hstep _ _ _ _ h hi)
    have := open_set listed.toList i (ready_open hi).1
    rw [Array.toList_setIfInBounds]
    omega

/-- A region that draws its order: what holds of the operations that are done, whichever they are, is kept by each one that may come next. -/
theorem wp_region_inv {P : Program} {id : Nat} {ops : Array Oper} {Q : Exit → Act → World → Prop} {a : Act} {w : World} (hm : P.follows .mixedOrders = true) (Inv : Array Bool → Act → World → Prop)
    (h0 : Inv (Array.replicate ops.size false) a w.drew)
    (hstep : ∀ listed a w i, Inv listed a w → i ∈ Region.ready .any ops listed → wpOp P ops Q i (Inv (listed.setIfInBounds i true)) a w)
    (hend : ∀ listed a w, Inv listed a w → Region.ready .any ops listed = [] → Q .normal a w) : (Code.region id ops true).wp P Q a w :=
  wp_region_any hm (wpAny_inv Inv hstep hend _ _ _ _ h0 (by simp))
end Go.Proofs.YtopjddmgejfalaaDoor.Cpy
