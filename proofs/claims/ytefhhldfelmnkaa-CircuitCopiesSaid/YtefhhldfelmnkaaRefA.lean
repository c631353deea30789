/- The pages' own words of circuits, walked: kinds, and literals that are known; no condition. -/
import Derived.Test.YtefhhldfelmnkaaKind
import Derived.BigQuiet
namespace Go.Proofs.Ytefhhldfelmnkaa.Cw
open Go.ChangeShapes Go.WideShapes Go.ChangeAt Go.RowKit Circ

set_option maxHeartbeats 1000000 in
theorem kindref_any (c : Cir) (s : Places) (v : Int) (w : World) (h : CLies w w.heap.size c s) (hf : CFits c s) :
    Calls Try.prog 20 #[cirV c s, .int .i64 v] w fun e w' => e = .returned (.string (kindOf c v)) ∧ Below w.heap.size w w' := by
  have li := hf.li
  have ll := hf.ll
  have la := hf.la
  have hbel : Below w.heap.size w (w.alloc (.cells (cirC c s) 27)) := (Below.refl _ _).alloc (Nat.le_refl _) _
  have H := Lib.hid h
  have HI := Lib.hid hf
  clear h hf
  unfold cirV cirC at *
  by_cases hv : v = 0
  · subst hv
    go_enter Try.func20, Try.ntmps20
    go_wp2
    go_ret
    exact ⟨by simp [kindOf], hbel⟩
  · have hv1 : (v == 0) = false := by simpa using hv
    go_enter Try.func20, Try.ntmps20
    go_wp2
    go_loop [5] (fun i => ∃ k : Nat, k ≤ c.ins.length ∧ i = .int .i64 k ∧ hasVar (c.ins.take k) v = false) (fun i => c.ins.length - (intOf i).toNat)
    case atStart => exact ⟨0, Nat.zero_le _, rfl, rfl⟩
    case round =>
      obtain ⟨k, hk, rfl, hno⟩ := hrel
      have HN := Lib.hid hno; clear hno
      by_cases hlt : k < c.ins.length
      · obtain ⟨b, o, ha, hb, hc⟩ := H.out.ins.int hlt
        have hx := HI.out.ins c.ins[k] (List.getElem_mem _)
        have HX := Lib.hid (hasVar_take c.ins v k hlt)
        have HS := Lib.hid (hasVar_some c.ins v k hlt)
        obtain ⟨x0, x1⟩ := hx
        generalize c.ins[k] = x at *
        go_wp2
        · go_ret
          exact ⟨ret_str (by unfold kindOf; rw [if_neg hv, if_pos (HS.out (by assumption) (beq_iff_eq.1 (by assumption)))]), by rw [← ha]; exact hbel⟩
        all_goals
          refine ⟨⟨k + 1, by omega, rfl, ?_⟩, by simp [intOf]; omega⟩
          rw [HX.out, HN.out]; first | (have hq := ‹(x / 2 == v) = false›; rw [beq_eq_false_iff_ne] at hq; simp [hq]) | (simp; omega)
      · obtain rfl : k = c.ins.length := by omega
        rw [List.take_of_length_le (Nat.le_refl _)] at HN
        go_wp2
        have HN1 := HN; clear HN
        go_loop [6] (fun i => ∃ k : Nat, k ≤ c.lats.length ∧ i = .int .i64 k ∧ hasTri (c.lats.take k) v = false) (fun i => c.lats.length - (intOf i).toNat)
        case atStart => exact ⟨0, Nat.zero_le _, rfl, rfl⟩
        case round =>
          obtain ⟨k, hk, rfl, hno⟩ := hrel
          have HN := Lib.hid hno; clear hno
          by_cases hlt : k < c.lats.length
          · obtain ⟨b, o, ha, hb, hc, _, _⟩ := H.out.lats.tri hlt
            have hx := HI.out.lats c.lats[k] (List.getElem_mem _)
            have HX := Lib.hid (hasTri_take c.lats v k hlt)
            have HS := Lib.hid (hasTri_some c.lats v k hlt)
            obtain ⟨⟨x0, x1⟩, _, _⟩ := hx
            generalize c.lats[k].a = x at *
            go_wp2
            · go_ret
              exact ⟨ret_str (by unfold kindOf; rw [if_neg hv, if_neg (by rw [HN1.out]; simp), if_pos (HS.out (by assumption) (beq_iff_eq.1 (by assumption)))]), by rw [← ha]; exact hbel⟩
            all_goals
              refine ⟨⟨k + 1, by omega, rfl, ?_⟩, by simp [intOf]; omega⟩
              rw [HX.out, HN.out]; first | (have hq := ‹(x / 2 == v) = false›; rw [beq_eq_false_iff_ne] at hq; simp [hq]) | (simp; omega)
          · obtain rfl : k = c.lats.length := by omega
            rw [List.take_of_length_le (Nat.le_refl _)] at HN
            go_wp2
            have HN2 := HN; clear HN
            go_loop [7] (fun i => ∃ k : Nat, k ≤ c.ands.length ∧ i = .int .i64 k ∧ hasTri (c.ands.take k) v = false) (fun i => c.ands.length - (intOf i).toNat)
            case atStart => exact ⟨0, Nat.zero_le _, rfl, rfl⟩
            case round =>
              obtain ⟨k, hk, rfl, hno⟩ := hrel
              have HN := Lib.hid hno; clear hno
              by_cases hlt : k < c.ands.length
              · obtain ⟨b, o, ha, hb, hc, _, _⟩ := H.out.ands.tri hlt
                have hx := HI.out.ands c.ands[k] (List.getElem_mem _)
                have HX := Lib.hid (hasTri_take c.ands v k hlt)
                have HS := Lib.hid (hasTri_some c.ands v k hlt)
                obtain ⟨⟨x0, x1⟩, _, _⟩ := hx
                generalize c.ands[k].a = x at *
                go_wp2
                · go_ret
                  exact ⟨ret_str (by unfold kindOf; rw [if_neg hv, if_neg (by rw [HN1.out]; simp), if_neg (by rw [HN2.out]; simp), if_pos (HS.out (by assumption) (beq_iff_eq.1 (by assumption)))]), by rw [← ha]; exact hbel⟩
                all_goals
                  refine ⟨⟨k + 1, by omega, rfl, ?_⟩, by simp [intOf]; omega⟩
                  rw [HX.out, HN.out]; first | (have hq := ‹(x / 2 == v) = false›; rw [beq_eq_false_iff_ne] at hq; simp [hq]) | (simp; omega)
              · obtain rfl : k = c.ands.length := by omega
                rw [List.take_of_length_le (Nat.le_refl _)] at HN
                go_wp2
                go_ret
                exact ⟨ret_str (by unfold kindOf; rw [if_neg hv, if_neg (by rw [HN1.out]; simp), if_neg (by rw [HN2.out]; simp), if_neg (by rw [HN.out]; simp)]), hbel⟩

end Go.Proofs.Ytefhhldfelmnkaa.Cw
