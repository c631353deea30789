/- The walk of the pages' Spoil: a circuit's lists, written over; no condition. -/
import Derived.Test.YtefhhldfelmnkaaClone
namespace Go.Proofs.Ytefhhldfelmnkaa.Cw
open Go.ChangeShapes Go.WideShapes Go.ChangeAt Go.RowKit Go.Maps Circ

/-- n elements of m cells each that may be written over, in a block from base on and before hi -/
def Wri (w : World) (base hi : Nat) (m : Nat) (A : Option Addr) (n : Nat) : Prop := n = 0 ∨ ∃ g o e cur, A = some ⟨g, o, none⟩ ∧ base ≤ g ∧ g < hi ∧ w.heap[g]? = some (.cells cur e (0, 0)) ∧ o + n * m ≤ cur.size
theorem Wri.set {w : World} {base hi m : Nat} {A : Option Addr} {n : Nat} (h : Wri w base hi m A n) (b i : Nat) (v : Value) : Wri (w.setCell ⟨b, i, none⟩ v) base hi m A n := by
  rcases h with h | ⟨g, o, e, cur, hA, h1, h2, h3, h4⟩
  · exact .inl h
  · by_cases hb : b = g
    · subst hb
      exact .inr ⟨b, o, e, cur.setIfInBounds i v, hA, h1, h2, by simp [World.setCell, Array.getElem?_modify, h3], by simpa using h4⟩
    · exact .inr ⟨g, o, e, cur, hA, h1, h2, by simp [World.setCell, Array.getElem?_modify, hb, h3], h4⟩
theorem Wri.at {w : World} {base hi m : Nat} {A : Option Addr} {n : Nat} (h : Wri w base hi m A n) {k : Nat} (hk : k < n) : ∃ b o, A = some ⟨b, o, none⟩ ∧ base ≤ b ∧ b < hi ∧ ∀ j, j < m → (∃ u, w.cell? ⟨b, o + (k * m + j), none⟩ = some u) ∧ w.frozen? ⟨b, o + (k * m + j), none⟩ = false := by
  rcases h with h | ⟨g, o, e, cur, hA, h1, h2, h3, h4⟩
  · omega
  · refine ⟨g, o, hA, h1, h2, fun j hj => ⟨?_, by simp [World.frozen?, h3]⟩⟩
    have : (k + 1) * m ≤ n * m := Nat.mul_le_mul_right _ hk
    rw [Nat.add_mul] at this
    have hlt : o + (k * m + j) < cur.size := by omega
    exact ⟨cur[o + (k * m + j)], by simp [World.cell?, h3, hlt]⟩

structure Spo (W : World) (base hi : Nat) (c : Cir) (s : Places) (w : World) : Prop where
  box : w.heap[W.heap.size]? = some (.cells (cirC c s) 27 (0, 0))
  ins : Wri w base hi 1 s.ai c.ins.length
  lats : Wri w base hi 3 s.al c.lats.length
  outs : Wri w base hi 1 s.ao c.outs.length
  bads : Wri w base hi 1 s.ab c.bads.length
  invs : Wri w base hi 1 s.ac c.invs.length
  ands : Wri w base hi 3 s.aa c.ands.length
  names : Wri w base hi 3 s.an c.names.length
  b : Below base W w
  up : ∀ k, hi ≤ k → k < W.heap.size → w.heap[k]? = W.heap[k]?
  z : W.heap.size + 1 ≤ w.heap.size
  hz : hi ≤ W.heap.size
theorem Spo.set {W : World} {base hi : Nat} {c : Cir} {s : Places} {w : World} (h : Spo W base hi c s w) (b i : Nat) (v : Value) (h1 : base ≤ b) (h2 : b < hi) : Spo W base hi c s (w.setCell ⟨b, i, none⟩ v) :=
  have o : ∀ k, k ≠ b → (w.setCell ⟨b, i, none⟩ v).heap[k]? = w.heap[k]? := fun k hk => by simp [World.setCell, Array.getElem?_modify, Ne.symm hk]
  have hh := h.hz
  ⟨(o _ (by omega)).trans h.box, h.ins.set b i v, h.lats.set b i v, h.outs.set b i v, h.bads.set b i v, h.invs.set b i v, h.ands.set b i v, h.names.set b i v,
   ⟨h.b.os, h.b.tape, h.b.output, by simpa using h.b.size, fun k hk => (o k (by omega)).trans (h.b.block k hk)⟩, fun k h3 h4 => (o k (by omega)).trans (h.up k h3 h4), by simpa using h.z, h.hz⟩
theorem Spo.cell {W : World} {base hi : Nat} {c : Cir} {s : Places} {w : World} (h : Spo W base hi c s w) (i : Nat) : w.cell? ⟨W.heap.size, i, none⟩ = (cirC c s)[i]? := by simp [World.cell?, h.box]

set_option maxHeartbeats 4000000 in
set_option maxRecDepth 100000 in
theorem spoil_any (c : Cir) (s : Places) (base hi : Nat) (w : World) (hb : base ≤ w.heap.size) (hh : hi ≤ w.heap.size) (hf : CFits c s)
    (w1 : Wri w base hi 1 s.ai c.ins.length) (w2 : Wri w base hi 3 s.al c.lats.length) (w3 : Wri w base hi 1 s.ao c.outs.length) (w4 : Wri w base hi 1 s.ab c.bads.length) (w5 : Wri w base hi 1 s.ac c.invs.length) (w6 : Wri w base hi 3 s.aa c.ands.length) (w7 : Wri w base hi 3 s.an c.names.length) :
    Calls Try.prog 10 #[cirV c s] w fun e w' => e = .returned (.tuple #[]) ∧ Below base w w' ∧ (∀ k, hi ≤ k → k < w.heap.size → w'.heap[k]? = w.heap[k]?) := by
  obtain ⟨li, lo, lb, lc, ll, la, ln⟩ : _ ∧ _ ∧ _ ∧ _ ∧ _ ∧ _ ∧ _ := ⟨hf.li, hf.lo, hf.lb, hf.lc, hf.ll, hf.la, hf.ln⟩
  have al : ∀ {m A n}, Wri w base hi m A n → Wri (w.alloc (.cells (cirC c s) 27)) base hi m A n := fun h => by
    rcases h with h | ⟨g, o, e, cur, hA, h1, h2, h3, h4⟩
    · exact .inl h
    · exact .inr ⟨g, o, e, cur, hA, h1, h2, (Below.heap_alloc _ _ _ (Array.getElem?_eq_some_iff.1 h3).1).trans h3, h4⟩
  have P := Lib.hid (show Spo w base hi c s (w.alloc (.cells (cirC c s) 27)) from ⟨Array.getElem?_push_size, al w1, al w2, al w3, al w4, al w5, al w6, al w7, (Below.refl _ _).alloc hb _, fun k _ hk => Below.heap_alloc _ _ _ hk, by simp, hh⟩)
  have e1 := P.out.cell 1
  clear al w1 w2 w3 w4 w5 w6 w7 hf
  rw [show cirV c s = .agg (cirC c s) from rfl]
  rw [show cirC c s = #[.int .i64 c.max, .slice s.ai c.ins.length s.ki, .slice s.al c.lats.length s.kl, .slice s.ao c.outs.length s.ko, .slice s.ab c.bads.length s.kb, .slice s.ac c.invs.length s.kc, .slice s.aa c.ands.length s.ka, .slice s.an c.names.length s.kn] from rfl] at P ⊢
  go_enter Try.func10, Try.ntmps10
  go_wp2
  go_loopw [2] (fun i wr => ∃ k : Nat, k ≤ c.ins.length ∧ i = .int .i64 k ∧ Spo w base hi c s wr) (fun i _ => c.ins.length - (intOf i).toNat)
  case atStart => exact ⟨0, Nat.zero_le _, rfl, P.out⟩
  case round =>
    clear P e1
    obtain ⟨k, hk, rfl, p⟩ := hrel
    have P := Lib.hid p
    clear p
    have e1 : wr.cell? ⟨w.heap.size, 1, none⟩ = _ := P.out.cell 1
    simp only [cirC] at e1
    by_cases hlt : k < c.ins.length
    · obtain ⟨b, o, ha, hb1, hb2, hc⟩ := P.out.ins.at hlt
      obtain ⟨⟨u0, c0⟩, f0⟩ := hc 0 (by omega)
      rw [Nat.mul_one, Nat.add_zero] at c0 f0
      simp only [ha] at e1
      obtain ⟨X1, hX1⟩ : ∃ x, wr.setCell ⟨b, o + k, none⟩ (.int .i64 77) = x := ⟨_, rfl⟩
      have P1 := Lib.hid ((P).out.set b (o + k) (.int .i64 77) hb1 hb2)
      rw [hX1] at P1
      clear hc
      go_wp2
      go_roundw
      case rel => exact ⟨k + 1, by omega, by go_num, P1.out⟩
      case measure => simp [intOf]; omega
    · obtain rfl : k = c.ins.length := by omega
      obtain ⟨wz, rfl⟩ : ∃ x, x = wr := ⟨_, rfl⟩
      go_wp2
      go_loopw [3] (fun i wr => ∃ k : Nat, k ≤ c.lats.length ∧ i = .int .i64 k ∧ Spo w base hi c s wr) (fun i _ => c.lats.length - (intOf i).toNat)
      case atStart => exact ⟨0, Nat.zero_le _, rfl, P.out⟩
      case round =>
        clear P e1
        obtain ⟨k, hk, rfl, p⟩ := hrel
        have P := Lib.hid p
        clear p
        have e1 : wr.cell? ⟨w.heap.size, 2, none⟩ = _ := P.out.cell 2
        simp only [cirC] at e1
        by_cases hlt : k < c.lats.length
        · obtain ⟨b, o, ha, hb1, hb2, hc⟩ := P.out.lats.at hlt
          obtain ⟨⟨u0, c0⟩, f0⟩ := hc 0 (by omega)
          rw [Nat.add_zero] at c0 f0
          simp only [ha] at e1
          obtain ⟨X1, hX1⟩ : ∃ x, wr.setCell ⟨b, o + k * 3, none⟩ (.int .i64 77) = x := ⟨_, rfl⟩
          have P1 := Lib.hid ((P).out.set b (o + k * 3) (.int .i64 77) hb1 hb2)
          rw [hX1] at P1
          obtain ⟨b', o', ha', -, -, hc1⟩ := P1.out.lats.at hlt
          obtain ⟨⟨u1, c1⟩, f1⟩ := hc1 1 (by omega)
          rw [ha] at ha'; injection ha' with ha'; injection ha' with ha1 ha2; subst ha1; subst ha2
          rw [← Nat.add_assoc] at c1 f1
          clear hc1
          obtain ⟨X2, hX2⟩ : ∃ x, X1.setCell ⟨b, o + k * 3 + 1, none⟩ (.int .i64 0) = x := ⟨_, rfl⟩
          have P2 := Lib.hid ((P1).out.set b (o + k * 3 + 1) (.int .i64 0) hb1 hb2)
          rw [hX2] at P2
          obtain ⟨b', o', ha', -, -, hc2⟩ := P2.out.lats.at hlt
          obtain ⟨⟨u2, c2⟩, f2⟩ := hc2 2 (by omega)
          rw [ha] at ha'; injection ha' with ha'; injection ha' with ha1 ha2; subst ha1; subst ha2
          rw [← Nat.add_assoc] at c2 f2
          clear hc2
          obtain ⟨X3, hX3⟩ : ∃ x, X2.setCell ⟨b, o + k * 3 + 2, none⟩ (.int .i64 0) = x := ⟨_, rfl⟩
          have P3 := Lib.hid ((P2).out.set b (o + k * 3 + 2) (.int .i64 0) hb1 hb2)
          rw [hX3] at P3
          clear hc
          go_wp2
          go_roundw
          case rel => exact ⟨k + 1, by omega, by go_num, P3.out⟩
          case measure => simp [intOf]; omega
        · obtain rfl : k = c.lats.length := by omega
          obtain ⟨wz, rfl⟩ : ∃ x, x = wr := ⟨_, rfl⟩
          go_wp2
          go_loopw [4] (fun i wr => ∃ k : Nat, k ≤ c.ands.length ∧ i = .int .i64 k ∧ Spo w base hi c s wr) (fun i _ => c.ands.length - (intOf i).toNat)
          case atStart => exact ⟨0, Nat.zero_le _, rfl, P.out⟩
          case round =>
            clear P e1
            obtain ⟨k, hk, rfl, p⟩ := hrel
            have P := Lib.hid p
            clear p
            have e1 : wr.cell? ⟨w.heap.size, 6, none⟩ = _ := P.out.cell 6
            simp only [cirC] at e1
            by_cases hlt : k < c.ands.length
            · obtain ⟨b, o, ha, hb1, hb2, hc⟩ := P.out.ands.at hlt
              obtain ⟨⟨u0, c0⟩, f0⟩ := hc 0 (by omega)
              rw [Nat.add_zero] at c0 f0
              simp only [ha] at e1
              obtain ⟨X1, hX1⟩ : ∃ x, wr.setCell ⟨b, o + k * 3, none⟩ (.int .i64 77) = x := ⟨_, rfl⟩
              have P1 := Lib.hid ((P).out.set b (o + k * 3) (.int .i64 77) hb1 hb2)
              rw [hX1] at P1
              obtain ⟨b', o', ha', -, -, hc1⟩ := P1.out.ands.at hlt
              obtain ⟨⟨u1, c1⟩, f1⟩ := hc1 1 (by omega)
              rw [ha] at ha'; injection ha' with ha'; injection ha' with ha1 ha2; subst ha1; subst ha2
              rw [← Nat.add_assoc] at c1 f1
              clear hc1
              obtain ⟨X2, hX2⟩ : ∃ x, X1.setCell ⟨b, o + k * 3 + 1, none⟩ (.int .i64 0) = x := ⟨_, rfl⟩
              have P2 := Lib.hid ((P1).out.set b (o + k * 3 + 1) (.int .i64 0) hb1 hb2)
              rw [hX2] at P2
              obtain ⟨b', o', ha', -, -, hc2⟩ := P2.out.ands.at hlt
              obtain ⟨⟨u2, c2⟩, f2⟩ := hc2 2 (by omega)
              rw [ha] at ha'; injection ha' with ha'; injection ha' with ha1 ha2; subst ha1; subst ha2
              rw [← Nat.add_assoc] at c2 f2
              clear hc2
              obtain ⟨X3, hX3⟩ : ∃ x, X2.setCell ⟨b, o + k * 3 + 2, none⟩ (.int .i64 0) = x := ⟨_, rfl⟩
              have P3 := Lib.hid ((P2).out.set b (o + k * 3 + 2) (.int .i64 0) hb1 hb2)
              rw [hX3] at P3
              clear hc
              go_wp2
              go_roundw
              case rel => exact ⟨k + 1, by omega, by go_num, P3.out⟩
              case measure => simp [intOf]; omega
            · obtain rfl : k = c.ands.length := by omega
              obtain ⟨wz, rfl⟩ : ∃ x, x = wr := ⟨_, rfl⟩
              go_wp2
              go_loopw [5] (fun i wr => ∃ k : Nat, k ≤ c.bads.length ∧ i = .int .i64 k ∧ Spo w base hi c s wr) (fun i _ => c.bads.length - (intOf i).toNat)
              case atStart => exact ⟨0, Nat.zero_le _, rfl, P.out⟩
              case round =>
                clear P e1
                obtain ⟨k, hk, rfl, p⟩ := hrel
                have P := Lib.hid p
                clear p
                have e1 : wr.cell? ⟨w.heap.size, 4, none⟩ = _ := P.out.cell 4
                simp only [cirC] at e1
                by_cases hlt : k < c.bads.length
                · obtain ⟨b, o, ha, hb1, hb2, hc⟩ := P.out.bads.at hlt
                  obtain ⟨⟨u0, c0⟩, f0⟩ := hc 0 (by omega)
                  rw [Nat.mul_one, Nat.add_zero] at c0 f0
                  simp only [ha] at e1
                  obtain ⟨X1, hX1⟩ : ∃ x, wr.setCell ⟨b, o + k, none⟩ (.int .i64 77) = x := ⟨_, rfl⟩
                  have P1 := Lib.hid ((P).out.set b (o + k) (.int .i64 77) hb1 hb2)
                  rw [hX1] at P1
                  clear hc
                  go_wp2
                  go_roundw
                  case rel => exact ⟨k + 1, by omega, by go_num, P1.out⟩
                  case measure => simp [intOf]; omega
                · obtain rfl : k = c.bads.length := by omega
                  obtain ⟨wz, rfl⟩ : ∃ x, x = wr := ⟨_, rfl⟩
                  go_wp2
                  go_loopw [6] (fun i wr => ∃ k : Nat, k ≤ c.outs.length ∧ i = .int .i64 k ∧ Spo w base hi c s wr) (fun i _ => c.outs.length - (intOf i).toNat)
                  case atStart => exact ⟨0, Nat.zero_le _, rfl, P.out⟩
                  case round =>
                    clear P e1
                    obtain ⟨k, hk, rfl, p⟩ := hrel
                    have P := Lib.hid p
                    clear p
                    have e1 : wr.cell? ⟨w.heap.size, 3, none⟩ = _ := P.out.cell 3
                    simp only [cirC] at e1
                    by_cases hlt : k < c.outs.length
                    · obtain ⟨b, o, ha, hb1, hb2, hc⟩ := P.out.outs.at hlt
                      obtain ⟨⟨u0, c0⟩, f0⟩ := hc 0 (by omega)
                      rw [Nat.mul_one, Nat.add_zero] at c0 f0
                      simp only [ha] at e1
                      obtain ⟨X1, hX1⟩ : ∃ x, wr.setCell ⟨b, o + k, none⟩ (.int .i64 77) = x := ⟨_, rfl⟩
                      have P1 := Lib.hid ((P).out.set b (o + k) (.int .i64 77) hb1 hb2)
                      rw [hX1] at P1
                      clear hc
                      go_wp2
                      go_roundw
                      case rel => exact ⟨k + 1, by omega, by go_num, P1.out⟩
                      case measure => simp [intOf]; omega
                    · obtain rfl : k = c.outs.length := by omega
                      obtain ⟨wz, rfl⟩ : ∃ x, x = wr := ⟨_, rfl⟩
                      go_wp2
                      go_loopw [7] (fun i wr => ∃ k : Nat, k ≤ c.invs.length ∧ i = .int .i64 k ∧ Spo w base hi c s wr) (fun i _ => c.invs.length - (intOf i).toNat)
                      case atStart => exact ⟨0, Nat.zero_le _, rfl, P.out⟩
                      case round =>
                        clear P e1
                        obtain ⟨k, hk, rfl, p⟩ := hrel
                        have P := Lib.hid p
                        clear p
                        have e1 : wr.cell? ⟨w.heap.size, 5, none⟩ = _ := P.out.cell 5
                        simp only [cirC] at e1
                        by_cases hlt : k < c.invs.length
                        · obtain ⟨b, o, ha, hb1, hb2, hc⟩ := P.out.invs.at hlt
                          obtain ⟨⟨u0, c0⟩, f0⟩ := hc 0 (by omega)
                          rw [Nat.mul_one, Nat.add_zero] at c0 f0
                          simp only [ha] at e1
                          obtain ⟨X1, hX1⟩ : ∃ x, wr.setCell ⟨b, o + k, none⟩ (.int .i64 77) = x := ⟨_, rfl⟩
                          have P1 := Lib.hid ((P).out.set b (o + k) (.int .i64 77) hb1 hb2)
                          rw [hX1] at P1
                          clear hc
                          go_wp2
                          go_roundw
                          case rel => exact ⟨k + 1, by omega, by go_num, P1.out⟩
                          case measure => simp [intOf]; omega
                        · obtain rfl : k = c.invs.length := by omega
                          obtain ⟨wz, rfl⟩ : ∃ x, x = wr := ⟨_, rfl⟩
                          go_wp2
                          go_loopw [8] (fun i wr => ∃ k : Nat, k ≤ c.names.length ∧ i = .int .i64 k ∧ Spo w base hi c s wr) (fun i _ => c.names.length - (intOf i).toNat)
                          case atStart => exact ⟨0, Nat.zero_le _, rfl, P.out⟩
                          case round =>
                            clear P e1
                            obtain ⟨k, hk, rfl, p⟩ := hrel
                            have P := Lib.hid p
                            clear p
                            have e1 : wr.cell? ⟨w.heap.size, 7, none⟩ = _ := P.out.cell 7
                            simp only [cirC] at e1
                            by_cases hlt : k < c.names.length
                            · obtain ⟨b, o, ha, hb1, hb2, hc⟩ := P.out.names.at hlt
                              obtain ⟨⟨u0, c0⟩, f0⟩ := hc 0 (by omega)
                              rw [Nat.add_zero] at c0 f0
                              simp only [ha] at e1
                              obtain ⟨X1, hX1⟩ : ∃ x, wr.setCell ⟨b, o + k * 3, none⟩ (.string ⟨#[122]⟩) = x := ⟨_, rfl⟩
                              have P1 := Lib.hid ((P).out.set b (o + k * 3) (.string ⟨#[122]⟩) hb1 hb2)
                              rw [hX1] at P1
                              obtain ⟨b', o', ha', -, -, hc1⟩ := P1.out.names.at hlt
                              obtain ⟨⟨u1, c1⟩, f1⟩ := hc1 1 (by omega)
                              rw [ha] at ha'; injection ha' with ha'; injection ha' with ha1 ha2; subst ha1; subst ha2
                              rw [← Nat.add_assoc] at c1 f1
                              clear hc1
                              obtain ⟨X2, hX2⟩ : ∃ x, X1.setCell ⟨b, o + k * 3 + 1, none⟩ (.int .i64 0) = x := ⟨_, rfl⟩
                              have P2 := Lib.hid ((P1).out.set b (o + k * 3 + 1) (.int .i64 0) hb1 hb2)
                              rw [hX2] at P2
                              obtain ⟨b', o', ha', -, -, hc2⟩ := P2.out.names.at hlt
                              obtain ⟨⟨u2, c2⟩, f2⟩ := hc2 2 (by omega)
                              rw [ha] at ha'; injection ha' with ha'; injection ha' with ha1 ha2; subst ha1; subst ha2
                              rw [← Nat.add_assoc] at c2 f2
                              clear hc2
                              obtain ⟨X3, hX3⟩ : ∃ x, X2.setCell ⟨b, o + k * 3 + 2, none⟩ (.string ⟨#[]⟩) = x := ⟨_, rfl⟩
                              have P3 := Lib.hid ((P2).out.set b (o + k * 3 + 2) (.string ⟨#[]⟩) hb1 hb2)
                              rw [hX3] at P3
                              clear hc
                              go_wp2
                              go_roundw
                              case rel => exact ⟨k + 1, by omega, by go_num, P3.out⟩
                              case measure => simp [intOf]; omega
                            · obtain rfl : k = c.names.length := by omega
                              obtain ⟨wz, rfl⟩ : ∃ x, x = wr := ⟨_, rfl⟩
                              go_wp2
                              go_end0
                              exact ⟨rfl, P.out.b, P.out.up⟩
end Go.Proofs.Ytefhhldfelmnkaa.Cw
