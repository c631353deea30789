/- The walk of the closure that writes a variable down once; no condition. -/
import Derived.Test.YtefhhldfelmnkaaAnds
import Derived.Test.YtefhhldfelmnkaaRefD
namespace Go.Proofs.Ytefhhldfelmnkaa.Cw
open Go.ChangeShapes Go.WideShapes Go.ChangeAt Go.RowKit Go.Maps Circ

theorem OwnI.keep_at {w w' : World} {base : Nat} {v : Value} {xs : List Int} (h : OwnI w base v xs) (hb : ∀ g, base ≤ g → v.ownBlock = some g → w'.heap[g]? = w.heap[g]?) : OwnI w' base v xs := by
  obtain ⟨h0, h⟩ := h
  refine ⟨h0, ?_⟩
  rcases h with h | ⟨g, cap, cur, hv, hg, hh, r⟩
  · exact .inl h
  · exact .inr ⟨g, cap, cur, hv, hg, (hb g hg (by rw [hv]; rfl)).trans hh, r⟩

/-- what is written down in T: the set in block M, named by the cell in block M + 1, and the list that the cell in block M + 2 names -/
structure Down (M Ba N : Nat) (ands : List Tri) (v : Value) (T : List Int) (w : World) : Prop where
  cm : w.cell? ⟨M + 1, 0, none⟩ = some (.map (some M))
  hv : w.heap[M + 2]? = some (.cells #[v] 22 (0, 0))
  own : OwnI w (M + 3) v T
  set : IsSet w M T.reverse
  gates : IsAnds w Ba (andOf ands) N
  lt : Ba < M
  sz : M + 3 ≤ w.heap.size

theorem one_block {w : World} {b : Nat} {v : Value} (h : w.heap[b]? = some (.cells #[v] 22 (0, 0))) : w.cell? ⟨b, 0, none⟩ = some v ∧ w.frozen? ⟨b, 0, none⟩ = false := by
  simp [World.cell?, World.frozen?, h]
theorem set_block {w : World} {b : Nat} {v : Value} (u : Value) (h : w.heap[b]? = some (.cells #[v] 22 (0, 0))) : (w.setCell ⟨b, 0, none⟩ u).heap[b]? = some (.cells #[u] 22 (0, 0)) := by
  simp [World.setCell, Array.getElem?_modify, h]
theorem set_other {w : World} {b : Nat} (u : Value) {k : Nat} (h : k ≠ b) : (w.setCell ⟨b, 0, none⟩ u).heap[k]? = w.heap[k]? := by
  simp [World.setCell, Array.getElem?_modify, Ne.symm h]
theorem Down.cv {M Ba N : Nat} {ands : List Tri} {v : Value} {T : List Int} {w : World} (h : Down M Ba N ands v T w) : w.cell? ⟨M + 2, 0, none⟩ = some v := (one_block h.hv).1
theorem Down.alloc {M Ba N : Nat} {ands : List Tri} {v : Value} {T : List Int} {w : World} (h : Down M Ba N ands v T w) (o : Obj) : Down M Ba N ands v T (w.alloc o) :=
  have hb : Below w.heap.size w (w.alloc o) := (Below.refl _ _).alloc (Nat.le_refl _) o
  ⟨cell_later hb h.cm, (hb.block _ (by have := h.sz; omega)).trans h.hv, h.own.keep hb, h.set.alloc o, h.gates.alloc o, h.lt, Nat.le_trans h.sz hb.size⟩

def ReachP (M Ba N : Nat) (ands : List Tri) (v : Value) (T : List Int) (x : Int) (w : World) (e : Ending) (w' : World) : Prop :=
  e = .returned (.tuple #[]) ∧ (∃ v', Down M Ba N ands v' (put T x) w') ∧ Below M w w' ∧ ∀ p u, w.cell? p = some u → M + 3 ≤ p.block → v.ownBlock ≠ some p.block → w'.cell? p = some u

set_option maxHeartbeats 2000000 in
set_option maxRecDepth 100000 in
theorem reach_any (M Ba N : Nat) (ands : List Tri) (v : Value) (T : List Int) (x : Int) (w : World) (h : Down M Ba N ands v T w) (hx : I64 x) (hT : T.length * 8 + 8 ≤ 140737488355328) :
    Calls Try.prog 37 #[.int .i64 x, .pointer (some ⟨M + 1, 0, none⟩), .pointer (some ⟨M + 2, 0, none⟩)] w (ReachP M Ba N ands v T x w) := by
  obtain ⟨x0, x1⟩ := hx
  have hk : I64 (cnt x / 2) := by obtain ⟨b0, b1⟩ := cnt_bd x x1; unfold I64; omega
  have V := Lib.hid (fun w => var_any x w x1)
  have hl := h.set.look hk
  have hcon : T.reverse.contains (cnt x / 2) = T.contains (cnt x / 2) := by simp
  rw [hcon] at hl
  have cm := h.cm
  have HW := Lib.hid (h.alloc (.cells #[] 65))
  have HBw : Hid (Below M w (w.alloc (.cells #[] 65))) := (Below.refl M w).alloc (by have := h.sz; omega) _
  have HAl : Hid (∀ p u, w.cell? p = some u → (w.alloc (.cells #[] 65)).cell? p = some u) := fun p u hc => cell_later ((Below.refl _ _).alloc (Nat.le_refl _) _) hc
  have H := Lib.hid h
  clear h hcon
  cases hq : T.contains (cnt x / 2)
  case true =>
    have HP : Hid (put T x = T) := by unfold Hid put; rw [hq]; rfl
    rw [hq] at hl
    clear hq
    generalize cnt x / 2 = r at *
    go_enter Try.func37, Try.ntmps37
    go_wp2_with (go_at_call 38; refine (V.out _).mono ?_; rintro e w' ⟨rfl, rfl⟩)
    go_end0
    exact ⟨rfl, ⟨v, by rw [HP.out]; exact HW.out⟩, HBw.out, fun p u hc _ _ => HAl.out p u hc⟩
  case false =>
  by_cases h0 : cnt x / 2 = 0
  · have HP : Hid (put T x = T) := by unfold Hid put; rw [hq, h0]; rfl
    rw [hq] at hl
    rw [h0] at hl V
    clear hq h0
    go_enter Try.func37, Try.ntmps37
    go_wp2_with (go_at_call 38; refine (V.out _).mono ?_; rintro e w' ⟨rfl, rfl⟩)
    go_end0
    exact ⟨rfl, ⟨v, by rw [HP.out]; exact HW.out⟩, HBw.out, fun p u hc _ _ => HAl.out p u hc⟩
  · have HP : Hid (put T x = T ++ [cnt x / 2]) := by unfold Hid put; rw [hq]; simp [h0]
    rw [hq] at hl
    have h0' : (cnt x / 2 == 0) = false := by simpa using h0
    clear hq
    generalize cnt x / 2 = r at *
    obtain ⟨w2, hst, hS2, hg2⟩ := HW.out.set.store hk (by simp; omega)
    have n1 : M + 1 ≠ M := by omega
    have n2 : M + 2 ≠ M := by omega
    have cm2 := grow_cell hg2 HW.out.cm n1
    have hv2 := (hg2.block (M + 2) (by have := HW.out.sz; omega) (fun e => n2 (Option.some.inj e))).trans HW.out.hv
    have cv2 := (one_block hv2).1
    have hsz := H.out.sz
    have HO2 : Hid (OwnI w2 (M + 3) v T) := HW.out.own.keep_at fun g hg hv => hg2.block g (by have := (HW.out.own.block_lt g hv).2; exact this) (fun e => by have := Option.some.inj e; omega)
    have HB2 : Hid (Below M w w2) := HBw.out.trans (grown_below hg2 (Nat.le_refl _) (by have := HBw.out.size; omega))
    have cm1 := HW.out.cm
    have hone := one_row w2 r 3
    have hbo : Below w2.heap.size w2 (w2.alloc (.cells #[.int .i64 r] 3)) := (Below.refl _ _).alloc (Nat.le_refl _) _
    have hv3 := (hbo.block (M + 2) (by have := hg2.size; have := HBw.out.size; omega)).trans hv2
    have cv3 := (one_block hv3).1
    have HBO := Lib.hid hbo
    have hz2 : M + 3 ≤ (w2.alloc (.cells #[.int .i64 r] 3)).heap.size := by have := hg2.size; have := hbo.size; have := HBw.out.size; omega
    have HG2 := Lib.hid hg2
    have HS2 := Lib.hid hS2
    clear hbo hg2 hS2
    go_enter Try.func37, Try.ntmps37
    go_wp2_with (first | (go_at_call 38; refine (V.out _).mono ?_; rintro e w' ⟨rfl, rfl⟩) | (at_builtin; refine wpList_app _ rfl (.tmp 23) (.tmp 25) rfl (M + 3) _ v T [r] rfl (HO2.out.keep HBO.out) _ 1 1 rfl rfl hone ?_ hz2 ?_))
    · simp; omega
    intro v' w3 hown3 hg3 hloc3
    have HOW3 := Lib.hid hown3
    have HG3 := Lib.hid hg3
    have hv4 := (hg3.block (M + 2) (by omega) (fun e => by have := (HO2.out.keep HBO.out).block_lt _ e.symm; omega)).trans hv3
    obtain ⟨cv4, fz4⟩ := one_block hv4
    have HV4 := Lib.hid hv4
    obtain ⟨A', q', rfl, _⟩ := HOW3.out.row
    clear hown3 hg3 hloc3
    go_wp2
    go_end0
    have hsz3 : (w2.alloc (.cells #[.int .i64 r] 3)).heap.size ≤ w3.heap.size := HG3.out.size
    have hoth : ∀ k, k < w2.heap.size → v.ownBlock ≠ some k → k ≠ M + 2 → (w3.setCell ⟨M + 2, 0, none⟩ (.slice A' (T.length + 1) q')).heap[k]? = w2.heap[k]? := fun k hk1 hk2 hk3 => by
      rw [set_other _ hk3, HG3.out.block k (by have := HBO.out.size; omega) (fun e => hk2 e.symm)]
      exact HBO.out.block k hk1
    have hlow : ∀ k, k < M + 3 → v.ownBlock ≠ some k := fun k hk e => by have := HO2.out.block_lt k e; omega
    have hs2 : M + 3 ≤ w2.heap.size := by have := HG2.out.size; have := HBw.out.size; omega
    have hS4 : w3.setCell ⟨M + 2, 0, none⟩ (.slice A' (T.length + 1) q') = w3.setCell ⟨M + 2, 0, none⟩ (.slice A' (T.length + 1) q') := rfl
    refine ⟨rfl, ⟨.slice A' (T.length + 1) q', ?_⟩, ?_, ?_⟩
    · rw [HP.out]
      refine ⟨?_, set_block _ HV4.out, ?_, ?_, ?_, HW.out.lt, ?_⟩
      · rw [World.cell?_of_block (hoth (M + 1) (by omega) (hlow _ (by omega)) (by omega))]; exact cm2
      · refine OwnI.keep_at (by simpa using HOW3.out) fun g hg _ => set_other _ (by omega)
      · rw [List.reverse_append]
        exact HS2.out.keep (hoth M (by omega) (hlow _ (by omega)) (by omega))
      · have hlt := HW.out.lt
        exact HW.out.gates.keep ((hoth Ba (by omega) (hlow _ (by omega)) (by omega)).trans (HG2.out.block Ba (by have := HW.out.sz; omega) (fun e => by have := Option.some.inj e; omega)))
      · simp; omega
    · refine ⟨?_, ?_, ?_, ?_, fun k hk => (hoth k (by omega) (hlow _ (by omega)) (by omega)).trans (HB2.out.block k hk)⟩
      · exact HG3.out.os.trans (HBO.out.os.trans HB2.out.os)
      · exact HG3.out.tape.trans (HBO.out.tape.trans HB2.out.tape)
      · exact HG3.out.output.trans (HBO.out.output.trans HB2.out.output)
      · simp; have := HB2.out.size; have := HBO.out.size; omega
    · intro p u hc hp hv
      have hpl := World.block_lt_of_cell? _ _ hc
      have hsw := HBw.out.size
      have hsg := HG2.out.size
      rw [World.cell?_of_block (hoth p.block (by omega) hv (by omega)), World.cell?_of_block (HG2.out.block p.block (by omega) (fun e => by have := Option.some.inj e; omega))]
      exact HAl.out p u hc
end Go.Proofs.Ytefhhldfelmnkaa.Cw
