/- The walk of the pages' Own: a circuit in memory of its own; no condition. -/
import Derived.Test.YtefhhldfelmnkaaClone
namespace Go.Proofs.Ytefhhldfelmnkaa.Cw
open Go.ChangeShapes Go.WideShapes Go.ChangeAt Go.RowKit Go.Maps Circ

/-- the box in block g holds cs; what lay below g is there -/
structure Boxed (W : World) (g : Nat) (cs : Array Value) (w : World) : Prop where
  h : w.heap[g]? = some (.cells cs 27 (0, 0))
  b : Below g W w
  z : g + 2 ≤ w.heap.size
theorem Boxed.cell {W : World} {g : Nat} {cs : Array Value} {w : World} (h : Boxed W g cs w) (i : Nat) : w.cell? ⟨g, i, none⟩ = cs[i]? := by simp [World.cell?, h.h]
theorem Boxed.thaw {W : World} {g : Nat} {cs : Array Value} {w : World} (h : Boxed W g cs w) (i : Nat) : w.frozen? ⟨g, i, none⟩ = false := by simp [World.frozen?, h.h]
theorem Boxed.below {W : World} {g : Nat} {cs : Array Value} {w w' : World} (h : Boxed W g cs w) (hb : Below w.heap.size w w') : Boxed W g cs w' :=
  have hz := h.z
  ⟨(hb.block g (by omega)).trans h.h, h.b.trans (hb.mono (by omega)), Nat.le_trans h.z hb.size⟩
theorem Boxed.set {W : World} {g : Nat} {cs : Array Value} {w : World} (h : Boxed W g cs w) (i : Nat) (v : Value) : Boxed W g (cs.setIfInBounds i v) (w.setCell ⟨g, i, none⟩ v) := by
  refine ⟨by simp [World.setCell, Array.getElem?_modify, h.h], ⟨h.b.os, h.b.tape, h.b.output, by simpa using h.b.size, fun k hk => ?_⟩, by simpa using h.z⟩
  have : (w.setCell ⟨g, i, none⟩ v).heap[k]? = w.heap[k]? := by simp [World.setCell, Array.getElem?_modify, show g ≠ k by omega]
  rw [this]; exact h.b.block k hk
theorem set_cells_other {w : World} {g i : Nat} (v : Value) {k : Nat} (h : k ≠ g) : (w.setCell ⟨g, i, none⟩ v).heap[k]? = w.heap[k]? := by simp [World.setCell, Array.getElem?_modify, Ne.symm h]
theorem fresh_below {w w' : World} {e : TypeId} (h : (w.alloc (.cells #[] e)).grownBy w' (Value.slice (some ⟨w.heap.size, 0, none⟩) 0 0).ownBlock) : Below w.heap.size w w' :=
  have h1 : Below w.heap.size w (w.alloc (.cells #[] e)) := (Below.refl _ _).alloc (Nat.le_refl _) _
  h1.trans ⟨h.os, h.tape, h.output, h.size, fun k hk => h.block k (by have := h1.size; omega) (fun e => by simp [Value.ownBlock] at e; omega)⟩
theorem OwnC.setBox {w : World} {base : Nat} {e : TypeId} {m : Nat} {v : Value} {xs : List (List Value)} (h : OwnC w base e m v xs) {g i : Nat} (hg : g < base) (u : Value) : OwnC (w.setCell ⟨g, i, none⟩ u) base e m v xs := h.keep_at fun k hk _ => set_cells_other u (by omega)

/-- a circuit all of whose lists were made from block B on -/
structure Owned (w : World) (B : Nat) (c : Cir) (s : Places) : Prop where
  ins : OwnC w B 3 1 (.slice s.ai c.ins.length s.ki) (ints c.ins)
  lats : OwnC w B 47 3 (.slice s.al c.lats.length s.kl) (tris c.lats)
  outs : OwnC w B 3 1 (.slice s.ao c.outs.length s.ko) (ints c.outs)
  bads : OwnC w B 3 1 (.slice s.ab c.bads.length s.kb) (ints c.bads)
  invs : OwnC w B 3 1 (.slice s.ac c.invs.length s.kc) (ints c.invs)
  ands : OwnC w B 40 3 (.slice s.aa c.ands.length s.ka) (tris c.ands)
  names : OwnC w B 45 3 (.slice s.an c.names.length s.kn) (nams c.names)

set_option maxHeartbeats 4000000 in
set_option maxRecDepth 100000 in
theorem own_any (c : Cir) (s : Places) (w : World) (h : CLies w w.heap.size c s) (hf : CFits c s) :
    Calls Try.prog 8 #[cirV c s] w fun e w' => (∃ s', e = .returned (cirV c s') ∧ Owned w' (w.heap.size + 2) c s') ∧ Below w.heap.size w w' := by
  have hz0 : (w.alloc (.cells (cirC c s) 27)).heap.size = w.heap.size + 1 := by simp
  have B0 : Hid (Boxed w w.heap.size (cirC c s) ((w.alloc (.cells (cirC c s) 27)).alloc (.cells #[.int .i64 0, .slice none 0 0, .slice none 0 0, .slice none 0 0, .slice none 0 0, .slice none 0 0, .slice none 0 0, .slice none 0 0] 27))) := by
    refine ⟨?_, ((Below.refl _ _).alloc (Nat.le_refl _) _).alloc (by simp) _, by simp⟩
    rw [Below.heap_alloc _ _ _ (by rw [hz0]; exact Nat.lt_succ_self _)]
    exact Array.getElem?_push_size
  have R0 : Hid (((w.alloc (.cells (cirC c s) 27)).alloc (.cells #[.int .i64 0, .slice none 0 0, .slice none 0 0, .slice none 0 0, .slice none 0 0, .slice none 0 0, .slice none 0 0, .slice none 0 0] 27)).heap[w.heap.size + 1]? = some (.cells #[.int .i64 0, .slice none 0 0, .slice none 0 0, .slice none 0 0, .slice none 0 0, .slice none 0 0, .slice none 0 0, .slice none 0 0] 27 (0, 0))) := by
    unfold Hid; rw [← hz0]; exact Array.getElem?_push_size
  have H := Lib.hid h
  obtain ⟨li, lo, lb, lc, ll, la, ln⟩ : _ ∧ _ ∧ _ ∧ _ ∧ _ ∧ _ ∧ _ := ⟨hf.li, hf.lo, hf.lb, hf.lc, hf.ll, hf.la, hf.ln⟩
  clear h hf hz0
  rw [show cirV c s = .agg (cirC c s) from rfl]
  rw [show cirC c s = #[.int .i64 c.max, .slice s.ai c.ins.length s.ki, .slice s.al c.lats.length s.kl, .slice s.ao c.outs.length s.ko, .slice s.ab c.bads.length s.kb, .slice s.ac c.invs.length s.kc, .slice s.aa c.ands.length s.ka, .slice s.an c.names.length s.kn] from rfl] at *
  generalize hX : (w.alloc (.cells #[.int .i64 c.max, .slice s.ai c.ins.length s.ki, .slice s.al c.lats.length s.kl, .slice s.ao c.outs.length s.ko, .slice s.ab c.bads.length s.kb, .slice s.ac c.invs.length s.kc, .slice s.aa c.ands.length s.ka, .slice s.an c.names.length s.kn] 27)).alloc (.cells #[.int .i64 0, .slice none 0 0, .slice none 0 0, .slice none 0 0, .slice none 0 0, .slice none 0 0, .slice none 0 0, .slice none 0 0] 27) = X at B0 R0
  have hgz : w.heap.size + 2 ≤ X.heap.size := B0.out.z
  have LX0 := Lib.hid (H.out.below B0.out.b)
  have al0 := (B0.out.below ((Below.refl X.heap.size _).alloc (Nat.le_refl _) (.cells #[] 3))).cell 1
  have HO0 := Lib.hid (own_empty X (w.heap.size + 2) 3 1 B0.out.z)
  have HR0 := Lib.hid (H.out.ins.below (B0.out.below ((Below.refl X.heap.size _).alloc (Nat.le_refl _) (.cells #[] 3))).b)
  have HL0 : Hid ((ints c.ins).length * 8 ≤ 140737488355328) := by unfold Hid; rw [ints_length]; omega
  have HZ0 : Hid (w.heap.size + 2 ≤ (X.alloc (.cells #[] 3)).heap.size) := by unfold Hid; have := B0.out.z; simp; omega
  go_enter Try.func8, Try.ntmps8
  go_wp2_with (at_builtin; refine wpList_fill _ rfl (.tmp 3) (.tmp 5) 22 rfl 3 1 8 _ Try.underlying22 infoI rfl (by decide) (w.heap.size + 2) w.heap.size _ HO0.out X.heap.size (ints c.ins) rfl rfl s.ai c.ins.length s.ki (ints_length c.ins).symm rfl HR0.out (ints_len c.ins) (ints_one c.ins) HL0.out HZ0.out (by have := HL0.out; omega) ?_)
  intro v0 y0 hown0 hg0 hloc0
  obtain ⟨A0, q0, hv0, -, -, -⟩ := hown0.row (by decide) (ints_len c.ins)
  rw [ints_length] at hv0
  subst hv0
  have hfb0 := fresh_below hg0
  have BB0 := B0.out.below hfb0
  have cc0 := BB0.cell 1
  have ff0 := BB0.thaw 1
  obtain ⟨X1, hX1⟩ : ∃ x, y0.setCell ⟨w.heap.size, 1, none⟩ (.slice A0 c.ins.length q0) = x := ⟨_, rfl⟩
  have B1 := Lib.hid (BB0.set 1 (.slice A0 c.ins.length q0))
  rw [hX1] at B1
  have O0 : Hid (OwnC X1 (w.heap.size + 2) 3 1 (.slice A0 c.ins.length q0) (ints c.ins)) := by rw [← hX1]; exact hown0.setBox (by omega) _
  have RR0 := Lib.hid ((hfb0.block (w.heap.size + 1) (by have := B0.out.z; omega)).trans R0.out)
  have R1 : Hid (X1.heap[w.heap.size + 1]? = some (.cells #[.int .i64 0, .slice none 0 0, .slice none 0 0, .slice none 0 0, .slice none 0 0, .slice none 0 0, .slice none 0 0, .slice none 0 0] 27 (0, 0))) := by unfold Hid; rw [← hX1, set_cells_other _ (by omega)]; exact RR0.out
  clear hown0 hg0 hloc0 hfb0 al0 HO0 HR0 HL0 HZ0 BB0 B0 R0 RR0
  have al1 := (B1.out.below ((Below.refl X1.heap.size _).alloc (Nat.le_refl _) (.cells #[] 47))).cell 2
  have HO1 := Lib.hid (own_empty X1 (w.heap.size + 2) 47 3 B1.out.z)
  have HR1 := Lib.hid (H.out.lats.below (B1.out.below ((Below.refl X1.heap.size _).alloc (Nat.le_refl _) (.cells #[] 47))).b)
  have HL1 : Hid ((tris c.lats).length * 24 ≤ 140737488355328) := by unfold Hid; rw [tris_length]; omega
  have HZ1 : Hid (w.heap.size + 2 ≤ (X1.alloc (.cells #[] 47)).heap.size) := by unfold Hid; have := B1.out.z; simp; omega
  go_wp2_with (at_builtin; refine wpList_fill _ rfl (.tmp 8) (.tmp 10) 23 rfl 47 3 24 _ Try.underlying23 infoL rfl (by decide) (w.heap.size + 2) w.heap.size _ HO1.out X1.heap.size (tris c.lats) rfl rfl s.al c.lats.length s.kl (tris_length c.lats).symm rfl HR1.out (tris_len c.lats) (tris_one c.lats) HL1.out HZ1.out (by have := HL1.out; omega) ?_)
  intro v1 y1 hown1 hg1 hloc1
  obtain ⟨A1, q1, hv1, -, -, -⟩ := hown1.row (by decide) (tris_len c.lats)
  rw [tris_length] at hv1
  subst hv1
  have hfb1 := fresh_below hg1
  have BB1 := B1.out.below hfb1
  have cc1 := BB1.cell 2
  have ff1 := BB1.thaw 2
  obtain ⟨X2, hX2⟩ : ∃ x, y1.setCell ⟨w.heap.size, 2, none⟩ (.slice A1 c.lats.length q1) = x := ⟨_, rfl⟩
  have B2 := Lib.hid (BB1.set 2 (.slice A1 c.lats.length q1))
  rw [hX2] at B2
  have O1 : Hid (OwnC X2 (w.heap.size + 2) 47 3 (.slice A1 c.lats.length q1) (tris c.lats)) := by rw [← hX2]; exact hown1.setBox (by omega) _
  have RR1 := Lib.hid ((hfb1.block (w.heap.size + 1) (by have := B1.out.z; omega)).trans R1.out)
  have R2 : Hid (X2.heap[w.heap.size + 1]? = some (.cells #[.int .i64 0, .slice none 0 0, .slice none 0 0, .slice none 0 0, .slice none 0 0, .slice none 0 0, .slice none 0 0, .slice none 0 0] 27 (0, 0))) := by unfold Hid; rw [← hX2, set_cells_other _ (by omega)]; exact RR1.out
  have O0' : Hid (OwnC X2 (w.heap.size + 2) 3 1 (.slice A0 c.ins.length q0) (ints c.ins)) := by rw [← hX2]; exact (O0.out.keep hfb1).setBox (by omega) _
  clear O0; have O0 := O0'; clear O0'
  clear hown1 hg1 hloc1 hfb1 al1 HO1 HR1 HL1 HZ1 BB1 B1 R1 RR1
  have al2 := (B2.out.below ((Below.refl X2.heap.size _).alloc (Nat.le_refl _) (.cells #[] 40))).cell 6
  have HO2 := Lib.hid (own_empty X2 (w.heap.size + 2) 40 3 B2.out.z)
  have HR2 := Lib.hid (H.out.ands.below (B2.out.below ((Below.refl X2.heap.size _).alloc (Nat.le_refl _) (.cells #[] 40))).b)
  have HL2 : Hid ((tris c.ands).length * 24 ≤ 140737488355328) := by unfold Hid; rw [tris_length]; omega
  have HZ2 : Hid (w.heap.size + 2 ≤ (X2.alloc (.cells #[] 40)).heap.size) := by unfold Hid; have := B2.out.z; simp; omega
  go_wp2_with (at_builtin; refine wpList_fill _ rfl (.tmp 13) (.tmp 15) 24 rfl 40 3 24 _ Try.underlying24 infoA rfl (by decide) (w.heap.size + 2) w.heap.size _ HO2.out X2.heap.size (tris c.ands) rfl rfl s.aa c.ands.length s.ka (tris_length c.ands).symm rfl HR2.out (tris_len c.ands) (tris_one c.ands) HL2.out HZ2.out (by have := HL2.out; omega) ?_)
  intro v2 y2 hown2 hg2 hloc2
  obtain ⟨A2, q2, hv2, -, -, -⟩ := hown2.row (by decide) (tris_len c.ands)
  rw [tris_length] at hv2
  subst hv2
  have hfb2 := fresh_below hg2
  have BB2 := B2.out.below hfb2
  have cc2 := BB2.cell 6
  have ff2 := BB2.thaw 6
  obtain ⟨X3, hX3⟩ : ∃ x, y2.setCell ⟨w.heap.size, 6, none⟩ (.slice A2 c.ands.length q2) = x := ⟨_, rfl⟩
  have B3 := Lib.hid (BB2.set 6 (.slice A2 c.ands.length q2))
  rw [hX3] at B3
  have O2 : Hid (OwnC X3 (w.heap.size + 2) 40 3 (.slice A2 c.ands.length q2) (tris c.ands)) := by rw [← hX3]; exact hown2.setBox (by omega) _
  have RR2 := Lib.hid ((hfb2.block (w.heap.size + 1) (by have := B2.out.z; omega)).trans R2.out)
  have R3 : Hid (X3.heap[w.heap.size + 1]? = some (.cells #[.int .i64 0, .slice none 0 0, .slice none 0 0, .slice none 0 0, .slice none 0 0, .slice none 0 0, .slice none 0 0, .slice none 0 0] 27 (0, 0))) := by unfold Hid; rw [← hX3, set_cells_other _ (by omega)]; exact RR2.out
  have O0' : Hid (OwnC X3 (w.heap.size + 2) 3 1 (.slice A0 c.ins.length q0) (ints c.ins)) := by rw [← hX3]; exact (O0.out.keep hfb2).setBox (by omega) _
  clear O0; have O0 := O0'; clear O0'
  have O1' : Hid (OwnC X3 (w.heap.size + 2) 47 3 (.slice A1 c.lats.length q1) (tris c.lats)) := by rw [← hX3]; exact (O1.out.keep hfb2).setBox (by omega) _
  clear O1; have O1 := O1'; clear O1'
  clear hown2 hg2 hloc2 hfb2 al2 HO2 HR2 HL2 HZ2 BB2 B2 R2 RR2
  have al3 := (B3.out.below ((Below.refl X3.heap.size _).alloc (Nat.le_refl _) (.cells #[] 3))).cell 4
  have HO3 := Lib.hid (own_empty X3 (w.heap.size + 2) 3 1 B3.out.z)
  have HR3 := Lib.hid (H.out.bads.below (B3.out.below ((Below.refl X3.heap.size _).alloc (Nat.le_refl _) (.cells #[] 3))).b)
  have HL3 : Hid ((ints c.bads).length * 8 ≤ 140737488355328) := by unfold Hid; rw [ints_length]; omega
  have HZ3 : Hid (w.heap.size + 2 ≤ (X3.alloc (.cells #[] 3)).heap.size) := by unfold Hid; have := B3.out.z; simp; omega
  go_wp2_with (at_builtin; refine wpList_fill _ rfl (.tmp 18) (.tmp 20) 22 rfl 3 1 8 _ Try.underlying22 infoI rfl (by decide) (w.heap.size + 2) w.heap.size _ HO3.out X3.heap.size (ints c.bads) rfl rfl s.ab c.bads.length s.kb (ints_length c.bads).symm rfl HR3.out (ints_len c.bads) (ints_one c.bads) HL3.out HZ3.out (by have := HL3.out; omega) ?_)
  intro v3 y3 hown3 hg3 hloc3
  obtain ⟨A3, q3, hv3, -, -, -⟩ := hown3.row (by decide) (ints_len c.bads)
  rw [ints_length] at hv3
  subst hv3
  have hfb3 := fresh_below hg3
  have BB3 := B3.out.below hfb3
  have cc3 := BB3.cell 4
  have ff3 := BB3.thaw 4
  obtain ⟨X4, hX4⟩ : ∃ x, y3.setCell ⟨w.heap.size, 4, none⟩ (.slice A3 c.bads.length q3) = x := ⟨_, rfl⟩
  have B4 := Lib.hid (BB3.set 4 (.slice A3 c.bads.length q3))
  rw [hX4] at B4
  have O3 : Hid (OwnC X4 (w.heap.size + 2) 3 1 (.slice A3 c.bads.length q3) (ints c.bads)) := by rw [← hX4]; exact hown3.setBox (by omega) _
  have RR3 := Lib.hid ((hfb3.block (w.heap.size + 1) (by have := B3.out.z; omega)).trans R3.out)
  have R4 : Hid (X4.heap[w.heap.size + 1]? = some (.cells #[.int .i64 0, .slice none 0 0, .slice none 0 0, .slice none 0 0, .slice none 0 0, .slice none 0 0, .slice none 0 0, .slice none 0 0] 27 (0, 0))) := by unfold Hid; rw [← hX4, set_cells_other _ (by omega)]; exact RR3.out
  have O0' : Hid (OwnC X4 (w.heap.size + 2) 3 1 (.slice A0 c.ins.length q0) (ints c.ins)) := by rw [← hX4]; exact (O0.out.keep hfb3).setBox (by omega) _
  clear O0; have O0 := O0'; clear O0'
  have O1' : Hid (OwnC X4 (w.heap.size + 2) 47 3 (.slice A1 c.lats.length q1) (tris c.lats)) := by rw [← hX4]; exact (O1.out.keep hfb3).setBox (by omega) _
  clear O1; have O1 := O1'; clear O1'
  have O2' : Hid (OwnC X4 (w.heap.size + 2) 40 3 (.slice A2 c.ands.length q2) (tris c.ands)) := by rw [← hX4]; exact (O2.out.keep hfb3).setBox (by omega) _
  clear O2; have O2 := O2'; clear O2'
  clear hown3 hg3 hloc3 hfb3 al3 HO3 HR3 HL3 HZ3 BB3 B3 R3 RR3
  have al4 := (B4.out.below ((Below.refl X4.heap.size _).alloc (Nat.le_refl _) (.cells #[] 3))).cell 3
  have HO4 := Lib.hid (own_empty X4 (w.heap.size + 2) 3 1 B4.out.z)
  have HR4 := Lib.hid (H.out.outs.below (B4.out.below ((Below.refl X4.heap.size _).alloc (Nat.le_refl _) (.cells #[] 3))).b)
  have HL4 : Hid ((ints c.outs).length * 8 ≤ 140737488355328) := by unfold Hid; rw [ints_length]; omega
  have HZ4 : Hid (w.heap.size + 2 ≤ (X4.alloc (.cells #[] 3)).heap.size) := by unfold Hid; have := B4.out.z; simp; omega
  go_wp2_with (at_builtin; refine wpList_fill _ rfl (.tmp 23) (.tmp 25) 22 rfl 3 1 8 _ Try.underlying22 infoI rfl (by decide) (w.heap.size + 2) w.heap.size _ HO4.out X4.heap.size (ints c.outs) rfl rfl s.ao c.outs.length s.ko (ints_length c.outs).symm rfl HR4.out (ints_len c.outs) (ints_one c.outs) HL4.out HZ4.out (by have := HL4.out; omega) ?_)
  intro v4 y4 hown4 hg4 hloc4
  obtain ⟨A4, q4, hv4, -, -, -⟩ := hown4.row (by decide) (ints_len c.outs)
  rw [ints_length] at hv4
  subst hv4
  have hfb4 := fresh_below hg4
  have BB4 := B4.out.below hfb4
  have cc4 := BB4.cell 3
  have ff4 := BB4.thaw 3
  obtain ⟨X5, hX5⟩ : ∃ x, y4.setCell ⟨w.heap.size, 3, none⟩ (.slice A4 c.outs.length q4) = x := ⟨_, rfl⟩
  have B5 := Lib.hid (BB4.set 3 (.slice A4 c.outs.length q4))
  rw [hX5] at B5
  have O4 : Hid (OwnC X5 (w.heap.size + 2) 3 1 (.slice A4 c.outs.length q4) (ints c.outs)) := by rw [← hX5]; exact hown4.setBox (by omega) _
  have RR4 := Lib.hid ((hfb4.block (w.heap.size + 1) (by have := B4.out.z; omega)).trans R4.out)
  have R5 : Hid (X5.heap[w.heap.size + 1]? = some (.cells #[.int .i64 0, .slice none 0 0, .slice none 0 0, .slice none 0 0, .slice none 0 0, .slice none 0 0, .slice none 0 0, .slice none 0 0] 27 (0, 0))) := by unfold Hid; rw [← hX5, set_cells_other _ (by omega)]; exact RR4.out
  have O0' : Hid (OwnC X5 (w.heap.size + 2) 3 1 (.slice A0 c.ins.length q0) (ints c.ins)) := by rw [← hX5]; exact (O0.out.keep hfb4).setBox (by omega) _
  clear O0; have O0 := O0'; clear O0'
  have O1' : Hid (OwnC X5 (w.heap.size + 2) 47 3 (.slice A1 c.lats.length q1) (tris c.lats)) := by rw [← hX5]; exact (O1.out.keep hfb4).setBox (by omega) _
  clear O1; have O1 := O1'; clear O1'
  have O2' : Hid (OwnC X5 (w.heap.size + 2) 40 3 (.slice A2 c.ands.length q2) (tris c.ands)) := by rw [← hX5]; exact (O2.out.keep hfb4).setBox (by omega) _
  clear O2; have O2 := O2'; clear O2'
  have O3' : Hid (OwnC X5 (w.heap.size + 2) 3 1 (.slice A3 c.bads.length q3) (ints c.bads)) := by rw [← hX5]; exact (O3.out.keep hfb4).setBox (by omega) _
  clear O3; have O3 := O3'; clear O3'
  clear hown4 hg4 hloc4 hfb4 al4 HO4 HR4 HL4 HZ4 BB4 B4 R4 RR4
  have al5 := (B5.out.below ((Below.refl X5.heap.size _).alloc (Nat.le_refl _) (.cells #[] 3))).cell 5
  have HO5 := Lib.hid (own_empty X5 (w.heap.size + 2) 3 1 B5.out.z)
  have HR5 := Lib.hid (H.out.invs.below (B5.out.below ((Below.refl X5.heap.size _).alloc (Nat.le_refl _) (.cells #[] 3))).b)
  have HL5 : Hid ((ints c.invs).length * 8 ≤ 140737488355328) := by unfold Hid; rw [ints_length]; omega
  have HZ5 : Hid (w.heap.size + 2 ≤ (X5.alloc (.cells #[] 3)).heap.size) := by unfold Hid; have := B5.out.z; simp; omega
  go_wp2_with (at_builtin; refine wpList_fill _ rfl (.tmp 28) (.tmp 30) 22 rfl 3 1 8 _ Try.underlying22 infoI rfl (by decide) (w.heap.size + 2) w.heap.size _ HO5.out X5.heap.size (ints c.invs) rfl rfl s.ac c.invs.length s.kc (ints_length c.invs).symm rfl HR5.out (ints_len c.invs) (ints_one c.invs) HL5.out HZ5.out (by have := HL5.out; omega) ?_)
  intro v5 y5 hown5 hg5 hloc5
  obtain ⟨A5, q5, hv5, -, -, -⟩ := hown5.row (by decide) (ints_len c.invs)
  rw [ints_length] at hv5
  subst hv5
  have hfb5 := fresh_below hg5
  have BB5 := B5.out.below hfb5
  have cc5 := BB5.cell 5
  have ff5 := BB5.thaw 5
  obtain ⟨X6, hX6⟩ : ∃ x, y5.setCell ⟨w.heap.size, 5, none⟩ (.slice A5 c.invs.length q5) = x := ⟨_, rfl⟩
  have B6 := Lib.hid (BB5.set 5 (.slice A5 c.invs.length q5))
  rw [hX6] at B6
  have O5 : Hid (OwnC X6 (w.heap.size + 2) 3 1 (.slice A5 c.invs.length q5) (ints c.invs)) := by rw [← hX6]; exact hown5.setBox (by omega) _
  have RR5 := Lib.hid ((hfb5.block (w.heap.size + 1) (by have := B5.out.z; omega)).trans R5.out)
  have R6 : Hid (X6.heap[w.heap.size + 1]? = some (.cells #[.int .i64 0, .slice none 0 0, .slice none 0 0, .slice none 0 0, .slice none 0 0, .slice none 0 0, .slice none 0 0, .slice none 0 0] 27 (0, 0))) := by unfold Hid; rw [← hX6, set_cells_other _ (by omega)]; exact RR5.out
  have O0' : Hid (OwnC X6 (w.heap.size + 2) 3 1 (.slice A0 c.ins.length q0) (ints c.ins)) := by rw [← hX6]; exact (O0.out.keep hfb5).setBox (by omega) _
  clear O0; have O0 := O0'; clear O0'
  have O1' : Hid (OwnC X6 (w.heap.size + 2) 47 3 (.slice A1 c.lats.length q1) (tris c.lats)) := by rw [← hX6]; exact (O1.out.keep hfb5).setBox (by omega) _
  clear O1; have O1 := O1'; clear O1'
  have O2' : Hid (OwnC X6 (w.heap.size + 2) 40 3 (.slice A2 c.ands.length q2) (tris c.ands)) := by rw [← hX6]; exact (O2.out.keep hfb5).setBox (by omega) _
  clear O2; have O2 := O2'; clear O2'
  have O3' : Hid (OwnC X6 (w.heap.size + 2) 3 1 (.slice A3 c.bads.length q3) (ints c.bads)) := by rw [← hX6]; exact (O3.out.keep hfb5).setBox (by omega) _
  clear O3; have O3 := O3'; clear O3'
  have O4' : Hid (OwnC X6 (w.heap.size + 2) 3 1 (.slice A4 c.outs.length q4) (ints c.outs)) := by rw [← hX6]; exact (O4.out.keep hfb5).setBox (by omega) _
  clear O4; have O4 := O4'; clear O4'
  clear hown5 hg5 hloc5 hfb5 al5 HO5 HR5 HL5 HZ5 BB5 B5 R5 RR5
  have al6 := (B6.out.below ((Below.refl X6.heap.size _).alloc (Nat.le_refl _) (.cells #[] 45))).cell 7
  have HO6 := Lib.hid (own_empty X6 (w.heap.size + 2) 45 3 B6.out.z)
  have HR6 := Lib.hid (H.out.names.below (B6.out.below ((Below.refl X6.heap.size _).alloc (Nat.le_refl _) (.cells #[] 45))).b)
  have HL6 : Hid ((nams c.names).length * 40 ≤ 140737488355328) := by unfold Hid; rw [nams_length]; omega
  have HZ6 : Hid (w.heap.size + 2 ≤ (X6.alloc (.cells #[] 45)).heap.size) := by unfold Hid; have := B6.out.z; simp; omega
  go_wp2_with (at_builtin; refine wpList_fill _ rfl (.tmp 33) (.tmp 35) 25 rfl 45 3 40 _ Try.underlying25 infoN rfl (by decide) (w.heap.size + 2) w.heap.size _ HO6.out X6.heap.size (nams c.names) rfl rfl s.an c.names.length s.kn (nams_length c.names).symm rfl HR6.out (nams_len c.names) (nams_one c.names) HL6.out HZ6.out (by have := HL6.out; omega) ?_)
  intro v6 y6 hown6 hg6 hloc6
  obtain ⟨A6, q6, hv6, -, -, -⟩ := hown6.row (by decide) (nams_len c.names)
  rw [nams_length] at hv6
  subst hv6
  have hfb6 := fresh_below hg6
  have BB6 := B6.out.below hfb6
  have cc6 := BB6.cell 7
  have ff6 := BB6.thaw 7
  obtain ⟨X7, hX7⟩ : ∃ x, y6.setCell ⟨w.heap.size, 7, none⟩ (.slice A6 c.names.length q6) = x := ⟨_, rfl⟩
  have B7 := Lib.hid (BB6.set 7 (.slice A6 c.names.length q6))
  rw [hX7] at B7
  have O6 : Hid (OwnC X7 (w.heap.size + 2) 45 3 (.slice A6 c.names.length q6) (nams c.names)) := by rw [← hX7]; exact hown6.setBox (by omega) _
  have RR6 := Lib.hid ((hfb6.block (w.heap.size + 1) (by have := B6.out.z; omega)).trans R6.out)
  have R7 : Hid (X7.heap[w.heap.size + 1]? = some (.cells #[.int .i64 0, .slice none 0 0, .slice none 0 0, .slice none 0 0, .slice none 0 0, .slice none 0 0, .slice none 0 0, .slice none 0 0] 27 (0, 0))) := by unfold Hid; rw [← hX7, set_cells_other _ (by omega)]; exact RR6.out
  have O0' : Hid (OwnC X7 (w.heap.size + 2) 3 1 (.slice A0 c.ins.length q0) (ints c.ins)) := by rw [← hX7]; exact (O0.out.keep hfb6).setBox (by omega) _
  clear O0; have O0 := O0'; clear O0'
  have O1' : Hid (OwnC X7 (w.heap.size + 2) 47 3 (.slice A1 c.lats.length q1) (tris c.lats)) := by rw [← hX7]; exact (O1.out.keep hfb6).setBox (by omega) _
  clear O1; have O1 := O1'; clear O1'
  have O2' : Hid (OwnC X7 (w.heap.size + 2) 40 3 (.slice A2 c.ands.length q2) (tris c.ands)) := by rw [← hX7]; exact (O2.out.keep hfb6).setBox (by omega) _
  clear O2; have O2 := O2'; clear O2'
  have O3' : Hid (OwnC X7 (w.heap.size + 2) 3 1 (.slice A3 c.bads.length q3) (ints c.bads)) := by rw [← hX7]; exact (O3.out.keep hfb6).setBox (by omega) _
  clear O3; have O3 := O3'; clear O3'
  have O4' : Hid (OwnC X7 (w.heap.size + 2) 3 1 (.slice A4 c.outs.length q4) (ints c.outs)) := by rw [← hX7]; exact (O4.out.keep hfb6).setBox (by omega) _
  clear O4; have O4 := O4'; clear O4'
  have O5' : Hid (OwnC X7 (w.heap.size + 2) 3 1 (.slice A5 c.invs.length q5) (ints c.invs)) := by rw [← hX7]; exact (O5.out.keep hfb6).setBox (by omega) _
  clear O5; have O5 := O5'; clear O5'
  clear hown6 hg6 hloc6 hfb6 al6 HO6 HR6 HL6 HZ6 BB6 B6 R6 RR6
  have k0 := B7.out.cell 0
  have k1 := B7.out.cell 1
  have k2 := B7.out.cell 2
  have k3 := B7.out.cell 3
  have k4 := B7.out.cell 4
  have k5 := B7.out.cell 5
  have k6 := B7.out.cell 6
  have k7 := B7.out.cell 7
  clear cc0 cc1 cc2 cc3 cc4 cc5 ff0 ff1 ff2 ff3 ff4 ff5
  have hZ0 : Hid (Below (w.heap.size + 1) X7 X7) := Below.refl _ _
  have E0 := R7
  have p0 : X7.cell? ⟨w.heap.size + 1, 0, none⟩ = some (.int .i64 0) := by simp [World.cell?, E0.out]
  have t0 : X7.frozen? ⟨w.heap.size + 1, 0, none⟩ = false := by simp [World.frozen?, E0.out]
  obtain ⟨Z1, hS1⟩ : ∃ x, X7.setCell ⟨w.heap.size + 1, 0, none⟩ (.int .i64 c.max) = x := ⟨_, rfl⟩
  have E1 : Hid (Z1.heap[w.heap.size + 1]? = some (.cells #[.int .i64 c.max, .slice none 0 0, .slice none 0 0, .slice none 0 0, .slice none 0 0, .slice none 0 0, .slice none 0 0, .slice none 0 0] 27 (0, 0))) := by unfold Hid; rw [← hS1]; simp [World.setCell, Array.getElem?_modify, E0.out]
  have F1 : Hid (∀ b, b ≠ w.heap.size + 1 → Z1.heap[b]? = X7.heap[b]?) := fun b hb => by rw [← hS1]; exact set_cells_other _ hb
  have G1 : Hid (Z1.heap.size = X7.heap.size ∧ Z1.os = X7.os ∧ Z1.tape = X7.tape ∧ Z1.output = X7.output) := by rw [← hS1]; exact ⟨by simp, rfl, rfl, rfl⟩
  have p1 : Z1.cell? ⟨w.heap.size + 1, 1, none⟩ = some (.slice none 0 0) := by simp [World.cell?, E1.out]
  have t1 : Z1.frozen? ⟨w.heap.size + 1, 1, none⟩ = false := by simp [World.frozen?, E1.out]
  obtain ⟨Z2, hS2⟩ : ∃ x, Z1.setCell ⟨w.heap.size + 1, 1, none⟩ (.slice A0 c.ins.length q0) = x := ⟨_, rfl⟩
  have E2 : Hid (Z2.heap[w.heap.size + 1]? = some (.cells #[.int .i64 c.max, .slice A0 c.ins.length q0, .slice none 0 0, .slice none 0 0, .slice none 0 0, .slice none 0 0, .slice none 0 0, .slice none 0 0] 27 (0, 0))) := by unfold Hid; rw [← hS2]; simp [World.setCell, Array.getElem?_modify, E1.out]
  have F2 : Hid (∀ b, b ≠ w.heap.size + 1 → Z2.heap[b]? = Z1.heap[b]?) := fun b hb => by rw [← hS2]; exact set_cells_other _ hb
  have G2 : Hid (Z2.heap.size = Z1.heap.size ∧ Z2.os = Z1.os ∧ Z2.tape = Z1.tape ∧ Z2.output = Z1.output) := by rw [← hS2]; exact ⟨by simp, rfl, rfl, rfl⟩
  have p2 : Z2.cell? ⟨w.heap.size + 1, 2, none⟩ = some (.slice none 0 0) := by simp [World.cell?, E2.out]
  have t2 : Z2.frozen? ⟨w.heap.size + 1, 2, none⟩ = false := by simp [World.frozen?, E2.out]
  obtain ⟨Z3, hS3⟩ : ∃ x, Z2.setCell ⟨w.heap.size + 1, 2, none⟩ (.slice A1 c.lats.length q1) = x := ⟨_, rfl⟩
  have E3 : Hid (Z3.heap[w.heap.size + 1]? = some (.cells #[.int .i64 c.max, .slice A0 c.ins.length q0, .slice A1 c.lats.length q1, .slice none 0 0, .slice none 0 0, .slice none 0 0, .slice none 0 0, .slice none 0 0] 27 (0, 0))) := by unfold Hid; rw [← hS3]; simp [World.setCell, Array.getElem?_modify, E2.out]
  have F3 : Hid (∀ b, b ≠ w.heap.size + 1 → Z3.heap[b]? = Z2.heap[b]?) := fun b hb => by rw [← hS3]; exact set_cells_other _ hb
  have G3 : Hid (Z3.heap.size = Z2.heap.size ∧ Z3.os = Z2.os ∧ Z3.tape = Z2.tape ∧ Z3.output = Z2.output) := by rw [← hS3]; exact ⟨by simp, rfl, rfl, rfl⟩
  have p3 : Z3.cell? ⟨w.heap.size + 1, 3, none⟩ = some (.slice none 0 0) := by simp [World.cell?, E3.out]
  have t3 : Z3.frozen? ⟨w.heap.size + 1, 3, none⟩ = false := by simp [World.frozen?, E3.out]
  obtain ⟨Z4, hS4⟩ : ∃ x, Z3.setCell ⟨w.heap.size + 1, 3, none⟩ (.slice A4 c.outs.length q4) = x := ⟨_, rfl⟩
  have E4 : Hid (Z4.heap[w.heap.size + 1]? = some (.cells #[.int .i64 c.max, .slice A0 c.ins.length q0, .slice A1 c.lats.length q1, .slice A4 c.outs.length q4, .slice none 0 0, .slice none 0 0, .slice none 0 0, .slice none 0 0] 27 (0, 0))) := by unfold Hid; rw [← hS4]; simp [World.setCell, Array.getElem?_modify, E3.out]
  have F4 : Hid (∀ b, b ≠ w.heap.size + 1 → Z4.heap[b]? = Z3.heap[b]?) := fun b hb => by rw [← hS4]; exact set_cells_other _ hb
  have G4 : Hid (Z4.heap.size = Z3.heap.size ∧ Z4.os = Z3.os ∧ Z4.tape = Z3.tape ∧ Z4.output = Z3.output) := by rw [← hS4]; exact ⟨by simp, rfl, rfl, rfl⟩
  have p4 : Z4.cell? ⟨w.heap.size + 1, 4, none⟩ = some (.slice none 0 0) := by simp [World.cell?, E4.out]
  have t4 : Z4.frozen? ⟨w.heap.size + 1, 4, none⟩ = false := by simp [World.frozen?, E4.out]
  obtain ⟨Z5, hS5⟩ : ∃ x, Z4.setCell ⟨w.heap.size + 1, 4, none⟩ (.slice A3 c.bads.length q3) = x := ⟨_, rfl⟩
  have E5 : Hid (Z5.heap[w.heap.size + 1]? = some (.cells #[.int .i64 c.max, .slice A0 c.ins.length q0, .slice A1 c.lats.length q1, .slice A4 c.outs.length q4, .slice A3 c.bads.length q3, .slice none 0 0, .slice none 0 0, .slice none 0 0] 27 (0, 0))) := by unfold Hid; rw [← hS5]; simp [World.setCell, Array.getElem?_modify, E4.out]
  have F5 : Hid (∀ b, b ≠ w.heap.size + 1 → Z5.heap[b]? = Z4.heap[b]?) := fun b hb => by rw [← hS5]; exact set_cells_other _ hb
  have G5 : Hid (Z5.heap.size = Z4.heap.size ∧ Z5.os = Z4.os ∧ Z5.tape = Z4.tape ∧ Z5.output = Z4.output) := by rw [← hS5]; exact ⟨by simp, rfl, rfl, rfl⟩
  have p5 : Z5.cell? ⟨w.heap.size + 1, 5, none⟩ = some (.slice none 0 0) := by simp [World.cell?, E5.out]
  have t5 : Z5.frozen? ⟨w.heap.size + 1, 5, none⟩ = false := by simp [World.frozen?, E5.out]
  obtain ⟨Z6, hS6⟩ : ∃ x, Z5.setCell ⟨w.heap.size + 1, 5, none⟩ (.slice A5 c.invs.length q5) = x := ⟨_, rfl⟩
  have E6 : Hid (Z6.heap[w.heap.size + 1]? = some (.cells #[.int .i64 c.max, .slice A0 c.ins.length q0, .slice A1 c.lats.length q1, .slice A4 c.outs.length q4, .slice A3 c.bads.length q3, .slice A5 c.invs.length q5, .slice none 0 0, .slice none 0 0] 27 (0, 0))) := by unfold Hid; rw [← hS6]; simp [World.setCell, Array.getElem?_modify, E5.out]
  have F6 : Hid (∀ b, b ≠ w.heap.size + 1 → Z6.heap[b]? = Z5.heap[b]?) := fun b hb => by rw [← hS6]; exact set_cells_other _ hb
  have G6 : Hid (Z6.heap.size = Z5.heap.size ∧ Z6.os = Z5.os ∧ Z6.tape = Z5.tape ∧ Z6.output = Z5.output) := by rw [← hS6]; exact ⟨by simp, rfl, rfl, rfl⟩
  have p6 : Z6.cell? ⟨w.heap.size + 1, 6, none⟩ = some (.slice none 0 0) := by simp [World.cell?, E6.out]
  have t6 : Z6.frozen? ⟨w.heap.size + 1, 6, none⟩ = false := by simp [World.frozen?, E6.out]
  obtain ⟨Z7, hS7⟩ : ∃ x, Z6.setCell ⟨w.heap.size + 1, 6, none⟩ (.slice A2 c.ands.length q2) = x := ⟨_, rfl⟩
  have E7 : Hid (Z7.heap[w.heap.size + 1]? = some (.cells #[.int .i64 c.max, .slice A0 c.ins.length q0, .slice A1 c.lats.length q1, .slice A4 c.outs.length q4, .slice A3 c.bads.length q3, .slice A5 c.invs.length q5, .slice A2 c.ands.length q2, .slice none 0 0] 27 (0, 0))) := by unfold Hid; rw [← hS7]; simp [World.setCell, Array.getElem?_modify, E6.out]
  have F7 : Hid (∀ b, b ≠ w.heap.size + 1 → Z7.heap[b]? = Z6.heap[b]?) := fun b hb => by rw [← hS7]; exact set_cells_other _ hb
  have G7 : Hid (Z7.heap.size = Z6.heap.size ∧ Z7.os = Z6.os ∧ Z7.tape = Z6.tape ∧ Z7.output = Z6.output) := by rw [← hS7]; exact ⟨by simp, rfl, rfl, rfl⟩
  have p7 : Z7.cell? ⟨w.heap.size + 1, 7, none⟩ = some (.slice none 0 0) := by simp [World.cell?, E7.out]
  have t7 : Z7.frozen? ⟨w.heap.size + 1, 7, none⟩ = false := by simp [World.frozen?, E7.out]
  obtain ⟨Z8, hS8⟩ : ∃ x, Z7.setCell ⟨w.heap.size + 1, 7, none⟩ (.slice A6 c.names.length q6) = x := ⟨_, rfl⟩
  have E8 : Hid (Z8.heap[w.heap.size + 1]? = some (.cells #[.int .i64 c.max, .slice A0 c.ins.length q0, .slice A1 c.lats.length q1, .slice A4 c.outs.length q4, .slice A3 c.bads.length q3, .slice A5 c.invs.length q5, .slice A2 c.ands.length q2, .slice A6 c.names.length q6] 27 (0, 0))) := by unfold Hid; rw [← hS8]; simp [World.setCell, Array.getElem?_modify, E7.out]
  have F8 : Hid (∀ b, b ≠ w.heap.size + 1 → Z8.heap[b]? = Z7.heap[b]?) := fun b hb => by rw [← hS8]; exact set_cells_other _ hb
  have G8 : Hid (Z8.heap.size = Z7.heap.size ∧ Z8.os = Z7.os ∧ Z8.tape = Z7.tape ∧ Z8.output = Z7.output) := by rw [← hS8]; exact ⟨by simp, rfl, rfl, rfl⟩
  have FF : Hid (∀ b, b ≠ w.heap.size + 1 → Z8.heap[b]? = X7.heap[b]?) := fun b hb => (F8.out b hb).trans ((F7.out b hb).trans ((F6.out b hb).trans ((F5.out b hb).trans ((F4.out b hb).trans ((F3.out b hb).trans ((F2.out b hb).trans (F1.out b hb)))))))
  have SZ : Hid (Z8.heap.size = X7.heap.size) := by unfold Hid; rw [G8.out.1, G7.out.1, G6.out.1, G5.out.1, G4.out.1, G3.out.1, G2.out.1, G1.out.1]
  have WB : Hid (Below w.heap.size w Z8) := ⟨(by rw [G8.out.2.1, G7.out.2.1, G6.out.2.1, G5.out.2.1, G4.out.2.1, G3.out.2.1, G2.out.2.1, G1.out.2.1]; exact B7.out.b.os), (by rw [G8.out.2.2.1, G7.out.2.2.1, G6.out.2.2.1, G5.out.2.2.1, G4.out.2.2.1, G3.out.2.2.1, G2.out.2.2.1, G1.out.2.2.1]; exact B7.out.b.tape), (by rw [G8.out.2.2.2, G7.out.2.2.2, G6.out.2.2.2, G5.out.2.2.2, G4.out.2.2.2, G3.out.2.2.2, G2.out.2.2.2, G1.out.2.2.2]; exact B7.out.b.output), (by rw [SZ.out]; exact B7.out.b.size), fun k hk => (FF.out k (by omega)).trans (B7.out.b.block k hk)⟩
  have r0 : Z8.cell? ⟨w.heap.size + 1, 0, none⟩ = some (.int .i64 c.max) := by simp [World.cell?, E8.out]
  have r1 : Z8.cell? ⟨w.heap.size + 1, 1, none⟩ = some (.slice A0 c.ins.length q0) := by simp [World.cell?, E8.out]
  have r2 : Z8.cell? ⟨w.heap.size + 1, 2, none⟩ = some (.slice A1 c.lats.length q1) := by simp [World.cell?, E8.out]
  have r3 : Z8.cell? ⟨w.heap.size + 1, 3, none⟩ = some (.slice A4 c.outs.length q4) := by simp [World.cell?, E8.out]
  have r4 : Z8.cell? ⟨w.heap.size + 1, 4, none⟩ = some (.slice A3 c.bads.length q3) := by simp [World.cell?, E8.out]
  have r5 : Z8.cell? ⟨w.heap.size + 1, 5, none⟩ = some (.slice A5 c.invs.length q5) := by simp [World.cell?, E8.out]
  have r6 : Z8.cell? ⟨w.heap.size + 1, 6, none⟩ = some (.slice A2 c.ands.length q2) := by simp [World.cell?, E8.out]
  have r7 : Z8.cell? ⟨w.heap.size + 1, 7, none⟩ = some (.slice A6 c.names.length q6) := by simp [World.cell?, E8.out]
  have Q0 : Hid (OwnC Z8 (w.heap.size + 2) 3 1 (.slice A0 c.ins.length q0) (ints c.ins)) := O0.out.keep_at fun b hb _ => FF.out b (by omega)
  have Q1 : Hid (OwnC Z8 (w.heap.size + 2) 47 3 (.slice A1 c.lats.length q1) (tris c.lats)) := O1.out.keep_at fun b hb _ => FF.out b (by omega)
  have Q2 : Hid (OwnC Z8 (w.heap.size + 2) 40 3 (.slice A2 c.ands.length q2) (tris c.ands)) := O2.out.keep_at fun b hb _ => FF.out b (by omega)
  have Q3 : Hid (OwnC Z8 (w.heap.size + 2) 3 1 (.slice A3 c.bads.length q3) (ints c.bads)) := O3.out.keep_at fun b hb _ => FF.out b (by omega)
  have Q4 : Hid (OwnC Z8 (w.heap.size + 2) 3 1 (.slice A4 c.outs.length q4) (ints c.outs)) := O4.out.keep_at fun b hb _ => FF.out b (by omega)
  have Q5 : Hid (OwnC Z8 (w.heap.size + 2) 3 1 (.slice A5 c.invs.length q5) (ints c.invs)) := O5.out.keep_at fun b hb _ => FF.out b (by omega)
  have Q6 : Hid (OwnC Z8 (w.heap.size + 2) 45 3 (.slice A6 c.names.length q6) (nams c.names)) := O6.out.keep_at fun b hb _ => FF.out b (by omega)
  clear F1 G1 E0 F2 G2 E1 F3 G3 E2 F4 G4 E3 F5 G5 E4 F6 G6 E5 F7 G7 E6 F8 G8 E7 FF SZ hZ0 O0 O1 O2 O3 O4 O5 O6
  go_wp2
  (try simp only [Exit.inBlock, Exit.then])
  have hres : ∀ tmps : Array Value, tmps.getD 2 undef = .pointer (some ⟨w.heap.size + 1, 0, none⟩) → (results Try.f8 tmps).run Try.prog Z8 = .ok (cirV c ⟨A0, A1, A4, A3, A5, A2, A6, q0, q1, q4, q3, q5, q2, q6⟩) Z8 := fun tmps ht => by
    simp only [results, show Try.f8.results = #[ResultVar.cell 2 27] from rfl]
    have ht' : tmps[2]?.getD undef = .pointer (some ⟨w.heap.size + 1, 0, none⟩) := by simpa using ht
    go_simp
    rfl
  refine bodyPost_ret (hres _ rfl) rfl ?_
  exact ⟨⟨⟨A0, A1, A4, A3, A5, A2, A6, q0, q1, q4, q3, q5, q2, q6⟩, rfl, ⟨Q0.out, Q1.out, Q4.out, Q3.out, Q5.out, Q2.out, Q6.out⟩⟩, WB.out⟩
end Go.Proofs.Ytefhhldfelmnkaa.Cw
