/- HeapRuns, from what it asks of the program's own heap. -/
import Derived.Test.YtclbbpmofifigaaPt04
import Derived.Laws.OwnMore
import Derived.Deep.CutBlock
import Derived.Deep.DeepCutAuto
import Derived.StillTailTactics
namespace Go.Proofs.Ytclbbpmofifigaa.Hep
open Go.ChangeShapes Go.WideShapes Go.ChangeAt Go.RowKit Go.Maps Circ Cw Cla

theorem Inv.start {I : HeapI} {w w' : World} {b : Nat} {hs hi : List Int} (ha : I.At w' b hs hi) (ho : ∀ k, I.own w' b k → w.heap.size ≤ k) (hb : Below w.heap.size w w') : Inv I w b hs hi [] [] (.slice none 0 0) (.slice none 0 0) w' :=
  ⟨ha, OwnI.nil _ _, OwnI.nil _ _, fun g hg => (by simp [Value.ownBlock] at hg), fun g hg => (by simp [Value.ownBlock] at hg), fun g hg => (by simp [Value.ownBlock] at hg), hb, ho⟩
/-- the list of scores, made anew -/
theorem Inv.new_sc {I : HeapI} {w0 w w' : World} {b : Nat} {hs hi sc ins sc' : List Int} {vs vi v : Value} (P : Prog14 I) (h : Inv I w0 b hs hi sc ins vs vi w) (ho : OwnI w' w.heap.size v sc') (hb : Below w.heap.size w w') : Inv I w0 b hs hi sc' ins v vi w' := by
  have h' := h.later P hb
  refine ⟨h'.at_, own_base ho h.bl.size, h'.oi, fun g hg hk => ?_, h'.si, fun g hg e => ?_, h'.bl, h'.ob⟩
  · have h1 := (ho.block_lt g hg).1
    obtain ⟨-, h2⟩ := P.keep w w' b hs hi h.at_ hb.size (fun k hk => hb.block k (P.lt w b hs hi k h.at_ hk))
    have := P.lt w b hs hi g h.at_ (h2 g hk)
    omega
  · have h1 := (ho.block_lt g hg).1
    have := (h.oi.block_lt g e).2
    omega
/-- what the lists hold after k calls -/
structure Ok14 (k : Nat) (sc ins : List Int) : Prop where
  inb : ∀ x ∈ ins, 0 ≤ x ∧ x < (sc.length : Int)
  scb : ∀ x ∈ sc, 0 ≤ x ∧ x ≤ 1125899906842624
  len : sc.length ≤ 8 + 4 * k
  num : ins.length ≤ k
theorem Ok14.next {k : Nat} {sc ins : List Int} (h : Ok14 k sc ins) : Ok14 (k + 1) sc ins := ⟨h.inb, h.scb, by have := h.len; omega, by have := h.num; omega⟩
/-- an older block that neither the heap nor the lists own -/
structure Bx (I : HeapI) (b kb : Nat) (C : Obj) (vs vi : Value) (w : World) : Prop where
  heap : w.heap[kb]? = some C
  own : ¬ I.own w b kb
  ns : vs.ownBlock ≠ some kb
  ni : vi.ownBlock ≠ some kb
section
variable {I : HeapI} {w0 w w' : World} {b kb : Nat} {C : Obj} {hs hi sc ins hs' hi' xs : List Int} {vs vi v : Value}
theorem Bx.lt (h : Bx I b kb C vs vi w) : kb < w.heap.size := (Array.getElem?_eq_some_iff.1 h.heap).1
theorem Bx.start (P : Prog14 I) (h : Inv I w0 b hs hi sc ins vs vi w) (hb : Below w.heap.size w w') (hc : w'.heap[w.heap.size]? = some C) : Bx I b w.heap.size C vs vi w' := by
  obtain ⟨-, h2⟩ := P.keep w w' b hs hi h.at_ hb.size (fun k hk => hb.block k (P.lt w b hs hi k h.at_ hk))
  refine ⟨hc, fun hk => ?_, fun e => ?_, fun e => ?_⟩
  · have := P.lt w b hs hi _ h.at_ (h2 _ hk); omega
  · have := (h.os.block_lt _ e).2; omega
  · have := (h.oi.block_lt _ e).2; omega
theorem Bx.later (P : Prog14 I) (h : Inv I w0 b hs hi sc ins vs vi w) (x : Bx I b kb C vs vi w) (hb : Below w.heap.size w w') : Bx I b kb C vs vi w' := by
  obtain ⟨-, h2⟩ := P.keep w w' b hs hi h.at_ hb.size (fun k hk => hb.block k (P.lt w b hs hi k h.at_ hk))
  exact ⟨(hb.block kb x.lt).trans x.heap, fun hk => x.own (h2 kb hk), x.ns, x.ni⟩
theorem Bx.eff (x : Bx I b kb C vs vi w) (he : Eff I w b w') : Bx I b kb C vs vi w' := by
  refine ⟨(he.other kb x.lt x.own).trans x.heap, fun hk => ?_, x.ns, x.ni⟩
  rcases he.own kb hk with h | h
  · exact x.own h
  · have := x.lt; omega
theorem Bx.app_in (P : Prog14 I) (h : Inv I w0 b hs hi sc ins vs vi w) (x : Bx I b kb C vs vi w) (hg : w.grownBy w' vi.ownBlock) (hl : v.ownBlock = vi.ownBlock ∨ v.ownBlock = some w.heap.size) : Bx I b kb C vs v w' := by
  obtain ⟨-, h2⟩ := P.keep w w' b hs hi h.at_ hg.size (fun k hk => hg.block k (P.lt w b hs hi k h.at_ hk) (fun e => h.si k e.symm hk))
  refine ⟨(hg.block kb x.lt (fun e => x.ni e.symm)).trans x.heap, fun hk => x.own (h2 kb hk), x.ns, fun e => ?_⟩
  rcases hl with h3 | h3
  · exact x.ni (h3 ▸ e)
  · rw [h3] at e
    injection e with e
    have := x.lt; omega
theorem Bx.app_sc (P : Prog14 I) (h : Inv I w0 b hs hi sc ins vs vi w) (x : Bx I b kb C vs vi w) (hg : w.grownBy w' vs.ownBlock) (hl : v.ownBlock = vs.ownBlock ∨ v.ownBlock = some w.heap.size) : Bx I b kb C v vi w' := by
  obtain ⟨-, h2⟩ := P.keep w w' b hs hi h.at_ hg.size (fun k hk => hg.block k (P.lt w b hs hi k h.at_ hk) (fun e => h.ss k e.symm hk))
  refine ⟨(hg.block kb x.lt (fun e => x.ns e.symm)).trans x.heap, fun hk => x.own (h2 kb hk), fun e => ?_, x.ni⟩
  rcases hl with h3 | h3
  · exact x.ns (h3 ▸ e)
  · rw [h3] at e
    injection e with e
    have := x.lt; omega
theorem Bx.new_in (P : Prog14 I) (h : Inv I w0 b hs hi sc ins vs vi w) (x : Bx I b kb C vs vi w) (ho : OwnI w' w.heap.size v xs) (hb : Below w.heap.size w w') : Bx I b kb C vs v w' := by
  have x' := x.later P h hb
  exact ⟨x'.heap, x'.own, x'.ns, fun e => by have := (ho.block_lt _ e).1; have := x.lt; omega⟩
end
theorem own_ilies {w : World} {base q : Nat} {A : Option Addr} {xs : List Int} (h : OwnI w base (.slice A xs.length q) xs) (hf : ∀ x ∈ xs, I64 x) : ILies w w.heap.size A xs := by
  obtain ⟨A', q', hv, hr, hq, hq2⟩ := h.row
  injection hv with h1 h2 h3
  subst h1
  exact ⟨hr, hf, by omega⟩
theorem own_store {w : World} {base q : Nat} {A : Option Addr} {xs : List Int} (h : OwnI w base (.slice A xs.length q) xs) {k : Nat} (hk : k < xs.length) :
    ∃ g, A = some ⟨g, 0, none⟩ ∧ w.cell? ⟨g, k, none⟩ = some (.int .i64 xs[k]) ∧ w.frozen? ⟨g, k, none⟩ = false ∧ ∀ u : Int, OwnI (w.setCell ⟨g, k, none⟩ (.int .i64 u)) base (.slice A xs.length q) (xs.set k u) ∧ w.grownBy (w.setCell ⟨g, k, none⟩ (.int .i64 u)) (Value.slice A xs.length q).ownBlock := by
  obtain ⟨A', q', hv, hr, hq, hq2⟩ := h.row
  injection hv with h1 h2 h3
  obtain ⟨g, o, hA, -, hc⟩ := hr.int hk
  rcases h.2 with ⟨h4, h5⟩ | ⟨g', cap, cur, h4, -⟩
  · exfalso; omega
  · injection h4 with h6 h7 h8
    have hg : g = g' ∧ o = 0 := by
      rw [← h1, h6] at hA
      injection hA with hA
      injection hA with h9 h10
      exact ⟨h9.symm, h10.symm⟩
    obtain ⟨rfl, rfl⟩ := hg
    subst h6
    refine ⟨g, rfl, by simpa using hc, World.ownsRow.frozenAt h k, fun u => ?_⟩
    obtain ⟨h10, h11⟩ := World.ownsRow.stored h k (.int .i64 u)
    refine ⟨?_, h11⟩
    unfold OwnI
    rw [List.length_set, List.map_set]
    exact h10
theorem mod4 (n : Int) : 0 ≤ (wrap64 (n.tmod 4 + 4)).tmod 4 ∧ (wrap64 (n.tmod 4 + 4)).tmod 4 ≤ 3 := by
  have h1 : -4 < n.tmod 4 ∧ n.tmod 4 < 4 := ⟨Int.lt_tmod_of_pos n (by decide), Int.tmod_lt_of_pos n (by decide)⟩
  have h2 : wrap64 (n.tmod 4 + 4) = n.tmod 4 + 4 := by unfold wrap64; omega
  rw [h2, Int.tmod_eq_emod_of_nonneg (by omega)]
  omega
theorem mod5 (n : Int) : 0 ≤ (wrap64 (n.tmod 5 + 5)).tmod 5 ∧ (wrap64 (n.tmod 5 + 5)).tmod 5 ≤ 4 := by
  have h1 : -5 < n.tmod 5 ∧ n.tmod 5 < 5 := ⟨Int.lt_tmod_of_pos n (by decide), Int.tmod_lt_of_pos n (by decide)⟩
  have h2 : wrap64 (n.tmod 5 + 5) = n.tmod 5 + 5 := by unfold wrap64; omega
  rw [h2, Int.tmod_eq_emod_of_nonneg (by omega)]
  omega
theorem page_push1 : pushOk [0, 0, 0] [] 1 = true := by decide +kernel
theorem page_pushL1 : pushL [0, 0, 0] [] 1 = [1] := by decide +kernel
theorem page_push2 : pushOk [0, 0, 0] [1] 2 = true := by decide +kernel
theorem page_pushL2 : pushL [0, 0, 0] [1] 2 = [1, 2] := by decide +kernel
theorem page_raise : raiseL [0, 0, 0] 2 1 = [0, 0, 1] := by decide +kernel
theorem page_best : bestM [0, 0, 1] [1, 2] = 2 := by decide +kernel
theorem page_left : (([1, 2] : List Int).filter fun x => decide (x ≠ bestM [0, 0, 1] [1, 2])) = [1] := by rw [page_best]; decide +kernel
set_option maxHeartbeats 16000000 in
set_option maxRecDepth 100000 in
theorem alive_any {I : HeapI} (P : Prog14 I) (w : World) : Calls Try.prog 5 #[] w fun e w' => e = .returned (.bool true) ∧ Below w.heap.size w w' := by
  have N := Lib.hid (P.new 3 w (by decide) (by decide))
  go_enter Try.func5, Try.ntmps5
  go_wp2_with fail
  refine N.out.mono ?_
  rintro e w1 ⟨⟨b, rfl, ha, ho⟩, hb⟩
  have J1 := Lib.hid (Inv.start ha ho hb)
  have P1 := Lib.hid (P.push w1 b _ [] 1 ha (by unfold I64; decide))
  rw [show List.replicate (3 : Int).toNat (0 : Int) = [0, 0, 0] from rfl] at P1 J1
  rw [page_push1, page_pushL1] at P1
  clear N ha ho hb
  go_wp2_with fail
  refine P1.out.mono ?_
  rintro e w2 ⟨rfl, ha, he⟩
  have J2 := Lib.hid (J1.out.eff ha he)
  have P2 := Lib.hid (P.push w2 b _ _ 2 ha (by unfold I64; decide))
  rw [page_push2, page_pushL2] at P2
  clear P1 J1 ha he
  go_wp2_with fail
  refine P2.out.mono ?_
  rintro e w3 ⟨rfl, ha, he⟩
  have J3 := Lib.hid (J2.out.eff ha he)
  have P3 := Lib.hid (P.raise w3 b _ _ 2 1 ha (by unfold I64; decide) (by unfold I64; decide))
  rw [page_raise] at P3
  clear P2 J2 ha he
  go_wp2_with fail
  refine P3.out.mono ?_
  rintro e w4 ⟨rfl, ha, he⟩
  have J4 := Lib.hid (J3.out.eff ha he)
  have P4 := Lib.hid (P.pop w4 b _ _ ha)
  rw [page_left, page_best] at P4
  clear P3 J3 ha he
  go_wp2_with fail
  refine P4.out.mono ?_
  rintro e w5 ⟨rfl, ha, he⟩
  have J5 := Lib.hid (J4.out.eff ha he)
  have P5 := Lib.hid (P.len w5 b _ _ ha)
  clear P4 J4 ha he
  go_wp2_with fail
  refine P5.out.mono ?_
  rintro e w6 ⟨rfl, hb⟩
  have B6 := Lib.hid (J5.out.later P hb).bl
  clear P5 J5 hb
  go_wp2
  go_ret
  exact ⟨rfl, B6.out⟩
theorem make_full (m : Nat) (hm : m ≤ 1000) (w : World) : (Instr.makeSlice 26 (.int .i64 (m : Int)) (.int .i64 (m : Int))).run Try.prog w = .ok (.slice (some ⟨w.heap.size, 0, none⟩) m m) (w.alloc (.cells (madeCells #[.int .i64 0] m) 3)) := by
  obtain ⟨i, hi, hz, hs, hb⟩ := info_parts info3
  have := run_make (P := Try.prog) w 26 3 i (.int .i64 0) Try.underlying26 hi hz .i64 .i64 m m (by omega) (by omega) (by rw [hb]; omega) (by omega)
  rw [this, hs, Int.toNat_natCast, Nat.mul_one]
  rfl
theorem full_own (m : Nat) (hm : m ≤ 1000) (w : World) (base : Nat) (hb : base ≤ w.heap.size) : OwnI (w.alloc (.cells (madeCells #[.int .i64 0] m) 3)) base (.slice (some ⟨w.heap.size, 0, none⟩) m m) (List.replicate m 0) := by
  have := World.ownsRow_lit (base := base) (e := 3) (size := 1) w (madeCells #[.int .i64 0] m) m hb (by unfold maxLen; omega) (by rw [size_madeCells]; omega)
  rw [toList_madeCells_one] at this
  unfold OwnI
  rw [List.length_replicate, List.map_replicate]
  exact this
theorem mod_small (n : Int) : -1 ≤ wrap64 ((wrap64 (n.tmod 9 + 9)).tmod 9 - 1) ∧ wrap64 ((wrap64 (n.tmod 9 + 9)).tmod 9 - 1) ≤ 7 := by
  have h0 : n.tmod 9 = n - 9 * (n.tdiv 9) := Int.tmod_def n 9
  have h1 : -9 < n.tmod 9 ∧ n.tmod 9 < 9 := ⟨Int.lt_tmod_of_pos n (by decide), Int.tmod_lt_of_pos n (by decide)⟩
  have h2 : wrap64 (n.tmod 9 + 9) = n.tmod 9 + 9 := by unfold wrap64; omega
  rw [h2, Int.tmod_eq_emod_of_nonneg (by omega)]
  unfold wrap64; omega
set_option maxHeartbeats 16000000 in
set_option maxRecDepth 100000 in
theorem runs_walk {I : HeapI} (P : Prog14 I) (n : Int) (l : List Tri) (A : Option Addr) (q : Nat) (w : World) (hn : I64 n) (hl : LRow w w.heap.size 3 A (tris l)) (hf : ∀ t ∈ l, I64 t.a ∧ I64 t.b ∧ I64 t.c) (hll : l.length ≤ 9223372036854775807) :
    Calls Try.prog 3 #[.int .i64 n, .slice A l.length q] w fun e w' => e = .returned (.bool true) ∧ Below w.heap.size w w' := by
  have AL := Lib.hid (alive_any P w)
  go_enter Try.func3, Try.ntmps3
  go_wp2_with fail
  refine AL.out.mono ?_
  rintro e w1 ⟨rfl, hb1⟩
  obtain ⟨hn1, hn2⟩ := hn
  go_wp2_with fail
  have HM := Lib.hid (mod_small n)
  generalize hnn : wrap64 ((wrap64 (n.tmod 9 + 9)).tmod 9 - 1) = nn at *
  obtain ⟨hm1, hm2⟩ := HM.out
  clear hnn HM
  refine (P.new nn w1 (by omega) (by omega)).mono ?_
  rintro e w2 ⟨⟨b, rfl, ha, ho⟩, hb2⟩
  obtain ⟨m, hm, hmn⟩ : ∃ m : Nat, nn.toNat = m ∧ (m : Int) = max nn 0 := ⟨nn.toNat, rfl, by omega⟩
  rw [hm] at ha
  have MK := make_full m (by omega)
  rw [hmn] at MK
  have hx1 : (if (0 : Int) > nn then 0 else nn) = (m : Int) := by split <;> omega
  have hx2 : (if nn < 0 then 0 else nn) = (m : Int) := by split <;> omega
  obtain ⟨W3, hW3⟩ : ∃ x, w2.alloc (.cells (madeCells #[.int .i64 0] m) 3) = x := ⟨_, rfl⟩
  have b3 : Below w2.heap.size w2 W3 := by rw [← hW3]; exact (Below.refl _ _).alloc (Nat.le_refl _) _
  have o3 : OwnI W3 w2.heap.size (.slice (some ⟨w2.heap.size, 0, none⟩) m m) (List.replicate m 0) := by rw [← hW3]; exact full_own m (by omega) w2 _ (Nat.le_refl _)
  have J3 := Lib.hid ((Inv.start ha (fun k hk => Nat.le_trans hb1.size (ho k hk)) (hb1.trans (hb2.mono hb1.size))).new_sc P o3 b3)
  have K3 : Hid (Ok14 0 (List.replicate m 0) []) := ⟨fun x hx => (by simp at hx), fun x hx => (by rw [(List.mem_replicate.1 hx).2]; decide), by rw [List.length_replicate]; omega, Nat.le_refl _⟩
  have hrl : (List.replicate m (0 : Int)).length = m := List.length_replicate
  have HL := Lib.hid (fun x (hx : Below w.heap.size w x) => hl.below hx)
  have HF := Lib.hid hf
  clear b3 o3 ha ho hb2 hb1 AL hl hf
  go_wp2
  go_loopw [8, 6, 7] (fun i s t wr => ∃ (k : Nat) (vs vi : Value) (sc ins : List Int), k ≤ l.length ∧ k ≤ 60 ∧ i = .int .i64 k ∧ s = vs ∧ t = vi ∧ Inv I w b sc ins sc ins vs vi wr ∧ Ok14 k sc ins) (fun i _ _ _ => 60 - (intOf i).toNat)
  case atStart => exact ⟨0, _, _, _, _, Nat.zero_le _, Nat.zero_le _, rfl, rfl, rfl, J3.out, K3.out⟩
  case round =>
    obtain ⟨k, vs, vi, sc, ins, hkl, hk6, rfl, hz1, hz2, hJ, hK⟩ := hrel
    obtain rfl := hz1.symm
    obtain rfl := hz2.symm
    clear hz1 hz2
    have J := Lib.hid hJ
    have K := Lib.hid hK
    clear hJ hK
    by_cases hlt : k < l.length ∧ k < 60
    · obtain ⟨h1, h2⟩ := hlt
      have k0 : (0 : Int) ≤ (k : Int) := by omega
      have k1 : (k : Int) < (l.length : Int) := by omega
      have k2 : (k : Int) < 60 := by omega
      obtain ⟨bl, ol, rfl, -, ca, cb, cc⟩ := LRow.tri (HL.out wr J.out.bl) h1
      have HT := Lib.hid (HF.out _ (List.getElem_mem h1))
      generalize l[k] = t at *
      obtain ⟨As, qs, rfl, -, -, -⟩ := J.out.os.row
      obtain ⟨Ai, qi, rfl, -, -, -⟩ := J.out.oi.row
      obtain ⟨W4, hW4⟩ : ∃ x, wr.alloc (.cells #[.int .i64 t.a, .int .i64 t.b, .int .i64 t.c] 28) = x := ⟨_, rfl⟩
      have b4 : Below wr.heap.size wr W4 := by rw [← hW4]; exact (Below.refl _ _).alloc (Nat.le_refl _) _
      have g4 : W4.heap[wr.heap.size]? = some (.cells #[.int .i64 t.a, .int .i64 t.b, .int .i64 t.c] 28 (0, 0)) := by rw [← hW4]; exact Array.getElem?_push_size
      have J4 := Lib.hid (J.out.later P b4)
      have S4 : Hid (wr.heap.size < W4.heap.size) := (Array.getElem?_eq_some_iff.1 g4).1
      have G4 := Lib.hid g4
      have x0 := Lib.cell_of_heap g4 0
      have x1 := Lib.cell_of_heap g4 1
      have x2 := Lib.cell_of_heap g4 2
      simp only [List.getElem?_toArray, List.getElem?_cons_zero, List.getElem?_cons_succ] at x0 x1 x2
      clear b4 g4
      obtain ⟨xk, xx, xy⟩ := t
      obtain ⟨isb, his⟩ : ∃ y, (decide (0 ≤ xx) && decide (xx < (sc.length : Int))) = y := ⟨_, rfl⟩
      have HIS := Lib.hid his
      clear his
      have X4 := Lib.hid (Bx.start P J.out (show Below wr.heap.size wr W4 by rw [← hW4]; exact (Below.refl _ _).alloc (Nat.le_refl _) _) G4.out)
      clear J G4
      go_upto_region 11 with fail
      go_cut [10] from 44 to 53 (fun v wx => v = .bool isb ∧ wx = W4)
      case first =>
        by_cases hx0 : 0 ≤ xx
        · by_cases hx1 : xx < (sc.length : Int)
          · have D : Hid (isb = true) := by have := HIS.out; rw [decide_eq_true hx0, decide_eq_true hx1] at this; exact this.symm
            go_wp2
            go_meet
            exact ⟨congrArg Value.bool D.out.symm, rfl⟩
          · have D : Hid (isb = false) := by have := HIS.out; rw [decide_eq_true hx0, decide_eq_false hx1] at this; exact this.symm
            go_wp2
            go_meet
            exact ⟨congrArg Value.bool D.out.symm, rfl⟩
        · have D : Hid (isb = false) := by have := HIS.out; rw [decide_eq_false hx0] at this; exact this.symm
          go_wp2
          go_meet
          exact ⟨congrArg Value.bool D.out.symm, rfl⟩
      case rest =>
        obtain ⟨rfl, rfl⟩ := hcut
        clear hW4
        have HM := Lib.hid (mod4 xk)
        go_upto_block 2 with fail
        generalize hkd : (wrap64 (xk.tmod 4 + 4)).tmod 4 = kd at *
        clear hkd
        go_cut [6, 7, 11, 12, 13, 14, 15, 16] from 59 to 171 (fun s t _ _ _ _ _ _ wx => ∃ (sc' ins' : List Int), Inv I w b sc' ins' sc' ins' s t wx ∧ Ok14 (k + 1) sc' ins' ∧ wx.heap[wr.heap.size]? = some (.cells #[.int .i64 xk, .int .i64 xx, .int .i64 xy] 28 (0, 0)))
        case first =>
          have HK : kd = 0 ∨ kd = 1 ∨ kd = 2 ∨ kd = 3 := by have := HM.out; omega
          rcases HK with rfl | rfl | rfl | rfl
          · as_aux_lemma =>
            cases isb with
          | false =>
            have PU := Lib.hid (P.push wc b sc ins xx J4.out.at_ HT.out.2.1)
            have E : Hid (pushOk sc ins xx = false ∧ pushL sc ins xx = ins) := by
              have h1 : pushOk sc ins xx = false := by unfold pushOk; rw [HIS.out]; rfl
              exact ⟨h1, by unfold pushL; rw [h1]; rfl⟩
            rw [E.out.1, E.out.2] at PU
            clear E
            go_wp2_with fail
            refine PU.out.mono ?_
            rintro e w5 ⟨rfl, ha, he⟩
            have J5 := Lib.hid (J4.out.eff ha he)
            have X5 := Lib.hid (X4.out.eff he)
            clear PU ha he J4 X4 x0 x1 x2
            go_wp2
            go_meet
            exact ⟨_, _, J5.out, K.out.next, X5.out.heap⟩
          | true =>
            have FI : Hid (∀ x ∈ ins, I64 x) := fun x hx => by have h1 := K.out.inb x hx; have h2 := K.out.len; unfold I64; omega

            have HA := Lib.hid (has_any ins Ai qi xx wc (own_ilies J4.out.oi FI.out).len (own_ilies J4.out.oi FI.out).row)
            obtain ⟨hm, hhm⟩ : ∃ y, hasM ins xx = y := ⟨_, rfl⟩
            rw [show ins.any (· == xx) = hm from hhm] at HA
            have HHM := Lib.hid hhm
            clear hhm
            cases hm with
            | true =>
              have PU := Lib.hid (P.push wc b sc ins xx J4.out.at_ HT.out.2.1)
              have E : Hid (pushOk sc ins xx = false ∧ pushL sc ins xx = ins) := by
                have h1 : pushOk sc ins xx = false := by unfold pushOk; rw [HIS.out, HHM.out]; rfl
                exact ⟨h1, by unfold pushL; rw [h1]; rfl⟩
              rw [E.out.1, E.out.2] at PU
              clear E
              go_wp2_with (go_at_call 7; refine HA.out.mono ?_; rintro e w' ⟨rfl, rfl⟩)
              refine PU.out.mono ?_
              rintro e w5 ⟨rfl, ha, he⟩
              have J5 := Lib.hid (J4.out.eff ha he)
              have X5 := Lib.hid (X4.out.eff he)
              clear PU ha he J4 X4 x0 x1 x2
              go_wp2
              go_meet
              exact ⟨_, _, J5.out, K.out.next, X5.out.heap⟩
            | false =>
              have PU := Lib.hid (P.push wc b sc ins xx J4.out.at_ HT.out.2.1)
              have E : Hid (pushOk sc ins xx = true ∧ pushL sc ins xx = ins ++ [xx]) := by
                have h1 : pushOk sc ins xx = true := by unfold pushOk; rw [HIS.out, HHM.out]; rfl
                exact ⟨h1, by unfold pushL; rw [h1]; rfl⟩
              rw [E.out.1, E.out.2] at PU
              clear E
              go_wp2_with (go_at_call 7; refine HA.out.mono ?_; rintro e w' ⟨rfl, rfl⟩)
              refine PU.out.mono ?_
              rintro e w5 ⟨rfl, ha, he⟩
              have J5 := Lib.hid (J4.out.eff ha he)
              have X5 := Lib.hid (X4.out.eff he)
              have y1 := Lib.cell_of_heap X5.out.heap 1
              simp only [List.getElem?_toArray, List.getElem?_cons_zero, List.getElem?_cons_succ] at y1
              have hba : Below w5.heap.size w5 (w5.alloc (.cells #[.int .i64 xx] 3)) := (Below.refl _ _).alloc (Nat.le_refl _) _
              have J5b := Lib.hid (J5.out.later P hba)
              have X5b := Lib.hid (X5.out.later P J5.out hba)
              have HONE := Lib.hid (one_row w5 xx 3)
              have HLn : Hid ((ins.length + [xx].length) * 8 ≤ 140737488355328) := by
                unfold Hid
                have h1 := K.out.num
                rw [List.length_singleton]
                omega
              clear PU ha he J4 X4 x0 x1 x2 hba
              go_wp2_with (at_builtin; refine wpList_app _ rfl (.tmp 92) (.tmp 95) rfl w.heap.size _ (.slice Ai ins.length qi) ins [xx] rfl J5b.out.oi _ 1 1 rfl rfl HONE.out HLn.out J5b.out.bl.size ?_)
              intro v2 w6 hown2 hg2 hloc2
              rw [← show (w5.alloc (.cells #[.int .i64 xx] 3)).heap.size = w5.heap.size + 1 from by simp] at hloc2
              have J6 := Lib.hid (J5b.out.app_in P hown2 hg2 hloc2)
              have X6 := Lib.hid (X5b.out.app_in P J5b.out hg2 hloc2)
              have K6 : Hid (Ok14 (k + 1) sc (ins ++ [xx])) := by
                have h1 := HIS.out
                rw [Bool.and_eq_true, decide_eq_true_eq, decide_eq_true_eq] at h1
                refine ⟨fun x hx => ?_, K.out.scb, by have := K.out.len; omega, by have := K.out.num; rw [List.length_append, List.length_singleton]; omega⟩
                rcases List.mem_append.1 hx with h | h
                · exact K.out.inb x h
                · rw [List.mem_singleton.1 h]; exact h1
              clear hown2 hg2 hloc2 y1 J5 X5 J5b X5b
              go_wp2
              go_meet
              exact ⟨_, _, J6.out, K6.out, X6.out.heap⟩
          · as_aux_lemma =>
            have FI : Hid (∀ x ∈ ins, I64 x) := fun x hx => by have h1 := K.out.inb x hx; have h2 := K.out.len; unfold I64; omega
            have FS : Hid (∀ x ∈ sc, I64 x) := fun x hx => by have h1 := K.out.scb x hx; unfold I64; omega
            have BE := Lib.hid (best_any sc ins Ai As qi qs wc (own_ilies J4.out.oi FI.out) (own_ilies J4.out.os FS.out) K.out.inb)
            have PO := Lib.hid (fun x (hx : I.At x b sc ins) => P.pop x b sc ins hx)
            have HB : Hid (bestM sc ins = -1 ∨ 0 ≤ bestM sc ins ∧ bestM sc ins < 9223372036854775808) := by
              rcases best_in sc ins with h | h
              · exact .inl h
              · have := K.out.inb _ h; have := K.out.len; exact .inr (by omega)
            generalize bestM sc ins = bm at *
            rcases HB.out with rfl | ⟨hb0, hb9⟩
            · rw [show (if (-1 : Int) < 0 then (0 : Int) else -1) = 0 from rfl, show decide ((0 : Int) ≤ -1) = false from rfl] at PO
              go_wp2_with fail
              refine BE.out.mono ?_
              rintro e w5 ⟨rfl, hb5⟩
              have J5 := Lib.hid (J4.out.later P hb5)
              have X5 := Lib.hid (X4.out.later P J4.out hb5)
              have PO5 := Lib.hid (PO.out w5 J5.out.at_)
              clear BE PO hb5 J4 X4 x0 x1 x2
              go_wp2_with fail
              refine PO5.out.mono ?_
              rintro e w6 ⟨rfl, ha, he⟩
              have J6 := Lib.hid (J5.out.eff ha he)
              have X6 := Lib.hid (X5.out.eff he)
              have WI := Lib.hid (without_any ins (-1) Ai qi w6 (own_ilies J6.out.oi FI.out) (by have := K.out.num; omega))
              clear PO5 ha he J5 X5
              go_wp2_with fail
              refine WI.out.mono ?_
              rintro e w7 ⟨⟨v7, rfl, ho7⟩, hb7⟩
              have J7 := Lib.hid (J6.out.new_in P ho7 hb7)
              have X7 := Lib.hid (X6.out.new_in P J6.out ho7 hb7)
              have K7 : Hid (Ok14 (k + 1) sc (ins.filter fun x => decide (x ≠ -1))) := ⟨fun x hx => K.out.inb x (List.mem_filter.1 hx).1, K.out.scb, by have := K.out.len; omega, by have h1 := K.out.num; have h2 := List.length_filter_le (fun x => decide (x ≠ -1)) ins; omega⟩
              clear ho7 hb7 WI J6 X6
              go_wp2
              go_meet
              exact ⟨_, _, J7.out, K7.out, X7.out.heap⟩
            · rw [show (if bm < 0 then (0 : Int) else bm) = bm from if_neg (by omega), show decide (0 ≤ bm) = true from decide_eq_true hb0] at PO
              go_wp2_with fail
              refine BE.out.mono ?_
              rintro e w5 ⟨rfl, hb5⟩
              have J5 := Lib.hid (J4.out.later P hb5)
              have X5 := Lib.hid (X4.out.later P J4.out hb5)
              have PO5 := Lib.hid (PO.out w5 J5.out.at_)
              clear BE PO hb5 J4 X4 x0 x1 x2
              go_wp2_with fail
              refine PO5.out.mono ?_
              rintro e w6 ⟨rfl, ha, he⟩
              have J6 := Lib.hid (J5.out.eff ha he)
              have X6 := Lib.hid (X5.out.eff he)
              have WI := Lib.hid (without_any ins bm Ai qi w6 (own_ilies J6.out.oi FI.out) (by have := K.out.num; omega))
              clear PO5 ha he J5 X5
              go_wp2_with fail
              refine WI.out.mono ?_
              rintro e w7 ⟨⟨v7, rfl, ho7⟩, hb7⟩
              have J7 := Lib.hid (J6.out.new_in P ho7 hb7)
              have X7 := Lib.hid (X6.out.new_in P J6.out ho7 hb7)
              have K7 : Hid (Ok14 (k + 1) sc (ins.filter fun x => decide (x ≠ bm))) := ⟨fun x hx => K.out.inb x (List.mem_filter.1 hx).1, K.out.scb, by have := K.out.len; omega, by have h1 := K.out.num; have h2 := List.length_filter_le (fun x => decide (x ≠ bm)) ins; omega⟩
              clear ho7 hb7 WI J6 X6
              go_wp2
              go_meet
              exact ⟨_, _, J7.out, K7.out, X7.out.heap⟩
          · as_aux_lemma =>
            have RA := Lib.hid (P.raise wc b sc ins xx xy J4.out.at_ HT.out.2.1 HT.out.2.2)
            go_wp2_with fail
            refine RA.out.mono ?_
            rintro e w5 ⟨rfl, ha, he⟩
            have J5 := Lib.hid (J4.out.eff ha he)
            have X5 := Lib.hid (X4.out.eff he)
            have y1 := Lib.cell_of_heap X5.out.heap 1
            have y2 := Lib.cell_of_heap X5.out.heap 2
            simp only [List.getElem?_toArray, List.getElem?_cons_zero, List.getElem?_cons_succ] at y1 y2
            have u1 := Wd.cell y1
            have u2 := Wd.cell y2
            clear RA ha he J4 X4 x0 x1 x2 y1 y2
            obtain ⟨ra, hra⟩ : ∃ y, mayRaise sc xx xy = y := ⟨_, rfl⟩
            have HRA : Hid ((isb && (decide (0 ≤ xy) && (decide (xy ≤ 1099511627776) && decide (scoreM sc xx ≤ 1125899906842624 - xy)))) = ra) := by
              unfold Hid
              rw [← HIS.out]
              exact hra
            cases ra with
            | false =>
              have E : raiseL sc xx xy = sc := by unfold raiseL; rw [hra]; rfl
              rw [E] at J5
              clear E hra
              cases isb with
              | false =>
                go_wp2
                refine wp_region_wd (by kernel_rfl) (by kernel_rfl) ?_
                repeat (first | go_big_quiet_skip | (go_big_quiet_want; go_big_quiet_op; go_big_quiet_on))
                refine wpQuiet_nil ?_
                intro w7 hw'
                obtain ⟨⟨_, hb9⟩, hw''⟩ := hw'
                subst hw''
                have J7 := Lib.hid (J5.out.later P hb9)
                have X7 := Lib.hid (X5.out.later P J5.out hb9)
                clear hb9 J5 X5 u1 u2
                go_wp2
                go_meet
                exact ⟨_, _, J7.out, K.out.next, X7.out.heap⟩
              | true =>
                by_cases c1 : 0 ≤ xy
                · by_cases c2 : xy ≤ 1099511627776
                  · have HB := HIS.out
                    rw [Bool.and_eq_true, decide_eq_true_eq, decide_eq_true_eq] at HB
                    obtain ⟨z, rfl⟩ : ∃ z : Nat, xx = (z : Int) := ⟨xx.toNat, by omega⟩
                    have hz : z < sc.length := by omega
                    obtain ⟨g, rfl, hcg, -, -⟩ := own_store J5.out.os hz
                    have u3 := Wd.cell hcg
                    have hsc : ¬ sc[z] ≤ 1125899906842624 - xy := by
                      have := HRA.out
                      rw [decide_eq_true c1, decide_eq_true c2, Bool.true_and, Bool.true_and, Bool.true_and, score_at hz] at this
                      exact of_decide_eq_false this
                    have z0 : (0 : Int) ≤ (z : Int) := by omega
                    have z1 : (z : Int) < (sc.length : Int) := by omega
                    have hwr : wrap64 (1125899906842624 - xy) = 1125899906842624 - xy := by unfold wrap64; omega
                    have d1 : decide (0 ≤ xy) = true := decide_eq_true c1
                    have d2 : decide (xy ≤ 1099511627776) = true := decide_eq_true c2
                    have d3 : decide (sc[z] ≤ 1125899906842624 - xy) = false := decide_eq_false hsc
                    clear hcg HB HRA
                    generalize sc[z] = sz at *
                    go_wp2
                    refine wp_region_wd (by kernel_rfl) (by kernel_rfl) ?_
                    repeat (first | go_big_quiet_skip | (go_big_quiet_want; go_big_quiet_op; go_big_quiet_on))
                    refine wpQuiet_nil ?_
                    intro w7 hw'
                    obtain ⟨⟨_, hb9⟩, hw''⟩ := hw'
                    subst hw''
                    have J7 := Lib.hid (J5.out.later P hb9)
                    have X7 := Lib.hid (X5.out.later P J5.out hb9)
                    clear hb9 J5 X5 u1 u2 u3
                    go_wp2
                    go_meet
                    exact ⟨_, _, J7.out, K.out.next, X7.out.heap⟩
                  · have d1 : decide (0 ≤ xy) = true := decide_eq_true c1
                    have d2 : decide (xy ≤ 1099511627776) = false := decide_eq_false c2
                    clear HRA
                    go_wp2
                    refine wp_region_wd (by kernel_rfl) (by kernel_rfl) ?_
                    repeat (first | go_big_quiet_skip | (go_big_quiet_want; go_big_quiet_op; go_big_quiet_on))
                    refine wpQuiet_nil ?_
                    intro w7 hw'
                    obtain ⟨⟨_, hb9⟩, hw''⟩ := hw'
                    subst hw''
                    have J7 := Lib.hid (J5.out.later P hb9)
                    have X7 := Lib.hid (X5.out.later P J5.out hb9)
                    clear hb9 J5 X5 u1 u2
                    go_wp2
                    go_meet
                    exact ⟨_, _, J7.out, K.out.next, X7.out.heap⟩
                · have d1 : decide (0 ≤ xy) = false := decide_eq_false c1
                  clear HRA
                  go_wp2
                  refine wp_region_wd (by kernel_rfl) (by kernel_rfl) ?_
                  repeat (first | go_big_quiet_skip | (go_big_quiet_want; go_big_quiet_op; go_big_quiet_on))
                  refine wpQuiet_nil ?_
                  intro w7 hw'
                  obtain ⟨⟨_, hb9⟩, hw''⟩ := hw'
                  subst hw''
                  have J7 := Lib.hid (J5.out.later P hb9)
                  have X7 := Lib.hid (X5.out.later P J5.out hb9)
                  clear hb9 J5 X5 u1 u2
                  go_wp2
                  go_meet
                  exact ⟨_, _, J7.out, K.out.next, X7.out.heap⟩
            | true =>
              have E : raiseL sc xx xy = sc.set xx.toNat (scoreM sc xx + xy) := by unfold raiseL; rw [hra]; rfl
              rw [E] at J5
              clear E hra
              have h3 := HRA.out
              simp only [Bool.and_eq_true, decide_eq_true_eq] at h3
              obtain ⟨rfl, c1, c2, c3⟩ := h3
              have HB := HIS.out
              rw [Bool.and_eq_true, decide_eq_true_eq, decide_eq_true_eq] at HB
              obtain ⟨z, rfl⟩ : ∃ z : Nat, xx = (z : Int) := ⟨xx.toNat, by omega⟩
              have hz : z < sc.length := by omega
              rw [Int.toNat_natCast] at J5
              obtain ⟨sz, hsz⟩ : ∃ y, scoreM sc (z : Int) = y := ⟨_, rfl⟩
              rw [hsz] at J5 c3
              have HSZ : Hid (sc[z] = sz) := by unfold Hid; rw [← score_at hz]; exact hsz
              obtain ⟨g, rfl, hcg, -, -⟩ := own_store J5.out.os hz
              rw [HSZ.out] at hcg
              have u3 := Wd.cell hcg
              have hs0 := K.out.scb _ (List.getElem_mem hz)
              rw [HSZ.out] at hs0
              have K7 : Hid (Ok14 (k + 1) (sc.set z (sz + xy)) ins) := by
                refine ⟨fun x hx => by rw [List.length_set]; exact K.out.inb x hx, fun x hx => ?_, by rw [List.length_set]; have := K.out.len; omega, by have := K.out.num; omega⟩
                rcases List.mem_or_eq_of_mem_set hx with h | h
                · exact K.out.scb x h
                · rw [h]; omega
              have z0 : (0 : Int) ≤ (z : Int) := by omega
              have z1 : (z : Int) < (sc.length : Int) := by omega
              have hwr : wrap64 (1125899906842624 - xy) = 1125899906842624 - xy := by unfold wrap64; omega
              have hws : wrap64 (sz + xy) = sz + xy := by unfold wrap64; omega
              have d1 : decide (0 ≤ xy) = true := decide_eq_true c1
              have d2 : decide (xy ≤ 1099511627776) = true := decide_eq_true c2
              have d3 : decide (sz ≤ 1125899906842624 - xy) = true := decide_eq_true c3
              have HLN : Hid (z < sc.length) := hz
              clear HB HRA hcg hsz
              go_wp2
              refine wp_region_wd (by kernel_rfl) (by kernel_rfl) ?_
              repeat (first | go_big_quiet_skip | (go_big_quiet_want; go_big_quiet_op; go_big_quiet_on))
              refine wpQuiet_nil ?_
              intro w7 hw'
              obtain ⟨⟨_, hb9⟩, hw''⟩ := hw'
              subst hw''

              have J7 := Lib.hid (J5.out.later P hb9)
              have X7 := Lib.hid (X5.out.later P J5.out hb9)
              have r1 := Lib.cell_of_heap X7.out.heap 1
              have r2 := Lib.cell_of_heap X7.out.heap 2
              simp only [List.getElem?_toArray, List.getElem?_cons_zero, List.getElem?_cons_succ] at r1 r2
              obtain ⟨g3, hg3, hcr, -, -⟩ := own_store J7.out.os HLN.out
              injection hg3 with hg3
              injection hg3 with hg3
              subst hg3
              rw [HSZ.out] at hcr
              obtain ⟨g2, hg2, -, hfz, hst⟩ := own_store J7.out.os HLN.out
              injection hg2 with hg2
              injection hg2 with hg2
              subst hg2
              obtain ⟨ho8, hg8⟩ := hst (sz + xy)
              have J8 := J7.out.app_sc P ho8 hg8 (.inl rfl)
              have X8 := X7.out.app_sc P J7.out hg8 (.inl rfl)
              have hbd : Below (w7.setCell ⟨g, z, none⟩ (.int .i64 (sz + xy))).heap.size (w7.setCell ⟨g, z, none⟩ (.int .i64 (sz + xy))) (w7.setCell ⟨g, z, none⟩ (.int .i64 (sz + xy))).drew := (Below.refl _ _).drew
              have J9 := Lib.hid (J8.later P hbd)
              have X9 := Lib.hid (X8.later P J8 hbd)
              clear hb9 J5 X5 u1 u2 u3 hst ho8 hg8 J7 X7 J8 X8 hbd
              go_wp2
              go_region
              go_wp2
              go_meet
              exact ⟨_, _, J9.out, K7.out, X9.out.heap⟩
          · as_aux_lemma =>
            have H5 := Lib.hid (mod5 xy)
            have GR := Lib.hid (fun (nn : Nat) (h : nn ≤ 4) => P.grow wc b sc ins nn J4.out.at_ h (by have := K.out.len; omega))
            go_upto_region 14 with fail
            generalize hyd : (wrap64 (xy.tmod 5 + 5)).tmod 5 = yd at *
            clear hyd
            obtain ⟨yn, rfl⟩ : ∃ y : Nat, yd = (y : Int) := ⟨yd.toNat, by have := H5.out; omega⟩
            have hyn : yn ≤ 4 := by have := H5.out; omega
            go_wp2_with fail
            refine (GR.out yn hyn).mono ?_
            rintro e w5 ⟨rfl, ha, he⟩
            have J5 := Lib.hid (J4.out.eff ha he)
            have X5 := Lib.hid (X4.out.eff he)
            clear ha he J4 X4 x0 x1 x2 GR H5
            go_wp2
            obtain ⟨wo, rfl⟩ : ∃ y, y = wr := ⟨_, rfl⟩
            go_loopw [16, 6] (fun i s wr => ∃ (j : Nat) (v1 : Value), j ≤ yn ∧ i = .int .i64 j ∧ s = v1 ∧ Inv I w b (sc ++ List.replicate yn 0) ins (sc ++ List.replicate j 0) ins v1 (.slice Ai ins.length qi) wr ∧ Bx I b wo.heap.size (.cells #[.int .i64 xk, .int .i64 xx, .int .i64 xy] 28 (0, 0)) v1 (.slice Ai ins.length qi) wr) (fun i _ _ => yn - (intOf i).toNat)
            case atStart => exact ⟨0, _, Nat.zero_le _, rfl, rfl, (by rw [List.replicate_zero, List.append_nil]; exact J5.out), X5.out⟩
            case round =>
              obtain ⟨j, v1, hj, rfl, hz1, hJ, hX⟩ := hrel
              obtain rfl := hz1.symm
              clear hz1
              have JQ := Lib.hid hJ
              have XQ := Lib.hid hX
              clear hJ hX
              by_cases hlt : j < yn
              · have j1 : (j : Int) < (yn : Int) := by omega
                have j2 : j < 4 := by omega
                have hba : Below wr.heap.size wr (wr.alloc (.cells #[.int .i64 0] 3)) := (Below.refl _ _).alloc (Nat.le_refl _) _
                have JB := Lib.hid (JQ.out.later P hba)
                have XB := Lib.hid (XQ.out.later P JQ.out hba)
                have HONE := Lib.hid (one_row wr 0 3)
                have HLn : Hid (((sc ++ List.replicate j 0).length + [(0 : Int)].length) * 8 ≤ 140737488355328) := by
                  unfold Hid
                  have h1 := K.out.len
                  rw [List.length_append, List.length_replicate, List.length_singleton]
                  omega
                clear hba JQ XQ
                go_wp2_with (at_builtin; refine wpList_app _ rfl (.tmp 72) (.tmp 73) rfl w.heap.size _ _ _ [0] rfl JB.out.os _ 1 1 rfl rfl HONE.out HLn.out JB.out.bl.size ?_)
                intro v2 w6 hown2 hg2 hloc2
                rw [← show (wr.alloc (.cells #[.int .i64 0] 3)).heap.size = wr.heap.size + 1 from by simp] at hloc2
                rw [← List.replicate_succ'] at hown2
                have J6 := Lib.hid (JB.out.app_sc P hown2 hg2 hloc2)
                have X6 := Lib.hid (XB.out.app_sc P JB.out hg2 hloc2)
                clear hown2 hg2 hloc2 JB XB
                go_wp2
                go_roundw
                case rel => exact ⟨j + 1, _, by omega, by go_num, rfl, J6.out, X6.out⟩
                case measure => simp [intOf]; omega
              · obtain rfl : j = yn := by omega
                have K7 : Hid (Ok14 (k + 1) (sc ++ List.replicate j 0) ins) := by
                  refine ⟨fun x hx => ?_, fun x hx => ?_, ?_, by have := K.out.num; omega⟩
                  · have := K.out.inb x hx
                    rw [List.length_append]; omega
                  · rcases List.mem_append.1 hx with h | h
                    · exact K.out.scb x h
                    · rw [(List.mem_replicate.1 h).2]; decide
                  · have := K.out.len
                    rw [List.length_append, List.length_replicate]; omega
                go_wp2
                go_meet
                exact ⟨_, _, JQ.out, K7.out, XQ.out.heap⟩
        case rest =>
          as_aux_lemma =>
            clear J4 X4 K x0 x1 x2 HM
            obtain ⟨sc', ins', hJ, hK, hH⟩ := hcut
            obtain ⟨As2, qs2, hz1, -, -, -⟩ := hJ.os.row
            obtain ⟨Ai2, qi2, hz2, -, -, -⟩ := hJ.oi.row
            obtain rfl := hz1.symm
            obtain rfl := hz2.symm
            clear hz1 hz2
            have J := Lib.hid hJ
            have K9 := Lib.hid hK
            have FI : Hid (∀ x ∈ ins', I64 x) := fun x hx => by have h1 := K9.out.inb x hx; have h2 := K9.out.len; unfold I64; omega
            have y1 := Lib.cell_of_heap hH 1
            simp only [List.getElem?_toArray, List.getElem?_cons_zero, List.getElem?_cons_succ] at y1
            have u1 := Wd.cell y1
            clear hJ hK hH
            have KL := Lib.hid (fun (u : Wd wc.heap.size wc) => Calls.in_wd u (P.len u.w b _ _ (J.out.later P u.ok).at_) (Nat.le_refl _))
            have KH := Lib.hid (fun (u : Wd wc.heap.size wc) => Calls.in_wd u (P.has u.w b _ _ xx (J.out.later P u.ok).at_ HT.out.2.1) (Nat.le_refl _))
            have KS := Lib.hid (fun (u : Wd wc.heap.size wc) => Calls.in_wd u (P.score u.w b _ _ xx (J.out.later P u.ok).at_ HT.out.2.1) (Nat.le_refl _))
            have KI := Lib.hid (fun (u : Wd wc.heap.size wc) => Calls.in_wd u ((has_any ins' Ai2 qi2 xx u.w (own_ilies (J.out.later P u.ok).oi FI.out).len (own_ilies (J.out.later P u.ok).oi FI.out).row).mono fun e w' ⟨h1, h2⟩ => ⟨h1, h2 ▸ Below.refl _ _⟩) (Nat.le_refl _))
            rw [show ins'.any (· == xx) = hasM ins' xx from rfl] at KI
            generalize hasM ins' xx = hb at *
            clear FI
            by_cases c0 : 0 ≤ xx
            · by_cases c1 : xx < (sc'.length : Int)
              · obtain ⟨z, rfl⟩ : ∃ z : Nat, xx = (z : Int) := ⟨xx.toNat, by omega⟩
                have hz : z < sc'.length := by omega
                obtain ⟨g, rfl, hcg, -, -⟩ := own_store J.out.os hz
                have hvs : scoreV sc' (z : Int) = sc'[z] := by unfold scoreV; rw [decide_eq_true c0, decide_eq_true c1]; exact score_at hz
                obtain ⟨v9, hv9⟩ : ∃ y, scoreV sc' (z : Int) = y := ⟨_, rfl⟩
                have hcg2 : wc.cell? ⟨g, z, none⟩ = some (.int .i64 v9) := by rw [hcg, ← hvs, hv9]
                have d0 : decide (0 ≤ (z : Int)) = true := decide_eq_true c0
                have d1 : decide ((z : Int) < (sc'.length : Int)) = true := decide_eq_true c1
                have HV9 := Lib.hid hv9
                clear hvs hcg hv9
                have SV : Hid (scoreV sc' (z : Int) = v9) := by exact HV9.out
                rw [SV.out] at KS
                clear SV
                go_wp2
                refine wp_region_wd (by kernel_rfl) (by kernel_rfl) ?_
                repeat (first | go_big_quiet_skip | (go_big_quiet_want; go_big_quiet_op; first | go_big_quiet_on | (apply Exists.intro; refine ⟨fun u => ?_, ?_⟩; (first | (go_at_call 14; exact KL.out u) | (go_at_call 15; exact KH.out u) | (go_at_call 7; exact KI.out u) | (go_at_call 16; exact KS.out u)); go_big_quiet_on)))
                refine wpQuiet_nil ?_
                intro w9 hw'
                obtain ⟨⟨_, hb9⟩, hw''⟩ := hw'
                subst hw''
                have J9 := Lib.hid (J.out.later P hb9)
                clear hb9 KL KH KI KS u1 J
                go_wp2
                go_roundw
                case rel => exact ⟨k + 1, _, _, _, _, by omega, by omega, by go_num, rfl, rfl, J9.out, K9.out⟩
                case measure => simp [intOf]; omega
              · have d0 : decide (0 ≤ xx) = true := decide_eq_true c0
                have d1 : decide (xx < (sc'.length : Int)) = false := decide_eq_false c1
                have SV : Hid (scoreV sc' xx = 0) := by unfold Hid scoreV; rw [decide_eq_true c0, decide_eq_false c1]; rfl
                rw [SV.out] at KS
                clear SV
                go_wp2
                refine wp_region_wd (by kernel_rfl) (by kernel_rfl) ?_
                repeat (first | go_big_quiet_skip | (go_big_quiet_want; go_big_quiet_op; first | go_big_quiet_on | (apply Exists.intro; refine ⟨fun u => ?_, ?_⟩; (first | (go_at_call 14; exact KL.out u) | (go_at_call 15; exact KH.out u) | (go_at_call 7; exact KI.out u) | (go_at_call 16; exact KS.out u)); go_big_quiet_on)))
                refine wpQuiet_nil ?_
                intro w9 hw'
                obtain ⟨⟨_, hb9⟩, hw''⟩ := hw'
                subst hw''
                have J9 := Lib.hid (J.out.later P hb9)
                clear hb9 KL KH KI KS u1 J
                go_wp2
                go_roundw
                case rel => exact ⟨k + 1, _, _, _, _, by omega, by omega, by go_num, rfl, rfl, J9.out, K9.out⟩
                case measure => simp [intOf]; omega
            · have d0 : decide (0 ≤ xx) = false := decide_eq_false c0
              have SV : Hid (scoreV sc' xx = 0) := by unfold Hid scoreV; rw [decide_eq_false c0]; rfl
              rw [SV.out] at KS
              clear SV
              go_wp2
              refine wp_region_wd (by kernel_rfl) (by kernel_rfl) ?_
              repeat (first | go_big_quiet_skip | (go_big_quiet_want; go_big_quiet_op; first | go_big_quiet_on | (apply Exists.intro; refine ⟨fun u => ?_, ?_⟩; (first | (go_at_call 14; exact KL.out u) | (go_at_call 15; exact KH.out u) | (go_at_call 7; exact KI.out u) | (go_at_call 16; exact KS.out u)); go_big_quiet_on)))
              refine wpQuiet_nil ?_
              intro w9 hw'
              obtain ⟨⟨_, hb9⟩, hw''⟩ := hw'
              subst hw''
              have J9 := Lib.hid (J.out.later P hb9)
              clear hb9 KL KH KI KS u1 J
              go_wp2
              go_roundw
              case rel => exact ⟨k + 1, _, _, _, _, by omega, by omega, by go_num, rfl, rfl, J9.out, K9.out⟩
              case measure => simp [intOf]; omega
    · have hend : k = l.length ∨ (k < l.length ∧ k = 60) := by omega
      rcases hend with h1 | ⟨h1, h2⟩
      · have k1 : ¬ (k : Int) < (l.length : Int) := by omega
        clear hlt
        go_wp2
        go_ret
        exact ⟨rfl, J.out.bl⟩
      · have k1 : (k : Int) < (l.length : Int) := by omega
        have k2 : ¬ (k : Int) < 60 := by omega
        clear hlt
        go_wp2
        go_ret
        exact ⟨rfl, J.out.bl⟩
end Go.Proofs.Ytclbbpmofifigaa.Hep
