/- unroll.Frame; condition: the question lies in memory, its lists have at most 2^20 clauses of at most 2^44 literals. -/
import Derived.Test.YtbgcoeejmnejdaaPt38
namespace Go.Proofs.Ytbgcoeejmnejdaa.Unr
open Go.ChangeShapes Go.WideShapes Go.ChangeAt Go.RowKit Go.Maps Circ Cw Str Sim Rep Cla Tse

theorem qcells {w : World} {g : Nat} {q : Que} {t : QPlaces} (h : w.heap[g]? = some (.cells (queC q t) 60 (0, 0))) : w.cell? ⟨g, 0, none⟩ = some (.int .i64 q.c.max) ∧ w.cell? ⟨g, 1, none⟩ = some (.slice t.s.ai q.c.ins.length t.s.ki) ∧ w.cell? ⟨g, 2, none⟩ = some (.slice t.s.al q.c.lats.length t.s.kl) ∧ w.cell? ⟨g, 3, none⟩ = some (.slice t.s.ao q.c.outs.length t.s.ko) ∧ w.cell? ⟨g, 4, none⟩ = some (.slice t.s.ab q.c.bads.length t.s.kb) ∧ w.cell? ⟨g, 5, none⟩ = some (.slice t.s.ac q.c.invs.length t.s.kc) ∧ w.cell? ⟨g, 6, none⟩ = some (.slice t.s.aa q.c.ands.length t.s.ka) ∧ w.cell? ⟨g, 7, none⟩ = some (.slice t.s.an q.c.names.length t.s.kn) ∧ w.cell? ⟨g, 8, none⟩ = some (.slice t.Aa t.La.length t.qa) ∧ w.cell? ⟨g, 9, none⟩ = some (.slice t.Al t.Ll.length t.ql) ∧ w.cell? ⟨g, 10, none⟩ = some (.slice t.Ak t.Lk.length t.qk) := by
  have e : ∀ i, w.cell? ⟨g, i, none⟩ = (queC q t)[i]? := fun i => by simp [World.cell?, h]
  exact ⟨e 0, e 1, e 2, e 3, e 4, e 5, e 6, e 7, e 8, e 9, e 10⟩
/-- what Frame lists -/
def frameK (c : Cir) (L1 L2 L3 : List (List Int)) (b : Int) : List (List Int) := (gatesT c b ++ forceT c L1 b) ++ ((L2.map fun l => l.map (litT b)) ++ (L3.map fun l => l.map (latK c b)))
theorem frameK_len (c : Cir) (L1 L2 L3 : List (List Int)) (b : Int) : (frameK c L1 L2 L3 b).length = (frameT c L1 L2 L3 b).length := by
  unfold frameK frameT
  simp only [List.length_append, List.length_map]
  omega
theorem gates_len {c : Cir} (hr : refOk c = true) (b : Int) : (gatesT c b).length ≤ 14340 := by
  have hm := max_small hr
  have hz := (ref_sizes hr).2.2.2.2.2
  unfold gatesT
  rw [List.length_append, List.length_map]
  have h1 := List.length_filter_le (fun (v : Nat) => freeT c (v : Int)) (List.range (c.max + 1).toNat)
  rw [List.length_range] at h1
  have h2 : (c.ands.flatMap (andT b)).length = 3 * c.ands.length := by
    rw [List.length_flatMap]
    generalize c.ands = l
    induction l with
    | nil => rfl
    | cons a l ih => rw [List.map_cons, List.sum_cons, ih, List.length_cons]; show 3 + _ = _; omega
  omega
theorem force_len {c : Cir} (hr : refOk c = true) (L : List (List Int)) (b : Int) : (forceT c L b).length ≤ 64 + L.length := by
  have hz := (ref_sizes hr).2.2.2.2.1
  unfold forceT
  rw [List.length_append, List.length_map, List.length_map]
  omega
theorem err_none {c : Cir} (hr : refOk c = true) {b : Int} (h0 : 0 ≤ b) (h1 : b ≤ 262144) : errT c b = 0 := by
  unfold errT
  rw [hr, if_neg (by decide), if_neg (by omega), if_neg (by omega)]
theorem LatAt.push {w w' : World} {c : Cir} {s : Places} {b : Int} {bk bb bc base : Nat} {v : Value} {xs : List (List Value)} (h : LatAt w c s b bk bb bc) (ho : OwnC w base 22 1 v xs) (hk : ∀ k, k < w.heap.size → some k ≠ v.ownBlock → w'.heap[k]? = w.heap[k]?) (hl : CLies w' w'.heap.size c s) : LatAt w' c s b bk bb bc := by
  have key : ∀ (g : Nat) cs E, E ≠ 22 → w.heap[g]? = some (.cells cs E (0, 0)) → w'.heap[g]? = some (.cells cs E (0, 0)) := fun g cs E hE hg => by
    rw [hk g (Array.getElem?_eq_some_iff.1 hg).1 fun e => ?_]
    · exact hg
    · obtain ⟨cur, hc⟩ := Tse.own_type ho e.symm
      rw [hg] at hc
      injection hc with hc
      injection hc with _ hc _
      exact hE hc
  exact ⟨key _ _ _ (by decide) h.hk, key _ _ _ (by decide) h.hb, key _ _ _ (by decide) h.hc, hl⟩
set_option maxHeartbeats 16000000 in
set_option maxRecDepth 100000 in
theorem frame_no (q : Que) (t : QPlaces) (f : Int) (w : World) (h : QLies w w.heap.size q t) (hf : CFits q.c t.s) (h64 : I64 f) (hr : rightM q.c f = false) :
    Calls Try.prog 35 #[.agg (queC q t), .int .i64 f] w fun e w' => e = .returned (.slice none 0 0) ∧ Below w.heap.size w w' := by
  obtain ⟨WQ, hWQ⟩ : ∃ x, w.alloc (.cells (queC q t) 60) = x := ⟨_, rfl⟩
  have bQ : Below w.heap.size w WQ := by rw [← hWQ]; exact (Below.refl _ _).alloc (Nat.le_refl _) _
  have sQ : WQ.heap.size = w.heap.size + 1 := by rw [← hWQ]; simp
  have gQ : WQ.heap[w.heap.size]? = some (.cells (queC q t) 60 (0, 0)) := by rw [← hWQ]; exact Array.getElem?_push_size
  obtain ⟨WA, hWA⟩ : ∃ x, WQ.alloc (.cells #[.int .i64 q.c.max, .slice t.s.ai q.c.ins.length t.s.ki, .slice t.s.al q.c.lats.length t.s.kl, .slice t.s.ao q.c.outs.length t.s.ko, .slice t.s.ab q.c.bads.length t.s.kb, .slice t.s.ac q.c.invs.length t.s.kc, .slice t.s.aa q.c.ands.length t.s.ka, .slice t.s.an q.c.names.length t.s.kn] 27) = x := ⟨_, rfl⟩
  have bA : Below WQ.heap.size WQ WA := by rw [← hWA]; exact (Below.refl _ _).alloc (Nat.le_refl _) _
  have sA : WA.heap.size = w.heap.size + 2 := by rw [← hWA]; simp [sQ]
  have gA : WA.heap[w.heap.size + 1]? = some (.cells (cirC q.c t.s) 27 (0, 0)) := by rw [← hWA, ← sQ]; exact Array.getElem?_push_size
  have BA : Hid (Below w.heap.size w WA) := bQ.trans (bA.mono bQ.size)
  have gQ2 : WA.heap[w.heap.size]? = some (.cells (queC q t) 60 (0, 0)) := (bA.block _ (by omega)).trans gQ
  have GQ : Hid (∀ x, Below WA.heap.size WA x → x.heap[w.heap.size]? = some (.cells (queC q t) 60 (0, 0))) := fun x hx => (hx.block _ (by omega)).trans gQ2
  have GC : Hid (∀ x, Below WA.heap.size WA x → x.heap[w.heap.size + 1]? = some (.cells (cirC q.c t.s) 27 (0, 0))) := fun x hx => (hx.block _ (by omega)).trans gA
  have HQ : Hid (∀ x, Below WA.heap.size WA x → QLies x x.heap.size q t) := fun x hx => by
    have h1 := BA.out.trans (hx.mono BA.out.size)
    exact (h.below h1).more h1.size
  have HF := Lib.hid hf
  obtain ⟨WB, hWB⟩ : ∃ x, WA.alloc (.cells #[.int .i64 f] 3) = x := ⟨_, rfl⟩
  have bB : Hid (Below WA.heap.size WA WB) := by unfold Hid; rw [← hWB]; exact (Below.refl _ _).alloc (Nat.le_refl _) _
  have IL := ints_one WA f h64
  rw [hWB, sA] at IL
  have MY := Lib.hid (may_any q.c t.s [f] _ 1 WB (HQ.out _ bB.out).c hf IL)
  rw [may_right, show [f].length = 1 from rfl, hr] at MY
  obtain ⟨f0, f1, f2, f3, f4, f5, f6, f7, f8, f9, f10⟩ := qcells gQ
  obtain ⟨e0, e1, e2, e3, e4, e5, e6, e7⟩ := cells8 gA
  clear IL bQ bA gQ gQ2 gA hf
  clear h hr
  unfold cirV at MY
  rw [show cirC q.c t.s = #[.int .i64 q.c.max, .slice t.s.ai q.c.ins.length t.s.ki, .slice t.s.al q.c.lats.length t.s.kl, .slice t.s.ao q.c.outs.length t.s.ko, .slice t.s.ab q.c.bads.length t.s.kb, .slice t.s.ac q.c.invs.length t.s.kc, .slice t.s.aa q.c.ands.length t.s.ka, .slice t.s.an q.c.names.length t.s.kn] from rfl] at MY
  unfold queC at hWQ
  unfold queC
  go_enter Try.func35, Try.ntmps35
  go_wp2_with fail
  refine MY.out.mono ?_
  rintro e w3 ⟨rfl, hb⟩
  have B3 : Hid (Below w.heap.size w w3) := BA.out.trans ((bB.out.trans (hb.mono bB.out.size)).mono BA.out.size)
  clear f0 f1 f2 f3 f4 f5 f6 f7 f8 f9 f10 e0 e1 e2 e3 e4 e5 e6 e7
  clear hb MY hWA hWB hWQ sQ sA
  go_wp2
  go_ret
  exact ⟨rfl, B3.out⟩
set_option maxHeartbeats 16000000 in
set_option maxRecDepth 100000 in
theorem frame_yes (q : Que) (t : QPlaces) (f : Int) (w : World) (h : QLies w w.heap.size q t) (hf : CFits q.c t.s) (h64 : I64 f) (hna : q.asm.length ≤ 1048576) (hnl : q.lem.length ≤ 1048576) (hnk : q.kno.length ≤ 1048576) (hza : ∀ l ∈ q.asm, l.length ≤ 17592186044416) (hzl : ∀ l ∈ q.lem, l.length ≤ 17592186044416) (hzk : ∀ l ∈ q.kno, l.length ≤ 17592186044416) (hr : rightM q.c f = true) :
    Calls Try.prog 35 #[.agg (queC q t), .int .i64 f] w fun e w' => (∃ K A' q', e = .returned (.slice A' K.length q') ∧ ALies w' w'.heap.size A' K ∧ K.map Clz.l = frameK q.c q.asm q.lem q.kno (f * (q.c.max + 1))) ∧ Below w.heap.size w w' := by
  obtain ⟨hok, hf0, hf1⟩ := right_parts hr
  have hmx := max_small hok
  obtain ⟨hy0, hy1⟩ := ahead_fits hmx (show 0 ≤ f ∧ f ≤ 81 from ⟨hf0, by omega⟩)
  obtain ⟨hx0, hx1⟩ := ahead_fits hmx (show 0 ≤ f + 1 ∧ f + 1 ≤ 81 from ⟨by omega, by omega⟩)
  obtain ⟨WQ, hWQ⟩ : ∃ x, w.alloc (.cells (queC q t) 60) = x := ⟨_, rfl⟩
  have bQ : Below w.heap.size w WQ := by rw [← hWQ]; exact (Below.refl _ _).alloc (Nat.le_refl _) _
  have sQ : WQ.heap.size = w.heap.size + 1 := by rw [← hWQ]; simp
  have gQ : WQ.heap[w.heap.size]? = some (.cells (queC q t) 60 (0, 0)) := by rw [← hWQ]; exact Array.getElem?_push_size
  obtain ⟨WA, hWA⟩ : ∃ x, WQ.alloc (.cells #[.int .i64 q.c.max, .slice t.s.ai q.c.ins.length t.s.ki, .slice t.s.al q.c.lats.length t.s.kl, .slice t.s.ao q.c.outs.length t.s.ko, .slice t.s.ab q.c.bads.length t.s.kb, .slice t.s.ac q.c.invs.length t.s.kc, .slice t.s.aa q.c.ands.length t.s.ka, .slice t.s.an q.c.names.length t.s.kn] 27) = x := ⟨_, rfl⟩
  have bA : Below WQ.heap.size WQ WA := by rw [← hWA]; exact (Below.refl _ _).alloc (Nat.le_refl _) _
  have sA : WA.heap.size = w.heap.size + 2 := by rw [← hWA]; simp [sQ]
  have gA : WA.heap[w.heap.size + 1]? = some (.cells (cirC q.c t.s) 27 (0, 0)) := by rw [← hWA, ← sQ]; exact Array.getElem?_push_size
  have BA : Hid (Below w.heap.size w WA) := bQ.trans (bA.mono bQ.size)
  have gQ2 : WA.heap[w.heap.size]? = some (.cells (queC q t) 60 (0, 0)) := (bA.block _ (by omega)).trans gQ
  have GQ : Hid (∀ x, Below WA.heap.size WA x → x.heap[w.heap.size]? = some (.cells (queC q t) 60 (0, 0))) := fun x hx => (hx.block _ (by omega)).trans gQ2
  have GC : Hid (∀ x, Below WA.heap.size WA x → x.heap[w.heap.size + 1]? = some (.cells (cirC q.c t.s) 27 (0, 0))) := fun x hx => (hx.block _ (by omega)).trans gA
  have HQ : Hid (∀ x, Below WA.heap.size WA x → QLies x x.heap.size q t) := fun x hx => by
    have h1 := BA.out.trans (hx.mono BA.out.size)
    exact (h.below h1).more h1.size
  have HF := Lib.hid hf
  obtain ⟨WB, hWB⟩ : ∃ x, WA.alloc (.cells #[.int .i64 f] 3) = x := ⟨_, rfl⟩
  have bB : Hid (Below WA.heap.size WA WB) := by unfold Hid; rw [← hWB]; exact (Below.refl _ _).alloc (Nat.le_refl _) _
  have IL := ints_one WA f h64
  rw [hWB, sA] at IL
  have MY := Lib.hid (may_any q.c t.s [f] _ 1 WB (HQ.out _ bB.out).c hf IL)
  rw [may_right, show [f].length = 1 from rfl, hr] at MY
  obtain ⟨f0, f1, f2, f3, f4, f5, f6, f7, f8, f9, f10⟩ := qcells gQ
  obtain ⟨e0, e1, e2, e3, e4, e5, e6, e7⟩ := cells8 gA
  clear IL bQ bA gQ gQ2 gA hf
  have AH1 := Lib.hid (fun x => ahead_any q.c t.s (f + 1) x hmx ⟨by omega, by omega⟩)
  have AH2 := Lib.hid (fun x => ahead_any q.c t.s f x hmx ⟨hf0, by omega⟩)
  have LA := Lib.hid (fun x (hx : Below WA.heap.size WA x) => latches_any q.c t.s f x (HQ.out x hx).c hok ⟨hf0, by omega⟩)
  generalize f * (q.c.max + 1) = y at *
  generalize (f + 1) * (q.c.max + 1) = y1 at *
  have hn1 : t.La.length ≤ 1048576 := by rw [show t.La.length = q.asm.length by rw [← h.ea, List.length_map]]; exact hna
  have hn2 : t.Ll.length ≤ 1048576 := by rw [show t.Ll.length = q.lem.length by rw [← h.el, List.length_map]]; exact hnl
  have hn3 : t.Lk.length ≤ 1048576 := by rw [show t.Lk.length = q.kno.length by rw [← h.ek, List.length_map]]; exact hnk
  have HNL : Hid (t.La.length ≤ 1048576 ∧ t.Ll.length ≤ 1048576 ∧ t.Lk.length ≤ 1048576) := ⟨hn1, hn2, hn3⟩
  have HZA : Hid (∀ z ∈ t.La, z.l.length ≤ 17592186044416) := fun z hz => hza _ (by rw [← h.ea]; exact List.mem_map_of_mem hz)
  have HZN : Hid (∀ z ∈ t.Ll, z.l.length ≤ 17592186044416) := fun z hz => hzl _ (by rw [← h.el]; exact List.mem_map_of_mem hz)
  have HZK : Hid (∀ z ∈ t.Lk, z.l.length ≤ 17592186044416) := fun z hz => hzk _ (by rw [← h.ek]; exact List.mem_map_of_mem hz)
  obtain ⟨pre, hpre⟩ : ∃ x, gatesT q.c y ++ forceT q.c (t.La.map Clz.l) y = x := ⟨_, rfl⟩
  have HFK : Hid ((pre ++ ((t.Ll.map Clz.l).map (fun l => l.map (litT y)))) ++ (t.Lk.map Clz.l).map (fun l => l.map (latK q.c y)) = frameK q.c q.asm q.lem q.kno y) := by
    unfold Hid frameK
    rw [← hpre, h.ea, h.el, h.ek, List.append_assoc]
  have HPRE := Lib.hid hpre
  have HERR := Lib.hid (err_none hok hy0 (by omega))
  have GA := Lib.hid (fun x (hx : Below WA.heap.size WA x) => gates_made q.c t.s y x (HQ.out x hx).c HF.out HERR.out)
  have FO := Lib.hid (fun x (hx : Below WA.heap.size WA x) => force_made q.c t.s t.La t.Aa t.qa y x (HQ.out x hx).c HF.out (HQ.out x hx).a (by have := HNL.out; omega) HZA.out HERR.out)
  have HG := Lib.hid (gates_len hok y)
  have HFL := Lib.hid (force_len hok (t.La.map Clz.l) y)
  have HR := Lib.hid hok
  clear h hna hnl hnk hza hzl hzk hn1 hn2 hn3 hpre hmx hr hok HZA HERR
  unfold cirV at MY AH1 AH2 LA GA FO
  rw [show cirC q.c t.s = #[.int .i64 q.c.max, .slice t.s.ai q.c.ins.length t.s.ki, .slice t.s.al q.c.lats.length t.s.kl, .slice t.s.ao q.c.outs.length t.s.ko, .slice t.s.ab q.c.bads.length t.s.kb, .slice t.s.ac q.c.invs.length t.s.kc, .slice t.s.aa q.c.ands.length t.s.ka, .slice t.s.an q.c.names.length t.s.kn] from rfl] at MY AH1 AH2 LA GA FO
  unfold queC at hWQ
  unfold queC
  go_enter Try.func35, Try.ntmps35
  go_wp2_with fail
  refine MY.out.mono ?_
  rintro e w3 ⟨rfl, hb⟩
  have B3 : Hid (Below WA.heap.size WA w3) := bB.out.trans (hb.mono bB.out.size)
  clear f0 f1 f2 f3 f4 f5 f6 f7 f8 f9 f10 e0 e1 e2 e3 e4 e5 e6 e7
  clear hb MY hWA hWB hWQ sQ sA
  obtain ⟨f0, f1, f2, f3, f4, f5, f6, f7, f8, f9, f10⟩ := qcells (GQ.out w3 B3.out)
  obtain ⟨e0, e1, e2, e3, e4, e5, e6, e7⟩ := cells8 (GC.out w3 B3.out)
  go_wp2_with fail
  refine (AH1.out w3).mono ?_
  rintro e w4 ⟨rfl, hb⟩
  have B4 : Hid (Below WA.heap.size WA w4) := B3.out.trans (hb.mono B3.out.size)
  clear hb AH1
  clear f0 f1 f2 f3 f4 f5 f6 f7 f8 f9 f10 e0 e1 e2 e3 e4 e5 e6 e7
  obtain ⟨f0, f1, f2, f3, f4, f5, f6, f7, f8, f9, f10⟩ := qcells (GQ.out w4 B4.out)
  obtain ⟨e0, e1, e2, e3, e4, e5, e6, e7⟩ := cells8 (GC.out w4 B4.out)
  have hng : ¬ 262144 < y1 := by omega
  go_wp2_with fail
  refine (AH2.out w4).mono ?_
  rintro e w5 ⟨rfl, hb⟩
  have B5 : Hid (Below WA.heap.size WA w5) := B4.out.trans (hb.mono B4.out.size)
  clear hb AH2
  clear f0 f1 f2 f3 f4 f5 f6 f7 f8 f9 f10 e0 e1 e2 e3 e4 e5 e6 e7
  obtain ⟨f0, f1, f2, f3, f4, f5, f6, f7, f8, f9, f10⟩ := qcells (GQ.out w5 B5.out)
  obtain ⟨e0, e1, e2, e3, e4, e5, e6, e7⟩ := cells8 (GC.out w5 B5.out)
  have GA5 := Lib.hid (GA.out w5 B5.out)
  go_wp2_with fail
  refine GA5.out.mono ?_
  rintro e w6 ⟨⟨K1, A1, q1, rfl, hmk1, hkf1⟩, hb⟩
  have B6 : Hid (Below WA.heap.size WA w6) := B5.out.trans (hb.mono B5.out.size)
  have MK1 : Hid (Mk w6 WA.heap.size (.slice A1 K1.length q1) K1) := ⟨hmk1.own.base B5.out.size, hmk1.each⟩
  have KF1 := Lib.hid hkf1
  clear hb GA GA5 hmk1 hkf1
  clear f0 f1 f2 f3 f4 f5 f6 f7 f8 f9 f10 e0 e1 e2 e3 e4 e5 e6 e7
  obtain ⟨f0, f1, f2, f3, f4, f5, f6, f7, f8, f9, f10⟩ := qcells (GQ.out w6 B6.out)
  obtain ⟨e0, e1, e2, e3, e4, e5, e6, e7⟩ := cells8 (GC.out w6 B6.out)
  have FO6 := Lib.hid (FO.out w6 B6.out)
  go_wp2_with fail
  refine FO6.out.mono ?_
  rintro e w7 ⟨⟨K2, A2, q2, rfl, hmk2, hkf2⟩, hb⟩
  have B7 : Hid (Below WA.heap.size WA w7) := B6.out.trans (hb.mono B6.out.size)
  have MK2 : Hid (Mk w7 WA.heap.size (.slice A1 K1.length q1) K1) := MK1.out.below hb
  have KF2 := Lib.hid hkf2
  have MZ2 := Lib.hid hmk2.each
  obtain ⟨A3, q3, hv3, hrow, -, -⟩ := hmk2.own.row (by decide) (fun y hy => cells_len _ y hy)
  injection hv3 with hv3 hv5 hv4
  subst hv3
  clear hv5
  have RV := Lib.hid hrow
  have HK1 : Hid (K1.length ≤ 14340) := by unfold Hid; rw [← List.length_map (f := Clz.l), KF1.out]; exact HG.out
  have HK2 : Hid (K2.length ≤ 64 + t.La.length) := by
    have h1 := HFL.out
    unfold Hid
    rw [← List.length_map (f := Clz.l), KF2.out]
    rw [List.length_map] at h1
    exact h1
  clear hb FO FO6 hmk2 hkf2 MK1 hrow hv4
  clear f0 f1 f2 f3 f4 f5 f6 f7 f8 f9 f10 e0 e1 e2 e3 e4 e5 e6 e7
  go_wp2_with (at_builtin; refine wpList_append_row _ rfl (.tmp 47) (.tmp 48) 58 rfl WA.heap.size w7.heap.size 22 1 24 (.slice none 0 0) Try.underlying58 row_info rfl (by decide) (.slice A1 K1.length q1) _ _ rfl MK2.out.own A2 K2.length q2 (by rw [List.length_map]) rfl RV.out (fun y hy => cells_len _ y hy) (fun y hy => cells_one _ y hy) (by have h1 := HK1.out; have h2 := HK2.out; have h3 := HNL.out; rw [List.length_map, List.length_map]; omega) (by have h1 := HK1.out; have h2 := HK2.out; have h3 := HNL.out; rw [List.length_map, List.length_map]; omega) B7.out.size ?_)
  intro v8 w8 hown hbel hkeep
  have MK8 : Hid (Mk w8 WA.heap.size v8 (K1 ++ K2)) := MK2.out.push MZ2.out hown hkeep
  have B8 : Hid (Below WA.heap.size WA w8) := B7.out.trans hbel
  have KF8 : Hid ((K1 ++ K2).map Clz.l = pre) := by unfold Hid; rw [List.map_append, KF1.out, KF2.out]; exact HPRE.out
  have KL8 : Hid ((K1 ++ K2).length ≤ 14404 + t.La.length) := by have h1 := HK1.out; have h2 := HK2.out; unfold Hid; rw [List.length_append]; omega
  clear hown hbel hkeep HK1 HK2 KF1 KF2 MZ2 RV MK2
  obtain ⟨f0, f1, f2, f3, f4, f5, f6, f7, f8, f9, f10⟩ := qcells (GQ.out w8 B8.out)
  obtain ⟨e0, e1, e2, e3, e4, e5, e6, e7⟩ := cells8 (GC.out w8 B8.out)
  go_wp2
  clear f0 f1 f2 f3 f4 f5 f6 f7 f8 f9 f10 e0 e1 e2 e3 e4 e5 e6 e7
  go_loopw [7, 53] (fun v i wr => ∃ (j : Nat) (vv : Value) (K : List Clz), j ≤ t.Ll.length ∧ i = .int .i64 j ∧ vv = v ∧ Mk wr WA.heap.size vv K ∧ K.map Clz.l = pre ++ ((t.Ll.take j).map Clz.l).map (fun l => l.map (litT y)) ∧ K.length ≤ (14404 + t.La.length) + j ∧ Below WA.heap.size WA wr) (fun _ i _ => t.Ll.length - (intOf i).toNat)
  case atStart => exact ⟨0, _, (K1 ++ K2), Nat.zero_le _, rfl, rfl, MK8.out, by rw [KF8.out]; simp, by have := KL8.out; omega, B8.out⟩
  case round =>
    obtain ⟨j, v1, K, hj, rfl, rfl, hmk, hkl, hkn, hb⟩ := hrel
    have MK := Lib.hid hmk
    have HKF := Lib.hid hkl
    have HKL := Lib.hid hkn
    have BK := Lib.hid hb
    clear hmk hkl hkn hb
    have hjj : t.Ll.length ≤ 1048576 := by have h2 := HNL.out; omega
    by_cases hlt : j < t.Ll.length
    · obtain ⟨b0, o, hA, -, hc⟩ := (HQ.out wr BK.out).l.at hlt
      have hl2 : ILies wr wr.heap.size t.Ll[j].A t.Ll[j].l := clz_lies ((HQ.out wr BK.out).l.each _ (List.getElem_mem hlt))
      have E1 := Lib.hid (clause_any y t.Ll[j].l t.Ll[j].A t.Ll[j].q wr hl2 (by have := HZN.out _ (List.getElem_mem hlt); omega))
      have HN2 : Hid (K.map Clz.l ++ [t.Ll[j].l.map (litT y)] = pre ++ ((t.Ll.take (j + 1)).map Clz.l).map (fun l => l.map (litT y))) := by
        unfold Hid; rw [List.take_succ_eq_append_getElem hlt, List.map_append, List.map_append, HKF.out, List.append_assoc]; rfl
      rw [hA]
      clear hl2 hA
      skip
      generalize t.Ll[j].l.map (litT y) = ys at *
      generalize t.Ll[j] = z at *
      go_wp2_with fail
      refine E1.out.mono ?_
      rintro e w2 ⟨⟨A5, q5, rfl, hmz⟩, hb2⟩
      have MK2 := Lib.hid (MK.out.below hb2)
      have B2 := Lib.hid (BK.out.trans (hb2.mono BK.out.size))
      have MZ := Lib.hid hmz
      obtain ⟨V2, hV2⟩ : ∃ x, w2.alloc (.cells #[.slice A5 ys.length q5] 22) = x := ⟨_, rfl⟩
      have bV : Below w2.heap.size w2 V2 := by rw [← hV2]; exact (Below.refl _ _).alloc (Nat.le_refl _) _
      have CV : Hid (∀ (j : Nat) u, [Value.slice A5 ys.length q5][j]? = some u → V2.cell? ⟨w2.heap.size, j, none⟩ = some u) := fun j u hj => by
        rw [← hV2, Lib.cell_of_heap (show (w2.alloc (.cells #[.slice A5 ys.length q5] 22)).heap[w2.heap.size]? = some (.cells #[.slice A5 ys.length q5] 22 (0, 0)) from Array.getElem?_push_size)]; simpa using hj
      have MV : Hid (∀ q ∈ [(⟨ys, A5, q5⟩ : Clz)], Mz V2 q) := fun q hq => by rw [List.mem_singleton.1 hq]; exact MZ.out.below bV
      have O2 := Lib.hid (MK2.out.below bV)
      have BV : Hid (Below WA.heap.size WA V2) := B2.out.trans (bV.mono B2.out.size)
      have HONE : Hid (∀ u ∈ [Value.slice A5 ys.length q5], u.oneCell' = true) := fun u hu => by
        simp only [List.mem_singleton] at hu
        subst hu; rfl
      clear bV MZ MK2 hb2 hmz E1 MK hc
      go_wp2_with (at_builtin; refine wpList_push_far _ rfl (.tmp 57) (.tmp 61) 58 rfl 22 1 24 (.slice none 0 0) Try.underlying58 row_info rfl (by decide) WA.heap.size v1 _ O2.out.own rfl w2.heap.size 1 rfl [.slice A5 ys.length q5] CV.out rfl HONE.out (by have h1 := HKL.out; have h2 := HNL.out; rw [List.length_map]; omega) (by have h1 := HKL.out; have h2 := HNL.out; rw [List.length_map]; omega) BV.out.size ?_)
      intro v2 w6 hown hbel hkeep
      have MK6 : Hid (Mk w6 WA.heap.size v2 (K ++ [(⟨ys, A5, q5⟩ : Clz)])) := O2.out.push MV.out hown hkeep
      have B6 : Hid (Below WA.heap.size WA w6) := BV.out.trans hbel
      clear hown hbel hkeep hV2
      go_wp2
      go_roundw
      case rel => exact ⟨j + 1, _, _, by omega, by go_num, rfl, MK6.out, by rw [List.map_append]; exact HN2.out, by have := HKL.out; simp; omega, B6.out⟩
      case measure => simp [intOf]; omega
    · obtain rfl : j = t.Ll.length := by omega
      rw [List.take_length] at HKF
      obtain ⟨wq, rfl⟩ : ∃ x, x = wr := ⟨_, rfl⟩
      have LA1 := Lib.hid (LA.out wq BK.out)
      obtain ⟨f0, f1, f2, f3, f4, f5, f6, f7, f8, f9, f10⟩ := qcells (GQ.out wq BK.out)
      obtain ⟨e0, e1, e2, e3, e4, e5, e6, e7⟩ := cells8 (GC.out wq BK.out)
      go_wp2_with fail
      refine LA1.out.mono ?_
      rintro e w9 ⟨⟨bk, bb, bc, rfl, hlt9⟩, hb9⟩
      have MK9 := Lib.hid (MK.out.below hb9)
      have B9 : Hid (Below WA.heap.size WA w9) := BK.out.trans (hb9.mono BK.out.size)
      have KF9 := Lib.hid HKF.out
      have KL9 := Lib.hid HKL.out
      have LT9 := Lib.hid hlt9
      clear f0 f1 f2 f3 f4 f5 f6 f7 f8 f9 f10 e0 e1 e2 e3 e4 e5 e6 e7
      clear hlt9 hb9 LA LA1 MK HKF HKL BK hj hlt
      obtain ⟨f0, f1, f2, f3, f4, f5, f6, f7, f8, f9, f10⟩ := qcells (GQ.out w9 B9.out)
      obtain ⟨e0, e1, e2, e3, e4, e5, e6, e7⟩ := cells8 (GC.out w9 B9.out)
      go_wp2
      clear f0 f1 f2 f3 f4 f5 f6 f7 f8 f9 f10 e0 e1 e2 e3 e4 e5 e6 e7
      go_loopw [7, 70] (fun v i wr => ∃ (j : Nat) (vv : Value) (K : List Clz), j ≤ t.Lk.length ∧ i = .int .i64 j ∧ vv = v ∧ Mk wr WA.heap.size vv K ∧ K.map Clz.l = (pre ++ ((t.Ll.map Clz.l).map (fun l => l.map (litT y)))) ++ ((t.Lk.take j).map Clz.l).map (fun l => l.map (latK q.c y)) ∧ K.length ≤ (14404 + t.La.length + t.Ll.length) + j ∧ Below WA.heap.size WA wr ∧ LatAt wr q.c t.s y bk bb bc) (fun _ i _ => t.Lk.length - (intOf i).toNat)
      case atStart => exact ⟨0, _, K, Nat.zero_le _, rfl, rfl, MK9.out, by rw [KF9.out]; simp, by have := KL9.out; omega, B9.out, LT9.out⟩
      case round =>
        obtain ⟨j, v1, K, hj, rfl, rfl, hmk, hkl, hkn, hb, hlt9⟩ := hrel
        have MK := Lib.hid hmk
        have HKF := Lib.hid hkl
        have HKL := Lib.hid hkn
        have BK := Lib.hid hb
        have LT := Lib.hid hlt9
        clear hmk hkl hkn hb hlt9
        have hjj : t.Lk.length ≤ 1048576 := by have h2 := HNL.out; omega
        by_cases hlt : j < t.Lk.length
        · obtain ⟨b0, o, hA, -, hc⟩ := (HQ.out wr BK.out).k.at hlt
          have hl2 : ILies wr wr.heap.size t.Lk[j].A t.Lk[j].l := clz_lies ((HQ.out wr BK.out).k.each _ (List.getElem_mem hlt))
          have E1 := Lib.hid (each_lat q.c t.s HR.out HF.out y bk bb bc t.Lk[j].l t.Lk[j].A t.Lk[j].q wr hl2 LT.out (by have := HZK.out _ (List.getElem_mem hlt); omega))
          have HN2 : Hid (K.map Clz.l ++ [t.Lk[j].l.map (latK q.c y)] = (pre ++ ((t.Ll.map Clz.l).map (fun l => l.map (litT y)))) ++ ((t.Lk.take (j + 1)).map Clz.l).map (fun l => l.map (latK q.c y))) := by
            unfold Hid; rw [List.take_succ_eq_append_getElem hlt, List.map_append, List.map_append, HKF.out, List.append_assoc]; rfl
          rw [hA]
          clear hl2 hA
          unfold latV at E1
          generalize t.Lk[j].l.map (latK q.c y) = ys at *
          generalize t.Lk[j] = z at *
          go_wp2_with fail
          refine E1.out.mono ?_
          rintro e w2 ⟨⟨A5, q5, rfl, hmz⟩, hb2⟩
          have MK2 := Lib.hid (MK.out.below hb2)
          have B2 := Lib.hid (BK.out.trans (hb2.mono BK.out.size))
          have MZ := Lib.hid hmz
          obtain ⟨V2, hV2⟩ : ∃ x, w2.alloc (.cells #[.slice A5 ys.length q5] 22) = x := ⟨_, rfl⟩
          have bV : Below w2.heap.size w2 V2 := by rw [← hV2]; exact (Below.refl _ _).alloc (Nat.le_refl _) _
          have CV : Hid (∀ (j : Nat) u, [Value.slice A5 ys.length q5][j]? = some u → V2.cell? ⟨w2.heap.size, j, none⟩ = some u) := fun j u hj => by
            rw [← hV2, Lib.cell_of_heap (show (w2.alloc (.cells #[.slice A5 ys.length q5] 22)).heap[w2.heap.size]? = some (.cells #[.slice A5 ys.length q5] 22 (0, 0)) from Array.getElem?_push_size)]; simpa using hj
          have MV : Hid (∀ q ∈ [(⟨ys, A5, q5⟩ : Clz)], Mz V2 q) := fun q hq => by rw [List.mem_singleton.1 hq]; exact MZ.out.below bV
          have O2 := Lib.hid (MK2.out.below bV)
          have BV : Hid (Below WA.heap.size WA V2) := B2.out.trans (bV.mono B2.out.size)
          have LT2 := Lib.hid ((LT.out.below hb2).below bV)
          have HONE : Hid (∀ u ∈ [Value.slice A5 ys.length q5], u.oneCell' = true) := fun u hu => by
            simp only [List.mem_singleton] at hu
            subst hu; rfl
          clear bV MZ MK2 hb2 hmz E1 MK hc
          go_wp2_with (at_builtin; refine wpList_push_far _ rfl (.tmp 74) (.tmp 78) 58 rfl 22 1 24 (.slice none 0 0) Try.underlying58 row_info rfl (by decide) WA.heap.size v1 _ O2.out.own rfl w2.heap.size 1 rfl [.slice A5 ys.length q5] CV.out rfl HONE.out (by have h1 := HKL.out; have h2 := HNL.out; rw [List.length_map]; omega) (by have h1 := HKL.out; have h2 := HNL.out; rw [List.length_map]; omega) BV.out.size ?_)
          intro v2 w6 hown hbel hkeep
          have MK6 : Hid (Mk w6 WA.heap.size v2 (K ++ [(⟨ys, A5, q5⟩ : Clz)])) := O2.out.push MV.out hown hkeep
          have B6 : Hid (Below WA.heap.size WA w6) := BV.out.trans hbel
          have LT6 : Hid (LatAt w6 q.c t.s y bk bb bc) := LT2.out.push O2.out.own hkeep (HQ.out w6 B6.out).c
          clear hown hbel hkeep hV2
          go_wp2
          go_roundw
          case rel => exact ⟨j + 1, _, _, by omega, by go_num, rfl, MK6.out, by rw [List.map_append]; exact HN2.out, by have := HKL.out; simp; omega, B6.out, LT6.out⟩
          case measure => simp [intOf]; omega
        · obtain rfl : j = t.Lk.length := by omega
          rw [List.take_length] at HKF
          obtain ⟨wq, rfl⟩ : ∃ x, x = wr := ⟨_, rfl⟩
          obtain ⟨A', q', hv, hz⟩ := MK.out.lies
          have HV := Lib.hid hv
          have HL := Lib.hid hz
          have HE : Hid (K.map Clz.l = frameK q.c q.asm q.lem q.kno y) := by unfold Hid; rw [HKF.out]; exact HFK.out
          have BE := Lib.hid (BA.out.trans (BK.out.mono BA.out.size))
          clear hv hz HKF
          go_wp2
          go_ret
          exact ⟨⟨K, A', q', by rw [← HV.out]; rfl, HL.out, HE.out⟩, BE.out⟩
end Go.Proofs.Ytbgcoeejmnejdaa.Unr
