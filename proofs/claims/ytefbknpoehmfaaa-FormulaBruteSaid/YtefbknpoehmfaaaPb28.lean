/- The program's Units. Condition: the clauses' slices are no longer than their arrays (as all that are handed in). -/
import Derived.Test.YtefbknpoehmfaaaPb27
import Derived.Test.YtefbknpoehmfaaaPb07
import Derived.Test.YtefbknpoehmfaaaPb06
import Derived.Laws.OwnMore
namespace Go.Proofs.Ytefbknpoehmfaaa.For
open Go.ChangeShapes Go.WideShapes Go.ChangeAt Go.RowKit Go.Maps Circ Cw Cla Rep Str

theorem op_fld_form_0 (a : Act) (w : World) (b : Nat) (t : Nat) (h : a.tmps.getD t undef = .pointer (some ⟨b, 0, none⟩)) (oo : Oper) (ho : oo.op = .fieldAddr 24 (.tmp t) 0) : (execOp a.eval oo).run Try.prog w = .ok (.value (.pointer (some ⟨b, 0, none⟩))) w := by
  have h' : a.tmps[t]?.getD undef = .pointer (some ⟨b, 0, none⟩) := by simpa using h
  unfold execOp
  rw [ho]
  go_simp
theorem op_make_ints (a : Act) (w : World) (t n : Nat) (hn : n ≤ 1048576) (h : a.tmps.getD t undef = .int .i64 (n : Int)) (oo : Oper) (ho : oo.op = .makeSlice 25 (.tmp t) (.tmp t)) : (execOp a.eval oo).run Try.prog w = .ok (.value (.slice (some ⟨w.heap.size, 0, none⟩) n n)) (w.alloc (.cells (madeCells #[.int .i64 0] n) 3)) := by
  obtain ⟨i, hi, hz, hs, hb⟩ := info_parts info3
  have MK := run_make (P := Try.prog) (w := w) 25 3 i (.int .i64 0) Try.underlying25 hi hz .i64 .i64 n n (by omega) (by omega) (by rw [hb]; omega) (by omega)
  rw [hs, Int.toNat_natCast, Nat.mul_one] at MK
  have h' : a.tmps[t]?.getD undef = .int .i64 (n : Int) := by simpa using h
  unfold execOp
  rw [ho]
  simp only [go_sem] at MK
  go_simp
theorem info_lst : (Try.prog.info? 85).map (fun i => (i.zero, i.size, i.bytes)) = some (some (.slice none 0 0), 1, 24) := by kernel_rfl
theorem op_make_lists (a : Act) (w : World) (t n : Nat) (hn : n ≤ 1048576) (h : a.tmps.getD t undef = .int .i64 (n : Int)) (oo : Oper) (ho : oo.op = .makeSlice 57 (.tmp t) (.tmp t)) : (execOp a.eval oo).run Try.prog w = .ok (.value (.slice (some ⟨w.heap.size, 0, none⟩) n n)) (w.alloc (.cells (madeCells #[.slice none 0 0] n) 85)) := by
  obtain ⟨i, hi, hz, hs, hb⟩ := info_parts info_lst
  have MK := run_make (P := Try.prog) (w := w) 57 85 i (.slice none 0 0) Try.underlying57 hi hz .i64 .i64 n n (by omega) (by omega) (by rw [hb]; omega) (by omega)
  rw [hs, Int.toNat_natCast, Nat.mul_one] at MK
  have h' : a.tmps[t]?.getD undef = .int .i64 (n : Int) := by simpa using h
  unfold execOp
  rw [ho]
  simp only [go_sem] at MK
  go_simp
theorem op_build_setter (a : Act) (w : World) (A B : Option Addr) (n q m r : Nat) (t s : Nat) (h : a.tmps.getD t undef = .slice A n q) (h2 : a.tmps.getD s undef = .slice B m r) (oo : Oper) (ho : oo.op = .build 60 #[(0, .tmp t), (2, .tmp s)]) : (execOp a.eval oo).run Try.prog w = .ok (.value (.agg #[.slice A n q, .slice none 0 0, .slice B m r])) w := by
  have h' : a.tmps[t]?.getD undef = .slice A n q := by simpa using h
  have h2' : a.tmps[s]?.getD undef = .slice B m r := by simpa using h2
  unfold execOp
  rw [ho]
  go_simp
theorem op_alloc_setter (a : Act) (w : World) (oo : Oper) (ho : oo.op = .alloc 60) : (execOp a.eval oo).run Try.prog w = .ok (.value (.pointer (some ⟨w.heap.size, 0, none⟩))) (w.alloc (.cells #[.slice none 0 0, .slice none 0 0, .slice none 0 0] 60)) := by
  unfold execOp
  rw [ho]
  go_simp
theorem op_store_setter (a : Act) (w : World) (R : Nat) (A : Option Addr) (n q : Nat) (B : Option Addr) (m r : Nat) (z0 z1 z2 : Value) (t s : Nat) (h : a.tmps.getD t undef = .pointer (some ⟨R, 0, none⟩)) (h2 : a.tmps.getD s undef = .agg #[.slice A n q, .slice none 0 0, .slice B m r]) (hR : w.heap[R]? = some (.cells #[z0, z1, z2] 60 (0, 0))) (oo : Oper) (ho : oo.op = .store 60 (.tmp t) (.tmp s)) :
    ∃ Z, (execOp a.eval oo).run Try.prog w = .ok .skip Z ∧ Z.heap[R]? = some (.cells #[.slice A n q, .slice none 0 0, .slice B m r] 60 (0, 0)) ∧ (∀ k, k ≠ R → Z.heap[k]? = w.heap[k]?) ∧ ∀ n, n ≤ R → Below n w Z := by
  have h' : a.tmps[t]?.getD undef = .pointer (some ⟨R, 0, none⟩) := by simpa using h
  have h2' : a.tmps[s]?.getD undef = .agg #[.slice A n q, .slice none 0 0, .slice B m r] := by simpa using h2
  obtain ⟨Z1, Z2, Z3, u0, u1, u2, ⟨e0, a0, b0⟩, ⟨e1, a1, b1⟩, ⟨e2, a2, b2⟩, hZ, -⟩ := store3 hR rfl (.slice A n q) (.slice none 0 0) (.slice B m r)
  refine ⟨Z3, ?_, hZ, fun k hk => ?_, fun n hn => ?_⟩
  · unfold execOp
    rw [ho]
    go_simp
  · rw [← e2, ← e1, ← e0]
    exact ((set_others _ _ _ _ k hk).trans (set_others _ _ _ _ k hk)).trans (set_others _ _ _ _ k hk)
  · rw [← e2, ← e1, ← e0]
    exact (((Below.refl _ _).setCell (by exact hn) _).setCell (by exact hn) _).setCell (by exact hn) _
def up4R (g bf V p : Nat) : Nat → (Nat → Value) → World → Prop
  | 0, f, _ => f 22 = .pointer (some ⟨bf, 0, none⟩)
  | 1, f, _ => f 23 = .int .i64 (V : Int)
  | 2, f, _ => f 24 = .int .i64 ((V : Int) + 1)
  | 3, f, w => ∃ b, f 25 = .slice (some ⟨b, 0, none⟩) (V + 1) (V + 1) ∧ g ≤ b ∧ w.heap[b]? = some (.cells (madeCells #[.int .i64 0] (V + 1)) 3 (0, 0))
  | 4, f, _ => f 26 = .pointer (some ⟨bf, 0, none⟩)
  | 5, f, _ => f 27 = .int .i64 (V : Int)
  | 6, f, _ => f 28 = .int .i64 (-(V : Int))
  | 7, f, _ => f 29 = .int .i64 (p : Int)
  | 8, f, _ => f 30 = .int .i64 ((p : Int) + 1)
  | 9, f, w => ∃ b, f 31 = .slice (some ⟨b, 0, none⟩) (p + 1) (p + 1) ∧ g ≤ b ∧ w.heap[b]? = some (.cells (madeCells #[.slice none 0 0] (p + 1)) 85 (0, 0))
  | 10, f, w => ∃ b c, f 32 = .agg #[.slice (some ⟨b, 0, none⟩) (V + 1) (V + 1), .slice none 0 0, .slice (some ⟨c, 0, none⟩) (p + 1) (p + 1)] ∧ g ≤ b ∧ g ≤ c ∧ w.heap[b]? = some (.cells (madeCells #[.int .i64 0] (V + 1)) 3 (0, 0)) ∧ w.heap[c]? = some (.cells (madeCells #[.slice none 0 0] (p + 1)) 85 (0, 0))
  | 11, f, w => ∃ b, f 7 = .pointer (some ⟨b, 0, none⟩) ∧ g ≤ b ∧ ∃ z0 z1 z2, w.heap[b]? = some (.cells #[z0, z1, z2] 60 (0, 0))
  | 12, f, w => ∃ R b c, f 7 = .pointer (some ⟨R, 0, none⟩) ∧ g ≤ R ∧ g ≤ b ∧ g ≤ c ∧ w.heap[R]? = some (.cells #[.slice (some ⟨b, 0, none⟩) (V + 1) (V + 1), .slice none 0 0, .slice (some ⟨c, 0, none⟩) (p + 1) (p + 1)] 60 (0, 0)) ∧ w.heap[b]? = some (.cells (madeCells #[.int .i64 0] (V + 1)) 3 (0, 0)) ∧ w.heap[c]? = some (.cells (madeCells #[.slice none 0 0] (p + 1)) 85 (0, 0))
  | _, _, _ => True
def up4M : Nat → List Nat
  | 0 => [22]
  | 1 => [23]
  | 2 => [24]
  | 3 => [25]
  | 4 => [26]
  | 5 => [27]
  | 6 => [28]
  | 7 => [29]
  | 8 => [30]
  | 9 => [31]
  | 10 => [32]
  | 11 => [7]
  | 12 => [7]
  | _ => []
theorem up4_stab {g bf V p : Nat} (jj : Nat) {f f' : Nat → Value} {w w' : World} (hb : Below w.heap.size w w') (hf : ∀ t ∈ up4M jj, f' t = f t) (h : up4R g bf V p jj f w) : up4R g bf V p jj f' w' := by
  match jj, hf, h with
  | 0, hf, h => exact (hf 22 (by decide)).trans h
  | 1, hf, h => exact (hf 23 (by decide)).trans h
  | 2, hf, h => exact (hf 24 (by decide)).trans h
  | 3, hf, h =>
    obtain ⟨b, h1, h2, h3⟩ := h
    exact ⟨b, (hf 25 (by decide)).trans h1, h2, (hb.block b (at_heap h3)).trans h3⟩
  | 4, hf, h => exact (hf 26 (by decide)).trans h
  | 5, hf, h => exact (hf 27 (by decide)).trans h
  | 6, hf, h => exact (hf 28 (by decide)).trans h
  | 7, hf, h => exact (hf 29 (by decide)).trans h
  | 8, hf, h => exact (hf 30 (by decide)).trans h
  | 9, hf, h =>
    obtain ⟨b, h1, h2, h3⟩ := h
    exact ⟨b, (hf 31 (by decide)).trans h1, h2, (hb.block b (at_heap h3)).trans h3⟩
  | 10, hf, h =>
    obtain ⟨b, c, h1, h2, h3, h4, h5⟩ := h
    exact ⟨b, c, (hf 32 (by decide)).trans h1, h2, h3, (hb.block b (at_heap h4)).trans h4, (hb.block c (at_heap h5)).trans h5⟩
  | 11, hf, h =>
    obtain ⟨b, h1, h2, z0, z1, z2, h3⟩ := h
    exact ⟨b, (hf 7 (by decide)).trans h1, h2, z0, z1, z2, (hb.block b (at_heap h3)).trans h3⟩
  | 12, hf, h =>
    obtain ⟨R, b, c, h1, h2, h3, h4, h5, h6, h7⟩ := h
    exact ⟨R, b, c, (hf 7 (by decide)).trans h1, h2, h3, h4, (hb.block R (at_heap h5)).trans h5, (hb.block b (at_heap h6)).trans h6, (hb.block c (at_heap h7)).trans h7⟩
  | _ + 13, _, _ => trivial
theorem up4_put {g bf V p R : Nat} {w Z : World} {z0 z1 z2 : Value} (hR : w.heap[R]? = some (.cells #[z0, z1, z2] 60 (0, 0))) (ho : ∀ k, k ≠ R → Z.heap[k]? = w.heap[k]?) (hZ : ∃ y0 y1 y2, Z.heap[R]? = some (.cells #[y0, y1, y2] 60 (0, 0))) (jj : Nat) (hj : jj ≠ 12) {f f' : Nat → Value} (hf : ∀ t ∈ up4M jj, f' t = f t) (h : up4R g bf V p jj f w) : up4R g bf V p jj f' Z := by
  match jj, hj, hf, h with
  | 0, _, hf, h => exact (hf 22 (by decide)).trans h
  | 1, _, hf, h => exact (hf 23 (by decide)).trans h
  | 2, _, hf, h => exact (hf 24 (by decide)).trans h
  | 3, _, hf, h =>
    obtain ⟨b, h1, h2, h3⟩ := h
    exact ⟨b, (hf 25 (by decide)).trans h1, h2, (ho b (ne_type h3 hR (by decide))).trans h3⟩
  | 4, _, hf, h => exact (hf 26 (by decide)).trans h
  | 5, _, hf, h => exact (hf 27 (by decide)).trans h
  | 6, _, hf, h => exact (hf 28 (by decide)).trans h
  | 7, _, hf, h => exact (hf 29 (by decide)).trans h
  | 8, _, hf, h => exact (hf 30 (by decide)).trans h
  | 9, _, hf, h =>
    obtain ⟨b, h1, h2, h3⟩ := h
    exact ⟨b, (hf 31 (by decide)).trans h1, h2, (ho b (ne_type h3 hR (by decide))).trans h3⟩
  | 10, _, hf, h =>
    obtain ⟨b, c, h1, h2, h3, h4, h5⟩ := h
    exact ⟨b, c, (hf 32 (by decide)).trans h1, h2, h3, (ho b (ne_type h4 hR (by decide))).trans h4, (ho c (ne_type h5 hR (by decide))).trans h5⟩
  | 11, _, hf, h =>
    obtain ⟨b, h1, h2, y0, y1, y2, h3⟩ := h
    by_cases hb : b = R
    · subst hb
      obtain ⟨x0, x1, x2, hx⟩ := hZ
      exact ⟨b, (hf 7 (by decide)).trans h1, h2, x0, x1, x2, hx⟩
    · exact ⟨b, (hf 7 (by decide)).trans h1, h2, y0, y1, y2, (ho b hb).trans h3⟩
  | 12, hj, _, _ => exact absurd rfl hj
  | _ + 13, _, _, _ => trivial
theorem mat_start {W : World} {B R b c V K : Nat} (hR : W.heap[R]? = some (.cells #[.slice (some ⟨b, 0, none⟩) (V + 1) (V + 1), .slice none 0 0, .slice (some ⟨c, 0, none⟩) K K] 60 (0, 0))) (hb : W.heap[b]? = some (.cells (madeCells #[.int .i64 0] (V + 1)) 3 (0, 0))) (hc : W.heap[c]? = some (.cells (madeCells #[.slice none 0 0] K) 85 (0, 0))) (hK : K = nW V) (h1 : B ≤ R) (h2 : B ≤ b) (h3 : B ≤ c) :
    Mat W B ⟨R, b, c, .slice none 0 0, List.replicate K (.slice none 0 0), []⟩ (startP V) := by
  have hgd : ∀ p, (List.replicate (nW V) ([] : List Nat)).getD p [] = [] := fun p => by
    rw [List.getD_eq_getElem?_getD, List.getElem?_replicate]
    split <;> rfl
  have hvs : ∀ (p : Nat) (v : Value), (List.replicate K (Value.slice none 0 0))[p]? = some v → v = .slice none 0 0 := fun p v hp => by
    rw [List.getElem?_replicate] at hp
    split at hp
    · exact (Option.some.inj hp).symm
    · cases hp
  refine ⟨by simpa [startP, hK] using hR, ?_, OwnI.nil _ _, by simp [Value.ownBlock], ?_, by simp [startP, hK], fun p v hp => ?_, fun p q v u _ hp _ g hg => ?_, rfl, (fun i w hi => by cases hi), List.Pairwise.nil, fun p i hi => ?_, h1, h2, h3, fun b hb => absurd hb List.not_mem_nil⟩
  · simp only
    rw [hb]
    congr 2
    unfold numsA startP
    apply Array.ext'
    rw [toList_madeCells_one]
    simp
  · simp only
    rw [hc]
    congr 2
    apply Array.ext'
    rw [toList_madeCells_one]
  · rw [hvs p v hp]
    show OwnC W B _ 1 _ (ptrs [] ((List.replicate (nW V) ([] : List Nat)).getD p []))
    rw [hgd]
    exact OwnC.nil _ _ _ _
  · rw [hvs p v hp] at hg
    simp [Value.ownBlock] at hg
  · rw [show (startP V).waits = List.replicate (nW V) [] from rfl, hgd] at hi
    exact absurd hi List.not_mem_nil
theorem units_res {vars : Int} {L : List (List Int)} {l : List Int} (hI : ∀ c ∈ L, ∀ y ∈ c, I64 y) (hl : ∀ y ∈ l, I64 y) (h0 : formM vars L = 0) (h1 : l.all (litOk vars) = true) :
    unitsM vars L l = match upP vars.toNat L l with
      | none => ([], false, 0)
      | some s => (listP vars.toNat s, true, 0) := by
  obtain ⟨a, b, c, d⟩ := form_ok h0
  have h := up_follow (vars := vars) (L := L) (l := l) a b (fun x hx y hy => ⟨hI x hx y hy, chk_lit (d x hx) y hy⟩) (fun y hy => ⟨hl y hy, List.all_eq_true.1 h1 y hy⟩)
  unfold unitsM
  rw [if_neg (by rw [h0]; decide), if_pos h1]
  cases e : upP vars.toNat L l with
  | none => rw [e] at h; rw [h]
  | some s =>
    rw [e] at h
    obtain ⟨t, h2, h3⟩ := h
    rw [h2]
    simp only
    rw [h3]
theorem not_done {V : Nat} {L : List (List Int)} {l : List Int} {s : St} {k : Nat} {y : Int} (h : Inv V L l s (doneTo s k) 0 []) (hy : s.queue[k]? = some y) : ¬ doneTo s k (-y) := fun hd => by
  have hk : k < s.queue.length := (List.getElem?_eq_some_iff.1 hy).1
  have hyk : s.queue[k] = y := (List.getElem?_eq_some_iff.1 hy).2
  have htk : s.queue.take (k + 1) = s.queue.take k ++ [y] := by rw [List.take_succ_eq_append_getElem hk, hyk]
  unfold doneTo at hd
  rw [Int.neg_neg] at hd
  have h1 := h.base.nd
  rw [← List.take_append_drop (k + 1) s.queue, htk, List.append_assoc, List.map_append, List.nodup_append] at h1
  exact h1.2.2 _ (List.mem_map.2 ⟨y, hd, rfl⟩) _ (List.mem_map.2 ⟨y, by simp, rfl⟩) rfl
theorem unit_post {W w' : World} {U : List Int × Bool × Int} {x : Int} {n : Nat} (hU : U = ([], false, x)) (hb : Below W.heap.size W w') : (∃ A', ((none = A' ∧ 0 = U.1.length) ∧ U.2.1 = false ∧ x = U.2.2) ∧ ILies w' n A' U.1) ∧ Below W.heap.size W w' := by
  subst hU
  exact ⟨⟨none, ⟨⟨rfl, rfl⟩, rfl, rfl⟩, ILies.nil _ _ _⟩, hb⟩
set_option maxHeartbeats 32000000 in
set_option maxRecDepth 100000 in
theorem units_p (vars : Int) (L : List Clz) (A : Option Addr) (q : Nat) (l : List Int) (Bl : Option Addr) (r : Nat) (W : World) (hA : ALies W W.heap.size A L) (hcap : Caps L) (hl : ILies W W.heap.size Bl l) :
    Calls Try.prog 7 #[forV vars A L.length q, .slice Bl l.length r] W fun e w' => (∃ A' q', e = .returned (.tuple #[.slice A' (unitsM vars (L.map Clz.l) l).1.length q', .bool (unitsM vars (L.map Clz.l) l).2.1, .int .i64 (unitsM vars (L.map Clz.l) l).2.2]) ∧ ILies w' w'.heap.size A' (unitsM vars (L.map Clz.l) l).1) ∧ Below W.heap.size W w' := by
  have hmf : ∀ (fn : Fn) (first cap : Array Value) (w : World), (Instr.makeFunc fn first cap).run Try.prog w = .ok (.func fn first cap) w := fun _ _ _ _ => rfl
  obtain ⟨WA, hWA⟩ : ∃ x, W.alloc (.cells #[.int .i64 vars, .slice A L.length q] 24) = x := ⟨_, rfl⟩
  have bA : Below W.heap.size W WA := by rw [← hWA]; exact (Below.refl _ _).alloc (Nat.le_refl _) _
  have sA : WA.heap.size = W.heap.size + 1 := by rw [← hWA]; simp
  obtain ⟨WB, hWB⟩ : ∃ x, WA.alloc (.cells #[.int .i64 0] 26) = x := ⟨_, rfl⟩
  have bB : Below WA.heap.size WA WB := by rw [← hWB]; exact (Below.refl _ _).alloc (Nat.le_refl _) _
  have sB : WB.heap.size = W.heap.size + 2 := by rw [← hWB]; simp [sA]
  have gA : WA.heap[W.heap.size]? = some (.cells #[.int .i64 vars, .slice A L.length q] 24 (0, 0)) := by rw [← hWA]; exact Array.getElem?_push_size
  have gB : WB.heap[W.heap.size]? = some (.cells #[.int .i64 vars, .slice A L.length q] 24 (0, 0)) := (bB.block _ (by omega)).trans gA
  have rB : WB.heap[W.heap.size + 1]? = some (.cells #[.int .i64 0] 26 (0, 0)) := by rw [← hWB, ← sA]; exact Array.getElem?_push_size
  have BB : Hid (Below W.heap.size W WB) := bA.trans (bB.mono (by omega))
  have SB := Lib.hid sB
  have HT : Hid (∀ w, Below WB.heap.size WB w → w.cell? ⟨W.heap.size + 1, 0, none⟩ = some (.int .i64 0) ∧ w.frozen? ⟨W.heap.size + 1, 0, none⟩ = false ∧ w.heap[W.heap.size]? = some (.cells #[.int .i64 vars, .slice A L.length q] 24 (0, 0)) ∧ Below W.heap.size W w) := fun w hw => by
    have r1 := (hw.block _ (at_heap rB)).trans rB
    exact ⟨by simp [World.cell?, r1], by simp [World.frozen?, r1], (hw.block _ (at_heap gB)).trans gB, BB.out.trans (hw.mono BB.out.size)⟩
  have NF := Lib.hid (needform_any vars L A q WB ((hA.below BB.out).more BB.out.size))
  have HAL : Hid (∀ w, Below W.heap.size W w → ALies w W.heap.size A L) := fun w hw => hA.below hw
  have HLL : Hid (∀ w, Below W.heap.size W w → ILies w W.heap.size Bl l) := fun w hw => hl.below hw
  have HCAP := Lib.hid hcap
  have HI : Hid (∀ c ∈ L.map Clz.l, ∀ y ∈ c, I64 y) := fun c hc y hy => by
    obtain ⟨z, hz, rfl⟩ := List.mem_map.1 hc
    exact (hA.each z hz).fits y hy
  have HIL := Lib.hid hl.fits
  have hln := hl.len
  have hLn := hA.len
  obtain ⟨UM, hUM⟩ : ∃ u, unitsM vars (L.map Clz.l) l = u := ⟨_, rfl⟩
  rw [hUM]
  have HUM := Lib.hid hUM
  unfold forV at *
  clear hA hl hcap bA bB gA gB rB sA hUM
  subst hWB
  subst hWA
  go_enter_defers Try.func7, Try.ntmps7
  go_wp2_with fail
  refine NF.out.mono ?_
  rintro e w1 ⟨he, hb⟩
  obtain ⟨hcr, hfr, hbx, hbw⟩ := HT.out w1 hb
  by_cases h0 : formM vars (L.map Clz.l) = 0
  case neg =>
    have he' : e = .panicked (faultI 9) := by rw [he, decide_eq_false h0]; rfl
    subst he'
    have HU9 : UM = ([], false, 9) := by
      rw [← HUM.out]
      unfold unitsM
      rw [if_pos h0]
    clear he hb NF
    have hcs := World.cell?_setCell_same' _ ⟨W.heap.size + 1, 0, none⟩ (.int .i64 9) (by rw [hcr]; rfl)
    go_wp2
    refine leaves_cons (f := 22) (args := #[.pointer (some ⟨W.heap.size + 1, 0, none⟩)]) (by simp) (by simp [go_sem]) ?_
    refine (ucatch_panicking ⟨W.heap.size + 1, 0, none⟩ 9 0 _ hcr hfr).mono ?_
    rintro e u' w'' ⟨rfl, rfl, rfl⟩
    simp [Leaves, settle, results, Try.results7, go_sem, hcs]
    refine unit_post HU9 ?_
    exact hbw.setCell (by simp) _
  case pos =>
  have he' : e = .returned (.tuple #[]) := by rw [he, decide_eq_true h0]; rfl
  subst he'
  obtain ⟨hv0, hv1, hLm, hck⟩ := form_ok h0
  obtain ⟨V, rfl⟩ : ∃ V : Nat, vars = (V : Int) := ⟨vars.toNat, by omega⟩
  have HB1 := Lib.hid hb
  have AL := Lib.hid (allI_any (litOk (V : Int)) 26 (.int .i64 (V : Int)) l Bl r w1 (enters_of Try.func26 (by kernel_rfl) rfl) ((HLL.out w1 hbw).more hbw.size) fun x hx w hw => (have_any (V : Int) x w (HIL.out x hx)).mono fun _ _ ⟨h1, h2⟩ => ⟨h1, by rw [h2]; exact Below.refl _ _⟩)
  obtain ⟨e0, e1⟩ := cells2 hbx
  clear he hb NF
  cases h1 : l.all (litOk (V : Int)) with
  | false =>
    rw [h1] at AL
    go_wp2_with fail
    refine AL.out.mono ?_
    rintro e w2 ⟨rfl, hb⟩
    clear e0 e1 hcr hfr hbx
    obtain ⟨hcr, hfr, hbx, hbw2⟩ := HT.out w2 (HB1.out.trans (hb.mono HB1.out.size))
    have HU4 : UM = ([], false, 4) := by
      rw [← HUM.out]
      unfold unitsM
      rw [if_neg (by rw [h0]; decide), if_neg (by rw [h1]; decide)]
    clear AL hb
    go_wp2_with fail
    refine (need_no _ _).mono ?_
    rintro e w' ⟨rfl, rfl⟩
    have hcs := World.cell?_setCell_same' _ ⟨W.heap.size + 1, 0, none⟩ (.int .i64 4) (by rw [hcr]; rfl)
    go_wp2
    refine leaves_cons (f := 22) (args := #[.pointer (some ⟨W.heap.size + 1, 0, none⟩)]) (by simp) (by simp [go_sem]) ?_
    refine (ucatch_panicking ⟨W.heap.size + 1, 0, none⟩ 4 0 _ hcr hfr).mono ?_
    rintro e u' w'' ⟨rfl, rfl, rfl⟩
    simp [Leaves, settle, results, Try.results7, go_sem, hcs]
    refine unit_post HU4 ?_
    exact hbw2.setCell (by simp) _
  | true =>
    rw [h1] at AL
    go_wp2_with fail
    refine AL.out.mono ?_
    rintro e w2 ⟨rfl, hb⟩
    clear e0 e1 hcr hfr hbx
    obtain ⟨hcr2, hfr2, hbx2, hbw2⟩ := HT.out w2 (HB1.out.trans (hb.mono HB1.out.size))
    have HTT : Hid (∀ w, Below w2.heap.size w2 w → w.cell? ⟨W.heap.size + 1, 0, none⟩ = some (.int .i64 0) ∧ w.frozen? ⟨W.heap.size + 1, 0, none⟩ = false ∧ w.heap[W.heap.size]? = some (.cells #[.int .i64 (V : Int), .slice A L.length q] 24 (0, 0)) ∧ Below W.heap.size W w) := fun w hw => HT.out w ((HB1.out.trans (hb.mono HB1.out.size)).trans (hw.mono ((HB1.out.trans (hb.mono HB1.out.size)).size)))
    have HVC : Hid (∀ w, Below w2.heap.size w2 w → w.cell? ⟨W.heap.size, 0, none⟩ = some (.int .i64 (V : Int))) := fun w hw => (cells2 (HTT.out w hw).2.2.1).1
    have HUR : Hid (UM = match upP V (L.map Clz.l) l with
      | none => ([], false, 0)
      | some s => (listP V s, true, 0)) := by
      unfold Hid
      rw [← HUM.out, units_res HI.out HIL.out h0 h1, Int.toNat_natCast]
    have hW2 : W.heap.size ≤ w2.heap.size := hbw2.size
    have HW1B : Hid (W.heap.size + 2 ≤ w2.heap.size) := by
      have h1 := (HB1.out.trans (hb.mono HB1.out.size)).size
      have h2 := SB.out
      unfold Hid
      omega
    have HV1 : Hid (IntKind.i64.wrap ((V : Int) + 1) = (V : Int) + 1) := IntWalk.i64_in _ (by omega)
    have HVN : Hid (IntKind.i64.wrap (-(V : Int)) = -(V : Int)) := IntWalk.i64_in _ (by omega)
    obtain ⟨pl, hpl⟩ : ∃ p, plc (-(V : Int)) = p := ⟨_, rfl⟩
    have hpn : pl + 1 = nW V := by
      rw [← hpl]
      unfold plc nW
      split <;> split <;> omega
    have hpb : pl ≤ 524289 := by unfold nW at hpn; split at hpn <;> omega
    have HP1 : Hid (IntKind.i64.wrap ((pl : Int) + 1) = (pl : Int) + 1) := IntWalk.i64_in _ (by omega)
    have EVP : Hid (∀ args w, (callFunc 27 args).run Try.prog w = .ok (.enter 27 args) w) := enters_of Try.func27 (by kernel_rfl) rfl
    have PL := Lib.hid (fun w => place_any (-(V : Int)) w (by omega))
    rw [hpl] at PL
    have hok2 : ∀ (Y Z : World), (Below w2.heap.size w2 Y ∧ w2.heap.size ≤ Y.heap.size) → Below Y.heap.size Y Z → Below w2.heap.size w2 Z ∧ w2.heap.size ≤ Z.heap.size := fun Y Z h k => ⟨h.1.trans (k.mono h.2), Nat.le_trans h.2 k.size⟩
    have HOK2 := Lib.hid hok2
    have hL : ∀ c ∈ L.map Clz.l, ∀ y ∈ c, litN V y := fun c hc y hy => by
      have := lit_facts (chk_lit (hck c hc) y hy)
      unfold litN; omega
    have hlv : ∀ y ∈ l, litN V y := fun y hy => by
      have := lit_facts (List.all_eq_true.1 h1 y hy)
      unfold litN; omega
    have HL := Lib.hid hL
    have HLV := Lib.hid hlv
    have hVb : V ≤ 262144 := by omega
    have hLb : L.length ≤ 1048576 := by rw [List.length_map] at hLm; exact hLm
    clear AL hb hcr2 hfr2 hbx2 hbw2 HT HB1 hL hlv hck hLm h0 h1 hv0 hv1 hpl HUM HI HIL hok2
    go_wp2_with fail
    refine (need_yes _ _).mono ?_
    rintro e w' ⟨rfl, rfl⟩
    go_wp2_with fail
    refine wp_region_valsE (by kernel_rfl) (by kernel_rfl) up4M (by kernel_rfl) (by kernel_rfl)
      (fun _ w' => Below w2.heap.size w2 w' ∧ w2.heap.size ≤ w'.heap.size) (up4R w2.heap.size W.heap.size V pl) ⟨(Below.refl _ _).drew, Nat.le_refl _⟩ (fun jj f f' w w' hb hf h => up4_stab jj hb hf h) ?_ ?_
    · intro i oo d a' w' ho hd hun hdf hok hDE K hK hK0
      have hok2 := HOK2.out
      match i, ho, hd, hDE, hK, hK0, hun with
      | 0, ho, hd, hD, hK, hK0, hun =>
        have e := (congrArg Oper.op (Option.some.inj ho)).symm
        obtain rfl := Option.some.inj ho
        exact wp_val (op_fld_form_0 a' w' _ 2 (hun 2 (by kernel_rfl)) _ e) (hK _ _ (Below.refl _ _) hok (fun f h1 _ => h1 _ rfl))
      | 1, ho, hd, hD, hK, hK0, hun =>
        have e := (congrArg Oper.op (Option.some.inj ho)).symm
        obtain rfl := Option.some.inj ho
        exact wp_val (op_cell_int a' w' _ 22 _ (hDE 0 (by kernel_rfl)).2 (HVC.out w' hok.1) _ e) (hK _ _ (Below.refl _ _) hok (fun f h1 _ => h1 _ rfl))
      | 2, ho, hd, hD, hK, hK0, hun =>
        have e := (congrArg Oper.op (Option.some.inj ho)).symm
        obtain rfl := Option.some.inj ho
        exact wp_val (op_plus1 a' w' _ 23 (hDE 1 (by kernel_rfl)).2 HV1.out _ e) (hK _ _ (Below.refl _ _) hok (fun f h1 _ => h1 _ rfl))
      | 3, ho, hd, hD, hK, hK0, hun =>
        have e := (congrArg Oper.op (Option.some.inj ho)).symm
        obtain rfl := Option.some.inj ho
        exact wp_val (op_make_ints a' w' 24 (V + 1) (by omega) (((hDE 2 (by kernel_rfl)).2).trans (by rw [Int.natCast_add]; rfl)) _ e) (hK _ _ ((Below.refl _ _).alloc (Nat.le_refl _) _) (hok2 _ _ hok ((Below.refl _ _).alloc (Nat.le_refl _) _)) (fun f h1 _ => ⟨_, h1 _ rfl, hok.2, Array.getElem?_push_size⟩))
      | 4, ho, hd, hD, hK, hK0, hun =>
        have e := (congrArg Oper.op (Option.some.inj ho)).symm
        obtain rfl := Option.some.inj ho
        exact wp_val (op_fld_form_0 a' w' _ 2 (hun 2 (by kernel_rfl)) _ e) (hK _ _ (Below.refl _ _) hok (fun f h1 _ => h1 _ rfl))
      | 5, ho, hd, hD, hK, hK0, hun =>
        have e := (congrArg Oper.op (Option.some.inj ho)).symm
        obtain rfl := Option.some.inj ho
        exact wp_val (op_cell_int a' w' _ 26 _ (hDE 4 (by kernel_rfl)).2 (HVC.out w' hok.1) _ e) (hK _ _ (Below.refl _ _) hok (fun f h1 _ => h1 _ rfl))
      | 6, ho, hd, hD, hK, hK0, hun =>
        have e := (congrArg Oper.op (Option.some.inj ho)).symm
        obtain rfl := Option.some.inj ho
        exact wp_val (op_neg a' w' _ 27 (hDE 5 (by kernel_rfl)).2 HVN.out _ e) (hK _ _ (Below.refl _ _) hok (fun f h1 _ => h1 _ rfl))
      | 7, ho, hd, hD, hK, hK0, hun =>
        have e := (congrArg Oper.op (Option.some.inj ho)).symm
        obtain rfl := Option.some.inj ho
        refine wp_enter (op_call1 a' w' 27 28 3 EVP.out _ e) ?_
        rw [show a'.tmps.getD 28 undef = .int .i64 (-(V : Int)) from (hDE 6 (by kernel_rfl)).2]
        refine (PL.out w').mono ?_
        rintro ee w2 ⟨rfl, rfl⟩
        exact .inl ⟨_, rfl, hK _ _ (Below.refl _ _) hok (fun f h1 _ => h1 _ rfl)⟩
      | 8, ho, hd, hD, hK, hK0, hun =>
        have e := (congrArg Oper.op (Option.some.inj ho)).symm
        obtain rfl := Option.some.inj ho
        exact wp_val (op_plus1 a' w' _ 29 (hDE 7 (by kernel_rfl)).2 HP1.out _ e) (hK _ _ (Below.refl _ _) hok (fun f h1 _ => h1 _ rfl))
      | 9, ho, hd, hD, hK, hK0, hun =>
        have e := (congrArg Oper.op (Option.some.inj ho)).symm
        obtain rfl := Option.some.inj ho
        exact wp_val (op_make_lists a' w' 30 (pl + 1) (by omega) (((hDE 8 (by kernel_rfl)).2).trans (by rw [Int.natCast_add]; rfl)) _ e) (hK _ _ ((Below.refl _ _).alloc (Nat.le_refl _) _) (hok2 _ _ hok ((Below.refl _ _).alloc (Nat.le_refl _) _)) (fun f h1 _ => ⟨_, h1 _ rfl, hok.2, Array.getElem?_push_size⟩))
      | 10, ho, hd, hD, hK, hK0, hun =>
        have e := (congrArg Oper.op (Option.some.inj ho)).symm
        obtain rfl := Option.some.inj ho
        obtain ⟨b1, hs1, hg1, hh1⟩ := (hDE 3 (by kernel_rfl)).2
        obtain ⟨b2, hs2, hg2, hh2⟩ := (hDE 9 (by kernel_rfl)).2
        exact wp_val (op_build_setter a' w' _ _ _ _ _ _ 25 31 hs1 hs2 _ e) (hK _ _ (Below.refl _ _) hok (fun f h1 _ => ⟨b1, b2, h1 _ rfl, hg1, hg2, hh1, hh2⟩))
      | 11, ho, hd, hD, hK, hK0, hun =>
        have e := (congrArg Oper.op (Option.some.inj ho)).symm
        obtain rfl := Option.some.inj ho
        exact wp_val (op_alloc_setter a' w' _ e) (hK _ _ ((Below.refl _ _).alloc (Nat.le_refl _) _) (hok2 _ _ hok ((Below.refl _ _).alloc (Nat.le_refl _) _)) (fun f h1 _ => ⟨_, h1 _ rfl, hok.2, _, _, _, Array.getElem?_push_size⟩))
      | 12, ho, hd, hD, hK, hK0, hun =>
        have e := (congrArg Oper.op (Option.some.inj ho)).symm
        obtain rfl := Option.some.inj ho
        obtain ⟨b1, b2, hs1, hg1, hg2, hh1, hh2⟩ := (hDE 10 (by kernel_rfl)).2
        obtain ⟨R, hs3, hg3, z0, z1, z2, hh3⟩ := (hDE 11 (by kernel_rfl)).2
        obtain ⟨Z, hrun, hZR, hZo, hZb⟩ := op_store_setter a' w' R (some ⟨b1, 0, none⟩) (V + 1) (V + 1) (some ⟨b2, 0, none⟩) (pl + 1) (pl + 1) z0 z1 z2 7 32 hs3 hs1 hh3 _ e
        have hn1 : b1 ≠ R := ne_type hh1 hh3 (by decide)
        have hn2 : b2 ≠ R := ne_type hh2 hh3 (by decide)
        exact wp_skip' hrun (hK0 _ _ ⟨hok.1.trans (hZb w2.heap.size hg3), Nat.le_trans hok.2 (hZb w2.heap.size hg3).size⟩ (fun f _ h2 => ⟨R, b1, b2, (h2 7 (by decide)).trans hs3, hg3, hg1, hg2, hZR, (hZo b1 hn1).trans hh1, (hZo b2 hn2).trans hh2⟩) (fun j f hj hf hq => up4_put hh3 (fun k hk => hZo k hk) ⟨_, _, _, hZR⟩ j hj hf hq))
      | i + 13, ho, _, _, _, _, _ => exact absurd ho (by simp)
    · intro a' w3 hsz hdf hkt hok hR
      have HF3 := frame_sets [22, 23, 24, 25, 26, 27, 28, 29, 30, 31, 32, 7] (by kernel_rfl) hsz hkt
      obtain ⟨d, hok, hall⟩ := hok
      obtain ⟨R, b1, b2, h7, hg1, hg2, hg3, hh1, hh2, hh3⟩ := hR 12 (by decide)
      have HM0 := Lib.hid (mat_start hh1 hh2 hh3 hpn hg1 hg2 hg3)
      have HB3 := Lib.hid hok.1
      obtain ⟨tm, df⟩ := a'
      obtain rfl : df = _ := hdf
      simp only [List.foldl_cons, List.foldl_nil] at HF3
      clear hkt hR hsz
      replace h7 : tm.getD 7 undef = _ := h7
      rw [h7] at HF3
      clear h7
      generalize tm.getD 22 undef = y22 at HF3
      generalize tm.getD 23 undef = y23 at HF3
      generalize tm.getD 24 undef = y24 at HF3
      generalize tm.getD 25 undef = y25 at HF3
      generalize tm.getD 26 undef = y26 at HF3
      generalize tm.getD 27 undef = y27 at HF3
      generalize tm.getD 28 undef = y28 at HF3
      generalize tm.getD 29 undef = y29 at HF3
      generalize tm.getD 30 undef = y30 at HF3
      generalize tm.getD 31 undef = y31 at HF3
      generalize tm.getD 32 undef = y32 at HF3
      simp only [List.setIfInBounds_toArray, List.set_cons_succ, List.set_cons_zero] at HF3
      subst HF3
      generalize hM0 : (⟨R, b1, b2, .slice none 0 0, List.replicate (pl + 1) (.slice none 0 0), []⟩ : Mem) = M0 at HM0
      have HR0 : Hid (M0.R = R) := by rw [← hM0]; exact rfl
      have HBS : Hid (Base V (L.map Clz.l) l (startP V)) := base_start
      have hB0 : w2.heap.size ≤ w3.heap.size := HB3.out.size
      have HRES : Hid (∀ x wz, Below w2.heap.size w2 wz → x = x + (0 : Int) ∧ Below W.heap.size W wz) := fun x wz hz => ⟨by omega, (HTT.out wz hz).2.2.2⟩
      clear hok hall hh1 hh2 hh3 hM0 PL EVP HP1 HVN HV1 HVC hpn
      go_wp2
      go_loopw [35] (fun i wr => ∃ (k : Nat) (s1 : St) (M1 : Mem), k ≤ l.length ∧ i = .int .i64 k ∧ foldO setsP l (startP V) = foldO setsP (l.drop k) s1 ∧ Base V (L.map Clz.l) l s1 ∧ Mat wr w2.heap.size M1 s1 ∧ M1.R = R ∧ s1.waits = List.replicate (nW V) [] ∧ s1.ws = [] ∧ Below w2.heap.size w2 wr) (fun i _ => l.length - (intOf i).toNat)
      case atStart => exact ⟨0, startP V, M0, Nat.zero_le _, rfl, rfl, HBS.out, HM0.out, HR0.out, rfl, rfl, HB3.out⟩
      case round =>
        clear HM0 HR0 HB3 HRES hB0 HBS
        obtain ⟨k, s1, M1, hk, rfl, hf, hbs, hm, hr1, hw1, hz1, hb⟩ := hrel
        obtain ⟨hcr, hfr, hbx, hbw⟩ := HTT.out wr hb
        by_cases hlt : k < l.length
        · have hkz : (k : Int) < (l.length : Int) := by omega
          obtain ⟨b, o, hBl, -, hc⟩ := LRow.int (HLL.out wr hbw).row hlt
          subst hBl
          have hdr : l.drop k = l[k] :: l.drop (k + 1) := List.drop_eq_getElem_cons hlt
          have hxm : l[k] ∈ l := List.getElem_mem hlt
          obtain ⟨x, hx⟩ : ∃ x, l[k] = x := ⟨_, rfl⟩
          rw [hx] at hdr hxm hc
          have hxl := HLV.out x hxm
          have ST := Lib.hid (sets_mem wr w2.heap.size M1 s1 x hm hb.size (by rw [hbs.sl]; unfold litN at hxl; omega) (by rw [hbs.sl]; omega) (by have := hbs.few; omega))
          rw [hr1] at ST
          have HFO : Hid (foldO setsP l (startP V) = (setsP s1 x).bind (foldO setsP (l.drop (k + 1)))) := by unfold Hid; rw [hf, hdr]; rfl
          have HBS1 := Lib.hid hbs
          have HW1 := Lib.hid hw1
          have HZ1 := Lib.hid hz1
          have HR1 := Lib.hid hr1
          have HBB := Lib.hid hb
          clear hf hbs hm hr1 hw1 hz1 hb hdr hx hcr hfr hbx hbw
          go_wp2_with fail
          refine ST.out.mono ?_
          rintro e w4 ⟨⟨h3, h4⟩, -⟩
          cases hs : setsP s1 x with
          | none =>
            obtain ⟨rfl, h5⟩ := h3 hs
            obtain ⟨hcr, hfr, hbx, hbw⟩ := HTT.out w4 (HBB.out.trans h5)
            have HU0 : UM = ([], false, 0) := by
              rw [HUR.out]
              unfold upP
              rw [HFO.out, hs]
              rfl
            have hcs := World.cell?_setCell_same' _ ⟨W.heap.size + 1, 0, none⟩ (.int .i64 0) (by rw [hcr]; rfl)
            go_wp2
            refine leaves_cons (f := 22) (args := #[.pointer (some ⟨W.heap.size + 1, 0, none⟩)]) (by simp) (by simp [go_sem]) ?_
            refine (ucatch_panicking ⟨W.heap.size + 1, 0, none⟩ 0 0 _ hcr hfr).mono ?_
            rintro e u' w'' ⟨rfl, rfl, rfl⟩
            simp [Leaves, settle, results, Try.results7, go_sem, hcs]
            refine unit_post HU0 ?_
            exact hbw.setCell (by simp) _
          | some s2 =>
            obtain ⟨rfl, ⟨M2, n1, n2, -⟩, h5⟩ := h4 s2 hs
            obtain ⟨t1, -, -, t4, t5⟩ := sets_some HBS1.out hxl (.giv x hxm) hs
            have HFN : Hid (foldO setsP l (startP V) = foldO setsP (l.drop (k + 1)) s2) := by unfold Hid; rw [HFO.out, hs]; rfl
            have HM2 := Lib.hid n1
            have HB2 := Lib.hid t1
            have HR2 : Hid (M2.R = R) := n2.trans HR1.out
            have HW2 : Hid (s2.waits = List.replicate (nW V) []) := t4.trans HW1.out
            have HZ2 : Hid (s2.ws = []) := t5.trans HZ1.out
            have HB4 : Hid (Below w2.heap.size w2 w4) := HBB.out.trans h5
            clear h3 h4 h5 n1 n2 t1 t4 t5 ST
            go_wp2
            go_roundw
            case rel => exact ⟨k + 1, s2, M2, by omega, by go_num, HFN.out, HB2.out, HM2.out, HR2.out, HW2.out, HZ2.out, HB4.out⟩
            case measure => simp [intOf]; omega
        · obtain rfl : k = l.length := by omega
          have HF1 : Hid (foldO setsP l (startP V) = some s1) := by unfold Hid; rw [hf, List.drop_length]; rfl
          have HI1 : Hid (Inv V (L.map Clz.l) l s1 (fun _ => False) 0 []) := inv_of hbs hw1 hz1
          have HM1 := Lib.hid hm
          have HR1 := Lib.hid hr1
          have HBB := Lib.hid hb
          have HZ1 := Lib.hid hz1
          obtain ⟨e0, e1⟩ := cells2 hbx
          clear hf hbs hm hr1 hw1 hz1 hb hcr hfr hbx hbw
          go_wp2
          go_loopw [45] (fun i wr => ∃ (k : Nat) (s2 : St) (M2 : Mem), k ≤ L.length ∧ i = .int .i64 k ∧ foldO takesP (L.map Clz.l) s1 = foldO takesP ((L.map Clz.l).drop k) s2 ∧ Inv V (L.map Clz.l) l s2 (fun _ => False) 0 [] ∧ s2.ws.length = k ∧ Mat wr w2.heap.size M2 s2 ∧ M2.R = R ∧ Below w2.heap.size w2 wr) (fun i _ => L.length - (intOf i).toNat)
          case atStart => exact ⟨0, s1, M1, Nat.zero_le _, rfl, rfl, HI1.out, by rw [HZ1.out]; rfl, HM1.out, HR1.out, HBB.out⟩
          case round =>
            clear HI1 HM1 HR1 HBB HZ1 e0 e1
            obtain ⟨k, s2, M2, hk, rfl, hf, hi2, hk2, hm, hr1, hb⟩ := hrel
            obtain ⟨hcr, hfr, hbx, hbw⟩ := HTT.out _ hb
            by_cases hlt : k < L.length
            · have hkz : (k : Int) < (L.length : Int) := by omega
              have hAL := HAL.out _ hbw
              obtain ⟨b, o, hAe, -, hc⟩ := hAL.at hlt
              subst hAe
              have hlm : k < (L.map Clz.l).length := by rw [List.length_map]; exact hlt
              have hdr : (L.map Clz.l).drop k = L[k].l :: (L.map Clz.l).drop (k + 1) := by
                rw [List.drop_eq_getElem_cons hlm, List.getElem_map]
              have hLk : (L.map Clz.l)[s2.ws.length]? = some L[k].l := by rw [hk2, List.getElem?_map, List.getElem?_eq_getElem hlt]; rfl
              have hzc := HCAP.out _ (List.getElem_mem hlt)
              have hzl := hAL.each _ (List.getElem_mem hlt)
              obtain ⟨z, hz⟩ : ∃ z, L[k] = z := ⟨_, rfl⟩
              rw [hz] at hdr hLk hc hzc hzl
              have ST := Lib.hid (takes_mem HL.out hVb (by rw [List.length_map]; exact hLb) wr w2.heap.size M2 s2 z.l z.A z.q hm hb.size hi2 hLk ((clz_lies hzl).more hW2) hzc)
              have TK := Lib.hid (takes_ok HL.out hi2 hLk)
              rw [hr1] at ST
              have HFO : Hid (foldO takesP (L.map Clz.l) s1 = (takesP s2 z.l).bind (foldO takesP ((L.map Clz.l).drop (k + 1)))) := by unfold Hid; rw [hf, hdr]; rfl
              have HR1 := Lib.hid hr1
              have HBB := Lib.hid hb
              have HK2 := Lib.hid hk2
              clear hf hi2 hm hr1 hb hdr hz hcr hfr hbx hbw hAL hLk hzc hzl hk2 hlm
              go_wp2_with fail
              refine ST.out.mono ?_
              rintro e w4 ⟨h3, h4⟩
              have TK' := TK.out
              cases hs : takesP s2 z.l with
              | none =>
                obtain ⟨rfl, h5⟩ := h3 hs
                obtain ⟨hcr, hfr, hbx, hbw⟩ := HTT.out w4 (HBB.out.trans h5)
                have HU0 : UM = ([], false, 0) := by
                  rw [HUR.out]
                  unfold upP
                  rw [HF1.out, Option.bind_some, HFO.out, hs]
                  rfl
                clear TK'
                have hcs := World.cell?_setCell_same' _ ⟨W.heap.size + 1, 0, none⟩ (.int .i64 0) (by rw [hcr]; rfl)
                go_wp2
                refine leaves_cons (f := 22) (args := #[.pointer (some ⟨W.heap.size + 1, 0, none⟩)]) (by simp) (by simp [go_sem]) ?_
                refine (ucatch_panicking ⟨W.heap.size + 1, 0, none⟩ 0 0 _ hcr hfr).mono ?_
                rintro e u' w'' ⟨rfl, rfl, rfl⟩
                simp [Leaves, settle, results, Try.results7, go_sem, hcs]
                refine unit_post HU0 ?_
                exact hbw.setCell (by simp) _
              | some s4 =>
                rw [hs] at TK'
                obtain ⟨t1, -, t3⟩ := TK'
                obtain ⟨rfl, ⟨M4, n1, n2, -⟩, h5⟩ := h4 s4 hs
                have HFN : Hid (foldO takesP (L.map Clz.l) s1 = foldO takesP ((L.map Clz.l).drop (k + 1)) s4) := by unfold Hid; rw [HFO.out, hs]; rfl
                have HM4 := Lib.hid n1
                have HI4 := Lib.hid t1
                have HR4 : Hid (M4.R = R) := n2.trans HR1.out
                have HK4 : Hid (s4.ws.length = k + 1) := by unfold Hid; rw [t3, HK2.out]
                have HB4 : Hid (Below w2.heap.size w2 w4) := HBB.out.trans h5
                clear h3 h4 h5 n1 n2 t1 t3 ST TK
                go_wp2
                go_roundw
                case rel => exact ⟨k + 1, s4, M4, by omega, by go_num, HFN.out, HI4.out, HK4.out, HM4.out, HR4.out, HB4.out⟩
                case measure => simp [intOf]; omega
            · obtain rfl : k = L.length := by omega
              have HF2 : Hid (foldO takesP (L.map Clz.l) s1 = some s2) := by
                unfold Hid
                rw [hf, List.drop_of_length_le (by rw [List.length_map]; exact Nat.le_refl _)]; rfl
              have HI2 : Hid (Inv V (L.map Clz.l) l s2 (doneTo s2 0) 0 []) := by
                have : doneTo s2 0 = fun _ => False := by funext m; unfold doneTo; simp
                unfold Hid
                rw [this]; exact hi2
              have HM2 := Lib.hid hm
              have HR2 := Lib.hid hr1
              have HBB := Lib.hid hb
              clear hf hi2 hk2 hm hr1 hb hcr hfr hbx hbw hk
              go_wp2
              go_loopw [12] (fun i wr => ∃ (k : Nat) (s3 : St) (M3 : Mem), i = .int .i64 k ∧ k ≤ s3.queue.length ∧ runP (V + 1) s2 0 = runP (V + 1 - k) s3 k ∧ Inv V (L.map Clz.l) l s3 (doneTo s3 k) 0 [] ∧ Mat wr w2.heap.size M3 s3 ∧ M3.R = R ∧ Below w2.heap.size w2 wr) (fun i _ => V + 1 - (intOf i).toNat)
              case atStart => exact ⟨0, s2, M2, rfl, Nat.zero_le _, rfl, HI2.out, HM2.out, HR2.out, HBB.out⟩
              case round =>
                clear HI2 HM2 HR2 HBB
                obtain ⟨k, s3, M3, rfl, hk, hf, hi3, hm, hr1, hb⟩ := hrel
                obtain ⟨hcr, hfr, hbx, hbw⟩ := HTT.out _ hb
                have hfew := hi3.base.few
                obtain ⟨c0, c1, c2⟩ := cells3 hm.box
                rw [hr1] at c1
                obtain ⟨Aq, qq, hqe, hqr, hq1, hq2⟩ := hm.que.row
                rw [hqe] at c1
                by_cases hlt : k < s3.queue.length
                · have hkz : (k : Int) < (s3.queue.length : Int) := by omega
                  obtain ⟨b, o, hAe, -, hc⟩ := LRow.int hqr hlt
                  subst hAe
                  have hym : s3.queue[k]? = some s3.queue[k] := List.getElem?_eq_getElem hlt
                  obtain ⟨y, hy⟩ : ∃ y, s3.queue[k] = y := ⟨_, rfl⟩
                  rw [hy] at hym hc
                  have hyq : y ∈ s3.queue := hy ▸ List.getElem_mem hlt
                  have hyl := (hi3.base.qu y hyq).1
                  have hxl : litN V (-y) := by unfold litN at *; rw [Int.natAbs_neg]; exact hyl
                  have HNY : IntKind.i64.wrap (-y) = -y := IntWalk.i64_in _ (by unfold litN at hyl; omega)
                  have hnd := not_done hi3 hym
                  have ST := Lib.hid (loses_mem HL.out hVb (by rw [List.length_map]; exact hLb) wr w2.heap.size M3 s3 (doneTo s3 k) (-y) hm hb.size (hi3.open_ hxl hnd) hxl (by rw [Int.neg_neg]; exact hyq) (fun m hm => List.mem_of_mem_take hm))
                  have TK := Lib.hid (loses_ok HL.out hi3 hym)
                  rw [hr1] at ST
                  have HFO : Hid (runP (V + 1) s2 0 = (losesP s3 (-y)).bind fun s' => runP (V - k) s' (k + 1)) := by
                    unfold Hid
                    rw [hf, show V + 1 - k = (V - k) + 1 by omega, runP, hym]
                  have HR1 := Lib.hid hr1
                  have HBB := Lib.hid hb
                  have hkV : k < V := by omega
                  clear hf hi3 hm hr1 hb hcr hfr hbx hbw hym hy hyq hyl hxl hnd hqe hqr hq1 hq2 c0 c2 hfew
                  go_wp2_with fail
                  refine ST.out.mono ?_
                  rintro e w4 ⟨h3, h4⟩
                  have TK' := TK.out
                  cases hs : losesP s3 (-y) with
                  | none =>
                    obtain ⟨rfl, h5⟩ := h3 hs
                    obtain ⟨hcr, hfr, hbx, hbw⟩ := HTT.out w4 (HBB.out.trans h5)
                    have HU0 : UM = ([], false, 0) := by
                      rw [HUR.out]
                      unfold upP
                      rw [HF1.out, Option.bind_some, HF2.out, Option.bind_some, HFO.out, hs]
                      rfl
                    clear TK'
                    have hcs := World.cell?_setCell_same' _ ⟨W.heap.size + 1, 0, none⟩ (.int .i64 0) (by rw [hcr]; rfl)
                    go_wp2
                    refine leaves_cons (f := 22) (args := #[.pointer (some ⟨W.heap.size + 1, 0, none⟩)]) (by simp) (by simp [go_sem]) ?_
                    refine (ucatch_panicking ⟨W.heap.size + 1, 0, none⟩ 0 0 _ hcr hfr).mono ?_
                    rintro e u' w'' ⟨rfl, rfl, rfl⟩
                    simp [Leaves, settle, results, Try.results7, go_sem, hcs]
                    refine unit_post HU0 ?_
                    exact hbw.setCell (by simp) _
                  | some s4 =>
                    rw [hs] at TK'
                    obtain ⟨t1, ⟨tq, t2⟩, -⟩ := TK'
                    obtain ⟨rfl, ⟨M4, n1, n2, -⟩, h5⟩ := h4 s4 hs
                    have HFN : Hid (runP (V + 1) s2 0 = runP (V + 1 - (k + 1)) s4 (k + 1)) := by unfold Hid; rw [HFO.out, hs, show V + 1 - (k + 1) = V - k by omega]; rfl
                    have HM4 := Lib.hid n1
                    have HI4 := Lib.hid t1
                    have HR4 : Hid (M4.R = R) := n2.trans HR1.out
                    have HK4 : Hid (k + 1 ≤ s4.queue.length) := by unfold Hid; rw [t2, List.length_append]; omega
                    have HB4 : Hid (Below w2.heap.size w2 w4) := HBB.out.trans h5
                    clear h3 h4 h5 n1 n2 t1 t2 ST TK
                    go_wp2
                    go_roundw
                    case rel => exact ⟨k + 1, s4, M4, by go_num, HK4.out, HFN.out, HI4.out, HM4.out, HR4.out, HB4.out⟩
                    case measure => simp [intOf]; omega
                · obtain rfl : k = s3.queue.length := by omega
                  have HF3r : Hid (runP (V + 1) s2 0 = some s3) := by
                    unfold Hid
                    rw [hf, show V + 1 - s3.queue.length = (V - s3.queue.length) + 1 by omega, runP, List.getElem?_eq_none_iff.2 (Nat.le_refl _)]
                  have HUF : Hid (UM = (listP V s3, true, 0)) := by
                    unfold Hid
                    rw [HUR.out]
                    unfold upP
                    rw [HF1.out, Option.bind_some, HF2.out, Option.bind_some, HF3r.out]
                  have LI := Lib.hid (listed_mem wr w2.heap.size M3 s3 V hm hi3.base.sl hVb)
                  have HFI : Hid (∀ y ∈ listP V s3, I64 y) := fun y hy => by
                    have := (hi3.base.qu y ((list_mem hi3.base y).1 hy)).1
                    unfold litN at this
                    unfold I64
                    omega
                  rw [hr1] at LI
                  obtain ⟨e0, e1⟩ := cells2 hbx
                  have HBB := Lib.hid hb
                  clear hf hi3 hm hr1 hb hcr hfr hbx hbw hqe hqr hq1 hq2 c0 c2 hfew
                  generalize s3.queue.length = qn at *
                  go_wp2_with fail
                  refine LI.out.mono ?_
                  rintro e w5 ⟨⟨v', rfl, how⟩, hb5⟩
                  have hSB := SB.out
                  have hWr : W.heap.size + 2 ≤ wr.heap.size := by
                    have h1 := HW1B.out
                    have h2 := HBB.out.size
                    omega
                  have how2 : OwnI (w5.setCell ⟨W.heap.size + 1, 0, none⟩ (.int .i64 0)) wr.heap.size v' (listP V s3) := ownI_C.2 ((ownI_C.1 how).keep_at fun g hg _ => set_others _ _ _ _ g (by omega))
                  obtain ⟨A', q', rfl, hrow, hrq1, hrq2⟩ := how2.row
                  have hli : ILies (w5.setCell ⟨W.heap.size + 1, 0, none⟩ (.int .i64 0)) w5.heap.size A' (listP V s3) := ⟨by simpa using hrow, HFI.out, by omega⟩
                  have hB5 := HBB.out.trans (hb5.mono HBB.out.size)
                  obtain ⟨hcr, hfr, hbx, hbw⟩ := HTT.out w5 hB5
                  have HLI := Lib.hid hli
                  have hcs := World.cell?_setCell_same' w5 ⟨W.heap.size + 1, 0, none⟩ (.int .i64 0) (by rw [hcr]; rfl)
                  clear LI hli hb5 e0 e1 hrow hrq1 hrq2 how how2
                  have hUF := HUF.out
                  clear HUF HUR
                  subst hUF
                  go_wp2
                  refine leaves_cons (f := 22) (args := #[.pointer (some ⟨W.heap.size + 1, 0, none⟩)]) (by simp) (by simp [go_sem]) ?_
                  refine (ucatch_idle ⟨W.heap.size + 1, 0, none⟩ _).mono ?_
                  rintro e u' w'' ⟨rfl, rfl, rfl⟩
                  simp [Leaves, settle, results, Try.results7, go_sem, hcs]
                  exact ⟨HLI.out, hbw.setCell (by simp) _⟩
end Go.Proofs.Ytefbknpoehmfaaa.For
