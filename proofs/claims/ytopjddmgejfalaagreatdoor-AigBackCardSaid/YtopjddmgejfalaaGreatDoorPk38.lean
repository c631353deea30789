/- A circuit that may be and is in order is one whose octets can be read; lengths of what is written; no condition. The walk of bytes.Buffer's Bytes, of a buffer that is embedded in aig's writer and holds something; no condition. -/
import Derived.Test.YtopjddmgejfalaaGreatDoorPk32
import Derived.Test.YtopjddmgejfalaaGreatDoorPk08
import Derived.Test.YtopjddmgejfalaaGreatDoorPk37
namespace Go.Proofs.YtopjddmgejfalaaGreatDoor.Aig
open Go.RowKit Dig Circ Cw Aag

theorem fine5_of (c : Cir) (hc : chk c = true) (ho : ordB c = true) : Fine5 c := by
  have h : refOk c = true := by rw [← chk_same]; exact hc
  obtain ⟨hf, _⟩ := chk_fine c hc
  have hid := ord_id h ho
  have hm := all_lits h
  unfold ordB at ho
  simp only [Bool.and_eq_true, decide_eq_true_eq, List.all_eq_true] at ho
  obtain ⟨ho, hb, hx⟩ := ho
  have hlen := own_len c
  have hat : ∀ (k : Nat) (hk : k < (own c).length), (own c)[k] = lit k := fun k hk => by
    have : (own c)[k]? = (evens (own c).length)[k]? := by rw [← ho]
    rw [List.getElem?_eq_getElem hk] at this
    simp [evens, hk] at this
    exact this
  refine ⟨hf, hm.max.2, by omega, ?_, fun j t hj => ?_, fun j t hj => ?_, fun t ht => ?_⟩
  · apply List.ext_getElem
    · rw [evens_len]
    · intro k h1 h2
      obtain ⟨h', e⟩ := own_ins c k h1
      rw [← e, hat k h']
      simp [evens]
  · obtain ⟨hk, e⟩ := List.getElem?_eq_some_iff.1 hj
    obtain ⟨h', e2⟩ := own_lats c j hk
    rw [← e, ← e2, hat _ h']
  · obtain ⟨hk, e⟩ := List.getElem?_eq_some_iff.1 hj
    obtain ⟨h', e2⟩ := own_ands c j hk
    rw [← e, ← e2, hat _ h']
  · obtain ⟨k, hk, e⟩ := List.getElem_of_mem ht
    obtain ⟨b1, b2, b3, b4⟩ := and_at h k hk
    rw [e] at b1 b2 b3 b4
    have c1 := hm.ands t ht
    have c2 := hb t ht
    have c3 := hm.max
    unfold Lits at c1
    omega
theorem grp_two (n : Nat) (h : n < 16384) : (grp n).length ≤ 2 := by
  by_cases hn : n < 128
  · rw [grp_small n hn]; simp
  · rw [grp_great n hn, grp_small _ (by omega)]; simp
theorem and5_short (t : Tri) (h1 : 0 ≤ t.a - t.b ∧ t.a - t.b < 16384) (h2 : 0 ≤ t.b - t.c ∧ t.b - t.c < 16384) : (and5 t).length ≤ 4 := by
  have g1 := grp_two (t.a - t.b).toNat (by omega)
  have g2 := grp_two (t.b - t.c).toNat (by omega)
  unfold and5
  rw [List.length_append]; omega
theorem ands5_short (l : List Tri) (h : ∀ t ∈ l, (0 ≤ t.a - t.b ∧ t.a - t.b < 16384) ∧ (0 ≤ t.b - t.c ∧ t.b - t.c < 16384)) : ((l.map and5).flatten).length ≤ 4 * l.length := by
  induction l with
  | nil => simp
  | cons t l ih =>
    have h1 := ih fun y hy => h y (List.mem_cons_of_mem _ hy)
    have h2 := h t List.mem_cons_self
    have h3 := and5_short t h2.1 h2.2
    rw [List.map_cons, List.flatten_cons, List.length_append, List.length_cons]; omega
theorem lat5_short (t : Tri) (h : t.fits) : (lat5 t ++ [10]).length ≤ 70 := by
  obtain ⟨x, y, z⟩ := t
  have h2 := itoa_short y h.2.1
  have h3 := itoa_short z h.2.2
  unfold lat5
  simp only
  rw [List.length_append]
  split <;> simp [nums, joinL] <;> omega
theorem lats5_short (l : List Tri) (h : ∀ t ∈ l, t.fits) : (nlL (l.map lat5)).length ≤ 70 * l.length := by
  induction l with
  | nil => simp [nlL]
  | cons t l ih =>
    have h1 := ih fun y hy => h y (List.mem_cons_of_mem _ hy)
    have h2 := lat5_short t (h t List.mem_cons_self)
    have e : nlL ((t :: l).map lat5) = (lat5 t ++ [10]) ++ nlL (l.map lat5) := by unfold nlL; rfl
    rw [e, List.length_append, List.length_cons]
    omega
theorem head5_short (c : Cir) (hI : ∀ x ∈ headNs c, I64 x) : (head5 c ++ [10]).length ≤ 200 := by
  have h0 := itoa_short c.max (hI _ (by simp [headNs]))
  have h1 := itoa_short c.ins.length (hI _ (by simp [headNs]))
  have h2 := itoa_short c.lats.length (hI _ (by simp [headNs]))
  have h3 := itoa_short c.outs.length (hI _ (by simp [headNs]))
  have h4 := itoa_short c.ands.length (hI _ (by simp [headNs]))
  have h5 := itoa_short c.bads.length (hI _ (by simp [headNs]))
  have h6 := itoa_short c.invs.length (hI _ (by simp [headNs]))
  rw [head5_eq, List.length_append]
  simp [nums, joinL, headNs]
  omega
theorem headNs_i64 (c : Cir) (s : Places) (hf : CFits c s) : ∀ x ∈ headNs c, I64 x := by
  have h0 := hf.max
  have h1 := hf.li; have h2 := hf.ll; have h3 := hf.lo; have h4 := hf.la; have h5 := hf.lb; have h6 := hf.lc
  intro x hx
  unfold headNs at hx
  simp only [List.mem_cons, List.not_mem_nil, or_false] at hx
  rcases hx with rfl | rfl | rfl | rfl | rfl | rfl | rfl
  · exact h0
  all_goals (constructor <;> omega)
/-- the literals that are told, one line each, of the first j lists -/
def told3 (c : Cir) (j : Nat) : List (List Int) := ([c.outs, c.bads, c.invs] : List (List Int)).take j
def parts (c : Cir) (j : Nat) : List UInt8 := nlL ((told3 c j).flatten.map litL)
theorem parts_zero (c : Cir) : parts c 0 = [] := rfl
theorem parts_more (c : Cir) (j : Nat) (xs : List Int) (h : ([c.outs, c.bads, c.invs] : List (List Int))[j]? = some xs) : parts c (j + 1) = parts c j ++ nlL (xs.map litL) := by
  obtain ⟨hj, e⟩ := List.getElem?_eq_some_iff.1 h
  unfold parts told3
  rw [List.take_succ_eq_append_getElem hj, e, List.flatten_append, List.map_append, nl_append]
  simp
theorem parts_all (c : Cir) : parts c 3 = nlL (c.outs.map litL) ++ (nlL (c.bads.map litL) ++ nlL (c.invs.map litL)) := by
  unfold parts told3
  simp [nl_append]
theorem oct_parts (c : Cir) : oct5 c = (head5 c ++ [10]) ++ nlL (c.lats.map lat5) ++ parts c 3 ++ (c.ands.map and5).flatten ++ nlL (c.names.map namL) := by
  unfold oct5 core5 lines5
  rw [parts_all, show nlL (head5 c :: (c.lats.map lat5 ++ (c.outs.map litL ++ (c.bads.map litL ++ c.invs.map litL)))) = (head5 c ++ [10]) ++ nlL (c.lats.map lat5 ++ (c.outs.map litL ++ (c.bads.map litL ++ c.invs.map litL))) by unfold nlL; simp, nl_append, nl_append, nl_append]
  simp only [List.append_assoc]
theorem oct_ne (c : Cir) : oct5 c ≠ [] := by
  rw [oct_parts]
  intro h
  have := congrArg List.length h
  simp at this
end Go.Proofs.YtopjddmgejfalaaGreatDoor.Aig
namespace Go.Proofs.YtopjddmgejfalaaGreatDoor.Aig
open Go.ChangeShapes Go.WideShapes Go.ChangeAt Go.RowKit Dig Circ Cw Aag

theorem lt_of_block' {w : World} {p : Addr} {v : Value} (h : w.cell? p = some v) : p.block < w.heap.size := World.block_lt_of_cell? _ _ h
theorem op_slice_tail (a : Act) (w : World) (g n q : Nat) (t s : Nat) (h : a.tmps.getD t undef = .slice (some ⟨g, 0, none⟩) n q) (h2 : a.tmps.getD s undef = .int .i64 0) (oo : Oper) (ho : oo.op = .slice 28 (.tmp t) (some (.tmp s)) none none) : (execOp a.eval oo).run Tryz.prog w = .ok (.value (.slice (some ⟨g, 0, none⟩) n q)) w := by
  have h' : a.tmps[t]?.getD undef = .slice (some ⟨g, 0, none⟩) n q := by simpa using h
  have h2' : a.tmps[s]?.getD undef = .int .i64 0 := by simpa using h2
  unfold execOp
  rw [ho]
  go_simp
theorem op_field_bytes_Buffer_0 (a : Act) (w : World) (b : Nat) (t : Nat) (h : a.tmps.getD t undef = .pointer (some ⟨b, 0, none⟩)) (oo : Oper) (ho : oo.op = .fieldAddr 43 (.tmp t) 0) : (execOp a.eval oo).run Tryz.prog w = .ok (.value (.pointer (some ⟨b, 0, none⟩))) w := by
  have h' : a.tmps[t]?.getD undef = .pointer (some ⟨b, 0, none⟩) := by simpa using h
  unfold execOp
  rw [ho]
  go_simp
theorem op_load_Luint8 (a : Act) (w : World) (A : Addr) (t : Nat) (v : Value) (h : a.tmps.getD t undef = .pointer (some A)) (hc : w.cell? A = some v) (oo : Oper) (ho : oo.op = .load 28 (.tmp t)) : (execOp a.eval oo).run Tryz.prog w = .ok (.value v) w := by
  have h' : a.tmps[t]?.getD undef = .pointer (some A) := by simpa using h
  unfold execOp
  rw [ho]
  go_simp
theorem op_field_bytes_Buffer_1 (a : Act) (w : World) (b : Nat) (t : Nat) (h : a.tmps.getD t undef = .pointer (some ⟨b, 0, none⟩)) (oo : Oper) (ho : oo.op = .fieldAddr 43 (.tmp t) 1) : (execOp a.eval oo).run Tryz.prog w = .ok (.value (.pointer (some ⟨b, 1, none⟩))) w := by
  have h' : a.tmps[t]?.getD undef = .pointer (some ⟨b, 0, none⟩) := by simpa using h
  unfold execOp
  rw [ho]
  go_simp
/-- what operation j of the region leaves -/
def bytsR (b g n cap : Nat) : Nat → (Nat → Value) → World → Prop
  | 0, f, _ => f 3 = .pointer (some ⟨b, 0, none⟩)
  | 1, f, _ => f 4 = .pointer (some ⟨b, 0, none⟩)
  | 2, f, _ => f 5 = .pointer (some ⟨b, 0, none⟩)
  | 3, f, _ => f 6 = .slice (some ⟨g, 0, none⟩) n cap
  | 4, f, _ => f 7 = .pointer (some ⟨b, 0, none⟩)
  | 5, f, _ => f 8 = .pointer (some ⟨b, 0, none⟩)
  | 6, f, _ => f 9 = .pointer (some ⟨b, 1, none⟩)
  | 7, f, _ => f 10 = .int .i64 0
  | 8, f, _ => f 11 = .slice (some ⟨g, 0, none⟩) n cap
  | 9, f, _ => f 2 = .slice (some ⟨g, 0, none⟩) n cap
  | _, _, _ => True
def bytsM : Nat → List Nat
  | 0 => [3]
  | 1 => [4]
  | 2 => [5]
  | 3 => [6]
  | 4 => [7]
  | 5 => [8]
  | 6 => [9]
  | 7 => [10]
  | 8 => [11]
  | 9 => [2]
  | _ => []
theorem byts_stab {b g n cap : Nat} (jj : Nat) {f f' : Nat → Value} {w w' : World}  (hf : ∀ t ∈ bytsM jj, f' t = f t) (h : bytsR b g n cap jj f w) : bytsR b g n cap jj f' w' := by
  match jj, hf, h with
  | 0, hf, h => exact (hf 3 (by decide)).trans h
  | 1, hf, h => exact (hf 4 (by decide)).trans h
  | 2, hf, h => exact (hf 5 (by decide)).trans h
  | 3, hf, h => exact (hf 6 (by decide)).trans h
  | 4, hf, h => exact (hf 7 (by decide)).trans h
  | 5, hf, h => exact (hf 8 (by decide)).trans h
  | 6, hf, h => exact (hf 9 (by decide)).trans h
  | 7, hf, h => exact (hf 10 (by decide)).trans h
  | 8, hf, h => exact (hf 11 (by decide)).trans h
  | 9, hf, h => exact (hf 2 (by decide)).trans h
  | _ + 10, _, _ => trivial
set_option maxHeartbeats 2000000 in
set_option maxRecDepth 100000 in
theorem bytes_any (B b : Nat) (l : List UInt8) (w : World) (h : WS B b l w) (hl : l ≠ []) :
    Calls Tryz.prog 17 #[.pointer (some ⟨b, 0, none⟩)] w fun e w' => (∃ g cap, e = .returned (.slice (some ⟨g, 0, none⟩) l.length cap) ∧ w'.ownsRow B 5 1 (.slice (some ⟨g, 0, none⟩) l.length cap) l.length (Lib.byteCells l)) ∧ Below w.heap.size w w' := by
  obtain ⟨h1, v, lr, h2, h3, h4⟩ := h
  have hpos : 0 < l.length := List.length_pos_iff.2 hl
  have h30 := h3
  rcases h3.2 with ⟨rfl, hz⟩ | ⟨g, cap, cur, rfl, hbg, hg, hnc, _⟩
  · rw [Lib.byteCells_length] at hz; omega
  rw [Lib.byteCells_length] at hnc h30 h2
  have C0 : Hid (w.cell? ⟨b, 0, none⟩ = some (.slice (some ⟨g, 0, none⟩) l.length cap)) := h2.c0
  have C1 : Hid (w.cell? ⟨b, 1, none⟩ = some (.int .i64 0)) := h2.c1
  have HO := Lib.hid h30
  clear h1 h2 h3 h4 h30 hbg hg hnc
  go_enter Tryz.func17, Tryz.ntmps17
  go_wp2
  refine wp_region_valsD (by kernel_rfl) (by kernel_rfl) bytsM (by kernel_rfl) (by kernel_rfl)
    (fun _ w' => Below w.heap.size w w') (bytsR b g l.length cap) (Below.refl _ _).drew (fun jj f f' w w' hb hf h => byts_stab jj  hf h) ?_ ?_
  · intro i oo d a' w' ho hd hun hdf hok hD K hK hK0
    match i, ho, hd, hD, hK, hK0, hun with
    | 0, ho, hd, hD, hK, hK0, hun =>
      have e := (congrArg Oper.op (Option.some.inj ho)).symm
      obtain rfl := Option.some.inj ho
      exact wp_val (op_move a' w' 0 _ e) (hK _ _ (Below.refl _ _) hok (fun f h1 _ => (h1 _ rfl).trans (hun 0 (by kernel_rfl))))
    | 1, ho, hd, hD, hK, hK0, hun =>
      have e := (congrArg Oper.op (Option.some.inj ho)).symm
      obtain rfl := Option.some.inj ho
      exact wp_val (op_nil a' w' _ 3 (hD 0 (by kernel_rfl)) _ e) (hK _ _ (Below.refl _ _) hok (fun f h1 _ => h1 _ rfl))
    | 2, ho, hd, hD, hK, hK0, hun =>
      have e := (congrArg Oper.op (Option.some.inj ho)).symm
      obtain rfl := Option.some.inj ho
      exact wp_val (op_field_bytes_Buffer_0 a' w' _ 4 (hD 1 (by kernel_rfl)) _ e) (hK _ _ (Below.refl _ _) hok (fun f h1 _ => h1 _ rfl))
    | 3, ho, hd, hD, hK, hK0, hun =>
      have e := (congrArg Oper.op (Option.some.inj ho)).symm
      obtain rfl := Option.some.inj ho
      exact wp_val (op_load_Luint8 a' w' _ 5 _ (hD 2 (by kernel_rfl)) ((hok.cell (lt_of_block' C0.out)).trans C0.out) _ e) (hK _ _ (Below.refl _ _) hok (fun f h1 _ => h1 _ rfl))
    | 4, ho, hd, hD, hK, hK0, hun =>
      have e := (congrArg Oper.op (Option.some.inj ho)).symm
      obtain rfl := Option.some.inj ho
      exact wp_val (op_move a' w' 0 _ e) (hK _ _ (Below.refl _ _) hok (fun f h1 _ => (h1 _ rfl).trans (hun 0 (by kernel_rfl))))
    | 5, ho, hd, hD, hK, hK0, hun =>
      have e := (congrArg Oper.op (Option.some.inj ho)).symm
      obtain rfl := Option.some.inj ho
      exact wp_val (op_nil a' w' _ 7 (hD 4 (by kernel_rfl)) _ e) (hK _ _ (Below.refl _ _) hok (fun f h1 _ => h1 _ rfl))
    | 6, ho, hd, hD, hK, hK0, hun =>
      have e := (congrArg Oper.op (Option.some.inj ho)).symm
      obtain rfl := Option.some.inj ho
      exact wp_val (op_field_bytes_Buffer_1 a' w' _ 8 (hD 5 (by kernel_rfl)) _ e) (hK _ _ (Below.refl _ _) hok (fun f h1 _ => h1 _ rfl))
    | 7, ho, hd, hD, hK, hK0, hun =>
      have e := (congrArg Oper.op (Option.some.inj ho)).symm
      obtain rfl := Option.some.inj ho
      exact wp_val (op_load_int a' w' _ 9 _ (hD 6 (by kernel_rfl)) ((hok.cell (lt_of_block' C1.out)).trans C1.out) _ e) (hK _ _ (Below.refl _ _) hok (fun f h1 _ => h1 _ rfl))
    | 8, ho, hd, hD, hK, hK0, hun =>
      have e := (congrArg Oper.op (Option.some.inj ho)).symm
      obtain rfl := Option.some.inj ho
      exact wp_val (op_slice_tail a' w' g l.length cap 6 10 (hD 3 (by kernel_rfl)) (hD 7 (by kernel_rfl)) _ e) (hK _ _ (Below.refl _ _) hok (fun f h1 _ => h1 _ rfl))
    | 9, ho, hd, hD, hK, hK0, hun =>
      have e := (congrArg Oper.op (Option.some.inj ho)).symm
      obtain rfl := Option.some.inj ho
      exact wp_val (op_assign a' w' 11 _ e) (hK _ _ (Below.refl _ _) hok (fun f h1 _ => (h1 _ rfl).trans (hD 8 (by kernel_rfl))))
    | i + 10, ho, _, _, _, _, _ => exact absurd ho (by simp)
  · intro a' w3 hsz hdf hkt hok hR
    have HF3 := frame_sets [2, 3, 4, 5, 6, 7, 8, 9, 10, 11] (by kernel_rfl) hsz hkt
    obtain ⟨d, hok⟩ := hok
    have h2' : w3 = w3 ∧ vals a' 2 = .slice (some ⟨g, 0, none⟩) l.length cap := ⟨rfl, hR 9 (by decide)⟩
    have h2' := h2'.2
    have HB := Lib.hid hok
    clear hok
    obtain ⟨tm, df⟩ := a'
    obtain rfl : df = _ := hdf
    simp only [List.foldl_cons, List.foldl_nil] at HF3
    clear hkt hR hsz
    replace h2' : tm.getD 2 undef = _ := h2'
    rw [h2'] at HF3
    clear h2'
    generalize tm.getD 3 undef = y3 at HF3
    generalize tm.getD 4 undef = y4 at HF3
    generalize tm.getD 5 undef = y5 at HF3
    generalize tm.getD 6 undef = y6 at HF3
    generalize tm.getD 7 undef = y7 at HF3
    generalize tm.getD 8 undef = y8 at HF3
    generalize tm.getD 9 undef = y9 at HF3
    generalize tm.getD 10 undef = y10 at HF3
    generalize tm.getD 11 undef = y11 at HF3
    simp only [List.setIfInBounds_toArray, List.set_cons_succ, List.set_cons_zero] at HF3
    subst HF3
    go_wp2
    go_ret
    exact ⟨⟨g, cap, rfl, ownsRow_below HO.out HB.out⟩, HB.out⟩
end Go.Proofs.YtopjddmgejfalaaGreatDoor.Aig
