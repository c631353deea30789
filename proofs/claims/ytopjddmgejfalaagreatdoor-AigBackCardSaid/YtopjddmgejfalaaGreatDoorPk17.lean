/- The walk of aig's reading of lines of one literal; no condition. The walks of aag's printing of a latch's line and of the header; conditions: the table of powers of ten is as it is laid, sizes as stated. The walk of the region in which aag prints a name's line; conditions: the table of powers of ten is as it is laid, sizes as stated. The walk of aag's reading of a latch's line; no condition. -/
import Derived.Test.YtopjddmgejfalaaGreatDoorPk16
import Derived.Test.YtopjddmgejfalaaGreatDoorPk14
namespace Go.Proofs.YtopjddmgejfalaaGreatDoor.Aig
open Go.ChangeShapes Go.WideShapes Go.ChangeAt Go.RowKit Dig Circ Cw Aag

/-- what is made from W on stays -/
structure Ch5 (W w w' : World) : Prop where
  size : w.heap.size ≤ w'.heap.size
  block : ∀ k, W.heap.size ≤ k → k < w.heap.size → w'.heap[k]? = w.heap[k]?
theorem Ch5.of {W w w' : World} (h : Below w.heap.size w w') : Ch5 W w w' := ⟨h.size, fun k _ hk => h.block k hk⟩
theorem Ch5.ext {R : Nat} {W w w' : World} (hR : R < W.heap.size) (h : Ext R w w') : Ch5 W w w' := ⟨h.size, fun k h1 h2 => h.block k h2 (by omega)⟩
structure LOk (S R : Nat) (W w0 : World) (s : List UInt8) (v : Value) (acc : List Int) (d : Nat → Bool) (w : World) : Prop where
  size : W.heap.size ≤ w.heap.size
  ext : Ext R w0 w
  s0 : d 8 = false → Src S R s w
  own : d 13 = false → OwnC w w0.heap.size 3 1 v (ints acc)
theorem LOk.below {S R : Nat} {W w0 : World} {s : List UInt8} {v : Value} {acc : List Int} {d d' : Nat → Bool} {w w' : World} (h : LOk S R W w0 s v acc d w) (hb : Below w.heap.size w w') (h8 : d' 8 = d 8) (h13 : d' 13 = d 13) : LOk S R W w0 s v acc d' w' :=
  ⟨Nat.le_trans h.size hb.size, h.ext.trans (Ext.of hb), fun e => (h.s0 (h8.symm.trans e)).below hb, fun e => (h.own (h13.symm.trans e)).keep hb⟩
theorem LOk.word {S R : Nat} {W w0 : World} {s : List UInt8} {v : Value} {acc : List Int} {d : Nat → Bool} {w w' : World} (h : LOk S R W w0 s v acc d w) (hE : Ext R w w') (hB : R < w0.heap.size) : LOk S R W w0 s v acc (fun j => decide (j = 8) || d j) w' :=
  ⟨Nat.le_trans h.size hE.size, h.ext.trans hE, fun e => by simp at e, fun e => own_ext (h.own e) hE hB⟩
theorem LOk.push {S R : Nat} {W w0 : World} {s : List UInt8} {v : Value} {acc : List Int} {d : Nat → Bool} {w w' : World} (h : LOk S R W w0 s v acc d w) (hb : Below w0.heap.size w w') (hS : S ≤ w0.heap.size) : LOk S R W w0 s v acc (fun j => decide (j = 13) || d j) w' :=
  ⟨Nat.le_trans h.size hb.size, h.ext.then hb, fun e => (h.s0 e).later (hb.mono hS), fun e => by simp at e⟩
def w1 (s : List UInt8) : List UInt8 := ((rdLine (wl [1]) s).getD ([], [])).1.getD 0 []
def r1 (s : List UInt8) : List UInt8 := ((rdLine (wl [1]) s).getD ([], [])).2
theorem wl_get {cs : List Nat} {s r : List UInt8} {ws : List (List UInt8)} (h : rdLine (wl cs) s = some (ws, r)) : ∃ y, lineCut s = some (y, r) ∧ ws = wordsL y ∧ wordsOk cs y = true := by
  unfold rdLine at h
  cases hc : lineCut s with
  | none => rw [hc] at h; cases h
  | some x =>
    obtain ⟨y, r'⟩ := x
    rw [hc] at h
    simp only [Option.bind_some, wl] at h
    split at h
    · rename_i hw
      simp only [Option.map_some, Option.some.injEq, Prod.mk.injEq] at h
      obtain ⟨rfl, rfl⟩ := h
      exact ⟨y, rfl, rfl, hw⟩
    · cases h
theorem wl_one {s r : List UInt8} {ws : List (List UInt8)} (h : rdLine (wl [1]) s = some (ws, r)) : ws.length = 1 ∧ ws.getD 0 [] = w1 s ∧ r = r1 s := by
  obtain ⟨y, _, rfl, hw⟩ := wl_get h
  unfold w1 r1
  rw [h]
  refine ⟨?_, rfl, rfl⟩
  unfold wordsOk at hw
  simp only [Bool.and_eq_true, List.contains_cons, List.contains_nil, Bool.or_false, beq_iff_eq] at hw
  exact hw.1
theorem wl_fit {cs : List Nat} {s r : List UInt8} {ws : List (List UInt8)} (h : rdLine (wl cs) s = some (ws, r)) (k : Nat) : (ws.getD k []).length ≤ s.length + 1 ∧ r.length < s.length := by
  obtain ⟨y, hc, rfl, hw⟩ := wl_get h
  obtain ⟨hs, -⟩ := lineCut_eq _ _ _ hc
  obtain ⟨_, h2⟩ := words_len y
  have hl : s.length = y.length + 1 + r.length := by rw [hs]; simp; omega
  refine ⟨?_, by omega⟩
  rw [List.getD_eq_getElem?_getD]
  cases hq : (wordsL y)[k]? with
  | none => simp
  | some z =>
    have h3 := elem_le (wordsL y) k (List.getElem?_eq_some_iff.1 hq).1
    rw [(List.getElem?_eq_some_iff.1 hq).2] at h3
    simp only [Option.getD_some]; omega
theorem lit_no {s : List UInt8} (h : rdLine (wl [1]) s = none) : rdLine formLit s = none := by
  unfold rdLine at h ⊢
  cases hc : lineCut s with
  | none => rfl
  | some x =>
    rw [hc] at h
    simp only [Option.bind_some, wl] at h ⊢
    split at h
    · cases h
    · rename_i hw
      unfold formLit formNums
      rw [show wordsOk [1] x.1 = false by simpa using hw]; rfl
theorem lit_word {s r : List UInt8} {ws : List (List UInt8)} (h : rdLine (wl [1]) s = some (ws, r)) : rdLine formLit s = if numOk (w1 s) = true then some (numV (w1 s), r1 s) else none := by
  obtain ⟨hl, hw, hr⟩ := wl_one h
  obtain ⟨y, hc, rfl, hk⟩ := wl_get h
  rw [rdLine_some hc, ← hw, ← hr]
  unfold formLit formNums
  rw [hk]
  match hws : wordsL y, hl with
  | [z], _ =>
    simp only [Bool.true_and, List.all_cons, List.all_nil, Bool.and_true, List.map_cons, List.map_nil, List.getD_cons_zero]
    split <;> rfl
theorem lrow_one {w : World} {g : Nat} {x : Int} {E : TypeId} {fr : Nat × Nat} (h : w.heap[g]? = some (.cells #[.int .i64 x] E fr)) : LRow w w.heap.size 1 (some ⟨g, 0, none⟩) (ints [x]) :=
  .inr ⟨g, 0, rfl, lt_of_block h, fun i ys hi j u hj => by
    match i, hi with
    | 0, hi =>
      simp only [ints, List.map_cons, List.map_nil, List.getElem?_cons_zero, Option.some.injEq] at hi
      subst hi
      match j, hj with
      | 0, hj =>
        simp only [List.getElem?_cons_zero, Option.some.injEq] at hj
        subst hj
        rw [Lib.cell_of_heap h]; rfl⟩
theorem one_cell {w : World} {g : Nat} {x : Value} {E : TypeId} {fr : Nat × Nat} (h : w.heap[g]? = some (.cells #[x] E fr)) : ∀ (j : Nat) u, [x][j]? = some u → w.cell? ⟨g, j, none⟩ = some u := fun j u hu => by
  match j, hu with
  | 0, hu =>
    simp only [List.getElem?_cons_zero, Option.some.injEq] at hu
    subst hu
    rw [Lib.cell_of_heap h]; rfl
theorem op_slice_c1 (a : Act) (w : World) (oo : Oper) (ho : oo.op = .buildSlice 22 1 #[(0, .const (.int .i64 1))]) : (execOp a.eval oo).run Tryz.prog w = .ok (.value (.slice (some ⟨w.heap.size, 0, none⟩) 1 1)) (w.alloc (.cells #[.int .i64 1] 3)) := by
  unfold execOp
  rw [ho]
  go_simp
theorem op_slice_int (a : Act) (w : World) (x : Int) (i : Nat) (h1 : a.tmps.getD i undef = .int .i64 x) (oo : Oper) (ho : oo.op = .buildSlice 22 1 #[(0, .tmp i)]) : (execOp a.eval oo).run Tryz.prog w = .ok (.value (.slice (some ⟨w.heap.size, 0, none⟩) 1 1)) (w.alloc (.cells #[.int .i64 x] 3)) := by
  have h1' : a.tmps[i]?.getD undef = .int .i64 x := by simpa using h1
  unfold execOp
  rw [ho]
  go_simp
theorem op_index_str (a : Act) (w : World) (b o n q k : Nat) (t : Nat) (h : a.tmps.getD t undef = .slice (some ⟨b, o, none⟩) n q) (hk : k < n) (oo : Oper) (ho : oo.op = .indexAddr 71 (.tmp t) (.const (.int .i64 (k : Int)))) : (execOp a.eval oo).run Tryz.prog w = .ok (.value (.pointer (some ⟨b, o + k, none⟩))) w := by
  have h' : a.tmps[t]?.getD undef = .slice (some ⟨b, o, none⟩) n q := by simpa using h
  unfold execOp
  rw [ho]
  have h0 : (0 : Int) ≤ k := by omega
  have h1 : (k : Int) < n := by omega
  go_simp
theorem op_load_str (a : Act) (w : World) (A : Addr) (t : Nat) (v : Value) (h : a.tmps.getD t undef = .pointer (some A)) (hc : w.cell? A = some v) (oo : Oper) (ho : oo.op = .load 9 (.tmp t)) : (execOp a.eval oo).run Tryz.prog w = .ok (.value v) w := by
  have h' : a.tmps[t]?.getD undef = .pointer (some A) := by simpa using h
  unfold execOp
  rw [ho]
  go_simp
theorem op_field_aig_reader_0 (a : Act) (w : World) (b : Nat) (t : Nat) (h : a.tmps.getD t undef = .pointer (some ⟨b, 0, none⟩)) (oo : Oper) (ho : oo.op = .fieldAddr 65 (.tmp t) 0) : (execOp a.eval oo).run Tryz.prog w = .ok (.value (.pointer (some ⟨b, 0, none⟩))) w := by
  have h' : a.tmps[t]?.getD undef = .pointer (some ⟨b, 0, none⟩) := by simpa using h
  unfold execOp
  rw [ho]
  go_simp
/-- what operation j of the region leaves -/
def lit5R (S R : Nat) (W w0 : World) (y r : List UInt8) (v : Value) (acc : List Int) (X : Prop) : Nat → (Nat → Value) → World → Prop
  | 0, f, _ => f 9 = v
  | 1, f, _ => f 10 = .pointer (some ⟨R, 0, none⟩)
  | 2, f, _ => f 11 = .pointer (some ⟨R, 0, none⟩)
  | 3, f, _ => f 12 = .pointer (some ⟨R, 0, none⟩)
  | 4, f, _ => f 13 = .pointer (some ⟨R, 0, none⟩)
  | 5, f, _ => f 14 = .pointer (some ⟨R, 0, none⟩)
  | 6, f, _ => f 15 = .pointer (some ⟨R, 0, none⟩)
  | 7, f, w => ∃ g, f 16 = .slice (some ⟨g, 0, none⟩) 1 1 ∧ W.heap.size ≤ g ∧ w.heap[g]? = some (.cells #[.int .i64 1] 3 (0, 0))
  | 8, f, w => ∃ b o q, f 17 = .slice (some ⟨b, o, none⟩) 1 q ∧ W.heap.size ≤ b ∧ b < w.heap.size ∧ w.cell? ⟨b, o, none⟩ = some (sv y) ∧ Src S R r w ∧ X
  | 9, f, w => ∃ b o, f 18 = .pointer (some ⟨b, o, none⟩) ∧ W.heap.size ≤ b ∧ b < w.heap.size ∧ w.cell? ⟨b, o, none⟩ = some (sv y)
  | 10, f, _ => f 19 = sv y
  | 11, f, _ => f 20 = .int .i64 (numV y) ∧ numOk y = true
  | 12, f, w => ∃ g, f 21 = .slice (some ⟨g, 0, none⟩) 1 1 ∧ W.heap.size ≤ g ∧ w.heap[g]? = some (.cells #[.int .i64 (numV y)] 3 (0, 0))
  | 13, f, w => OwnC w w0.heap.size 3 1 (f 22) (ints (acc ++ [numV y]))
  | 14, f, _ => f 5 = f 22
  | _, _, _ => True
def lit5M : Nat → List Nat
  | 0 => [9]
  | 1 => [10]
  | 2 => [11]
  | 3 => [12]
  | 4 => [13]
  | 5 => [14]
  | 6 => [15]
  | 7 => [16]
  | 8 => [17]
  | 9 => [18]
  | 10 => [19]
  | 11 => [20]
  | 12 => [21]
  | 13 => [22]
  | 14 => [5, 22]
  | _ => []
theorem lit5_stab {S R : Nat} {W w0 : World} {y r : List UInt8} {v : Value} {acc : List Int} {X : Prop} (jj : Nat) {f f' : Nat → Value} {w w' : World} (h7 : jj = 7 → Ch5 W w w') (h8 : jj = 8 → Ch5 W w w' ∧ (Src S R r w → Src S R r w')) (h9 : jj = 9 → Ch5 W w w') (h12 : jj = 12 → Ch5 W w w') (h13 : jj = 13 → Ext R w w' ∧ R < w0.heap.size) (hf : ∀ t ∈ lit5M jj, f' t = f t) (h : lit5R S R W w0 y r v acc X jj f w) : lit5R S R W w0 y r v acc X jj f' w' := by
  match jj, hf, h, h7, h8, h9, h12, h13 with
  | 0, hf, h, _, _, _, _, _ => exact (hf 9 (by decide)).trans h
  | 1, hf, h, _, _, _, _, _ => exact (hf 10 (by decide)).trans h
  | 2, hf, h, _, _, _, _, _ => exact (hf 11 (by decide)).trans h
  | 3, hf, h, _, _, _, _, _ => exact (hf 12 (by decide)).trans h
  | 4, hf, h, _, _, _, _, _ => exact (hf 13 (by decide)).trans h
  | 5, hf, h, _, _, _, _, _ => exact (hf 14 (by decide)).trans h
  | 6, hf, h, _, _, _, _, _ => exact (hf 15 (by decide)).trans h
  | 7, hf, h, h7, h8, h9, h12, h13 =>
    obtain ⟨g, h1, h2, h3⟩ := h
    exact ⟨g, (hf 16 (by decide)).trans h1, h2, ((h7 rfl).block g h2 (lt_of_block h3)).trans h3⟩
  | 8, hf, h, h7, h8, h9, h12, h13 =>
    obtain ⟨b, o, q, h1, h2, h3, h4, h5, h6⟩ := h
    exact ⟨b, o, q, (hf 17 (by decide)).trans h1, h2, Nat.lt_of_lt_of_le h3 (h8 rfl).1.size, (World.cell?_of_block (w := w) ((h8 rfl).1.block b h2 h3)).trans h4, (h8 rfl).2 h5, h6⟩
  | 9, hf, h, h7, h8, h9, h12, h13 =>
    obtain ⟨b, o, h1, h2, h3, h4⟩ := h
    exact ⟨b, o, (hf 18 (by decide)).trans h1, h2, Nat.lt_of_lt_of_le h3 (h9 rfl).size, (World.cell?_of_block (w := w) ((h9 rfl).block b h2 h3)).trans h4⟩
  | 10, hf, h, _, _, _, _, _ => exact (hf 19 (by decide)).trans h
  | 11, hf, h, h7, h8, h9, h12, h13 =>
    exact ⟨(hf 20 (by decide)).trans h.1, h.2⟩
  | 12, hf, h, h7, h8, h9, h12, h13 =>
    obtain ⟨g, h1, h2, h3⟩ := h
    exact ⟨g, (hf 21 (by decide)).trans h1, h2, ((h12 rfl).block g h2 (lt_of_block h3)).trans h3⟩
  | 13, hf, h, h7, h8, h9, h12, h13 =>
    show OwnC w' w0.heap.size 3 1 (f' 22) _
    rw [hf 22 (by decide)]
    exact own_ext h (h13 rfl).1 (h13 rfl).2
  | 14, hf, h, h7, h8, h9, h12, h13 =>
    exact ((hf 5 (by decide)).trans h).trans (hf 22 (by decide)).symm
  | _ + 15, _, _, _, _, _, _, _ => trivial
set_option maxHeartbeats 4000000 in
set_option maxRecDepth 100000 in
theorem literals_run {S R : Nat} (n : Nat) (l : List UInt8) (w : World) (h : Src S R l w) (hn : n ≤ 1099511627776) :
    Calls Tryz.prog 36 #[.pointer (some ⟨R, 0, none⟩), .int .i64 n] w (Runs5 S R w (rdMany (fun _ => rdLine formLit) n 0 l []) fun xs e w' => ∃ v, e = .returned v ∧ OwnC w' w.heap.size 3 1 v (ints xs)) := by
  have H := Lib.hid h
  have HSW : Hid (S ≤ w.heap.size) := h.bd
  have HRB : Hid (R < w.heap.size) := Nat.lt_of_lt_of_le h.ins h.bd
  have hlen := h.len
  clear h
  obtain ⟨goal, hgoal⟩ : ∃ g, g = rdMany (fun _ => rdLine formLit) n 0 l [] := ⟨_, rfl⟩
  have HG := Lib.hid hgoal
  rw [← hgoal]
  clear hgoal
  have EW : Hid (∀ args w, (callFunc 59 args).run Tryz.prog w = .ok (.enter 59 args) w) := enters_of Tryz.func59 (by kernel_rfl) rfl
  have EN : Hid (∀ args w, (callFunc 60 args).run Tryz.prog w = .ok (.enter 60 args) w) := enters_of Tryz.func60 (by kernel_rfl) rfl
  go_enter Tryz.func36, Tryz.ntmps36
  go_wp2
  go_loopw [7, 5] (fun i v wr => ∃ (j : Nat) (vv : Value) (acc : List Int) (s : List UInt8), j ≤ n ∧ i = .int .i64 j ∧ vv = v ∧ acc.length = j ∧ goal = rdMany (fun _ => rdLine formLit) (n - j) j s acc ∧ s.length + j ≤ 65536 ∧ OwnC wr w.heap.size 3 1 vv (ints acc) ∧ Src S R s wr ∧ Ext R w wr) (fun i _ _ => n - (intOf i).toNat)
  case atStart => exact ⟨0, _, [], l, Nat.zero_le _, rfl, rfl, rfl, HG.out, by omega, OwnC.nil _ _ _ _, H.out, Ext.refl _ _⟩
  case round =>
    obtain ⟨j, v, acc, s, hj, rfl, rfl, hacc, hg, hsl, how, hS, hE⟩ := hrel
    have GG := Lib.hid hg
    have HO := Lib.hid how
    have HS := Lib.hid hS
    have HE := Lib.hid hE
    have HA := Lib.hid hacc
    clear hg how hS hE hacc
    by_cases hlt : j < n
    · have hst : n - j = (n - (j + 1)) + 1 := by omega
      have GS := Lib.hid hst
      clear hst
      have HRW : Hid (R < wr.heap.size) := Nat.lt_of_lt_of_le HRB.out HE.out.size
      have HL : Hid ((ints acc).length ≤ 65537) := by unfold Hid; rw [ints_length1, HA.out]; omega
      have HVW : Hid (∀ g, v.ownBlock = some g → g < wr.heap.size) := fun g hg => (HO.out.block_lt g hg).2
      have HWF : Hid ((w1 s).length ≤ 4194304) := by
        unfold Hid
        cases hq : rdLine (wl [1]) s with
        | none => unfold w1; rw [hq]; simp
        | some x =>
          obtain ⟨ws, r⟩ := x
          rw [← (wl_one hq).2.1]
          have := (wl_fit hq 0).1
          omega
      have OK0 : Hid (LOk S R wr w s v acc (fun _ => false) wr.drew) := (⟨Nat.le_refl _, HE.out, fun _ => HS.out, fun _ => HO.out⟩ : LOk S R wr w s v acc (fun _ => false) wr).below (Below.refl _ _).drew rfl rfl
      have NO : Hid (rdLine (wl [1]) s = none → ∀ x, Ext R w x → Runs5 S R w goal (fun xs e w' => ∃ v, e = .returned v ∧ OwnC w' w.heap.size 3 1 v (ints xs)) (.panicked fault5) x) := fun hq x hx => runs5_none (by rw [GG.out, GS.out, rdMany, lit_no hq]) ⟨rfl, hx⟩
      have STEP : Hid (∀ ws r, rdLine (wl [1]) s = some (ws, r) → goal = if numOk (w1 s) = true then rdMany (fun _ => rdLine formLit) (n - (j + 1)) (j + 1) (r1 s) (acc ++ [numV (w1 s)]) else none) := fun ws r hq => by
        rw [GG.out, GS.out, rdMany, lit_word hq]
        split
        · rename_i h1; split at h1
          · cases h1
          · rename_i h2; rw [if_neg h2]
        · rename_i x h1; split at h1
          · rename_i h2; cases h1; rw [if_pos h2]
          · cases h1
      have NN : Hid (numOk (w1 s) = false → ∀ x, Ext R w x → Runs5 S R w goal (fun xs e w' => ∃ v, e = .returned v ∧ OwnC w' w.heap.size 3 1 v (ints xs)) (.panicked fault5) x) := fun hy x hx => by
        cases hq : rdLine (wl [1]) s with
        | none => exact NO.out hq x hx
        | some z => exact runs5_none ((STEP.out z.1 z.2 hq).trans (if_neg (by rw [hy]; simp))) ⟨rfl, hx⟩
      go_wp2
      refine wp_region_valsD (by kernel_rfl) (by kernel_rfl) lit5M (by kernel_rfl) (by kernel_rfl)
        (LOk S R wr w s v acc) (lit5R S R wr w (w1 s) (r1 s) v acc ((rdLine (wl [1]) s).isSome = true)) OK0.out (fun jj f f' w w' hb hf h => lit5_stab jj (fun em => Ch5.of hb) (fun em => ⟨Ch5.of hb, fun h => h.below hb⟩) (fun em => Ch5.of hb) (fun em => Ch5.of hb) (fun em => ⟨Ext.of hb, HRB.out⟩) hf h) ?_ ?_
      · intro i oo d a' w' ho hd hun hdf hok hD K hK hK0
        match i, ho, hd, hD, hK, hK0, hun with
        | 0, ho, hd, hD, hK, hK0, hun =>
          have e := (congrArg Oper.op (Option.some.inj ho)).symm
          obtain rfl := Option.some.inj ho
          exact wp_val (op_move a' w' 5 _ e) (hK _ _ (Below.refl _ _) (hok.below (Below.refl _ _) rfl rfl) (fun f h1 _ => (h1 _ rfl).trans (hun 5 (by kernel_rfl))))
        | 1, ho, hd, hD, hK, hK0, hun =>
          have e := (congrArg Oper.op (Option.some.inj ho)).symm
          obtain rfl := Option.some.inj ho
          exact wp_val (op_move a' w' 0 _ e) (hK _ _ (Below.refl _ _) (hok.below (Below.refl _ _) rfl rfl) (fun f h1 _ => (h1 _ rfl).trans (hun 0 (by kernel_rfl))))
        | 2, ho, hd, hD, hK, hK0, hun =>
          have e := (congrArg Oper.op (Option.some.inj ho)).symm
          obtain rfl := Option.some.inj ho
          exact wp_val (op_nil a' w' _ 10 (hD 1 (by kernel_rfl)) _ e) (hK _ _ (Below.refl _ _) (hok.below (Below.refl _ _) rfl rfl) (fun f h1 _ => h1 _ rfl))
        | 3, ho, hd, hD, hK, hK0, hun =>
          have e := (congrArg Oper.op (Option.some.inj ho)).symm
          obtain rfl := Option.some.inj ho
          exact wp_val (op_field_aig_reader_0 a' w' _ 11 (hD 2 (by kernel_rfl)) _ e) (hK _ _ (Below.refl _ _) (hok.below (Below.refl _ _) rfl rfl) (fun f h1 _ => h1 _ rfl))
        | 4, ho, hd, hD, hK, hK0, hun =>
          have e := (congrArg Oper.op (Option.some.inj ho)).symm
          obtain rfl := Option.some.inj ho
          exact wp_val (op_move a' w' 0 _ e) (hK _ _ (Below.refl _ _) (hok.below (Below.refl _ _) rfl rfl) (fun f h1 _ => (h1 _ rfl).trans (hun 0 (by kernel_rfl))))
        | 5, ho, hd, hD, hK, hK0, hun =>
          have e := (congrArg Oper.op (Option.some.inj ho)).symm
          obtain rfl := Option.some.inj ho
          exact wp_val (op_nil a' w' _ 13 (hD 4 (by kernel_rfl)) _ e) (hK _ _ (Below.refl _ _) (hok.below (Below.refl _ _) rfl rfl) (fun f h1 _ => h1 _ rfl))
        | 6, ho, hd, hD, hK, hK0, hun =>
          have e := (congrArg Oper.op (Option.some.inj ho)).symm
          obtain rfl := Option.some.inj ho
          exact wp_val (op_field_aig_reader_0 a' w' _ 14 (hD 5 (by kernel_rfl)) _ e) (hK _ _ (Below.refl _ _) (hok.below (Below.refl _ _) rfl rfl) (fun f h1 _ => h1 _ rfl))
        | 7, ho, hd, hD, hK, hK0, hun =>
          have e := (congrArg Oper.op (Option.some.inj ho)).symm
          obtain rfl := Option.some.inj ho
          exact wp_val (op_slice_c1 a' w' _ e) (hK _ _ ((Below.refl _ _).alloc (Nat.le_refl _) _) (hok.below ((Below.refl _ _).alloc (Nat.le_refl _) _) rfl rfl) (fun f h1 _ => ⟨w'.heap.size, h1 _ rfl, hok.size, Array.getElem?_push_size⟩))
        | 8, ho, hd, hD, hK, hK0, hun =>
          have e := (congrArg Oper.op (Option.some.inj ho)).symm
          obtain rfl := Option.some.inj ho
          obtain ⟨g, h16, hg, hgc⟩ : ∃ g, vals a' 16 = .slice (some ⟨g, 0, none⟩) 1 1 ∧ wr.heap.size ≤ g ∧ w'.heap[g]? = some (.cells #[.int .i64 1] 3 (0, 0)) := hD 7 (by kernel_rfl)
          have hgR : g ≠ R := Nat.ne_of_gt (Nat.lt_of_lt_of_le HRW.out hg)
          refine wp_enter (op_call2 a' w' _ 15 16 _ _ EW.out _ e) ?_
          rw [show a'.tmps.getD 15 undef = .pointer (some ⟨R, 0, none⟩) from hD 6 (by kernel_rfl), show a'.tmps.getD 16 undef = .slice (some ⟨g, 0, none⟩) 1 1 from h16]
          refine (reader_words [1] _ 1 _ w' (hok.s0 (hd 8 (by kernel_rfl))) (lrow_one hgc) (Nat.le_refl _) (fun p hp => by cases hp; exact hgR) (by simp)).mono ?_
          intro e w'' hr
          cases hq : rdLine (wl [1]) s with
          | none =>
            rw [hq] at hr
            obtain ⟨rfl, hE⟩ := hr
            exact .inr ⟨_, rfl, hdf, NO.out hq _ (hok.ext.trans hE)⟩
          | some x =>
            obtain ⟨ws, rr⟩ := x
            obtain ⟨hl1, hy, hr1⟩ := wl_one hq
            rw [hq] at hr
            obtain ⟨⟨A', q', rfl, hrd, hfr⟩, hS, hE⟩ := hr
            obtain ⟨b, o, rfl, hc⟩ := reads_cellD hrd 0 (by show 0 < ws.length; omega)
            have hbl : b < w''.heap.size := World.block_lt_of_cell? _ _ hc
            have hbw : w'.heap.size ≤ b := hfr _ rfl
            rw [Nat.add_zero, hy] at hc
            rw [hr1] at hS
            refine .inl ⟨_, rfl, hK0 _ _ (hok.word hE HRB.out) (fun f h1 _ => ⟨b, o, q', (h1 _ rfl).trans (by rw [hl1]), Nat.le_trans hok.size hbw, hbl, hc, hS, by rw [hq]; rfl⟩) (fun j f hj hf hq2 => ?_)⟩
            exact lit5_stab j (fun _ => Ch5.ext HRW.out hE) (fun em => absurd em hj) (fun _ => Ch5.ext HRW.out hE) (fun _ => Ch5.ext HRW.out hE) (fun _ => ⟨hE, HRB.out⟩) hf hq2
        | 9, ho, hd, hD, hK, hK0, hun =>
          have e := (congrArg Oper.op (Option.some.inj ho)).symm
          obtain rfl := Option.some.inj ho
          obtain ⟨b, o, q, h17, hb1, hb2, hc, _⟩ := hD 8 (by kernel_rfl)
          exact wp_val (op_index_str a' w' b o 1 q 0 17 h17 (by decide) _ e) (hK _ _ (Below.refl _ _) (hok.below (Below.refl _ _) rfl rfl) (fun f h1 _ => ⟨b, o, h1 _ rfl, hb1, hb2, hc⟩))
        | 10, ho, hd, hD, hK, hK0, hun =>
          have e := (congrArg Oper.op (Option.some.inj ho)).symm
          obtain rfl := Option.some.inj ho
          obtain ⟨b, o, h18, _, _, hc⟩ := hD 9 (by kernel_rfl)
          exact wp_val (op_load_str a' w' _ 18 _ h18 hc _ e) (hK _ _ (Below.refl _ _) (hok.below (Below.refl _ _) rfl rfl) (fun f h1 _ => h1 _ rfl))
        | 11, ho, hd, hD, hK, hK0, hun =>
          have e := (congrArg Oper.op (Option.some.inj ho)).symm
          obtain rfl := Option.some.inj ho
          refine wp_enter (op_call2 a' w' _ 12 19 _ _ EN.out _ e) ?_
          rw [show a'.tmps.getD 12 undef = .pointer (some ⟨R, 0, none⟩) from hD 3 (by kernel_rfl), show a'.tmps.getD 19 undef = sv (w1 s) from hD 10 (by kernel_rfl)]
          refine (parsed_any (R := R) _ w' HWF.out).mono ?_
          rintro e w'' ⟨hb, ⟨hy, rfl⟩ | ⟨hy, rfl⟩⟩
          · exact .inl ⟨_, rfl, hK _ _ hb (hok.below hb rfl rfl) (fun f h1 _ => ⟨h1 _ rfl, hy⟩)⟩
          · exact .inr ⟨_, rfl, hdf, NN.out hy _ (hok.ext.trans (Ext.of hb))⟩
        | 12, ho, hd, hD, hK, hK0, hun =>
          have e := (congrArg Oper.op (Option.some.inj ho)).symm
          obtain rfl := Option.some.inj ho
          exact wp_val (op_slice_int a' w' _ 20 (hD 11 (by kernel_rfl)).1 _ e) (hK _ _ ((Below.refl _ _).alloc (Nat.le_refl _) _) (hok.below ((Below.refl _ _).alloc (Nat.le_refl _) _) rfl rfl) (fun f h1 _ => ⟨w'.heap.size, h1 _ rfl, hok.size, Array.getElem?_push_size⟩))
        | 13, ho, hd, hD, hK, hK0, hun =>
          have e := (congrArg Oper.op (Option.some.inj ho)).symm
          obtain rfl := Option.some.inj ho
          obtain ⟨g, h21, hg, hgc⟩ : ∃ g, vals a' 21 = .slice (some ⟨g, 0, none⟩) 1 1 ∧ wr.heap.size ≤ g ∧ w'.heap[g]? = some (.cells #[.int .i64 (numV (w1 s))] 3 (0, 0)) := hD 12 (by kernel_rfl)
          have hown := hok.own (hd 13 (by kernel_rfl))
          refine step_push w' (.tmp 9) (.tmp 21) 22 rfl 3 1 8 (.int .i64 0) Tryz.underlying22 infoInt rfl (by decide) w.heap.size v _ hown (hD 0 (by kernel_rfl)) g 1 h21 [.int .i64 (numV (w1 s))] (one_cell hgc) rfl (fun u hu => by simp only [List.mem_singleton] at hu; subst hu; rfl) (by have := HL.out; omega) (by have := HL.out; omega) hok.ext.size ?_
          intro v' w'' hown2 hbel hkeep
          have hch : Ch5 wr w' w'' := ⟨hbel.size, fun k hk hk2 => hkeep k hk2 (fun em => by have := HVW.out k em.symm; omega)⟩
          refine hK0 _ _ (hok.push hbel HSW.out) (fun f h1 _ => by
            show OwnC w'' w.heap.size 3 1 (f 22) _
            rw [h1 _ rfl, ← ints_snoc]; exact hown2) (fun j f hj hf hq2 => ?_)
          exact lit5_stab j (fun _ => hch) (fun _ => ⟨hch, fun h => h.later (hbel.mono HSW.out)⟩) (fun _ => hch) (fun _ => hch) (fun em => absurd em hj) hf hq2
        | 14, ho, hd, hD, hK, hK0, hun =>
          have e := (congrArg Oper.op (Option.some.inj ho)).symm
          obtain rfl := Option.some.inj ho
          exact wp_val (op_assign a' w' 22 _ e) (hK _ _ (Below.refl _ _) (hok.below (Below.refl _ _) rfl rfl) (fun f h1 h2 => (h1 _ rfl).trans (h2 22 (by decide)).symm))
        | i + 15, ho, _, _, _, _, _ => exact absurd ho (by simp)
      · intro a' w3 hsz hdf hkt hok hR
        have HF3 := frame_sets [5, 9, 10, 11, 12, 13, 14, 15, 16, 17, 18, 19, 20, 21, 22] (by kernel_rfl) hsz hkt
        obtain ⟨d, hok⟩ := hok
        have h14 : vals a' 5 = vals a' 22 := hR 14 (by decide)
        have hown : OwnC w3 w.heap.size 3 1 (vals a' 22) (ints (acc ++ [numV (w1 s)])) := hR 13 (by decide)
        obtain ⟨_, _, _, _, _, _, _, hS3, hX⟩ := hR 8 (by decide)
        have hnum : _ ∧ numOk (w1 s) = true := hR 11 (by decide)
        rw [← h14] at hown
        clear h14
        obtain ⟨v2, h5⟩ : ∃ v2, vals a' 5 = v2 := ⟨_, rfl⟩
        rw [h5] at hown
        obtain ⟨⟨ws, r⟩, hws⟩ := Option.isSome_iff_exists.1 hX
        have HO4 := Lib.hid hown
        have HS4 := Lib.hid hS3
        have HE4 := Lib.hid hok.ext
        have HGO : Hid (goal = rdMany (fun _ => rdLine formLit) (n - (j + 1)) (j + 1) (r1 s) (acc ++ [numV (w1 s)])) := by
          have := STEP.out _ _ hws
          rw [if_pos hnum.2] at this
          exact this
        have HRL : Hid ((r1 s).length < s.length) := by
          have h1 := (wl_one hws).2.2
          have h2 := (wl_fit hws 0).2
          rw [h1] at h2
          exact h2
        clear hown hS3 hok hX hnum hws STEP NO NN OK0
        obtain ⟨tm, df⟩ := a'
        obtain rfl : df = _ := hdf
        simp only [List.foldl_cons, List.foldl_nil] at HF3
        clear hkt hR hsz
        replace h5 : tm.getD 5 undef = _ := h5
        rw [h5] at HF3
        clear h5
        generalize tm.getD 9 undef = y9 at HF3
        generalize tm.getD 10 undef = y10 at HF3
        generalize tm.getD 11 undef = y11 at HF3
        generalize tm.getD 12 undef = y12 at HF3
        generalize tm.getD 13 undef = y13 at HF3
        generalize tm.getD 14 undef = y14 at HF3
        generalize tm.getD 15 undef = y15 at HF3
        generalize tm.getD 16 undef = y16 at HF3
        generalize tm.getD 17 undef = y17 at HF3
        generalize tm.getD 18 undef = y18 at HF3
        generalize tm.getD 19 undef = y19 at HF3
        generalize tm.getD 20 undef = y20 at HF3
        generalize tm.getD 21 undef = y21 at HF3
        generalize tm.getD 22 undef = y22 at HF3
        simp only [List.setIfInBounds_toArray, List.set_cons_succ, List.set_cons_zero] at HF3
        subst HF3
        go_wp2
        go_roundw
        case rel => exact ⟨j + 1, _, acc ++ [numV (w1 s)], r1 s, by omega, by go_num, rfl, by rw [List.length_append, HA.out]; rfl, HGO.out, by have := HRL.out; omega, HO4.out, HS4.out, HE4.out⟩
        case measure => simp [intOf]; omega
    · obtain rfl : j = n := by omega
      have HGE : Hid (goal = some (acc, s)) := by
        unfold Hid
        rw [GG.out, Nat.sub_self]; rfl
      go_wp2
      go_ret
      exact runs5_some HGE.out ⟨⟨v, rfl, HO.out⟩, HS.out, HE.out⟩
end Go.Proofs.YtopjddmgejfalaaGreatDoor.Aig
namespace Go.Proofs.YtopjddmgejfalaaGreatDoor.Aag
open Go.ChangeShapes Go.WideShapes Go.ChangeAt Go.RowKit Dig Circ Cw

/-- the numbers that a call lays as a row -/
theorem ints_row (w : World) (l : List Int) (cs : Array Value) (T : TypeId) (h : cs.toList = l.map (Value.int .i64)) : LRow (w.alloc (.cells cs T)) (w.heap.size + 1) 1 (some ⟨w.heap.size, 0, none⟩) (ints l) :=
  .inr ⟨_, 0, rfl, Nat.lt_succ_self _, fun i ys hi j u hj => by
    have hil : i < l.length := by
      have := (List.getElem?_eq_some_iff.1 hi).1
      simpa [ints] using this
    have e : ys = [.int .i64 l[i]] := by
      unfold ints at hi
      rw [List.getElem?_map, List.getElem?_eq_getElem hil] at hi
      simpa using hi.symm
    subst e
    have hj0 : j = 0 := by
      have := (List.getElem?_eq_some_iff.1 hj).1
      simpa using this
    subst hj0
    rw [new_cell, Nat.zero_add, Nat.mul_one, Nat.add_zero, ← Array.getElem?_toList, h, List.getElem?_map, List.getElem?_eq_getElem hil]
    simpa using hj⟩
/-- a row of one that a call lays is its own -/
theorem own_one (w : World) (base : Nat) (T : TypeId) (u : Value) (hb : base ≤ w.heap.size) : OwnC (w.alloc (.cells #[u] T)) base T 1 (.slice (some ⟨w.heap.size, 0, none⟩) 1 1) [[u]] :=
  ⟨by simp, .inr ⟨w.heap.size, 1, #[u], rfl, hb, Array.getElem?_push_size, Nat.le_refl _, by decide, by simp, by simp⟩⟩
def headNs (c : Cir) : List Int := [c.max, c.ins.length, c.lats.length, c.outs.length, c.ands.length, c.bads.length, c.invs.length]
end Go.Proofs.YtopjddmgejfalaaGreatDoor.Aag
namespace Go.Proofs.YtopjddmgejfalaaGreatDoor.Aag
open Go.ChangeShapes Go.WideShapes Go.ChangeAt Go.RowKit Dig Circ Cw

theorem op_load_str (a : Act) (w : World) (A : Addr) (t : Nat) (v : Value) (h : a.tmps.getD t undef = .pointer (some A)) (hc : w.cell? A = some v) (oo : Oper) (ho : oo.op = .load 9 (.tmp t)) : (execOp a.eval oo).run Tryz.prog w = .ok (.value v) w := by
  have h' : a.tmps[t]?.getD undef = .pointer (some A) := by simpa using h
  unfold execOp
  rw [ho]
  go_simp
theorem op_cat (a : Act) (w : World) (x y : ByteArray) (t s : Nat) (h1 : a.tmps.getD t undef = .string x) (h2 : a.tmps.getD s undef = .string y) (hl : x.size + y.size ≤ 140737488355328) (oo : Oper) (ho : oo.op = .binOp .add 9 (.tmp t) (.tmp s) 9) : (execOp a.eval oo).run Tryz.prog w = .ok (.value (.string (x ++ y))) w := by
  have h1' : a.tmps[t]?.getD undef = .string x := by simpa using h1
  have h2' : a.tmps[s]?.getD undef = .string y := by simpa using h2
  unfold execOp
  rw [ho]
  have hl2 : x.size + y.size ≤ 9223372036854775807 := by omega
  go_simp
theorem op_slice_two (a : Act) (w : World) (x y : ByteArray) (t s : Nat) (h1 : a.tmps.getD t undef = .string x) (h2 : a.tmps.getD s undef = .string y) (oo : Oper) (ho : oo.op = .buildSlice 71 2 #[(0, .tmp t), (1, .tmp s)]) : (execOp a.eval oo).run Tryz.prog w = .ok (.value (.slice (some ⟨w.heap.size, 0, none⟩) 2 2)) (w.alloc (.cells #[.string x, .string y] 9)) := by
  have h1' : a.tmps[t]?.getD undef = .string x := by simpa using h1
  have h2' : a.tmps[s]?.getD undef = .string y := by simpa using h2
  unfold execOp
  rw [ho]
  go_simp

theorem cat_eq (x : ByteArray) (l : List UInt8) : (x ++ ⟨l.toArray⟩ : ByteArray) = ⟨(x.data.toList ++ l).toArray⟩ := by
  have : (x ++ (⟨l.toArray⟩ : ByteArray)).data.toList = x.data.toList ++ l := by simp
  cases h : (x ++ (⟨l.toArray⟩ : ByteArray)) with
  | mk d => rw [h] at this; simp only at this; rw [← this]
theorem text_eq (x : ByteArray) : sv x.data.toList = .string x := by cases x; rfl
def catV (x : Nam) : ByteArray := x.kind ++ ⟨(Lib.itoa x.num).toArray⟩
theorem catV_eq (x : Nam) : Value.string (catV x) = sv (x.kind.data.toList ++ Lib.itoa x.num) := by unfold catV sv; rw [cat_eq]
theorem two_texts {w : World} {g : Nat} {x : Nam} (h : w.heap[g]? = some (.cells #[.string (catV x), .string x.text] 9 (0, 0))) : ReadsTexts (.slice (some ⟨g, 0, none⟩) 2 2) [x.kind.data.toList ++ Lib.itoa x.num, x.text.data.toList] w :=
  .inr ⟨g, 0, 2, rfl, lt_of_block h, fun i hi => by
    have hi2 : i < 2 := hi
    have e : w.cell? ⟨g, 0 + i, none⟩ = (#[.string (catV x), .string x.text] : Array Value)[i]? := by simp [World.cell?, h]
    rw [e]
    match i, hi2 with
    | 0, _ => exact congrArg some (catV_eq x)
    | 1, _ => exact congrArg some (text_eq x.text).symm⟩
end Go.Proofs.YtopjddmgejfalaaGreatDoor.Aag
namespace Go.Proofs.YtopjddmgejfalaaGreatDoor.Aag
open Go.ChangeShapes Go.WideShapes Go.ChangeAt Go.RowKit Dig Circ Cw

theorem op_ne0 (a : Act) (w : World) (x : Int) (t : Nat) (h : a.tmps.getD t undef = .int .i64 x) (oo : Oper) (ho : oo.op = .binOp .neq 3 (.tmp t) (.const (.int .i64 0)) 3) : (execOp a.eval oo).run Tryz.prog w = .ok (.value (.bool (!(x == 0)))) w := by
  have h' : a.tmps[t]?.getD undef = .int .i64 x := by simpa using h
  unfold execOp
  rw [ho]
  go_simp
  rfl
theorem op_build_lat (a : Act) (w : World) (x y : Int) (i j : Nat) (h1 : a.tmps.getD i undef = .int .i64 x) (h2 : a.tmps.getD j undef = .int .i64 y) (oo : Oper) (ho : oo.op = .build 48 #[(0, .tmp i), (1, .tmp j)]) : (execOp a.eval oo).run Tryz.prog w = .ok (.value (.agg #[.int .i64 x, .int .i64 y, .int .i64 0])) w := by
  have h1' : a.tmps[i]?.getD undef = .int .i64 x := by simpa using h1
  have h2' : a.tmps[j]?.getD undef = .int .i64 y := by simpa using h2
  unfold execOp
  rw [ho]
  go_simp
theorem op_alloc_lat (a : Act) (w : World) (o : Oper) (ho : o.op = .alloc 48) : (execOp a.eval o).run Tryz.prog w = .ok (.value (.pointer (some ⟨w.heap.size, 0, none⟩))) (w.alloc (.cells #[.int .i64 0, .int .i64 0, .int .i64 0] 48)) := by
  unfold execOp
  rw [ho]
  go_simp
theorem op_store_lat (a : Act) (w : World) (g : Nat) (z : Array Value) (hg : w.heap[g]? = some (.cells z 48 (0, 0))) (hz : z.size = 3) (x y c : Int) (p s : Nat) (hp : a.tmps.getD p undef = .pointer (some ⟨g, 0, none⟩)) (hs : a.tmps.getD s undef = .agg #[.int .i64 x, .int .i64 y, .int .i64 c]) (o : Oper) (ho : o.op = .store 48 (.tmp p) (.tmp s)) : ∃ w', (execOp a.eval o).run Tryz.prog w = .ok .skip w' ∧ w'.heap[g]? = some (.cells #[.int .i64 x, .int .i64 y, .int .i64 c] 48 (0, 0)) ∧ But g w w' := by
  obtain ⟨Z1, Z2, Z3, u0, u1, u2, ⟨hS1, p0, t0⟩, ⟨hS2, p1, t1⟩, ⟨hS3, p2, t2⟩, E3, FF⟩ := store3 hg hz (.int .i64 x) (.int .i64 y) (.int .i64 c)
  refine ⟨Z3, ?_, E3, FF⟩
  unfold execOp
  rw [ho]
  have hp' : a.tmps[p]?.getD undef = .pointer (some ⟨g, 0, none⟩) := by simpa using hp
  have hs' : a.tmps[s]?.getD undef = .agg #[.int .i64 x, .int .i64 y, .int .i64 c] := by simpa using hs
  clear hp hs hg hz E3 FF
  go_simp
theorem op_store_int (a : Act) (w : World) (g k : Nat) (z : Array Value) (E : TypeId) (hg : w.heap[g]? = some (.cells z E (0, 0))) (hk : k < z.size) (x : Int) (p s : Nat) (hp : a.tmps.getD p undef = .pointer (some ⟨g, k, none⟩)) (hs : a.tmps.getD s undef = .int .i64 x) (o : Oper) (ho : o.op = .store 3 (.tmp p) (.tmp s)) : ∃ w', (execOp a.eval o).run Tryz.prog w = .ok .skip w' ∧ w'.heap[g]? = some (.cells (z.setIfInBounds k (.int .i64 x)) E (0, 0)) ∧ But g w w' := by
  obtain ⟨Z, u, ⟨hS1, p0, t0⟩, E3, FF⟩ := step_set w z k (.int .i64 x) hg hk
  refine ⟨Z, ?_, E3, FF⟩
  unfold execOp
  rw [ho]
  have hp' : a.tmps[p]?.getD undef = .pointer (some ⟨g, k, none⟩) := by simpa using hp
  have hs' : a.tmps[s]?.getD undef = .int .i64 x := by simpa using hs
  clear hp hs hg hk E3 FF
  go_simp
theorem op_index_Lstring (a : Act) (w : World) (b o n q k : Nat) (t : Nat) (h : a.tmps.getD t undef = .slice (some ⟨b, o, none⟩) n q) (hk : k < n) (oo : Oper) (ho : oo.op = .indexAddr 71 (.tmp t) (.const (.int .i64 (k : Int)))) : (execOp a.eval oo).run Tryz.prog w = .ok (.value (.pointer (some ⟨b, o + k, none⟩))) w := by
  have h' : a.tmps[t]?.getD undef = .slice (some ⟨b, o, none⟩) n q := by simpa using h
  unfold execOp
  rw [ho]
  have h0 : (0 : Int) ≤ k := by omega
  have h1 : (k : Int) < n := by omega
  go_simp
theorem op_load_string (a : Act) (w : World) (A : Addr) (t : Nat) (v : Value) (h : a.tmps.getD t undef = .pointer (some A)) (hc : w.cell? A = some v) (oo : Oper) (ho : oo.op = .load 9 (.tmp t)) : (execOp a.eval oo).run Tryz.prog w = .ok (.value v) w := by
  have h' : a.tmps[t]?.getD undef = .pointer (some A) := by simpa using h
  unfold execOp
  rw [ho]
  go_simp
theorem op_field_api_Latch_2 (a : Act) (w : World) (b : Nat) (t : Nat) (h : a.tmps.getD t undef = .pointer (some ⟨b, 0, none⟩)) (oo : Oper) (ho : oo.op = .fieldAddr 48 (.tmp t) 2) : (execOp a.eval oo).run Tryz.prog w = .ok (.value (.pointer (some ⟨b, 2, none⟩))) w := by
  have h' : a.tmps[t]?.getD undef = .pointer (some ⟨b, 0, none⟩) := by simpa using h
  unfold execOp
  rw [ho]
  go_simp
end Go.Proofs.YtopjddmgejfalaaGreatDoor.Aag
