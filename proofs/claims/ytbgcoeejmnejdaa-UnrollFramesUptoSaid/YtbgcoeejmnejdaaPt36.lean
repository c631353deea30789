/- tseitin.isNothing and its closure; condition: the circuit lies in memory and may be. -/
import Derived.Test.YtbgcoeejmnejdaaPt35
import Derived.Test.YtbgcoeejmnejdaaPt27
import Derived.Deep.RegionWith
namespace Go.Proofs.Ytbgcoeejmnejdaa.Tse
open Go.ChangeShapes Go.WideShapes Go.ChangeAt Go.RowKit Go.Maps Circ Cw Str Sim Rep Cla

/-- is a variable one of those literals'? -/
def markM (L : List Int) (v : Int) : Bool := L.any fun x => decide (x / 2 = v)
theorem mark_more (L : List Int) (x : Int) : markM (L ++ [x]) = setM (markM L) (x / 2) true := by
  funext v
  unfold markM setM
  rw [List.any_append]
  by_cases h : v = x / 2
  · rw [if_pos h]; simp [h]
  · rw [if_neg h]
    have : decide (x / 2 = v) = false := decide_eq_false fun e => h e.symm
    simp [this]
theorem mark_free {c : Cir} (hr : refOk c = true) (v : Int) : freeT c v = !markM (own c) v := by
  have ho := (own_facts hr).2
  unfold freeT
  rw [kind_known]
  unfold knownV markM
  by_cases h0 : v = 0
  · have : (own c).any (fun x => decide (x / 2 = v)) = false := by
      rw [List.any_eq_false]
      intro x hx
      have := ho x hx
      simp; omega
    rw [this, decide_eq_true h0]; rfl
  · rw [decide_eq_false h0]
    have hv : ∀ L : List Int, (∀ x ∈ L, x ∈ own c) → hasVar L v = L.any fun x => decide (x / 2 = v) := fun L hL => by
      unfold hasVar
      rw [Bool.eq_iff_iff, List.any_eq_true, List.any_eq_true]
      constructor
      · rintro ⟨x, hx, h⟩
        exact ⟨x, hx, by simp at h ⊢; exact h.2⟩
      · rintro ⟨x, hx, h⟩
        have := ho x (hL x hx)
        exact ⟨x, hx, by simp at h ⊢; omega⟩
    unfold own at hv ⊢
    rw [List.any_append, List.any_append]
    unfold hasTri
    rw [hv c.ins (fun x hx => List.mem_append.2 (.inl hx)), hv (c.lats.map Tri.a) (fun x hx => List.mem_append.2 (.inr (List.mem_append.2 (.inl hx)))), hv (c.ands.map Tri.a) (fun x hx => List.mem_append.2 (.inr (List.mem_append.2 (.inr hx))))]
    simp [Bool.or_assoc]
def nothV (bx : Nat) : Value := .func (.func 144) #[] #[.pointer (some ⟨bx, 0, none⟩)]
/-- the list of what is something, behind its box -/
def NothAt (w : World) (c : Cir) (bx : Nat) : Prop := ∃ (g n : Nat), w.heap[bx]? = some (.cells #[.slice (some ⟨g, 0, none⟩) n n] 36 (0, 0)) ∧ c.max + 1 = (n : Int) ∧ n ≤ 2049 ∧ IsBits w g n (markM (own c))
theorem NothAt.below {w w' : World} {c : Cir} {bx B : Nat} (h : NothAt w c bx) (hb : Below B w w') (hB : w.heap.size ≤ B) : NothAt w' c bx := by
  obtain ⟨g, n, h1, h2, h3, h4⟩ := h
  obtain ⟨cur, c1, c2, c3⟩ := h4.blk
  exact ⟨g, n, (hb.block bx (Nat.lt_of_lt_of_le (Array.getElem?_eq_some_iff.1 h1).1 hB)).trans h1, h2, h3, ⟨cur, (hb.block g (Nat.lt_of_lt_of_le (Array.getElem?_eq_some_iff.1 c1).1 hB)).trans c1, c2, c3⟩⟩
set_option maxHeartbeats 4000000 in
set_option maxRecDepth 100000 in
theorem nothing1_any (c : Cir) (hr : refOk c = true) (bx v : Nat) (w : World) (h : NothAt w c bx) (hv : (v : Int) < c.max + 1) : Calls Try.prog 144 #[.int .i64 (v : Int), .pointer (some ⟨bx, 0, none⟩)] w fun e w' => e = .returned (.bool (freeT c (v : Int))) ∧ w = w' := by
  obtain ⟨g, n, h1, h2, h3, h4⟩ := h
  obtain ⟨cur, c1, c2, c3⟩ := h4.blk
  have hvn : (v : Int) < (n : Int) := by omega
  have c4 := c3 v (by omega)
  have a1 : w.cell? ⟨bx, 0, none⟩ = some (.slice (some ⟨g, 0, none⟩) n n) := by simp [World.cell?, h1]
  have a2 : w.cell? ⟨g, 0 + v, none⟩ = some (.bool (markM (own c) (v : Int))) := by rw [Nat.zero_add]; simp [World.cell?, c1, c4]
  have HM := Lib.hid (mark_free hr (v : Int))
  rw [HM.out]
  generalize markM (own c) (v : Int) = y at *
  have hv0 : (0 : Int) ≤ (v : Int) := by omega
  have a3 : w.cell? ⟨g, v, none⟩ = some (.bool y) := by rw [Nat.zero_add] at a2; exact a2
  clear h1 h2 h4 c1 c2 c3 c4 hv HM
  go_enter Try.func144, Try.ntmps144
  go_wp2
  go_ret
  exact ⟨rfl, rfl⟩
theorem op_store_true (a : Act) (w : World) (g k : Nat) (u : Value) (t : Nat) (h1 : a.tmps.getD t undef = .pointer (some ⟨g, k, none⟩)) (hc : w.cell? ⟨g, k, none⟩ = some u) (hz : w.frozen? ⟨g, k, none⟩ = false) (oo : Oper) (ho : oo.op = .store 4 (.tmp t) (.const (.bool true))) : (execOp a.eval oo).run Try.prog w = .ok .skip (w.setCell ⟨g, k, none⟩ (.bool true)) := by
  have h1' : a.tmps[t]?.getD undef = .pointer (some ⟨g, k, none⟩) := by simpa using h1
  unfold execOp
  rw [ho]
  go_simp
theorem two_cells {w : World} {g : Nat} {a b c : Value} {T : TypeId} (h : w.heap[g]? = some (.cells #[a, b, c] T (0, 0))) : w.cell? ⟨g, 0, none⟩ = some a ∧ w.cell? ⟨g, 1, none⟩ = some b ∧ w.cell? ⟨g, 2, none⟩ = some c := by
  have hx := Lib.cell_of_heap h
  exact ⟨hx 0, hx 1, hx 2⟩
theorem op_load_Lbool (a : Act) (w : World) (A : Addr) (t : Nat) (v : Value) (h : a.tmps.getD t undef = .pointer (some A)) (hc : w.cell? A = some v) (oo : Oper) (ho : oo.op = .load 36 (.tmp t)) : (execOp a.eval oo).run Try.prog w = .ok (.value v) w := by
  have h' : a.tmps[t]?.getD undef = .pointer (some A) := by simpa using h
  unfold execOp
  rw [ho]
  go_simp
/-- what operation j of the region leaves -/
def no5R (gb n vi : Nat) (lv : Int) : Nat → (Nat → Value) → World → Prop
  | 0, f, _ => f 21 = .slice (some ⟨gb, 0, none⟩) n n
  | 1, f, _ => f 22 = .int .i64 lv
  | 2, f, _ => f 23 = .int .i64 (vi : Int)
  | 3, f, _ => f 24 = .pointer (some ⟨gb, vi, none⟩)
  | 4, _, _ => True
  | _, _, _ => True
def no5M : Nat → List Nat
  | 0 => [21]
  | 1 => [22]
  | 2 => [23]
  | 3 => [24]
  | 4 => []
  | _ => []
theorem no5_stab {gb n vi : Nat} {lv : Int} (jj : Nat) {f f' : Nat → Value} {w w' : World}  (hf : ∀ t ∈ no5M jj, f' t = f t) (h : no5R gb n vi lv jj f w) : no5R gb n vi lv jj f' w' := by
  match jj, hf, h with
  | 0, hf, h => exact (hf 21 (by decide)).trans h
  | 1, hf, h => exact (hf 22 (by decide)).trans h
  | 2, hf, h => exact (hf 23 (by decide)).trans h
  | 3, hf, h => exact (hf 24 (by decide)).trans h
  | 4, _, _ => trivial
  | _ + 5, _, _ => trivial
theorem op_field_api_Latch_0 (a : Act) (w : World) (b : Nat) (t : Nat) (h : a.tmps.getD t undef = .pointer (some ⟨b, 0, none⟩)) (oo : Oper) (ho : oo.op = .fieldAddr 39 (.tmp t) 0) : (execOp a.eval oo).run Try.prog w = .ok (.value (.pointer (some ⟨b, 0, none⟩))) w := by
  have h' : a.tmps[t]?.getD undef = .pointer (some ⟨b, 0, none⟩) := by simpa using h
  unfold execOp
  rw [ho]
  go_simp
theorem op_load_int (a : Act) (w : World) (A : Addr) (t : Nat) (v : Value) (h : a.tmps.getD t undef = .pointer (some A)) (hc : w.cell? A = some v) (oo : Oper) (ho : oo.op = .load 3 (.tmp t)) : (execOp a.eval oo).run Try.prog w = .ok (.value v) w := by
  have h' : a.tmps[t]?.getD undef = .pointer (some A) := by simpa using h
  unfold execOp
  rw [ho]
  go_simp
/-- what operation j of the region leaves -/
def no10R (gb gt n vi : Nat) (lv : Int) : Nat → (Nat → Value) → World → Prop
  | 0, f, _ => f 33 = .slice (some ⟨gb, 0, none⟩) n n
  | 1, f, _ => f 34 = .pointer (some ⟨gt, 0, none⟩)
  | 2, f, _ => f 35 = .int .i64 lv
  | 3, f, _ => f 36 = .int .i64 (vi : Int)
  | 4, f, _ => f 37 = .pointer (some ⟨gb, vi, none⟩)
  | 5, _, _ => True
  | _, _, _ => True
def no10M : Nat → List Nat
  | 0 => [33]
  | 1 => [34]
  | 2 => [35]
  | 3 => [36]
  | 4 => [37]
  | 5 => []
  | _ => []
theorem no10_stab {gb gt n vi : Nat} {lv : Int} (jj : Nat) {f f' : Nat → Value} {w w' : World}  (hf : ∀ t ∈ no10M jj, f' t = f t) (h : no10R gb gt n vi lv jj f w) : no10R gb gt n vi lv jj f' w' := by
  match jj, hf, h with
  | 0, hf, h => exact (hf 33 (by decide)).trans h
  | 1, hf, h => exact (hf 34 (by decide)).trans h
  | 2, hf, h => exact (hf 35 (by decide)).trans h
  | 3, hf, h => exact (hf 36 (by decide)).trans h
  | 4, hf, h => exact (hf 37 (by decide)).trans h
  | 5, _, _ => trivial
  | _ + 6, _, _ => trivial
theorem op_field_api_And_0 (a : Act) (w : World) (b : Nat) (t : Nat) (h : a.tmps.getD t undef = .pointer (some ⟨b, 0, none⟩)) (oo : Oper) (ho : oo.op = .fieldAddr 43 (.tmp t) 0) : (execOp a.eval oo).run Try.prog w = .ok (.value (.pointer (some ⟨b, 0, none⟩))) w := by
  have h' : a.tmps[t]?.getD undef = .pointer (some ⟨b, 0, none⟩) := by simpa using h
  unfold execOp
  rw [ho]
  go_simp
/-- what operation j of the region leaves -/
def no15R (gb gt n vi : Nat) (lv : Int) : Nat → (Nat → Value) → World → Prop
  | 0, f, _ => f 46 = .slice (some ⟨gb, 0, none⟩) n n
  | 1, f, _ => f 47 = .pointer (some ⟨gt, 0, none⟩)
  | 2, f, _ => f 48 = .int .i64 lv
  | 3, f, _ => f 49 = .int .i64 (vi : Int)
  | 4, f, _ => f 50 = .pointer (some ⟨gb, vi, none⟩)
  | 5, _, _ => True
  | _, _, _ => True
def no15M : Nat → List Nat
  | 0 => [46]
  | 1 => [47]
  | 2 => [48]
  | 3 => [49]
  | 4 => [50]
  | 5 => []
  | _ => []
theorem no15_stab {gb gt n vi : Nat} {lv : Int} (jj : Nat) {f f' : Nat → Value} {w w' : World}  (hf : ∀ t ∈ no15M jj, f' t = f t) (h : no15R gb gt n vi lv jj f w) : no15R gb gt n vi lv jj f' w' := by
  match jj, hf, h with
  | 0, hf, h => exact (hf 46 (by decide)).trans h
  | 1, hf, h => exact (hf 47 (by decide)).trans h
  | 2, hf, h => exact (hf 48 (by decide)).trans h
  | 3, hf, h => exact (hf 49 (by decide)).trans h
  | 4, hf, h => exact (hf 50 (by decide)).trans h
  | 5, _, _ => trivial
  | _ + 6, _, _ => trivial
set_option maxHeartbeats 16000000 in
set_option maxRecDepth 100000 in
theorem isnothing_any (c : Cir) (s : Places) (w : World) (h : CLies w w.heap.size c s) (hf : CFits c s) (hr : refOk c = true) :
    Calls Try.prog 116 #[cirV c s] w fun e w' => (∃ bx, e = .returned (nothV bx) ∧ NothAt w' c bx) ∧ Below w.heap.size w w' := by
  obtain ⟨m, hm, hm2⟩ := max_nat hr
  obtain ⟨WA, hWA⟩ : ∃ x, w.alloc (.cells #[.int .i64 c.max, .slice s.ai c.ins.length s.ki, .slice s.al c.lats.length s.kl, .slice s.ao c.outs.length s.ko, .slice s.ab c.bads.length s.kb, .slice s.ac c.invs.length s.kc, .slice s.aa c.ands.length s.ka, .slice s.an c.names.length s.kn] 27) = x := ⟨_, rfl⟩
  have bA : Hid (Below w.heap.size w WA) := by unfold Hid; rw [← hWA]; exact (Below.refl _ _).alloc (Nat.le_refl _) _
  have GA : Hid (WA.heap[w.heap.size]? = some (.cells (cirC c s) 27 (0, 0))) := by unfold Hid; rw [← hWA]; exact Array.getElem?_push_size
  obtain ⟨e0, e1, e2, e3, e4, e5, e6, e7⟩ := cells8 GA.out
  rw [hm] at e0
  have hmk : ∀ w, (Instr.makeSlice 36 (.int .i64 ((m : Int) + 1)) (.int .i64 ((m : Int) + 1))).run Try.prog w = .ok (.slice (some ⟨w.heap.size, 0, none⟩) (m + 1) (m + 1)) (w.alloc (.cells (madeCells #[.bool false] (m + 1)) 4)) := fun w => run_make_row' (P := Try.prog) 36 4 (.bool false) 1 Try.underlying36 infoBool rfl .i64 .i64 (m + 1) (by omega) (by omega) w
  have HF := Lib.hid hf
  have HR := Lib.hid hr
  have LW : Hid (∀ x, Below w.heap.size w x → CLies x x.heap.size c s) := fun x hx => (h.below hx).more hx.size
  have HM := Lib.hid hm
  have HZ := Lib.hid (ref_sizes hr)
  have VA := Lib.hid (fun x w h => var_any x w h)
  obtain ⟨wm, hwm⟩ : ∃ x, WA.alloc (.cells (madeCells #[.bool false] (m + 1)) 4) = x := ⟨_, rfl⟩
  have I0 : Hid (IsBits wm WA.heap.size (m + 1) (markM [])) := by unfold Hid; rw [← hwm]; exact bits_made
  have BM : Hid (Below w.heap.size w wm) := by unfold Hid; rw [← hwm]; exact bA.out.alloc bA.out.size _
  have SM : Hid (wm.heap.size = WA.heap.size + 1) := by unfold Hid; rw [← hwm]; simp
  have BAM : Hid (Below WA.heap.size WA wm) := by unfold Hid; rw [← hwm]; exact (Below.refl _ _).alloc (Nat.le_refl _) _
  obtain ⟨ws, hws⟩ : ∃ x, wm.alloc (.cells #[.slice (some ⟨WA.heap.size, 0, none⟩) (m + 1) (m + 1)] 36) = x := ⟨_, rfl⟩
  have BS : Hid (Below wm.heap.size wm ws) := by unfold Hid; rw [← hws]; exact (Below.refl _ _).alloc (Nat.le_refl _) _
  have GS : Hid (ws.heap[wm.heap.size]? = some (.cells #[.slice (some ⟨WA.heap.size, 0, none⟩) (m + 1) (m + 1)] 36 (0, 0))) := by unfold Hid; rw [← hws]; exact Array.getElem?_push_size
  have BWS : Hid (Below WA.heap.size WA ws) := BAM.out.trans (BS.out.mono BAM.out.size)
  have GWS : Hid (ws.heap[w.heap.size]? = some (.cells (cirC c s) 27 (0, 0))) := (BWS.out.block _ (lt_of_block GA.out)).trans GA.out
  obtain ⟨z0, z1, z2, z3, z4, z5, z6, z7⟩ := cells8 GWS.out
  clear h hf hr hm
  unfold cirV
  rw [show cirC c s = #[.int .i64 c.max, .slice s.ai c.ins.length s.ki, .slice s.al c.lats.length s.kl, .slice s.ao c.outs.length s.ko, .slice s.ab c.bads.length s.kb, .slice s.ac c.invs.length s.kc, .slice s.aa c.ands.length s.ka, .slice s.an c.names.length s.kn] from rfl]
  go_enter Try.func116, Try.ntmps116
  go_wp2
  clear e0 e1 e2 e3 e4 e5 e6 e7 z0 z1 z2 z3 z4 z5 z6 z7 hWA hmk hwm hws
  have I1 : Hid (IsBits ws WA.heap.size (m + 1) (markM [])) := by
    obtain ⟨cur, c1, c2, c3⟩ := I0.out.blk
    exact ⟨cur, (BS.out.block _ (by have := SM.out; omega)).trans c1, c2, c3⟩
  clear I0 BM BAM BS
  go_loopw [17] (fun i wr => ∃ j : Nat, j ≤ c.ins.length ∧ i = .int .i64 j ∧ IsBits wr WA.heap.size (m + 1) (markM (c.ins.take j)) ∧ wr.heap[wm.heap.size]? = some (.cells #[.slice (some ⟨WA.heap.size, 0, none⟩) (m + 1) (m + 1)] 36 (0, 0)) ∧ Below WA.heap.size WA wr) (fun i _ => c.ins.length - (intOf i).toNat)
  case atStart => exact ⟨0, Nat.zero_le _, rfl, I1.out, GS.out, BWS.out⟩
  case round =>
    clear I1 GS BWS GWS
    obtain ⟨j, hj, rfl, hib, hbx, hbw⟩ := hrel
    have IB := Lib.hid hib
    have GX := Lib.hid hbx
    have BW := Lib.hid hbw
    clear hib hbx hbw
    have zi : c.ins.length ≤ 64 := HZ.out.1
    by_cases hlt : j < c.ins.length
    · obtain ⟨b0, o, hA, -, hc⟩ := LRow.int (LW.out wr (bA.out.trans (BW.out.mono bA.out.size))).ins hlt
      rw [hA]
      clear hA
      have hx := (own_facts HR.out).2 c.ins[j] (by unfold own; simp)
      obtain ⟨v, hv⟩ : ∃ v : Nat, c.ins[j] / 2 = (v : Int) := ⟨(c.ins[j] / 2).toNat, by omega⟩
      have hvm : v < m + 1 := by have := HM.out; omega
      have V1 := Lib.hid (fun w => VA.out c.ins[j] w (by have := HM.out; omega))
      rw [cnt_pos _ (by omega), hv] at V1
      have HMK := Lib.hid (mark_more (c.ins.take j) c.ins[j])
      rw [hv, ← List.take_succ_eq_append_getElem hlt] at HMK
      have bd : Below wr.heap.size wr wr.drew := (Below.refl _ _).drew
      have ID : IsBits wr.drew WA.heap.size (m + 1) (markM (c.ins.take j)) := by
        obtain ⟨cur, c1, c2, c3⟩ := IB.out.blk
        exact ⟨cur, (bd.block _ (Array.getElem?_eq_some_iff.1 c1).1).trans c1, c2, c3⟩
      have GD : wr.drew.heap[wm.heap.size]? = some (.cells #[.slice (some ⟨WA.heap.size, 0, none⟩) (m + 1) (m + 1)] 36 (0, 0)) := (bd.block _ (Array.getElem?_eq_some_iff.1 GX.out).1).trans GX.out
      obtain ⟨W1, u, ⟨hW1, pZ, tZ⟩, IZ, FZ⟩ := bits_store ID v hvm true
      have I2 : Hid (IsBits W1 WA.heap.size (m + 1) (markM (c.ins.take (j + 1)))) := by unfold Hid; rw [HMK.out]; exact IZ
      have B2 : Hid (Below WA.heap.size WA W1) := FZ.below (BW.out.trans (bd.mono BW.out.size)) (Nat.le_refl _)
      have G2 : Hid (W1.heap[wm.heap.size]? = some (.cells #[.slice (some ⟨WA.heap.size, 0, none⟩) (m + 1) (m + 1)] 36 (0, 0))) := (FZ.b _ (by have := SM.out; omega)).trans GD
      have LV : Hid (wr.drew.cell? ⟨wm.heap.size, 0, none⟩ = some (.slice (some ⟨WA.heap.size, 0, none⟩) (m + 1) (m + 1))) := by unfold Hid; simp [World.cell?, GD]
      have C1 := Lib.hid pZ
      have Z1 := Lib.hid tZ
      have HW1 := Lib.hid hW1
      have HVI : Hid (v < m + 1) := hvm
      have EV : Hid (∀ args w, (callFunc 59 args).run Try.prog w = .ok (.enter 59 args) w) := enters_of Try.func59 (by kernel_rfl) rfl
      obtain ⟨vi, rfl⟩ : ∃ x, x = v := ⟨_, rfl⟩
      clear IZ FZ ID GD HMK hx hv pZ tZ hW1 bd hvm
      generalize c.ins[j] = x at *
      go_wp2
      refine wp_region_valsE (by kernel_rfl) (by kernel_rfl) no5M (by kernel_rfl) (by kernel_rfl)
        (Sole 4 wr.drew W1) (no5R WA.heap.size (m + 1) vi x) (Sole.start _ _ _) (fun jj f f' w w' hb hf h => no5_stab jj  hf h) ?_ ?_
      · intro i oo d a' w' ho hd hun hdf hok hDE K hK hK0
        match i, ho, hd, hDE, hK, hK0, hun with
        | 0, ho, hd, hDE, hK, hK0, hun =>
          have e := (congrArg Oper.op (Option.some.inj ho)).symm
          obtain rfl := Option.some.inj ho
          exact wp_val (op_load_Lbool a' w' _ 3 _ (hun 3 (by kernel_rfl)) (by rw [hok.c0 (hd 4 (by kernel_rfl))]; exact LV.out) _ e) (hK _ _ (Below.refl _ _) (hok.read (by decide)) (fun f h1 _ => h1 _ rfl))
        | 1, ho, hd, hDE, hK, hK0, hun =>
          have e := (congrArg Oper.op (Option.some.inj ho)).symm
          obtain rfl := Option.some.inj ho
          exact wp_val (op_move a' w' 5 _ e) (hK _ _ (Below.refl _ _) (hok.read (by decide)) (fun f h1 _ => (h1 _ rfl).trans (hun 5 (by kernel_rfl))))
        | 2, ho, hd, hDE, hK, hK0, hun =>
          have e := (congrArg Oper.op (Option.some.inj ho)).symm
          obtain rfl := Option.some.inj ho
          refine wp_enter (op_call1 a' w' _ 22 _ EV.out _ e) ?_
          rw [show a'.tmps.getD 22 undef = .int .i64 x from (hDE 1 (by kernel_rfl)).2]
          refine (V1.out w').mono ?_
          rintro e w'' ⟨rfl, rfl⟩
          exact .inl ⟨_, rfl, hK _ _ (Below.refl _ _) (hok.read (by decide)) (fun f h1 _ => h1 _ rfl)⟩
        | 3, ho, hd, hDE, hK, hK0, hun =>
          have e := (congrArg Oper.op (Option.some.inj ho)).symm
          obtain rfl := Option.some.inj ho
          exact wp_val (op_index_bits a' w' _ _ _ 21 23 (hDE 0 (by kernel_rfl)).2 (hDE 2 (by kernel_rfl)).2 HVI.out _ e) (hK _ _ (Below.refl _ _) (hok.read (by decide)) (fun f h1 _ => h1 _ rfl))
        | 4, ho, hd, hDE, hK, hK0, hun =>
          have e := (congrArg Oper.op (Option.some.inj ho)).symm
          obtain rfl := Option.some.inj ho
          have hr := op_store_true a' wr.drew WA.heap.size vi u 24 (hDE 3 (by kernel_rfl)).2 C1.out Z1.out _ e
          rw [HW1.out, ← hok.c0 (hd 4 (by kernel_rfl))] at hr
          exact wp_skip' hr (hK0 _ _ (Sole.did _ _ _ _) (fun f h1 h2 => trivial) (fun j f hj hf hq => no5_stab j hf hq))
        | i + 5, ho, _, _, _, _, _ => exact absurd ho (by simp)
      · intro a' wz hsz hdf hkt hok hR
        have HF3 := frame_sets [21, 22, 23, 24] (by kernel_rfl) hsz hkt
        obtain ⟨d, hok, hall⟩ := hok
        have hw := hok.c1 (hall 4 (by decide))
        subst hw
        obtain ⟨tm, df⟩ := a'
        obtain rfl : df = _ := hdf
        simp only [List.foldl_cons, List.foldl_nil] at HF3
        clear hkt hR hsz
        generalize tm.getD 21 undef = y21 at HF3
        generalize tm.getD 22 undef = y22 at HF3
        generalize tm.getD 23 undef = y23 at HF3
        generalize tm.getD 24 undef = y24 at HF3
        simp only [List.setIfInBounds_toArray, List.set_cons_succ, List.set_cons_zero] at HF3
        subst HF3
        clear hok hall LV C1 Z1 HW1 V1 HVI EV
        go_wp2
        go_roundw
        case rel => exact ⟨j + 1, by omega, by go_num, I2.out, G2.out, B2.out⟩
        case measure => simp [intOf]; omega
    · obtain rfl : j = c.ins.length := by omega
      obtain ⟨wq, rfl⟩ : ∃ x, x = wr := ⟨_, rfl⟩
      have GC : Hid (wq.heap[w.heap.size]? = some (.cells (cirC c s) 27 (0, 0))) := (BW.out.block _ (lt_of_block GA.out)).trans GA.out
      obtain ⟨e0, e1, e2, e3, e4, e5, e6, e7⟩ := cells8 GC.out
      have I3 : Hid (IsBits wq WA.heap.size (m + 1) (markM (c.ins ++ (c.lats.map Tri.a).take 0))) := by have h := IB.out; rw [List.take_length] at h; unfold Hid; simpa using h
      go_wp2
      clear e0 e1 e2 e3 e4 e5 e6 e7
      go_loopw [29] (fun i wr => ∃ j : Nat, j ≤ c.lats.length ∧ i = .int .i64 j ∧ IsBits wr WA.heap.size (m + 1) (markM (c.ins ++ (c.lats.map Tri.a).take j)) ∧ wr.heap[wm.heap.size]? = some (.cells #[.slice (some ⟨WA.heap.size, 0, none⟩) (m + 1) (m + 1)] 36 (0, 0)) ∧ Below WA.heap.size WA wr) (fun i _ => c.lats.length - (intOf i).toNat)
      case atStart => exact ⟨0, Nat.zero_le _, rfl, I3.out, GX.out, BW.out⟩
      case round =>
        clear I3 GX BW IB GC
        obtain ⟨j, hj, rfl, hib, hbx, hbw⟩ := hrel
        have IB := Lib.hid hib
        have GX := Lib.hid hbx
        have BW := Lib.hid hbw
        clear hib hbx hbw
        have zi : c.lats.length ≤ 64 := HZ.out.2.1
        by_cases hlt : j < c.lats.length
        · obtain ⟨b0, o, hA, -, c0, c1, c2⟩ := LRow.tri (LW.out wr (bA.out.trans (BW.out.mono bA.out.size))).lats hlt
          rw [hA]
          clear hA
          have hx := (own_facts HR.out).2 c.lats[j].a (List.mem_append.2 (.inr (List.mem_append.2 (.inl (List.mem_map_of_mem (List.getElem_mem hlt))))))
          obtain ⟨v, hv⟩ : ∃ v : Nat, c.lats[j].a / 2 = (v : Int) := ⟨(c.lats[j].a / 2).toNat, by omega⟩
          have hvm : v < m + 1 := by have := HM.out; omega
          have V1 := Lib.hid (fun w => VA.out c.lats[j].a w (by have := HM.out; omega))
          rw [cnt_pos _ (by omega), hv] at V1
          have HMK := Lib.hid (mark_more (c.ins ++ (c.lats.map Tri.a).take j) c.lats[j].a)
          rw [hv, List.append_assoc, show (c.lats.map Tri.a).take j ++ [c.lats[j].a] = (c.lats.map Tri.a).take (j + 1) by rw [List.take_succ_eq_append_getElem (by simpa using hlt), List.getElem_map]] at HMK
          obtain ⟨wt, hwt⟩ : ∃ x, wr.alloc (.cells #[.int .i64 c.lats[j].a, .int .i64 c.lats[j].b, .int .i64 c.lats[j].c] 39) = x := ⟨_, rfl⟩
          have bt : Below wr.heap.size wr wt := by rw [← hwt]; exact (Below.refl _ _).alloc (Nat.le_refl _) _
          have KT : Hid (wt.heap[wr.heap.size]? = some (.cells #[.int .i64 c.lats[j].a, .int .i64 c.lats[j].b, .int .i64 c.lats[j].c] 39 (0, 0))) := by unfold Hid; rw [← hwt]; exact Array.getElem?_push_size
          have LT0 : Hid (wt.drew.cell? ⟨wr.heap.size, 0, none⟩ = some (.int .i64 c.lats[j].a)) := (two_cells (w := wt.drew) KT.out).1
          have bd : Below wr.heap.size wr wt.drew := bt.drew
          have ID : IsBits wt.drew WA.heap.size (m + 1) (markM (c.ins ++ (c.lats.map Tri.a).take j)) := by
            obtain ⟨cur, c1, c2, c3⟩ := IB.out.blk
            exact ⟨cur, (bd.block _ (Array.getElem?_eq_some_iff.1 c1).1).trans c1, c2, c3⟩
          have GD : wt.drew.heap[wm.heap.size]? = some (.cells #[.slice (some ⟨WA.heap.size, 0, none⟩) (m + 1) (m + 1)] 36 (0, 0)) := (bd.block _ (Array.getElem?_eq_some_iff.1 GX.out).1).trans GX.out
          obtain ⟨W1, u, ⟨hW1, pZ, tZ⟩, IZ, FZ⟩ := bits_store ID v hvm true
          have I2 : Hid (IsBits W1 WA.heap.size (m + 1) (markM (c.ins ++ (c.lats.map Tri.a).take (j + 1)))) := by unfold Hid; rw [HMK.out]; exact IZ
          have B2 : Hid (Below WA.heap.size WA W1) := FZ.below (BW.out.trans (bd.mono BW.out.size)) (Nat.le_refl _)
          have G2 : Hid (W1.heap[wm.heap.size]? = some (.cells #[.slice (some ⟨WA.heap.size, 0, none⟩) (m + 1) (m + 1)] 36 (0, 0))) := (FZ.b _ (by have := SM.out; omega)).trans GD
          have LV : Hid (wt.drew.cell? ⟨wm.heap.size, 0, none⟩ = some (.slice (some ⟨WA.heap.size, 0, none⟩) (m + 1) (m + 1))) := by unfold Hid; simp [World.cell?, GD]
          have C1 := Lib.hid pZ
          have Z1 := Lib.hid tZ
          have HW1 := Lib.hid hW1
          have HVI : Hid (v < m + 1) := hvm
          have EV : Hid (∀ args w, (callFunc 59 args).run Try.prog w = .ok (.enter 59 args) w) := enters_of Try.func59 (by kernel_rfl) rfl
          obtain ⟨vi, rfl⟩ : ∃ x, x = v := ⟨_, rfl⟩
          clear IZ FZ ID GD HMK hx hv pZ tZ hW1 bd hvm
          clear KT bt
          generalize c.lats[j] = t at *
          go_wp2
          clear hwt c0 c1 c2
          refine wp_region_valsE (by kernel_rfl) (by kernel_rfl) no10M (by kernel_rfl) (by kernel_rfl)
            (Sole 5 wt.drew W1) (no10R WA.heap.size wr.heap.size (m + 1) vi t.a) (Sole.start _ _ _) (fun jj f f' w w' hb hf h => no10_stab jj  hf h) ?_ ?_
          · intro i oo d a' w' ho hd hun hdf hok hDE K hK hK0
            match i, ho, hd, hDE, hK, hK0, hun with
            | 0, ho, hd, hDE, hK, hK0, hun =>
              have e := (congrArg Oper.op (Option.some.inj ho)).symm
              obtain rfl := Option.some.inj ho
              exact wp_val (op_load_Lbool a' w' _ 3 _ (hun 3 (by kernel_rfl)) (by rw [hok.c0 (hd 5 (by kernel_rfl))]; exact LV.out) _ e) (hK _ _ (Below.refl _ _) (hok.read (by decide)) (fun f h1 _ => h1 _ rfl))
            | 1, ho, hd, hDE, hK, hK0, hun =>
              have e := (congrArg Oper.op (Option.some.inj ho)).symm
              obtain rfl := Option.some.inj ho
              exact wp_val (op_field_api_Latch_0 a' w' _ 7 (hun 7 (by kernel_rfl)) _ e) (hK _ _ (Below.refl _ _) (hok.read (by decide)) (fun f h1 _ => h1 _ rfl))
            | 2, ho, hd, hDE, hK, hK0, hun =>
              have e := (congrArg Oper.op (Option.some.inj ho)).symm
              obtain rfl := Option.some.inj ho
              exact wp_val (op_load_int a' w' _ 34 _ (hDE 1 (by kernel_rfl)).2 (by rw [hok.c0 (hd 5 (by kernel_rfl))]; exact LT0.out) _ e) (hK _ _ (Below.refl _ _) (hok.read (by decide)) (fun f h1 _ => h1 _ rfl))
            | 3, ho, hd, hDE, hK, hK0, hun =>
              have e := (congrArg Oper.op (Option.some.inj ho)).symm
              obtain rfl := Option.some.inj ho
              refine wp_enter (op_call1 a' w' _ 35 _ EV.out _ e) ?_
              rw [show a'.tmps.getD 35 undef = .int .i64 t.a from (hDE 2 (by kernel_rfl)).2]
              refine (V1.out w').mono ?_
              rintro e w'' ⟨rfl, rfl⟩
              exact .inl ⟨_, rfl, hK _ _ (Below.refl _ _) (hok.read (by decide)) (fun f h1 _ => h1 _ rfl)⟩
            | 4, ho, hd, hDE, hK, hK0, hun =>
              have e := (congrArg Oper.op (Option.some.inj ho)).symm
              obtain rfl := Option.some.inj ho
              exact wp_val (op_index_bits a' w' _ _ _ 33 36 (hDE 0 (by kernel_rfl)).2 (hDE 3 (by kernel_rfl)).2 HVI.out _ e) (hK _ _ (Below.refl _ _) (hok.read (by decide)) (fun f h1 _ => h1 _ rfl))
            | 5, ho, hd, hDE, hK, hK0, hun =>
              have e := (congrArg Oper.op (Option.some.inj ho)).symm
              obtain rfl := Option.some.inj ho
              have hr := op_store_true a' wt.drew WA.heap.size vi u 37 (hDE 4 (by kernel_rfl)).2 C1.out Z1.out _ e
              rw [HW1.out, ← hok.c0 (hd 5 (by kernel_rfl))] at hr
              exact wp_skip' hr (hK0 _ _ (Sole.did _ _ _ _) (fun f h1 h2 => trivial) (fun j f hj hf hq => no10_stab j hf hq))
            | i + 6, ho, _, _, _, _, _ => exact absurd ho (by simp)
          · intro a' wz hsz hdf hkt hok hR
            have HF3 := frame_sets [33, 34, 35, 36, 37] (by kernel_rfl) hsz hkt
            obtain ⟨d, hok, hall⟩ := hok
            have hw := hok.c1 (hall 5 (by decide))
            subst hw
            obtain ⟨tm, df⟩ := a'
            obtain rfl : df = _ := hdf
            simp only [List.foldl_cons, List.foldl_nil] at HF3
            clear hkt hR hsz
            generalize tm.getD 33 undef = y33 at HF3
            generalize tm.getD 34 undef = y34 at HF3
            generalize tm.getD 35 undef = y35 at HF3
            generalize tm.getD 36 undef = y36 at HF3
            generalize tm.getD 37 undef = y37 at HF3
            simp only [List.setIfInBounds_toArray, List.set_cons_succ, List.set_cons_zero] at HF3
            subst HF3
            clear hok hall LV C1 Z1 HW1 V1 HVI EV LT0
            go_wp2
            go_roundw
            case rel => exact ⟨j + 1, by omega, by go_num, I2.out, G2.out, B2.out⟩
            case measure => simp [intOf]; omega
        · obtain rfl : j = c.lats.length := by omega
          obtain ⟨wq, rfl⟩ : ∃ x, x = wr := ⟨_, rfl⟩
          have GC : Hid (wq.heap[w.heap.size]? = some (.cells (cirC c s) 27 (0, 0))) := (BW.out.block _ (lt_of_block GA.out)).trans GA.out
          obtain ⟨e0, e1, e2, e3, e4, e5, e6, e7⟩ := cells8 GC.out
          have I3 : Hid (IsBits wq WA.heap.size (m + 1) (markM (c.ins ++ c.lats.map Tri.a ++ (c.ands.map Tri.a).take 0))) := by have h := IB.out; rw [List.take_of_length_le (by simp)] at h; unfold Hid; simpa using h
          go_wp2
          clear e0 e1 e2 e3 e4 e5 e6 e7
          go_loopw [42] (fun i wr => ∃ j : Nat, j ≤ c.ands.length ∧ i = .int .i64 j ∧ IsBits wr WA.heap.size (m + 1) (markM (c.ins ++ c.lats.map Tri.a ++ (c.ands.map Tri.a).take j)) ∧ wr.heap[wm.heap.size]? = some (.cells #[.slice (some ⟨WA.heap.size, 0, none⟩) (m + 1) (m + 1)] 36 (0, 0)) ∧ Below WA.heap.size WA wr) (fun i _ => c.ands.length - (intOf i).toNat)
          case atStart => exact ⟨0, Nat.zero_le _, rfl, I3.out, GX.out, BW.out⟩
          case round =>
            clear I3 GX BW IB GC
            obtain ⟨j, hj, rfl, hib, hbx, hbw⟩ := hrel
            have IB := Lib.hid hib
            have GX := Lib.hid hbx
            have BW := Lib.hid hbw
            clear hib hbx hbw
            have zi : c.ands.length ≤ 4097 := HZ.out.2.2.2.2.2
            by_cases hlt : j < c.ands.length
            · obtain ⟨b0, o, hA, -, c0, c1, c2⟩ := LRow.tri (LW.out wr (bA.out.trans (BW.out.mono bA.out.size))).ands hlt
              rw [hA]
              clear hA
              have hx := (own_facts HR.out).2 c.ands[j].a (List.mem_append.2 (.inr (List.mem_append.2 (.inr (List.mem_map_of_mem (List.getElem_mem hlt))))))
              obtain ⟨v, hv⟩ : ∃ v : Nat, c.ands[j].a / 2 = (v : Int) := ⟨(c.ands[j].a / 2).toNat, by omega⟩
              have hvm : v < m + 1 := by have := HM.out; omega
              have V1 := Lib.hid (fun w => VA.out c.ands[j].a w (by have := HM.out; omega))
              rw [cnt_pos _ (by omega), hv] at V1
              have HMK := Lib.hid (mark_more (c.ins ++ c.lats.map Tri.a ++ (c.ands.map Tri.a).take j) c.ands[j].a)
              rw [hv, List.append_assoc, show (c.ands.map Tri.a).take j ++ [c.ands[j].a] = (c.ands.map Tri.a).take (j + 1) by rw [List.take_succ_eq_append_getElem (by simpa using hlt), List.getElem_map]] at HMK
              obtain ⟨wt, hwt⟩ : ∃ x, wr.alloc (.cells #[.int .i64 c.ands[j].a, .int .i64 c.ands[j].b, .int .i64 c.ands[j].c] 43) = x := ⟨_, rfl⟩
              have bt : Below wr.heap.size wr wt := by rw [← hwt]; exact (Below.refl _ _).alloc (Nat.le_refl _) _
              have KT : Hid (wt.heap[wr.heap.size]? = some (.cells #[.int .i64 c.ands[j].a, .int .i64 c.ands[j].b, .int .i64 c.ands[j].c] 43 (0, 0))) := by unfold Hid; rw [← hwt]; exact Array.getElem?_push_size
              have LT0 : Hid (wt.drew.cell? ⟨wr.heap.size, 0, none⟩ = some (.int .i64 c.ands[j].a)) := (two_cells (w := wt.drew) KT.out).1
              have bd : Below wr.heap.size wr wt.drew := bt.drew
              have ID : IsBits wt.drew WA.heap.size (m + 1) (markM (c.ins ++ c.lats.map Tri.a ++ (c.ands.map Tri.a).take j)) := by
                obtain ⟨cur, c1, c2, c3⟩ := IB.out.blk
                exact ⟨cur, (bd.block _ (Array.getElem?_eq_some_iff.1 c1).1).trans c1, c2, c3⟩
              have GD : wt.drew.heap[wm.heap.size]? = some (.cells #[.slice (some ⟨WA.heap.size, 0, none⟩) (m + 1) (m + 1)] 36 (0, 0)) := (bd.block _ (Array.getElem?_eq_some_iff.1 GX.out).1).trans GX.out
              obtain ⟨W1, u, ⟨hW1, pZ, tZ⟩, IZ, FZ⟩ := bits_store ID v hvm true
              have I2 : Hid (IsBits W1 WA.heap.size (m + 1) (markM (c.ins ++ c.lats.map Tri.a ++ (c.ands.map Tri.a).take (j + 1)))) := by unfold Hid; rw [HMK.out]; exact IZ
              have B2 : Hid (Below WA.heap.size WA W1) := FZ.below (BW.out.trans (bd.mono BW.out.size)) (Nat.le_refl _)
              have G2 : Hid (W1.heap[wm.heap.size]? = some (.cells #[.slice (some ⟨WA.heap.size, 0, none⟩) (m + 1) (m + 1)] 36 (0, 0))) := (FZ.b _ (by have := SM.out; omega)).trans GD
              have LV : Hid (wt.drew.cell? ⟨wm.heap.size, 0, none⟩ = some (.slice (some ⟨WA.heap.size, 0, none⟩) (m + 1) (m + 1))) := by unfold Hid; simp [World.cell?, GD]
              have C1 := Lib.hid pZ
              have Z1 := Lib.hid tZ
              have HW1 := Lib.hid hW1
              have HVI : Hid (v < m + 1) := hvm
              have EV : Hid (∀ args w, (callFunc 59 args).run Try.prog w = .ok (.enter 59 args) w) := enters_of Try.func59 (by kernel_rfl) rfl
              obtain ⟨vi, rfl⟩ : ∃ x, x = v := ⟨_, rfl⟩
              clear IZ FZ ID GD HMK hx hv pZ tZ hW1 bd hvm
              clear KT bt
              generalize c.ands[j] = t at *
              go_wp2
              clear hwt c0 c1 c2
              refine wp_region_valsE (by kernel_rfl) (by kernel_rfl) no15M (by kernel_rfl) (by kernel_rfl)
                (Sole 5 wt.drew W1) (no15R WA.heap.size wr.heap.size (m + 1) vi t.a) (Sole.start _ _ _) (fun jj f f' w w' hb hf h => no15_stab jj  hf h) ?_ ?_
              · intro i oo d a' w' ho hd hun hdf hok hDE K hK hK0
                match i, ho, hd, hDE, hK, hK0, hun with
                | 0, ho, hd, hDE, hK, hK0, hun =>
                  have e := (congrArg Oper.op (Option.some.inj ho)).symm
                  obtain rfl := Option.some.inj ho
                  exact wp_val (op_load_Lbool a' w' _ 3 _ (hun 3 (by kernel_rfl)) (by rw [hok.c0 (hd 5 (by kernel_rfl))]; exact LV.out) _ e) (hK _ _ (Below.refl _ _) (hok.read (by decide)) (fun f h1 _ => h1 _ rfl))
                | 1, ho, hd, hDE, hK, hK0, hun =>
                  have e := (congrArg Oper.op (Option.some.inj ho)).symm
                  obtain rfl := Option.some.inj ho
                  exact wp_val (op_field_api_And_0 a' w' _ 9 (hun 9 (by kernel_rfl)) _ e) (hK _ _ (Below.refl _ _) (hok.read (by decide)) (fun f h1 _ => h1 _ rfl))
                | 2, ho, hd, hDE, hK, hK0, hun =>
                  have e := (congrArg Oper.op (Option.some.inj ho)).symm
                  obtain rfl := Option.some.inj ho
                  exact wp_val (op_load_int a' w' _ 47 _ (hDE 1 (by kernel_rfl)).2 (by rw [hok.c0 (hd 5 (by kernel_rfl))]; exact LT0.out) _ e) (hK _ _ (Below.refl _ _) (hok.read (by decide)) (fun f h1 _ => h1 _ rfl))
                | 3, ho, hd, hDE, hK, hK0, hun =>
                  have e := (congrArg Oper.op (Option.some.inj ho)).symm
                  obtain rfl := Option.some.inj ho
                  refine wp_enter (op_call1 a' w' _ 48 _ EV.out _ e) ?_
                  rw [show a'.tmps.getD 48 undef = .int .i64 t.a from (hDE 2 (by kernel_rfl)).2]
                  refine (V1.out w').mono ?_
                  rintro e w'' ⟨rfl, rfl⟩
                  exact .inl ⟨_, rfl, hK _ _ (Below.refl _ _) (hok.read (by decide)) (fun f h1 _ => h1 _ rfl)⟩
                | 4, ho, hd, hDE, hK, hK0, hun =>
                  have e := (congrArg Oper.op (Option.some.inj ho)).symm
                  obtain rfl := Option.some.inj ho
                  exact wp_val (op_index_bits a' w' _ _ _ 46 49 (hDE 0 (by kernel_rfl)).2 (hDE 3 (by kernel_rfl)).2 HVI.out _ e) (hK _ _ (Below.refl _ _) (hok.read (by decide)) (fun f h1 _ => h1 _ rfl))
                | 5, ho, hd, hDE, hK, hK0, hun =>
                  have e := (congrArg Oper.op (Option.some.inj ho)).symm
                  obtain rfl := Option.some.inj ho
                  have hr := op_store_true a' wt.drew WA.heap.size vi u 50 (hDE 4 (by kernel_rfl)).2 C1.out Z1.out _ e
                  rw [HW1.out, ← hok.c0 (hd 5 (by kernel_rfl))] at hr
                  exact wp_skip' hr (hK0 _ _ (Sole.did _ _ _ _) (fun f h1 h2 => trivial) (fun j f hj hf hq => no15_stab j hf hq))
                | i + 6, ho, _, _, _, _, _ => exact absurd ho (by simp)
              · intro a' wz hsz hdf hkt hok hR
                have HF3 := frame_sets [46, 47, 48, 49, 50] (by kernel_rfl) hsz hkt
                obtain ⟨d, hok, hall⟩ := hok
                have hw := hok.c1 (hall 5 (by decide))
                subst hw
                obtain ⟨tm, df⟩ := a'
                obtain rfl : df = _ := hdf
                simp only [List.foldl_cons, List.foldl_nil] at HF3
                clear hkt hR hsz
                generalize tm.getD 46 undef = y46 at HF3
                generalize tm.getD 47 undef = y47 at HF3
                generalize tm.getD 48 undef = y48 at HF3
                generalize tm.getD 49 undef = y49 at HF3
                generalize tm.getD 50 undef = y50 at HF3
                simp only [List.setIfInBounds_toArray, List.set_cons_succ, List.set_cons_zero] at HF3
                subst HF3
                clear hok hall LV C1 Z1 HW1 V1 HVI EV LT0
                go_wp2
                go_roundw
                case rel => exact ⟨j + 1, by omega, by go_num, I2.out, G2.out, B2.out⟩
                case measure => simp [intOf]; omega
            · obtain rfl : j = c.ands.length := by omega
              have HO : Hid (NothAt wr c wm.heap.size) := ⟨WA.heap.size, m + 1, GX.out, by rw [HM.out]; rfl, by omega, by
                have h := IB.out
                rw [List.take_of_length_le (by simp)] at h
                unfold own
                rw [← List.append_assoc]
                exact h⟩
              have BE : Hid (Below w.heap.size w wr) := bA.out.trans (BW.out.mono bA.out.size)
              go_wp2
              go_ret
              exact ⟨⟨_, rfl, HO.out⟩, BE.out⟩
end Go.Proofs.Ytbgcoeejmnejdaa.Tse
