/- The walk of aig's Write; condition: the table of powers of ten is as it is laid. The pages' own look at a circuit, walked: whether it may be; no condition. -/
import Derived.Test.YtopjddmgejfalaaDoorPk17
import Derived.Test.YtopjddmgejfalaaDoorPk21
import Derived.Test.YtopjddmgejfalaaDoorPk04
namespace Go.Proofs.YtopjddmgejfalaaDoor.Aig
open Go.ChangeShapes Go.WideShapes Go.ChangeAt Go.RowKit Go.Maps Dig Circ Cw Aag

/-- what stays while octets are gathered from block B on -/
structure Gath (W : World) (B b : Nat) (l : List UInt8) (w : World) : Prop where
  ws : WS B b l w
  bel : Below B W w
theorem Gath.step {W : World} {B b : Nat} {l l' : List UInt8} {w w' : World} (h : Gath W B b l w) (hw : WS B b l' w') (hb : Below B w w') : Gath W B b l' w' := ⟨hw, h.bel.trans hb⟩
/-- the row of lists of literals that are told -/
def tls (c : Cir) (s : Places) : Array Value := #[.slice s.ao c.outs.length s.ko, .slice s.ab c.bads.length s.kb, .slice s.ac c.invs.length s.kc]
theorem pick3 (c : Cir) (s : Places) (j B : Nat) (w : World) (hj : j < 3) (h : CLies w B c s) (hf : CFits c s) (hz : c.outs.length ≤ 64 ∧ c.bads.length ≤ 64 ∧ c.invs.length ≤ 64) : ∃ A q xs, (tls c s)[j]? = some (.slice A xs.length q) ∧ ([c.outs, c.bads, c.invs] : List (List Int))[j]? = some xs ∧ LRow w B 1 A (ints xs) ∧ (∀ x ∈ xs, I64 x) ∧ xs.length ≤ 64 := by
  match j, hj with
  | 0, _ => exact ⟨s.ao, s.ko, c.outs, rfl, rfl, h.outs, hf.outs, hz.1⟩
  | 1, _ => exact ⟨s.ab, s.kb, c.bads, rfl, rfl, h.bads, hf.bads, hz.2.1⟩
  | 2, _ => exact ⟨s.ac, s.kc, c.invs, rfl, rfl, h.invs, hf.invs, hz.2.2⟩
  | j + 3, h => exact absurd h (by omega)
theorem parts_short (c : Cir) (s : Places) (hf : CFits c s) (hz : c.outs.length ≤ 64 ∧ c.bads.length ≤ 64 ∧ c.invs.length ≤ 64) (j : Nat) : (parts c j).length ≤ 5000 := by
  have h : (parts c j).length ≤ 22 * (told3 c j).flatten.length := nl_lits _ (fun x hx => by
    obtain ⟨l, hl, hx⟩ := List.mem_flatten.1 hx
    have hl := List.mem_of_mem_take hl
    simp only [List.mem_cons, List.not_mem_nil, or_false] at hl
    rcases hl with rfl | rfl | rfl
    · exact hf.outs x hx
    · exact hf.bads x hx
    · exact hf.invs x hx)
  have h2 : (told3 c j).flatten.length ≤ 192 := by
    have e : (([c.outs, c.bads, c.invs] : List (List Int)).flatten).length = (told3 c j).flatten.length + ((([c.outs, c.bads, c.invs] : List (List Int)).drop j).flatten).length := by
      rw [← List.length_append, ← List.flatten_append]
      unfold told3
      rw [List.take_append_drop]
    simp only [List.flatten_cons, List.flatten_nil, List.append_nil, List.length_append] at e
    omega
  omega

theorem write_no (c : Cir) (s : Places) (w : World) (h : CLies w w.heap.size c s) (hf : CFits c s) (hc : ordV c = false) :
    Calls Tryd.prog 12 #[cirV c s] w fun e w' => e = .returned (.tuple #[.slice none 0 0, .int .i64 35]) ∧ Below w.heap.size w w' := by
  obtain ⟨WA, hWA⟩ : ∃ x, w.alloc (.cells #[.int .i64 c.max, .slice s.ai c.ins.length s.ki, .slice s.al c.lats.length s.kl, .slice s.ao c.outs.length s.ko, .slice s.ab c.bads.length s.kb, .slice s.ac c.invs.length s.kc, .slice s.aa c.ands.length s.ka, .slice s.an c.names.length s.kn] 27) = x := ⟨_, rfl⟩
  have sA : WA.heap.size = w.heap.size + 1 := by rw [← hWA]; simp
  have bA : Below w.heap.size w WA := by rw [← hWA]; exact (Below.refl _ _).alloc (Nat.le_refl _) _
  have hA : WA.heap[w.heap.size]? = some (.cells (cirC c s) 27 (0, 0)) := by rw [← hWA]; exact Array.getElem?_push_size
  obtain ⟨e0, e1, e2, e3, e4, e5, e6, e7⟩ := cells8 hA
  have HB1 := Lib.hid bA
  have OD := Lib.hid (ordered_any c s WA ((h.below bA).more (by omega)) hf)
  rw [hc] at OD
  clear h hf hc bA hA
  rw [show cirV c s = .agg #[.int .i64 c.max, .slice s.ai c.ins.length s.ki, .slice s.al c.lats.length s.kl, .slice s.ao c.outs.length s.ko, .slice s.ab c.bads.length s.kb, .slice s.ac c.invs.length s.kc, .slice s.aa c.ands.length s.ka, .slice s.an c.names.length s.kn] from rfl] at OD ⊢
  go_enter Tryd.func12, Tryd.ntmps12
  go_wp2_with fail
  refine OD.out.mono ?_
  rintro e w1 ⟨rfl, hb⟩
  have HB2 := Lib.hid (HB1.out.trans (hb.mono HB1.out.size))
  clear hb OD e0 e1 e2 e3 e4 e5 e6 e7 hWA sA
  go_wp2
  go_ret2
  exact ⟨rfl, HB2.out⟩
theorem op_field_api_Name_0 (a : Act) (w : World) (b : Nat) (t : Nat) (h : a.tmps.getD t undef = .pointer (some ⟨b, 0, none⟩)) (oo : Oper) (ho : oo.op = .fieldAddr 45 (.tmp t) 0) : (execOp a.eval oo).run Tryd.prog w = .ok (.value (.pointer (some ⟨b, 0, none⟩))) w := by
  have h' : a.tmps[t]?.getD undef = .pointer (some ⟨b, 0, none⟩) := by simpa using h
  unfold execOp
  rw [ho]
  go_simp
theorem op_load_string (a : Act) (w : World) (A : Addr) (t : Nat) (v : Value) (h : a.tmps.getD t undef = .pointer (some A)) (hc : w.cell? A = some v) (oo : Oper) (ho : oo.op = .load 9 (.tmp t)) : (execOp a.eval oo).run Tryd.prog w = .ok (.value v) w := by
  have h' : a.tmps[t]?.getD undef = .pointer (some A) := by simpa using h
  unfold execOp
  rw [ho]
  go_simp
theorem op_field_api_Name_1 (a : Act) (w : World) (b : Nat) (t : Nat) (h : a.tmps.getD t undef = .pointer (some ⟨b, 0, none⟩)) (oo : Oper) (ho : oo.op = .fieldAddr 45 (.tmp t) 1) : (execOp a.eval oo).run Tryd.prog w = .ok (.value (.pointer (some ⟨b, 1, none⟩))) w := by
  have h' : a.tmps[t]?.getD undef = .pointer (some ⟨b, 0, none⟩) := by simpa using h
  unfold execOp
  rw [ho]
  go_simp
theorem op_field_api_Name_2 (a : Act) (w : World) (b : Nat) (t : Nat) (h : a.tmps.getD t undef = .pointer (some ⟨b, 0, none⟩)) (oo : Oper) (ho : oo.op = .fieldAddr 45 (.tmp t) 2) : (execOp a.eval oo).run Tryd.prog w = .ok (.value (.pointer (some ⟨b, 2, none⟩))) w := by
  have h' : a.tmps[t]?.getD undef = .pointer (some ⟨b, 0, none⟩) := by simpa using h
  unfold execOp
  rw [ho]
  go_simp
/-- what operation j of the region leaves -/
def wnamR (B X : Nat) (x : Nam) (l : List UInt8) : Nat → (Nat → Value) → World → Prop
  | 0, f, _ => f 81 = .pointer (some ⟨X, 0, none⟩)
  | 1, f, _ => f 82 = .string x.kind
  | 2, f, _ => f 83 = .pointer (some ⟨X, 1, none⟩)
  | 3, f, _ => f 84 = .int .i64 x.num
  | 4, f, _ => f 85 = .string ⟨(Lib.itoa x.num).toArray⟩
  | 5, f, _ => f 86 = .string (catV x)
  | 6, f, _ => f 87 = .pointer (some ⟨X, 2, none⟩)
  | 7, f, _ => f 88 = .string x.text
  | 8, f, w => ∃ g, f 89 = .slice (some ⟨g, 0, none⟩) 2 2 ∧ w.heap[g]? = some (.cells #[.string (catV x), .string x.text] 9 (0, 0))
  | 9, _, w => WS B B (l ++ (namL x ++ [10])) w
  | _, _, _ => True
def wnamM : Nat → List Nat
  | 0 => [81]
  | 1 => [82]
  | 2 => [83]
  | 3 => [84]
  | 4 => [85]
  | 5 => [86]
  | 6 => [87]
  | 7 => [88]
  | 8 => [89]
  | 9 => []
  | _ => []
theorem wnam_stab {B X : Nat} {x : Nam} {l : List UInt8} (jj : Nat) {f f' : Nat → Value} {w w' : World} (h8 : jj = 8 → ∀ g : Nat, w.heap[g]? = some (Obj.cells #[.string (catV x), .string x.text] 9 (0, 0)) → w'.heap[g]? = w.heap[g]?) (h9 : jj = 9 → Below w.heap.size w w') (hf : ∀ t ∈ wnamM jj, f' t = f t) (h : wnamR B X x l jj f w) : wnamR B X x l jj f' w' := by
  match jj, hf, h, h8, h9 with
  | 0, hf, h, _, _ => exact (hf 81 (by decide)).trans h
  | 1, hf, h, _, _ => exact (hf 82 (by decide)).trans h
  | 2, hf, h, _, _ => exact (hf 83 (by decide)).trans h
  | 3, hf, h, _, _ => exact (hf 84 (by decide)).trans h
  | 4, hf, h, _, _ => exact (hf 85 (by decide)).trans h
  | 5, hf, h, _, _ => exact (hf 86 (by decide)).trans h
  | 6, hf, h, _, _ => exact (hf 87 (by decide)).trans h
  | 7, hf, h, _, _ => exact (hf 88 (by decide)).trans h
  | 8, hf, h, h8, h9 =>
    obtain ⟨g, h1, h2⟩ := h
    exact ⟨g, (hf 89 (by decide)).trans h1, (h8 rfl g h2).trans h2⟩
  | 9, hf, h, h8, h9 =>
    exact WS.below h (h9 rfl)
  | _ + 10, _, _, _, _ => trivial

set_option maxHeartbeats 16000000 in
set_option maxRecDepth 100000 in
theorem write_yes (c : Cir) (s : Places) (w : World) (h : CLies w w.heap.size c s) (hf : CFits c s) (hc : ordV c = true) (htab : Tab w) :
    Calls Tryd.prog 12 #[cirV c s] w fun e w' => (∃ g cap, e = .returned (.tuple #[.slice (some ⟨g, 0, none⟩) (oct5 c).length cap, .int .i64 0]) ∧ w'.ownsRow w.heap.size 5 1 (.slice (some ⟨g, 0, none⟩) (oct5 c).length cap) (oct5 c).length (Lib.byteCells (oct5 c))) ∧ Below w.heap.size w w' := by
  obtain ⟨hch, hor⟩ : chk c = true ∧ ordB c = true := by unfold ordV at hc; simpa using hc
  obtain ⟨hfine, z1, z2, z3, z4, z5, z6, z7, z8⟩ := chk_fine c hch
  have SZ : Hid (c.ins.length ≤ 64 ∧ c.lats.length ≤ 64 ∧ c.outs.length ≤ 64 ∧ c.bads.length ≤ 64 ∧ c.invs.length ≤ 64 ∧ c.ands.length ≤ 4097 ∧ c.names.length ≤ 320) := ⟨z1, z2, z3, z4, z5, z6, z7⟩
  have HFI := Lib.hid hfine
  have HF5 := Lib.hid (fine5_of c hch hor)
  have HTX := Lib.hid z8
  obtain ⟨WA, hWA⟩ : ∃ x, w.alloc (.cells #[.int .i64 c.max, .slice s.ai c.ins.length s.ki, .slice s.al c.lats.length s.kl, .slice s.ao c.outs.length s.ko, .slice s.ab c.bads.length s.kb, .slice s.ac c.invs.length s.kc, .slice s.aa c.ands.length s.ka, .slice s.an c.names.length s.kn] 27) = x := ⟨_, rfl⟩
  have sA : WA.heap.size = w.heap.size + 1 := by rw [← hWA]; simp
  have bA : Below w.heap.size w WA := by rw [← hWA]; exact (Below.refl _ _).alloc (Nat.le_refl _) _
  have hA : WA.heap[w.heap.size]? = some (.cells (cirC c s) 27 (0, 0)) := by rw [← hWA]; exact Array.getElem?_push_size
  obtain ⟨e0, e1, e2, e3, e4, e5, e6, e7⟩ := cells8 hA
  have OD := Lib.hid (ordered_any c s WA ((h.below bA).more (by omega)) hf)
  rw [hc] at OD
  have HA := Lib.hid hA
  have HBA := Lib.hid bA
  have SA := Lib.hid sA
  have H := Lib.hid h
  have HF := Lib.hid hf
  have HT := Lib.hid htab
  clear h hf hc htab hfine z1 z2 z3 z4 z5 z6 z7 z8 hA bA hch hor
  rw [show cirV c s = .agg #[.int .i64 c.max, .slice s.ai c.ins.length s.ki, .slice s.al c.lats.length s.kl, .slice s.ao c.outs.length s.ko, .slice s.ab c.bads.length s.kb, .slice s.ac c.invs.length s.kc, .slice s.aa c.ands.length s.ka, .slice s.an c.names.length s.kn] from rfl] at OD ⊢
  go_enter Tryd.func12, Tryd.ntmps12
  go_wp2_with fail
  refine OD.out.mono ?_
  rintro e w1 ⟨rfl, hb⟩
  have BW1 : Hid (Below (w.heap.size + 1) WA w1) := hb.mono (by rw [SA.out]; omega)
  have BW0 : Hid (Below w.heap.size w w1) := HBA.out.trans (BW1.out.mono (by omega))
  have HSB : Hid (w.heap.size + 1 ≤ w1.heap.size) := by have := BW1.out.size; rw [SA.out] at this; exact this
  clear hb OD e0 e1 e2 e3 e4 e5 e6 e7 hWA sA
  obtain ⟨W, hW⟩ : ∃ x, w1.alloc (.cells #[.slice none 0 0, .int .i64 0, .int .i8 0] 60) = x := ⟨_, rfl⟩
  obtain ⟨B, hB⟩ : ∃ x, w1.heap.size = x := ⟨_, rfl⟩
  have WS0 : Hid (WS B B [] W) := by rw [← hB, ← hW]; exact WS.fresh w1
  have WB : Hid (Below B w1 W) := by rw [← hB, ← hW]; exact (Below.refl _ _).alloc (Nat.le_refl _) _
  have WZS : Hid (W.heap.size = B + 1) := by rw [← hB, ← hW]; unfold Hid; simp
  have HB0 := Lib.hid hB
  have FX : Hid (∀ x, Below B W x → x.heap[w.heap.size]? = some (.cells (cirC c s) 27 (0, 0)) ∧ CLies x B c s ∧ Tab x ∧ B ≤ x.heap.size) := fun x hx => by
    have hsb := HSB.out
    have hb0 := HB0.out
    have hbx : Below w.heap.size w x := BW0.out.trans ((WB.out.mono (by omega)).trans (hx.mono (by omega)))
    refine ⟨?_, (H.out.below hbx).more (by omega), Tab.later (w := w) HT.out hbx, ?_⟩
    · rw [hx.block _ (by omega), WB.out.block _ (by omega), BW1.out.block _ (by omega)]; exact HA.out
    · have := hx.size; have := WZS.out; omega
  have G0 : Hid (Gath W B B [] W) := ⟨WS0.out, Below.refl _ _⟩
  have BEX : Hid (∀ x, Below B W x → Below w.heap.size w x) := fun x hx => by
    have hsb := HSB.out
    have hb0 := HB0.out
    exact BW0.out.trans ((WB.out.mono (by omega)).trans (hx.mono (by omega)))
  have HBW : Hid (w.heap.size ≤ B) := by have := HSB.out; have := HB0.out; unfold Hid; omega
  clear WS0 WB WZS HA HBA SA BW1 BW0 H HT
  obtain ⟨e0, e1, e2, e3, e4, e5, e6, e7⟩ := cells8 (FX.out _ G0.out.bel).1
  have L1 := Lib.hid (wheader_any B B c s [] W G0.out.ws (FX.out _ G0.out.bel).2.2.2 HF.out (FX.out _ G0.out.bel).2.2.1 (by simp))
  rw [show cirV c s = .agg #[.int .i64 c.max, .slice s.ai c.ins.length s.ki, .slice s.al c.lats.length s.kl, .slice s.ao c.outs.length s.ko, .slice s.ab c.bads.length s.kb, .slice s.ac c.invs.length s.kc, .slice s.aa c.ands.length s.ka, .slice s.an c.names.length s.kn] from rfl] at L1
  go_wp2_with fail
  refine L1.out.mono ?_
  rintro e x1 ⟨rfl, hws, hb⟩
  have G1 := Lib.hid (G0.out.step hws hb)
  have LE1 : Hid ((head5 c ++ [10]).length ≤ 200) := head5_short c (headNs_i64 c s HF.out)
  rw [List.nil_append] at G1
  clear hws hb L1 hW hB e0 e1 e2 e3 e4 e5 e6 e7 G0
  obtain ⟨e0, e1, e2, e3, e4, e5, e6, e7⟩ := cells8 (FX.out _ G1.out.bel).1
  have zl : c.lats.length ≤ 64 := SZ.out.2.1
  go_wp2
  clear e0 e1 e2 e3 e4 e5 e6 e7
  go_loopw [23] (fun i wr => ∃ j : Nat, j ≤ c.lats.length ∧ i = .int .i64 j ∧ Gath W B B (head5 c ++ [10] ++ nlL ((c.lats.take j).map lat5)) wr) (fun i _ => c.lats.length - (intOf i).toNat)
  case atStart => exact ⟨0, Nat.zero_le _, rfl, by simpa [nlL] using G1.out⟩
  case round =>
    obtain ⟨j, hj, rfl, hg⟩ := hrel
    have G := Lib.hid hg
    clear hg
    have LEJ : Hid ((head5 c ++ [10] ++ nlL ((c.lats.take j).map lat5)).length ≤ 8000) := len_more LE1.out (Nat.le_trans (lats5_short (c.lats.take j) (fun t ht => HF.out.lats t (List.mem_of_mem_take ht))) (by rw [List.length_take]; omega : 70 * (c.lats.take j).length ≤ 6000)) (by decide)
    by_cases hlt : j < c.lats.length
    · obtain ⟨b1, o1, hA, hbb, c0, c1, c2⟩ := ((FX.out _ G.out.bel).2.1.lats).tri hlt
      rw [hA]
      clear hA
      have HT2 := Lib.hid (show nlL ((c.lats.take (j + 1)).map lat5) = nlL ((c.lats.take j).map lat5) ++ (lat5 c.lats[j] ++ [10]) by rw [List.take_succ_eq_append_getElem hlt, List.map_append, List.map_cons, List.map_nil, nl_snoc])
      have hfit := HF.out.lats c.lats[j] (List.getElem_mem _)
      have hal : Below wr.heap.size wr (wr.alloc (.cells #[.int .i64 c.lats[j].a, .int .i64 c.lats[j].b, .int .i64 c.lats[j].c] 41)) := (Below.refl _ _).alloc (Nat.le_refl _) _
      have hbs := (FX.out _ G.out.bel).2.2.2
      have HAL := Lib.hid (hal.mono hbs)
      have LN := Lib.hid (wlatch_any B B c.lats[j] _ _ (G.out.ws.below hal) (Nat.le_trans hbs hal.size) hfit (FX.out _ (G.out.bel.trans HAL.out)).2.2.1 (Nat.le_trans LEJ.out (by decide)))
      clear hfit hal hbs
      generalize c.lats[j] = t at *
      go_wp2_with fail
      refine LN.out.mono ?_
      rintro e x3 ⟨rfl, hws, hb⟩
      have G3 := Lib.hid (G.out.step hws (HAL.out.trans hb))
      clear hws hb
      go_wp2
      go_roundw
      case rel => exact ⟨j + 1, by omega, by go_num, by rw [HT2.out, ← List.append_assoc]; exact G3.out⟩
      case measure => simp [intOf]; omega
    · obtain rfl : j = c.lats.length := by omega
      rw [List.take_length] at G LEJ
      obtain ⟨x2, rfl⟩ : ∃ x, x = wr := ⟨_, rfl⟩
      have G2 := Lib.hid G.out
      have LE2 : Hid ((head5 c ++ [10] ++ nlL (c.lats.map lat5)).length ≤ 8000) := LEJ.out
      clear G LEJ G1
      obtain ⟨e0, e1, e2, e3, e4, e5, e6, e7⟩ := cells8 (FX.out _ G2.out.bel).1
      obtain ⟨W6, hW6⟩ : ∃ x, x2.alloc (.cells #[.slice s.ao c.outs.length s.ko, .slice s.ab c.bads.length s.kb, .slice s.ac c.invs.length s.kc] 22) = x := ⟨_, rfl⟩
      have b6 : Below x2.heap.size x2 W6 := by rw [← hW6]; exact (Below.refl _ _).alloc (Nat.le_refl _) _
      have L0 : Hid (W6.heap[x2.heap.size]? = some (.cells (tls c s) 22 (0, 0))) := by unfold Hid; rw [← hW6]; exact Array.getElem?_push_size
      have G6 : Hid (Gath W B B (head5 c ++ [10] ++ nlL (c.lats.map lat5) ++ parts c 0) W6) := by
        rw [parts_zero, List.append_nil]
        exact G2.out.step (G2.out.ws.below b6) (b6.mono (FX.out _ G2.out.bel).2.2.2)
      clear b6
      go_wp2
      clear hW6 e0 e1 e2 e3 e4 e5 e6 e7 G2
      go_loopw [38] (fun i wr => ∃ j : Nat, j ≤ 3 ∧ i = .int .i64 j ∧ Gath W B B (head5 c ++ [10] ++ nlL (c.lats.map lat5) ++ parts c j) wr ∧ wr.heap[x2.heap.size]? = some (.cells (tls c s) 22 (0, 0))) (fun i _ => 3 - (intOf i).toNat)
      case atStart => exact ⟨0, by omega, rfl, G6.out, L0.out⟩
      case round =>
        obtain ⟨j, hj, rfl, hg, hl⟩ := hrel
        obtain ⟨wo, rfl⟩ : ∃ x, x = wr := ⟨_, rfl⟩
        have GO := Lib.hid hg
        have LO := Lib.hid hl
        clear hg hl
        by_cases hlt : j < 3
        · obtain ⟨A, q, xs, hcell, hth, hrow, hfx, hlen⟩ := pick3 c s j B wo hlt (FX.out _ GO.out.bel).2.1 HF.out ⟨SZ.out.2.2.1, SZ.out.2.2.2.1, SZ.out.2.2.2.2.1⟩
          have hcl : wo.cell? ⟨x2.heap.size, j, none⟩ = some (.slice A xs.length q) := by rw [Lib.cell_of_heap LO.out]; exact hcell
          have PM := Lib.hid (parts_more c j xs hth)
          have PS := Lib.hid (parts_short c s HF.out ⟨SZ.out.2.2.1, SZ.out.2.2.2.1, SZ.out.2.2.2.2.1⟩ j)
          have HR := Lib.hid hrow
          have HX := Lib.hid hfx
          clear hcell hth hrow hfx
          have hb4 : decide ((j : Int) < 3) = true := decide_eq_true (by omega)
          go_wp2
          clear hcl
          go_loopw [44] (fun i wr => ∃ k : Nat, k ≤ xs.length ∧ i = .int .i64 k ∧ Gath W B B (head5 c ++ [10] ++ nlL (c.lats.map lat5) ++ parts c j ++ nlL ((xs.take k).map litL)) wr ∧ Below B wo wr ∧ wr.heap[x2.heap.size]? = some (.cells (tls c s) 22 (0, 0))) (fun i _ => xs.length - (intOf i).toNat)
          case atStart => exact ⟨0, Nat.zero_le _, rfl, by simpa [nlL] using GO.out, Below.refl _ _, LO.out⟩
          case round =>
            obtain ⟨k, hk, rfl, hg, hbo, hl⟩ := hrel
            have G := Lib.hid hg
            have BO := Lib.hid hbo
            have LK := Lib.hid hl
            clear hg hbo hl
            have LEJ : Hid ((head5 c ++ [10] ++ nlL (c.lats.map lat5) ++ parts c j ++ nlL ((xs.take k).map litL)).length ≤ 16000) := len_more (len_more LE2.out PS.out (by decide : 8000 + 5000 ≤ 13000)) (Nat.le_trans (nl_lits (xs.take k) (fun x hx => HX.out x (List.mem_of_mem_take hx))) (by rw [List.length_take]; omega : 22 * (xs.take k).length ≤ 1500)) (by decide)
            by_cases hlt2 : k < xs.length
            · obtain ⟨b, o, hA, -, hc⟩ := (HR.out.below BO.out).int hlt2
              rw [hA]
              clear hA
              have HT2 := Lib.hid (show nlL ((xs.take (k + 1)).map litL) = nlL ((xs.take k).map litL) ++ (litL xs[k] ++ [10]) by rw [List.take_succ_eq_append_getElem hlt2, List.map_append, List.map_cons, List.map_nil, nl_snoc])
              have HLT : Hid (litL xs[k] = Lib.itoa xs[k]) := rfl
              have hix := HX.out xs[k] (List.getElem_mem _)
              have HIS : Hid ((Lib.itoa xs[k]).length ≤ 21) := itoa_short xs[k] hix
              have PR := Lib.hid (print_any xs[k] hix.1 hix.2 wr ((FX.out _ G.out.bel).2.2.1 wr (Below.refl _ _)))
              have HBS : Hid (B ≤ wr.heap.size) := (FX.out _ G.out.bel).2.2.2
              clear hix
              generalize xs[k] = x at *
              go_wp2_with fail
              refine PR.out.mono ?_
              rintro e w2 ⟨rfl, hb2⟩
              have OT := Lib.hid (one_text w2 (Lib.itoa x))
              obtain ⟨w3, hw3⟩ : ∃ a, w2.alloc (.cells #[sv (Lib.itoa x)] 9) = a := ⟨_, rfl⟩
              have b3 : Below w2.heap.size w2 w3 := by rw [← hw3]; exact (Below.refl _ _).alloc (Nat.le_refl _) _
              have bw3 : Below wr.heap.size wr w3 := hb2.trans (b3.mono hb2.size)
              rw [hw3] at OT
              have B3 := Lib.hid bw3
              have L3 : Hid (w3.heap[x2.heap.size]? = some (.cells (tls c s) 22 (0, 0))) := (bw3.block _ (lt_of_block LK.out)).trans LK.out
              have W3 := Lib.hid (G.out.ws.below bw3)
              have LN := Lib.hid (wline_any B B _ [Lib.itoa x] _ w3 W3.out (Nat.le_trans HBS.out bw3.size) OT.out (by have := HIS.out; simp; omega) (Nat.le_trans LEJ.out (by decide)))
              have HJ : Hid (joinL [Lib.itoa x] = Lib.itoa x) := rfl
              rw [HJ.out] at LN
              clear hb2 b3 bw3 OT HJ
              unfold sv at hw3
              go_wp2_with fail
              refine LN.out.mono ?_
              rintro e w4 ⟨rfl, hws4, hb4', hk4⟩
              have G4 := Lib.hid (G.out.step hws4 ((B3.out.mono HBS.out).trans hb4'))
              have BO4 : Hid (Below B wo w4) := BO.out.trans ((B3.out.mono HBS.out).trans hb4')
              have L4 : Hid (w4.heap[x2.heap.size]? = some (.cells (tls c s) 22 (0, 0))) := by
                refine (hk4 _ (lt_of_block L3.out) (fun e2 => ?_) (fun c f e2 => ?_)).trans L3.out
                · obtain ⟨c3, h3⟩ := W3.out.block
                  rw [← e2, L3.out] at h3
                  simp at h3
                · rw [L3.out] at e2
                  simp at e2
              clear hws4 hb4' hk4 hw3
              go_wp2
              go_roundw
              case rel => exact ⟨k + 1, by omega, by go_num, by rw [HT2.out, HLT.out, ← List.append_assoc]; exact G4.out, BO4.out, L4.out⟩
              case measure => simp [intOf]; omega
            · obtain rfl : k = xs.length := by omega
              rw [List.take_length] at G
              have G4 : Hid (Gath W B B (head5 c ++ [10] ++ nlL (c.lats.map lat5) ++ parts c (j + 1)) wr) := by rw [PM.out, ← List.append_assoc]; exact G.out
              clear G
              go_wp2
              go_roundw
              case rel => exact ⟨j + 1, by omega, by go_num, G4.out, LK.out⟩
              case measure => simp [intOf]; omega
        · obtain rfl : j = 3 := by omega
          rw [show (((3 : Nat) : Int)) = (3 : Int) from rfl]
          have LE3 : Hid ((head5 c ++ [10] ++ nlL (c.lats.map lat5) ++ parts c 3).length ≤ 13000) := len_more LE2.out (parts_short c s HF.out ⟨SZ.out.2.2.1, SZ.out.2.2.2.1, SZ.out.2.2.2.2.1⟩ 3) (by decide)
          have zl2 : c.ands.length ≤ 4097 := SZ.out.2.2.2.2.2.1
          obtain ⟨e0, e1, e2, e3, e4, e5, e6, e7⟩ := cells8 (FX.out _ GO.out.bel).1
          clear LO L0 G6
          go_wp2
          clear e0 e1 e2 e3 e4 e5 e6 e7
          go_loopw [57] (fun i wr => ∃ j : Nat, j ≤ c.ands.length ∧ i = .int .i64 j ∧ Gath W B B (head5 c ++ [10] ++ nlL (c.lats.map lat5) ++ parts c 3 ++ ((c.ands.take j).map and5).flatten) wr) (fun i _ => c.ands.length - (intOf i).toNat)
          case atStart => exact ⟨0, Nat.zero_le _, rfl, by simpa using GO.out⟩
          case round =>
            obtain ⟨j, hj, rfl, hg⟩ := hrel
            have G := Lib.hid hg
            clear hg
            have LEJ : Hid ((head5 c ++ [10] ++ nlL (c.lats.map lat5) ++ parts c 3 ++ ((c.ands.take j).map and5).flatten).length ≤ 400000) := len_more LE3.out (Nat.le_trans (ands5_short (c.ands.take j) (fun t ht => HF5.out.d t (List.mem_of_mem_take ht))) (by rw [List.length_take]; omega : 4 * (c.ands.take j).length ≤ 300000)) (by decide)
            by_cases hlt : j < c.ands.length
            · obtain ⟨b1, o1, hA, hbb, c0, c1, c2⟩ := ((FX.out _ G.out.bel).2.1.ands).tri hlt
              rw [hA]
              clear hA
              have HT2 := Lib.hid (show ((c.ands.take (j + 1)).map and5).flatten = ((c.ands.take j).map and5).flatten ++ (grp (c.ands[j].a - c.ands[j].b).toNat ++ grp (c.ands[j].b - c.ands[j].c).toNat) by rw [List.take_succ_eq_append_getElem hlt, List.map_append, List.map_cons, List.map_nil, List.flatten_append]; simp [and5])
              obtain ⟨⟨d0, d1⟩, d2, d3⟩ := HF5.out.d c.ands[j] (List.getElem_mem _)
              have hal : Below wr.heap.size wr (wr.alloc (.cells #[.int .i64 c.ands[j].a, .int .i64 c.ands[j].b, .int .i64 c.ands[j].c] 43)) := (Below.refl _ _).alloc (Nat.le_refl _) _
              have hbs := (FX.out _ G.out.bel).2.2.2
              have HBS := Lib.hid hbs
              have HAL := Lib.hid (hal.mono hbs)
              have N1 := Lib.hid (wnumber_any B B (c.ands[j].a - c.ands[j].b).toNat _ _ (G.out.ws.below hal) (Nat.le_trans hbs hal.size) (by omega) (Nat.le_trans LEJ.out (by decide)))
              rw [Int.toNat_of_nonneg d0] at N1
              have G2 := Lib.hid (grp_two (c.ands[j].a - c.ands[j].b).toNat (by omega))
              clear hal hbs
              have KT : Hid ((wr.alloc (.cells #[.int .i64 c.ands[j].a, .int .i64 c.ands[j].b, .int .i64 c.ands[j].c] 43)).heap[wr.heap.size]? = some (.cells #[.int .i64 c.ands[j].a, .int .i64 c.ands[j].b, .int .i64 c.ands[j].c] 43 (0, 0))) := Array.getElem?_push_size
              generalize c.ands[j] = t at *
              go_wp2_with fail
              refine N1.out.mono ?_
              rintro e x3 ⟨rfl, hws, hb, hkt⟩
              have G3 := Lib.hid (G.out.step hws (HAL.out.trans hb))
              have k3 : x3.heap[wr.heap.size]? = some (.cells #[.int .i64 t.a, .int .i64 t.b, .int .i64 t.c] 43 (0, 0)) := by
                refine (hkt _ (lt_of_block KT.out) (fun e2 => ?_) (fun c f e2 => ?_)).trans KT.out
                · have h1 := hws.block
                  have h2 := (FX.out _ G.out.bel).2.2.2
                  have h3 := G.out.ws.block
                  obtain ⟨c3, h3⟩ := h3
                  have := lt_of_block h3
                  omega
                · rw [KT.out] at e2
                  simp at e2
              have f1 : x3.cell? ⟨wr.heap.size, 1, none⟩ = some (.int .i64 t.b) := by rw [Lib.cell_of_heap k3]; rfl
              have f2 : x3.cell? ⟨wr.heap.size, 2, none⟩ = some (.int .i64 t.c) := by rw [Lib.cell_of_heap k3]; rfl
              have N2 := Lib.hid (wnumber_any B B (t.b - t.c).toNat _ _ G3.out.ws (FX.out _ G3.out.bel).2.2.2 (by omega) (by rw [List.length_append]; have := LEJ.out; have := G2.out; omega))
              rw [Int.toNat_of_nonneg d2] at N2
              clear hws hb hkt k3 c0 c1 c2 N1
              go_wp2_with fail
              refine N2.out.mono ?_
              rintro e x4 ⟨rfl, hws, hb, -⟩
              have G4 := Lib.hid (G3.out.step hws hb)
              clear hws hb f1 f2
              go_wp2
              go_roundw
              case rel => exact ⟨j + 1, by omega, by go_num, by rw [HT2.out, ← List.append_assoc, ← List.append_assoc]; exact G4.out⟩
              case measure => simp [intOf]; omega
            · obtain rfl : j = c.ands.length := by omega
              rw [List.take_length] at G LEJ
              obtain ⟨x7, rfl⟩ : ∃ x, x = wr := ⟨_, rfl⟩
              have G7 := Lib.hid G.out
              have LE7 : Hid ((head5 c ++ [10] ++ nlL (c.lats.map lat5) ++ parts c 3 ++ (c.ands.map and5).flatten).length ≤ 400000) := LEJ.out
              clear G LEJ GO
              obtain ⟨e0, e1, e2, e3, e4, e5, e6, e7⟩ := cells8 (FX.out _ G7.out.bel).1
              go_wp2
              clear e0 e1 e2 e3 e4 e5 e6 e7
              go_loopw [77] (fun i wr => ∃ j : Nat, j ≤ c.names.length ∧ i = .int .i64 j ∧ Gath W B B (head5 c ++ [10] ++ nlL (c.lats.map lat5) ++ parts c 3 ++ (c.ands.map and5).flatten ++ nlL ((c.names.take j).map namL)) wr) (fun i _ => c.names.length - (intOf i).toNat)
              case atStart => exact ⟨0, Nat.zero_le _, rfl, by simpa [nlL] using G7.out⟩
              case round =>
                obtain ⟨j, hj, rfl, hg⟩ := hrel
                have G := Lib.hid hg
                clear hg
                have zn : c.names.length ≤ 320 := SZ.out.2.2.2.2.2.2
                have LEJ : Hid ((head5 c ++ [10] ++ nlL (c.lats.map lat5) ++ parts c 3 ++ (c.ands.map and5).flatten ++ nlL ((c.names.take j).map namL)).length ≤ 500000) := len_more LE7.out (names_short (c.names.take j) (fun t ht => HFI.out.names t (List.mem_of_mem_take ht)) (fun t ht => HTX.out t (List.mem_of_mem_take ht)) (by rw [List.length_take]; omega)) (by decide)
                by_cases hlt : j < c.names.length
                · obtain ⟨b1, o1, hA, hbb, c0, c1, c2⟩ := ((FX.out _ G.out.bel).2.1.names).nam hlt
                  rw [hA]
                  clear hA
                  have HT2 := Lib.hid (show nlL ((c.names.take (j + 1)).map namL) = nlL ((c.names.take j).map namL) ++ (namL c.names[j] ++ [10]) by rw [List.take_succ_eq_append_getElem hlt, List.map_append, List.map_cons, List.map_nil, nl_snoc])
                  have hfit := HF.out.names c.names[j] (List.getElem_mem _)
                  have HFN := Lib.hid (HFI.out.names c.names[j] (List.getElem_mem _))
                  have HTL := Lib.hid (HTX.out c.names[j] (List.getElem_mem _))
                  have HFT := Lib.hid hfit
                  clear hfit
                  generalize c.names[j] = x at *
                  go_wp2
                  obtain ⟨Wq, hWq⟩ : ∃ y, y = wr.alloc (.cells #[.string x.kind, .int .i64 x.num, .string x.text] 45) := ⟨_, rfl⟩
                  obtain ⟨X, hX⟩ : ∃ X, X = wr.heap.size := ⟨_, rfl⟩
                  have HQ : Hid (Below wr.heap.size wr Wq) := by unfold Hid; rw [hWq]; exact (Below.refl _ _).alloc (Nat.le_refl _) _
                  have HQX : Hid (Wq.heap[X]? = some (.cells #[.string x.kind, .int .i64 x.num, .string x.text] 45 (0, 0))) := by unfold Hid; rw [hWq, hX]; exact Array.getElem?_push_size
                  rw [← hWq, ← hX]
                  clear hWq hX c0 c1 c2
                  have HBS := Lib.hid (FX.out _ G.out.bel).2.2.2
                  have HBQ : Hid (B ≤ Wq.heap.size) := Nat.le_trans HBS.out HQ.out.size
                  have HQB := Lib.hid (HQ.out.mono HBS.out)
                  have TQ : Hid (∀ y, Below B Wq y → Lib.TabIs Tryd.prog y "internal/strconv.uint64pow10" .u64 Lib.pow10Tab) := fun y hy => (FX.out _ (G.out.bel.trans (HQB.out.trans hy))).2.2.1 y (Below.refl _ _)
                  have HWS := Lib.hid (G.out.ws.below HQ.out)
                  have EP : Hid (∀ args w, (callFunc 27 args).run Tryd.prog w = .ok (.enter 27 args) w) := enters_of Tryd.func27 (by kernel_rfl) rfl
                  have EL : Hid (∀ args w, (callFunc 26 args).run Tryd.prog w = .ok (.enter 26 args) w) := enters_of Tryd.func26 (by kernel_rfl) rfl
                  obtain ⟨lc, hlc⟩ : ∃ lc, lc = head5 c ++ [10] ++ nlL (c.lats.map lat5) ++ parts c 3 ++ (c.ands.map and5).flatten ++ nlL ((c.names.take j).map namL) := ⟨_, rfl⟩
                  have HLC := Lib.hid hlc
                  rw [← hlc] at HWS LEJ
                  clear hlc
                  refine wp_region_valsD (by kernel_rfl) (by kernel_rfl) wnamM (by kernel_rfl) (by kernel_rfl)
                    (fun d w' => (d 9 = false → Below Wq.heap.size Wq w') ∧ Below B Wq w') (wnamR B X x lc) ⟨fun _ => (Below.refl _ _).drew, (Below.refl _ _).drew⟩ (fun jj f f' w w' hb hf h => wnam_stab jj (fun em => fun g hg => hb.block g (lt_of_block hg)) (fun _ => hb) hf h) ?_ ?_
                  · intro i oo d a' w' ho hd hun hdf hok hD K hK hK0
                    have hcell : d 9 = false → ∀ k, w'.cell? ⟨X, k, none⟩ = (#[.string x.kind, .int .i64 x.num, .string x.text] : Array Value)[k]? := fun h k => Lib.cell_of_heap (((hok.1 h).block X (lt_of_block HQX.out)).trans HQX.out) k
                    match i, ho, hd, hD, hK, hK0, hun with
                    | 0, ho, hd, hD, hK, hK0, hun =>
                      have e := (congrArg Oper.op (Option.some.inj ho)).symm
                      obtain rfl := Option.some.inj ho
                      exact wp_val (op_field_api_Name_0 a' w' _ 14 (hun 14 (by kernel_rfl)) _ e) (hK _ _ (Below.refl _ _) ⟨fun h => hok.1 (by simp only [Bool.or_eq_false_iff] at h; exact h.2), hok.2⟩ (fun f h1 _ => h1 _ rfl))
                    | 1, ho, hd, hD, hK, hK0, hun =>
                      have e := (congrArg Oper.op (Option.some.inj ho)).symm
                      obtain rfl := Option.some.inj ho
                      exact wp_val (op_load_string a' w' _ 81 _ (hD 0 (by kernel_rfl)) ((hcell (hd 9 (by kernel_rfl)) 0).trans rfl) _ e) (hK _ _ (Below.refl _ _) ⟨fun h => hok.1 (by simp only [Bool.or_eq_false_iff] at h; exact h.2), hok.2⟩ (fun f h1 _ => h1 _ rfl))
                    | 2, ho, hd, hD, hK, hK0, hun =>
                      have e := (congrArg Oper.op (Option.some.inj ho)).symm
                      obtain rfl := Option.some.inj ho
                      exact wp_val (op_field_api_Name_1 a' w' _ 14 (hun 14 (by kernel_rfl)) _ e) (hK _ _ (Below.refl _ _) ⟨fun h => hok.1 (by simp only [Bool.or_eq_false_iff] at h; exact h.2), hok.2⟩ (fun f h1 _ => h1 _ rfl))
                    | 3, ho, hd, hD, hK, hK0, hun =>
                      have e := (congrArg Oper.op (Option.some.inj ho)).symm
                      obtain rfl := Option.some.inj ho
                      exact wp_val (op_load_int a' w' _ 83 _ (hD 2 (by kernel_rfl)) ((hcell (hd 9 (by kernel_rfl)) 1).trans rfl) _ e) (hK _ _ (Below.refl _ _) ⟨fun h => hok.1 (by simp only [Bool.or_eq_false_iff] at h; exact h.2), hok.2⟩ (fun f h1 _ => h1 _ rfl))
                    | 4, ho, hd, hD, hK, hK0, hun =>
                      have e := (congrArg Oper.op (Option.some.inj ho)).symm
                      obtain rfl := Option.some.inj ho
                      have hb9 := hok.1 (hd 9 (by kernel_rfl))
                      refine wp_enter (op_call1 a' w' _ 84 _ EP.out _ e) ?_
                      rw [show a'.tmps.getD 84 undef = .int .i64 x.num from hD 3 (by kernel_rfl)]
                      refine (print_any x.num HFT.out.2.1.1 HFT.out.2.1.2 w' (TQ.out w' hok.2)).mono ?_
                      rintro e w'' ⟨rfl, hb⟩
                      have hbw : Below Wq.heap.size Wq w'' := hb9.trans (hb.mono hb9.size)
                      exact .inl ⟨_, rfl, hK _ _ hb ⟨fun _ => hbw, hbw.mono HBQ.out⟩ (fun f h1 _ => h1 _ rfl)⟩
                    | 5, ho, hd, hD, hK, hK0, hun =>
                      have e := (congrArg Oper.op (Option.some.inj ho)).symm
                      obtain rfl := Option.some.inj ho
                      exact wp_val (op_cat a' w' x.kind ⟨(Lib.itoa x.num).toArray⟩ 82 85 (hD 1 (by kernel_rfl)) (hD 4 (by kernel_rfl)) (cat_size HFN.out HFT.out) _ e) (hK _ _ (Below.refl _ _) ⟨fun h => hok.1 (by simp only [Bool.or_eq_false_iff] at h; exact h.2), hok.2⟩ (fun f h1 _ => h1 _ rfl))
                    | 6, ho, hd, hD, hK, hK0, hun =>
                      have e := (congrArg Oper.op (Option.some.inj ho)).symm
                      obtain rfl := Option.some.inj ho
                      exact wp_val (op_field_api_Name_2 a' w' _ 14 (hun 14 (by kernel_rfl)) _ e) (hK _ _ (Below.refl _ _) ⟨fun h => hok.1 (by simp only [Bool.or_eq_false_iff] at h; exact h.2), hok.2⟩ (fun f h1 _ => h1 _ rfl))
                    | 7, ho, hd, hD, hK, hK0, hun =>
                      have e := (congrArg Oper.op (Option.some.inj ho)).symm
                      obtain rfl := Option.some.inj ho
                      exact wp_val (op_load_string a' w' _ 87 _ (hD 6 (by kernel_rfl)) ((hcell (hd 9 (by kernel_rfl)) 2).trans rfl) _ e) (hK _ _ (Below.refl _ _) ⟨fun h => hok.1 (by simp only [Bool.or_eq_false_iff] at h; exact h.2), hok.2⟩ (fun f h1 _ => h1 _ rfl))
                    | 8, ho, hd, hD, hK, hK0, hun =>
                      have e := (congrArg Oper.op (Option.some.inj ho)).symm
                      obtain rfl := Option.some.inj ho
                      have hb9 := hok.1 (hd 9 (by kernel_rfl))
                      exact wp_val (op_slice_two a' w' (catV x) x.text 86 88 (hD 5 (by kernel_rfl)) (hD 7 (by kernel_rfl)) _ e) (hK _ _ ((Below.refl _ _).alloc (Nat.le_refl _) _) ⟨fun _ => hb9.alloc hb9.size _, hok.2.alloc (Nat.le_trans HBQ.out hb9.size) _⟩ (fun f h1 _ => ⟨w'.heap.size, h1 _ rfl, Array.getElem?_push_size⟩))
                    | 9, ho, hd, hD, hK, hK0, hun =>
                      have e := (congrArg Oper.op (Option.some.inj ho)).symm
                      obtain rfl := Option.some.inj ho
                      have hb9 := hok.1 (hd 9 (by kernel_rfl))
                      obtain ⟨g, h73, hg⟩ : ∃ g, vals a' 89 = .slice (some ⟨g, 0, none⟩) 2 2 ∧ w'.heap[g]? = some (.cells #[.string (catV x), .string x.text] 9 (0, 0)) := hD 8 (by kernel_rfl)
                      refine wp_enter (op_call2 a' w' _ 4 89 _ _ EL.out _ e) ?_
                      rw [show a'.tmps.getD 4 undef = .pointer (some ⟨B, 0, none⟩) from hun 4 (by kernel_rfl), show a'.tmps.getD 89 undef = _ from h73]
                      have hws := HWS.out.below hb9
                      refine (wline_any B B _ _ lc w' hws (Nat.le_trans HBQ.out hb9.size) (two_texts hg) (nam_size HFN.out HFT.out HTL.out) (Nat.le_trans LEJ.out (by decide))).mono ?_
                      rintro e w'' ⟨rfl, hws2, hbe, hkt⟩
                      refine .inl ⟨_, rfl, hK0 _ _ ⟨fun h => by simp at h, hok.2.trans hbe⟩ (fun f _ _ => hws2) (fun j f hj hf hq => wnam_stab j (fun _ g2 hg2 => hkt g2 (lt_of_block hg2) (fun e2 => ?_) (fun c f e2 => ?_)) (fun e2 => absurd e2 hj) hf hq)⟩
                      · subst e2
                        obtain ⟨c3, h3⟩ := hws.block
                        rw [hg2] at h3
                        simp at h3
                      · rw [hg2] at e2
                        simp at e2
                    | i + 10, ho, _, _, _, _, _ => exact absurd ho (by simp)
                  · intro a' w3 hsz hdf hkt hok hR
                    have HF3 := frame_sets [81, 82, 83, 84, 85, 86, 87, 88, 89, 90] (by kernel_rfl) hsz hkt
                    obtain ⟨d, hok⟩ := hok
                    have hws9 : WS B B (lc ++ (namL x ++ [10])) w3 := hR 9 (by decide)
                    have HW9 := Lib.hid hws9
                    have HB9 := Lib.hid (HQB.out.trans hok.2)
                    clear hok hws9
                    obtain ⟨tm, df⟩ := a'
                    obtain rfl : df = _ := hdf
                    simp only [List.foldl_cons, List.foldl_nil] at HF3
                    clear hkt hR hsz
                    generalize tm.getD 81 undef = y81 at HF3
                    generalize tm.getD 82 undef = y82 at HF3
                    generalize tm.getD 83 undef = y83 at HF3
                    generalize tm.getD 84 undef = y84 at HF3
                    generalize tm.getD 85 undef = y85 at HF3
                    generalize tm.getD 86 undef = y86 at HF3
                    generalize tm.getD 87 undef = y87 at HF3
                    generalize tm.getD 88 undef = y88 at HF3
                    generalize tm.getD 89 undef = y89 at HF3
                    generalize tm.getD 90 undef = y90 at HF3
                    simp only [List.setIfInBounds_toArray, List.set_cons_succ, List.set_cons_zero] at HF3
                    subst HF3
                    go_wp2
                    go_roundw
                    case rel => exact ⟨j + 1, by omega, by go_num, by rw [HT2.out, ← List.append_assoc, ← HLC.out]; exact G.out.step HW9.out HB9.out⟩
                    case measure => simp [intOf]; omega
                · obtain rfl : j = c.names.length := by omega
                  rw [List.take_length, ← oct_parts] at G
                  have BY := Lib.hid (bytes_any B B (oct5 c) wr G.out.ws (oct_ne c))
                  go_wp2_with fail
                  refine BY.out.mono ?_
                  rintro e w9 ⟨⟨g, cap, rfl, hown⟩, hb⟩
                  have OWN : Hid (w9.ownsRow w.heap.size 5 1 (.slice (some ⟨g, 0, none⟩) (oct5 c).length cap) (oct5 c).length (Lib.byteCells (oct5 c))) := by
                    obtain ⟨o1, o2⟩ := hown
                    refine ⟨o1, ?_⟩
                    rcases o2 with o2 | ⟨gg, cp, cu, h1, h2, h3⟩
                    · exact .inl o2
                    · exact .inr ⟨gg, cp, cu, h1, Nat.le_trans HBW.out h2, h3⟩
                  have HB9 := Lib.hid (BEX.out _ (G.out.bel.trans (hb.mono (FX.out _ G.out.bel).2.2.2)))
                  clear hown hb BY
                  go_wp2
                  go_ret2
                  exact ⟨⟨g, cap, rfl, OWN.out⟩, HB9.out⟩
end Go.Proofs.YtopjddmgejfalaaDoor.Aig
namespace Go.Proofs.YtopjddmgejfalaaDoor.Cw
open Go.ChangeShapes Go.WideShapes Go.ChangeAt Go.RowKit Go.Maps Circ

end Go.Proofs.YtopjddmgejfalaaDoor.Cw
