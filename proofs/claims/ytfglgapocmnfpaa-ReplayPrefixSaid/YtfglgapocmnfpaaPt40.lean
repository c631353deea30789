/- The program's Check; condition: the circuit, the clauses and the inputs lie in memory. -/
import Derived.Test.YtfglgapocmnfpaaPt39
import Derived.Test.YtfglgapocmnfpaaPt24
namespace Go.Proofs.Ytfglgapocmnfpaa.Rep
open Go.ChangeShapes Go.WideShapes Go.ChangeAt Go.RowKit Go.Maps Circ Cw
open Str Sim

theorem op_mkfunc (a : Act) (w : World) (f t : Nat) (v : Value) (h : a.tmps.getD t undef = v) (oo : Oper) (ho : oo.op = .makeFunc (.func f) #[.tmp t] #[]) : (execOp a.eval oo).run Try.prog w = .ok (.value (.func (.func f) #[v] #[])) w := by
  have h' : a.tmps[t]?.getD undef = v := by simpa using h
  have hmf : ∀ (fn : Fn) (first cap : Array Value) (w : World), (Instr.makeFunc fn first cap).run Try.prog w = .ok (.func fn first cap) w := fun _ _ _ _ => rfl
  unfold execOp
  rw [ho]
  go_simp
theorem op_not (a : Act) (w : World) (b : Bool) (t : Nat) (h : a.tmps.getD t undef = .bool b) (oo : Oper) (ho : oo.op = .unOp .not 4 (.tmp t)) : (execOp a.eval oo).run Try.prog w = .ok (.value (.bool (!b))) w := by
  have h' : a.tmps[t]?.getD undef = .bool b := by simpa using h
  unfold execOp
  rw [ho]
  go_simp
theorem op_pick_or (a : Act) (w : World) (b c : Bool) (s t : Nat) (h1 : a.tmps.getD s undef = .bool b) (h2 : b = false → a.tmps.getD t undef = .bool c) (oo : Oper) (ho : oo.op = .pick (.tmp s) (.const (.bool true)) (.tmp t)) : (execOp a.eval oo).run Try.prog w = .ok (.value (.bool (b || c))) w := by
  have h1' : a.tmps[s]?.getD undef = .bool b := by simpa using h1
  unfold execOp
  rw [ho]
  cases b with
  | true => go_simp
  | false =>
    have h2' : a.tmps[t]?.getD undef = .bool c := by simpa using h2 rfl
    go_simp
theorem op_index_i (a : Act) (w : World) (b o n q k : Nat) (t s : Nat) (h : a.tmps.getD t undef = .slice (some ⟨b, o, none⟩) n q) (h2 : a.tmps.getD s undef = .int .i64 (k : Int)) (hk : k < n) (oo : Oper) (ho : oo.op = .indexAddr 22 (.tmp t) (.tmp s)) : (execOp a.eval oo).run Try.prog w = .ok (.value (.pointer (some ⟨b, o + k, none⟩))) w := by
  have h' : a.tmps[t]?.getD undef = .slice (some ⟨b, o, none⟩) n q := by simpa using h
  have h2' : a.tmps[s]?.getD undef = .int .i64 (k : Int) := by simpa using h2
  have h0 : (0 : Int) ≤ k := by omega
  have h1 : (k : Int) < n := by omega
  unfold execOp
  rw [ho]
  go_simp
theorem lastV_len (c : Cir) (hm : (valsM c ⟨#[]⟩ ⟨#[]⟩).length ≤ 1048576) : ∀ (l : List ByteArray) (v : List UInt8) (s : ByteArray), v.length ≤ 1048576 → (lastV c v s l).length ≤ 1048576
  | [], _, _, h => h
  | i :: r, v, s, _ => lastV_len c hm r _ _ (by rw [vals_len] at hm ⊢; exact hm)
theorem set_all11 (z : Array Value) (hz : z.size = 11) (x0 x1 x2 x3 x4 x5 x6 x7 x8 x9 x10 : Value) : ((((((((((z.setIfInBounds 0 x0).setIfInBounds 1 x1).setIfInBounds 2 x2).setIfInBounds 3 x3).setIfInBounds 4 x4).setIfInBounds 5 x5).setIfInBounds 6 x6).setIfInBounds 7 x7).setIfInBounds 8 x8).setIfInBounds 9 x9).setIfInBounds 10 x10 = #[x0, x1, x2, x3, x4, x5, x6, x7, x8, x9, x10] := by
  obtain ⟨l⟩ := z
  have hz' : l.length = 11 := by simpa using hz
  clear hz
  rcases l with _ | ⟨a0, l⟩ <;> simp only [List.length_cons, List.length_nil] at hz'
  · omega
  rcases l with _ | ⟨a1, l⟩ <;> simp only [List.length_cons, List.length_nil] at hz'
  · omega
  rcases l with _ | ⟨a2, l⟩ <;> simp only [List.length_cons, List.length_nil] at hz'
  · omega
  rcases l with _ | ⟨a3, l⟩ <;> simp only [List.length_cons, List.length_nil] at hz'
  · omega
  rcases l with _ | ⟨a4, l⟩ <;> simp only [List.length_cons, List.length_nil] at hz'
  · omega
  rcases l with _ | ⟨a5, l⟩ <;> simp only [List.length_cons, List.length_nil] at hz'
  · omega
  rcases l with _ | ⟨a6, l⟩ <;> simp only [List.length_cons, List.length_nil] at hz'
  · omega
  rcases l with _ | ⟨a7, l⟩ <;> simp only [List.length_cons, List.length_nil] at hz'
  · omega
  rcases l with _ | ⟨a8, l⟩ <;> simp only [List.length_cons, List.length_nil] at hz'
  · omega
  rcases l with _ | ⟨a9, l⟩ <;> simp only [List.length_cons, List.length_nil] at hz'
  · omega
  rcases l with _ | ⟨a10, l⟩ <;> simp only [List.length_cons, List.length_nil] at hz'
  · omega
  obtain rfl : l = [] := List.eq_nil_of_length_eq_zero (by omega)
  simp
theorem store11 {w : World} {g : Nat} {z : Array Value} {e : TypeId} (hg : w.heap[g]? = some (.cells z e (0, 0))) (hz : z.size = 11) (x0 x1 x2 x3 x4 x5 x6 x7 x8 x9 x10 : Value) :
    ∃ Z1 Z2 Z3 Z4 Z5 Z6 Z7 Z8 Z9 Z10 Z11 : World, ∃ u0 u1 u2 u3 u4 u5 u6 u7 u8 u9 u10 : Value, (w.setCell ⟨g, 0, none⟩ x0 = Z1 ∧ w.cell? ⟨g, 0, none⟩ = some u0 ∧ w.frozen? ⟨g, 0, none⟩ = false) ∧ (Z1.setCell ⟨g, 1, none⟩ x1 = Z2 ∧ Z1.cell? ⟨g, 1, none⟩ = some u1 ∧ Z1.frozen? ⟨g, 1, none⟩ = false) ∧ (Z2.setCell ⟨g, 2, none⟩ x2 = Z3 ∧ Z2.cell? ⟨g, 2, none⟩ = some u2 ∧ Z2.frozen? ⟨g, 2, none⟩ = false) ∧ (Z3.setCell ⟨g, 3, none⟩ x3 = Z4 ∧ Z3.cell? ⟨g, 3, none⟩ = some u3 ∧ Z3.frozen? ⟨g, 3, none⟩ = false) ∧ (Z4.setCell ⟨g, 4, none⟩ x4 = Z5 ∧ Z4.cell? ⟨g, 4, none⟩ = some u4 ∧ Z4.frozen? ⟨g, 4, none⟩ = false) ∧ (Z5.setCell ⟨g, 5, none⟩ x5 = Z6 ∧ Z5.cell? ⟨g, 5, none⟩ = some u5 ∧ Z5.frozen? ⟨g, 5, none⟩ = false) ∧ (Z6.setCell ⟨g, 6, none⟩ x6 = Z7 ∧ Z6.cell? ⟨g, 6, none⟩ = some u6 ∧ Z6.frozen? ⟨g, 6, none⟩ = false) ∧ (Z7.setCell ⟨g, 7, none⟩ x7 = Z8 ∧ Z7.cell? ⟨g, 7, none⟩ = some u7 ∧ Z7.frozen? ⟨g, 7, none⟩ = false) ∧ (Z8.setCell ⟨g, 8, none⟩ x8 = Z9 ∧ Z8.cell? ⟨g, 8, none⟩ = some u8 ∧ Z8.frozen? ⟨g, 8, none⟩ = false) ∧ (Z9.setCell ⟨g, 9, none⟩ x9 = Z10 ∧ Z9.cell? ⟨g, 9, none⟩ = some u9 ∧ Z9.frozen? ⟨g, 9, none⟩ = false) ∧ (Z10.setCell ⟨g, 10, none⟩ x10 = Z11 ∧ Z10.cell? ⟨g, 10, none⟩ = some u10 ∧ Z10.frozen? ⟨g, 10, none⟩ = false) ∧ Z11.heap[g]? = some (.cells #[x0, x1, x2, x3, x4, x5, x6, x7, x8, x9, x10] e (0, 0)) ∧ But g w Z11 := by
  obtain ⟨Z1, u0, r0, g0, b0⟩ := step_set w z 0 x0 hg (by omega)
  obtain ⟨Z2, u1, r1, g1, b1⟩ := step_set Z1 _ 1 x1 g0 (by simp; omega)
  obtain ⟨Z3, u2, r2, g2, b2⟩ := step_set Z2 _ 2 x2 g1 (by simp; omega)
  obtain ⟨Z4, u3, r3, g3, b3⟩ := step_set Z3 _ 3 x3 g2 (by simp; omega)
  obtain ⟨Z5, u4, r4, g4, b4⟩ := step_set Z4 _ 4 x4 g3 (by simp; omega)
  obtain ⟨Z6, u5, r5, g5, b5⟩ := step_set Z5 _ 5 x5 g4 (by simp; omega)
  obtain ⟨Z7, u6, r6, g6, b6⟩ := step_set Z6 _ 6 x6 g5 (by simp; omega)
  obtain ⟨Z8, u7, r7, g7, b7⟩ := step_set Z7 _ 7 x7 g6 (by simp; omega)
  obtain ⟨Z9, u8, r8, g8, b8⟩ := step_set Z8 _ 8 x8 g7 (by simp; omega)
  obtain ⟨Z10, u9, r9, g9, b9⟩ := step_set Z9 _ 9 x9 g8 (by simp; omega)
  obtain ⟨Z11, u10, r10, g10, b10⟩ := step_set Z10 _ 10 x10 g9 (by simp; omega)
  rw [set_all11 z hz] at g10
  exact ⟨Z1, Z2, Z3, Z4, Z5, Z6, Z7, Z8, Z9, Z10, Z11, u0, u1, u2, u3, u4, u5, u6, u7, u8, u9, u10, r0, r1, r2, r3, r4, r5, r6, r7, r8, r9, r10, g10, b0.trans (b1.trans (b2.trans (b3.trans (b4.trans (b5.trans (b6.trans (b7.trans (b8.trans (b9.trans (b10))))))))))⟩
theorem op_field_api_Witness_2 (a : Act) (w : World) (b : Nat) (t : Nat) (h : a.tmps.getD t undef = .pointer (some ⟨b, 0, none⟩)) (oo : Oper) (ho : oo.op = .fieldAddr 61 (.tmp t) 2) : (execOp a.eval oo).run Try.prog w = .ok (.value (.pointer (some ⟨b, 2, none⟩))) w := by
  have h' : a.tmps[t]?.getD undef = .pointer (some ⟨b, 0, none⟩) := by simpa using h
  unfold execOp
  rw [ho]
  go_simp
theorem op_load_Lstring (a : Act) (w : World) (A : Addr) (t : Nat) (v : Value) (h : a.tmps.getD t undef = .pointer (some A)) (hc : w.cell? A = some v) (oo : Oper) (ho : oo.op = .load 59 (.tmp t)) : (execOp a.eval oo).run Try.prog w = .ok (.value v) w := by
  have h' : a.tmps[t]?.getD undef = .pointer (some A) := by simpa using h
  unfold execOp
  rw [ho]
  go_simp
theorem op_field_api_Circuit_4 (a : Act) (w : World) (b : Nat) (t : Nat) (h : a.tmps.getD t undef = .pointer (some ⟨b, 0, none⟩)) (oo : Oper) (ho : oo.op = .fieldAddr 27 (.tmp t) 4) : (execOp a.eval oo).run Try.prog w = .ok (.value (.pointer (some ⟨b, 4, none⟩))) w := by
  have h' : a.tmps[t]?.getD undef = .pointer (some ⟨b, 0, none⟩) := by simpa using h
  unfold execOp
  rw [ho]
  go_simp
theorem op_load_Lint (a : Act) (w : World) (A : Addr) (t : Nat) (v : Value) (h : a.tmps.getD t undef = .pointer (some A)) (hc : w.cell? A = some v) (oo : Oper) (ho : oo.op = .load 22 (.tmp t)) : (execOp a.eval oo).run Try.prog w = .ok (.value v) w := by
  have h' : a.tmps[t]?.getD undef = .pointer (some A) := by simpa using h
  unfold execOp
  rw [ho]
  go_simp
theorem op_field_api_Witness_0 (a : Act) (w : World) (b : Nat) (t : Nat) (h : a.tmps.getD t undef = .pointer (some ⟨b, 0, none⟩)) (oo : Oper) (ho : oo.op = .fieldAddr 61 (.tmp t) 0) : (execOp a.eval oo).run Try.prog w = .ok (.value (.pointer (some ⟨b, 0, none⟩))) w := by
  have h' : a.tmps[t]?.getD undef = .pointer (some ⟨b, 0, none⟩) := by simpa using h
  unfold execOp
  rw [ho]
  go_simp
theorem op_load_int (a : Act) (w : World) (A : Addr) (t : Nat) (v : Value) (h : a.tmps.getD t undef = .pointer (some A)) (hc : w.cell? A = some v) (oo : Oper) (ho : oo.op = .load 3 (.tmp t)) : (execOp a.eval oo).run Try.prog w = .ok (.value v) w := by
  have h' : a.tmps[t]?.getD undef = .pointer (some A) := by simpa using h
  unfold execOp
  rw [ho]
  go_simp
/-- what operation j of the region leaves -/
def chk13R (gc gw P gb ob nb kb bd n qi : Nat) (AI : Option Addr) (bl : Int) (lN : ByteArray) (g tv : Bool) : Nat → (Nat → Value) → World → Prop
  | 0, f, _ => f 48 = .func (.func 74) #[.pointer (some ⟨P, 0, none⟩)] #[]
  | 1, f, _ => f 49 = .pointer (some ⟨gw, 2, none⟩)
  | 2, f, _ => f 50 = .slice AI n qi
  | 3, f, _ => f 51 = .bool g
  | 4, f, _ => f 52 = .bool (!g)
  | 5, f, _ => f 53 = .bool (!g)
  | 6, f, _ => g = true → f 54 = .pointer (some ⟨P, 10, none⟩)
  | 7, f, _ => g = true → f 55 = .string lN
  | 8, f, _ => g = true → f 56 = .pointer (some ⟨gc, 4, none⟩)
  | 9, f, _ => g = true → f 57 = .slice (some ⟨gb, ob, none⟩) nb kb
  | 10, f, _ => g = true → f 58 = .pointer (some ⟨gw, 0, none⟩)
  | 11, f, _ => g = true → f 59 = .int .i64 (bd : Int)
  | 12, f, _ => g = true → f 60 = .pointer (some ⟨gb, ob + bd, none⟩)
  | 13, f, _ => g = true → f 61 = .int .i64 bl
  | 14, f, _ => g = true → f 62 = .bool tv
  | 15, f, _ => g = true → f 63 = .bool (!tv)
  | 16, f, _ => f 64 = .bool (!g || !tv)
  | 17, f, _ => f 47 = .bool (!g || !tv)
  | _, _, _ => True
def chk13M : Nat → List Nat
  | 0 => [48]
  | 1 => [49]
  | 2 => [50]
  | 3 => [51]
  | 4 => [52]
  | 5 => [53]
  | 6 => [54]
  | 7 => [55]
  | 8 => [56]
  | 9 => [57]
  | 10 => [58]
  | 11 => [59]
  | 12 => [60]
  | 13 => [61]
  | 14 => [62]
  | 15 => [63]
  | 16 => [64]
  | 17 => [47]
  | _ => []
theorem chk13_stab {gc gw P gb ob nb kb bd n qi : Nat} {AI : Option Addr} {bl : Int} {lN : ByteArray} {g tv : Bool} (jj : Nat) {f f' : Nat → Value} {w w' : World}  (hf : ∀ t ∈ chk13M jj, f' t = f t) (h : chk13R gc gw P gb ob nb kb bd n qi AI bl lN g tv jj f w) : chk13R gc gw P gb ob nb kb bd n qi AI bl lN g tv jj f' w' := by
  match jj, hf, h with
  | 0, hf, h =>
    exact (hf 48 (by decide)).trans h
  | 1, hf, h => exact (hf 49 (by decide)).trans h
  | 2, hf, h => exact (hf 50 (by decide)).trans h
  | 3, hf, h => exact (hf 51 (by decide)).trans h
  | 4, hf, h => exact (hf 52 (by decide)).trans h
  | 5, hf, h => exact (hf 53 (by decide)).trans h
  | 6, hf, h => exact fun hb => (hf 54 (by decide)).trans (h hb)
  | 7, hf, h => exact fun hb => (hf 55 (by decide)).trans (h hb)
  | 8, hf, h => exact fun hb => (hf 56 (by decide)).trans (h hb)
  | 9, hf, h => exact fun hb => (hf 57 (by decide)).trans (h hb)
  | 10, hf, h => exact fun hb => (hf 58 (by decide)).trans (h hb)
  | 11, hf, h => exact fun hb => (hf 59 (by decide)).trans (h hb)
  | 12, hf, h => exact fun hb => (hf 60 (by decide)).trans (h hb)
  | 13, hf, h => exact fun hb => (hf 61 (by decide)).trans (h hb)
  | 14, hf, h => exact fun hb => (hf 62 (by decide)).trans (h hb)
  | 15, hf, h => exact fun hb => (hf 63 (by decide)).trans (h hb)
  | 16, hf, h => exact (hf 64 (by decide)).trans h
  | 17, hf, h => exact (hf 47 (by decide)).trans h
  | _ + 18, _, _ => trivial
set_option maxHeartbeats 16000000 in
set_option maxRecDepth 100000 in
theorem pcheck_any (c : Cir) (s : Places) (L : List Clz) (A : Option Addr) (q : Nat) (x : Wit) (AI : Option Addr) (qi : Nat) (w : World) (h : CLies w w.heap.size c s) (hf : CFits c s) (ha : ALies w w.heap.size A L) (hi : SLies w w.heap.size AI x.inputs) :
    Calls Try.prog 35 #[cirV c s, .slice A L.length q, witV x AI qi] w fun e w' => e = .returned (.int .i64 (pathE c (L.map Clz.l) x)) ∧ Below w.heap.size w w' := by
  obtain ⟨WA, hWA⟩ : ∃ y, w.alloc (.cells #[.int .i64 c.max, .slice s.ai c.ins.length s.ki, .slice s.al c.lats.length s.kl, .slice s.ao c.outs.length s.ko, .slice s.ab c.bads.length s.kb, .slice s.ac c.invs.length s.kc, .slice s.aa c.ands.length s.ka, .slice s.an c.names.length s.kn] 27) = y := ⟨_, rfl⟩
  have bA : Below w.heap.size w WA := by rw [← hWA]; exact (Below.refl _ _).alloc (Nat.le_refl _) _
  have gA : WA.heap[w.heap.size]? = some (.cells (cirC c s) 27 (0, 0)) := by rw [← hWA]; exact Array.getElem?_push_size
  have sA : WA.heap.size = w.heap.size + 1 := by rw [← hWA]; simp
  obtain ⟨WB, hWB⟩ : ∃ y, WA.alloc (.cells #[.int .i64 x.bad, .string x.state, .slice AI x.inputs.length qi] 61) = y := ⟨_, rfl⟩
  have bB : Below WA.heap.size WA WB := by rw [← hWB]; exact (Below.refl _ _).alloc (Nat.le_refl _) _
  have TB : Hid (WB.heap[w.heap.size + 1]? = some (.cells #[.int .i64 x.bad, .string x.state, .slice AI x.inputs.length qi] 61 (0, 0))) := by unfold Hid; rw [← hWB, ← sA]; exact Array.getElem?_push_size
  have GB : Hid (WB.heap[w.heap.size]? = some (.cells (cirC c s) 27 (0, 0))) := (bB.block _ (lt_of_block gA)).trans gA
  have BB : Hid (Below w.heap.size w WB) := bA.trans (bB.mono bA.size)
  have LW : Hid (∀ y, Below w.heap.size w y → CLies y y.heap.size c s) := fun y hy => (h.below hy).more hy.size
  have LC : Hid (∀ y, Below w.heap.size w y → CLies y w.heap.size c s) := fun y hy => h.below hy
  have LA : Hid (∀ y, Below w.heap.size w y → ALies y w.heap.size A L) := fun y hy => ha.below hy
  have LI : Hid (∀ y, Below w.heap.size w y → SLies y w.heap.size AI x.inputs) := fun y hy => hi.below hy
  have HF := Lib.hid hf
  have CK := Lib.hid (check_any c s WB (LW.out _ BB.out) hf)
  obtain ⟨e0, e1, e2, e3, e4, e5, e6, e7⟩ := cells8 GB.out
  obtain ⟨t0, t1, t2⟩ := two_cells TB.out
  cases hr : refOk c with
  | false =>
    have HE : Hid (pathE c (L.map Clz.l) x = 9) := path_state hr
    rw [chkV_no c ((chk_same c).trans hr)] at CK
    clear h hf ha hi hr gA bA bB
    unfold cirV witV at *
    rw [show cirC c s = #[.int .i64 c.max, .slice s.ai c.ins.length s.ki, .slice s.al c.lats.length s.kl, .slice s.ao c.outs.length s.ko, .slice s.ab c.bads.length s.kb, .slice s.ac c.invs.length s.kc, .slice s.aa c.ands.length s.ka, .slice s.an c.names.length s.kn] from rfl] at CK ⊢
    go_enter Try.func35, Try.ntmps35
    go_wp2_with fail
    refine CK.out.mono ?_
    rintro e w1 ⟨rfl, hb⟩
    have BF : Hid (Below w.heap.size w w1) := BB.out.trans (hb.mono BB.out.size)
    clear hb CK e0 e1 e2 e3 e4 e5 e6 e7 t0 t1 t2 hWA hWB sA
    go_wp2
    go_ret
    exact ⟨by rw [HE.out]; rfl, BF.out⟩
  | true =>
    have HR := Lib.hid hr
    rw [chkV_yes c ((chk_same c).trans hr)] at CK
    clear h hf ha hi hr gA bA bB
    unfold cirV witV at *
    rw [show cirC c s = #[.int .i64 c.max, .slice s.ai c.ins.length s.ki, .slice s.al c.lats.length s.kl, .slice s.ao c.outs.length s.ko, .slice s.ab c.bads.length s.kb, .slice s.ac c.invs.length s.kc, .slice s.aa c.ands.length s.ka, .slice s.an c.names.length s.kn] from rfl] at CK ⊢
    go_enter Try.func35, Try.ntmps35
    go_wp2_with fail
    refine CK.out.mono ?_
    rintro e w1 ⟨rfl, hb⟩
    have B1 : Hid (Below w.heap.size w w1) := BB.out.trans (hb.mono BB.out.size)
    have T1 : Hid (w1.heap[w.heap.size + 1]? = some (.cells #[.int .i64 x.bad, .string x.state, .slice AI x.inputs.length qi] 61 (0, 0))) := (hb.block _ (lt_of_block TB.out)).trans TB.out
    have G1 : Hid (w1.heap[w.heap.size]? = some (.cells (cirC c s) 27 (0, 0))) := (hb.block _ (lt_of_block GB.out)).trans GB.out
    clear hb CK e0 e1 e2 e3 e4 e5 e6 e7 t0 t1 t2 hWA hWB sA BB TB GB
    obtain ⟨e0, e1, e2, e3, e4, e5, e6, e7⟩ := cells8 G1.out
    obtain ⟨t0, t1, t2⟩ := two_cells T1.out
    obtain ⟨WZ, hWZ⟩ : ∃ y, w1.alloc (.cells #[.int .i64 0, .slice none 0 0, .slice none 0 0, .slice none 0 0, .slice none 0 0, .slice none 0 0, .slice none 0 0, .slice none 0 0, .slice none 0 0, .string ⟨#[]⟩, .string ⟨#[]⟩] 100) = y := ⟨_, rfl⟩
    have bZ : Below w1.heap.size w1 WZ := by rw [← hWZ]; exact (Below.refl _ _).alloc (Nat.le_refl _) _
    have gZ : WZ.heap[w1.heap.size]? = some (.cells #[.int .i64 0, .slice none 0 0, .slice none 0 0, .slice none 0 0, .slice none 0 0, .slice none 0 0, .slice none 0 0, .slice none 0 0, .slice none 0 0, .string ⟨#[]⟩, .string ⟨#[]⟩] 100 (0, 0)) := by rw [← hWZ]; exact Array.getElem?_push_size
    obtain ⟨r1, r2, r3, r4, r5, r6, r7, r8, r9, r10, WP, rv0, rv1, rv2, rv3, rv4, rv5, rv6, rv7, rv8, rv9, rv10, ⟨rh0, ra0, rb0⟩, ⟨rh1, ra1, rb1⟩, ⟨rh2, ra2, rb2⟩, ⟨rh3, ra3, rb3⟩, ⟨rh4, ra4, rb4⟩, ⟨rh5, ra5, rb5⟩, ⟨rh6, ra6, rb6⟩, ⟨rh7, ra7, rb7⟩, ⟨rh8, ra8, rb8⟩, ⟨rh9, ra9, rb9⟩, ⟨rh10, ra10, rb10⟩, EP, FP⟩ := store11 gZ rfl (.int .i64 c.max) (.slice s.ai c.ins.length s.ki) (.slice s.al c.lats.length s.kl) (.slice s.ao c.outs.length s.ko) (.slice s.ab c.bads.length s.kb) (.slice s.ac c.invs.length s.kc) (.slice s.aa c.ands.length s.ka) (.slice s.an c.names.length s.kn) (.slice A L.length q) (.string x.state) (.string ⟨#[]⟩)
    have bP : Below w1.heap.size w1 WP := FP.below bZ (Nat.le_refl _)
    have PP : Hid (PathAt WP w1.heap.size c s A L.length q x.state ⟨#[]⟩) := EP
    clear gZ bZ EP FP
    have HPW : Hid (w.heap.size ≤ w1.heap.size) := B1.out.size
    have HL1 : Hid (w.heap.size + 1 < w1.heap.size) := lt_of_block T1.out
    have BP : Hid (Below w.heap.size w WP) := B1.out.trans (bP.mono B1.out.size)
    have GP : Hid (WP.heap[w.heap.size]? = some (.cells (cirC c s) 27 (0, 0))) := (bP.block _ (lt_of_block G1.out)).trans G1.out
    have TP : Hid (WP.heap[w.heap.size + 1]? = some (.cells #[.int .i64 x.bad, .string x.state, .slice AI x.inputs.length qi] 61 (0, 0))) := (bP.block _ (lt_of_block T1.out)).trans T1.out
    obtain ⟨f0, f1, f2, f3, f4, f5, f6, f7⟩ := cells8 GP.out
    obtain ⟨v0, v1, v2⟩ := two_cells TP.out
    clear bP
    by_cases h1 : x.bad < 0
    · have HE : Hid (pathE c (L.map Clz.l) x = 4) := path_range HR.out (.inl h1)
      go_wp2
      go_ret
      exact ⟨by rw [HE.out]; rfl, BP.out⟩
    by_cases h2 : (c.bads.length : Int) ≤ x.bad
    · have HE : Hid (pathE c (L.map Clz.l) x = 4) := path_range HR.out (.inr h2)
      go_wp2
      go_ret
      exact ⟨by rw [HE.out]; rfl, BP.out⟩
    have HNB : Hid (¬ (x.bad < 0 ∨ (c.bads.length : Int) ≤ x.bad)) := by unfold Hid; omega
    by_cases h3 : x.inputs = []
    · have HE : Hid (pathE c (L.map Clz.l) x = 8) := path_short HR.out HNB.out h3
      have h4 : ((x.inputs.length : Int) == 0) = true := by rw [h3]; rfl
      clear h3
      go_wp2
      go_ret
      exact ⟨by rw [HE.out]; rfl, BP.out⟩
    have HNI := Lib.hid h3
    have h4 : ((x.inputs.length : Int) == 0) = false := by
      rw [beq_eq_false_iff_ne]
      intro h
      exact h3 (List.eq_nil_of_length_eq_zero (by omega))
    clear h3
    have FT := Lib.hid (fits_any w1.heap.size c s A L.length q x.state ⟨#[]⟩ x.inputs AI qi WP PP.out ((LI.out _ BP.out).more BP.out.size))
    cases hq : (bitsM x.state (c.lats.length : Int) && x.inputs.all (fun i => bitsM i (c.ins.length : Int))) with
    | false =>
      have HE : Hid (pathE c (L.map Clz.l) x = 5) := path_long HR.out HNB.out HNI.out hq
      rw [hq] at FT
      clear hq
      go_wp2_with fail
      refine FT.out.mono ?_
      rintro e w2 ⟨rfl, hb⟩
      have BF : Hid (Below w.heap.size w w2) := BP.out.trans (hb.mono BP.out.size)
      clear hb FT e0 e1 e2 e3 e4 e5 e6 e7 t0 t1 t2 f0 f1 f2 f3 f4 f5 f6 f7 v0 v1 v2 hWZ rh0 ra0 rb0 rh1 ra1 rb1 rh2 ra2 rb2 rh3 ra3 rb3 rh4 ra4 rb4 rh5 ra5 rb5 rh6 ra6 rb6 rh7 ra7 rb7 rh8 ra8 rb8 rh9 ra9 rb9 rh10 ra10 rb10 h1 h2 h4
      go_wp2
      go_ret
      exact ⟨by rw [HE.out]; rfl, BF.out⟩
    | true =>
      have HFT := Lib.hid hq
      rw [hq] at FT
      clear hq
      go_wp2_with fail
      refine FT.out.mono ?_
      rintro e w2 ⟨rfl, hb⟩
      have B2 : Hid (Below w.heap.size w w2) := BP.out.trans (hb.mono BP.out.size)
      have G2 : Hid (w2.heap[w.heap.size]? = some (.cells (cirC c s) 27 (0, 0))) := (hb.block _ (lt_of_block GP.out)).trans GP.out
      have T2 : Hid (w2.heap[w.heap.size + 1]? = some (.cells #[.int .i64 x.bad, .string x.state, .slice AI x.inputs.length qi] 61 (0, 0))) := (hb.block _ (lt_of_block TP.out)).trans TP.out
      have P2 : Hid (PathAt w2 w1.heap.size c s A L.length q x.state ⟨#[]⟩) := PP.out.below hb
      have HB1 : Hid (0 ≤ x.bad ∧ x.bad < (c.bads.length : Int)) := by unfold Hid; omega
      clear hb FT e0 e1 e2 e3 e4 e5 e6 e7 t0 t1 t2 f0 f1 f2 f3 f4 f5 f6 f7 v0 v1 v2 hWZ rh0 ra0 rb0 rh1 ra1 rb1 rh2 ra2 rb2 rh3 ra3 rb3 rh4 ra4 rb4 rh5 ra5 rb5 rh6 ra6 rb6 rh7 ra7 rb7 rh8 ra8 rb8 rh9 ra9 rb9 rh10 ra10 rb10 h1 h2 h4 PP GP TP BP T1 G1
      obtain ⟨e0, e1, e2, e3, e4, e5, e6, e7⟩ := cells8 G2.out
      obtain ⟨t0, t1, t2⟩ := two_cells T2.out
      have HBS : Hid (bitsM x.state (c.lats.length : Int) = true) := by have := HFT.out; rw [Bool.and_eq_true] at this; exact this.1
      have IN := Lib.hid (initial_any c s x.state w2 (LW.out _ B2.out) HF.out HR.out HBS.out)
      unfold cirV at IN
      rw [show cirC c s = #[.int .i64 c.max, .slice s.ai c.ins.length s.ki, .slice s.al c.lats.length s.kl, .slice s.ao c.outs.length s.ko, .slice s.ab c.bads.length s.kb, .slice s.ac c.invs.length s.kc, .slice s.aa c.ands.length s.ka, .slice s.an c.names.length s.kn] from rfl] at IN
      cases hq : initM c x.state with
      | false =>
        have HE : Hid (pathE c (L.map Clz.l) x = 9) := path_first HR.out HNB.out HNI.out HFT.out hq
        rw [hq] at IN
        clear hq
        go_wp2_with fail
        refine IN.out.mono ?_
        rintro e w3 ⟨rfl, hb⟩
        have BF : Hid (Below w.heap.size w w3) := B2.out.trans (hb.mono B2.out.size)
        clear hb IN e0 e1 e2 e3 e4 e5 e6 e7 t0 t1 t2
        go_wp2
        go_ret
        exact ⟨by rw [HE.out]; rfl, BF.out⟩
      | true =>
        have HIT := Lib.hid hq
        rw [hq] at IN
        clear hq
        go_wp2_with fail
        refine IN.out.mono ?_
        rintro e w3 ⟨rfl, hb⟩
        have B3 : Hid (Below w.heap.size w w3) := B2.out.trans (hb.mono B2.out.size)
        have G3 : Hid (w3.heap[w.heap.size]? = some (.cells (cirC c s) 27 (0, 0))) := (hb.block _ (lt_of_block G2.out)).trans G2.out
        have T3 : Hid (w3.heap[w.heap.size + 1]? = some (.cells #[.int .i64 x.bad, .string x.state, .slice AI x.inputs.length qi] 61 (0, 0))) := (hb.block _ (lt_of_block T2.out)).trans T2.out
        have HP3 : Hid (PathAt w3.drew w1.heap.size c s A L.length q x.state ⟨#[]⟩) := P2.out.below hb.drew
        have HPL : Hid (w1.heap.size < w3.heap.size) := lt_of_block (P2.out.below hb)
        have HLT1 : Hid (w.heap.size + 1 < w1.heap.size) := HL1.out
        clear hb IN e0 e1 e2 e3 e4 e5 e6 e7 t0 t1 t2 G2 T2 P2
        obtain ⟨bd, hbd⟩ : ∃ bd : Nat, x.bad = (bd : Int) := ⟨x.bad.toNat, by have := HB1.out; omega⟩
        have HBD : Hid (bd < c.bads.length) := by have := HB1.out; unfold Hid; omega
        obtain ⟨gb, ob, hA, hgb, hcb⟩ := LRow_one (LC.out _ B3.out).bads (k := bd) (by simpa [ints] using HBD.out) (v := .int .i64 (c.bads[bd]'HBD.out)) (by simp [ints])
        have HGB := Lib.hid hgb
        have LB : Hid (∀ y, Below w1.heap.size w3 y → y.cell? ⟨w.heap.size, 4, none⟩ = some (.slice (some ⟨gb, ob, none⟩) c.bads.length s.kb) ∧ y.cell? ⟨gb, ob + bd, none⟩ = some (.int .i64 c.bads[bd])) := fun y hy => by
          have h0 := HLT1.out
          have g0 : y.heap[w.heap.size]? = some (.cells (cirC c s) 27 (0, 0)) := (hy.block _ (by omega)).trans G3.out
          refine ⟨by rw [← hA]; exact (cells8 g0).2.2.2.2.1, ?_⟩
          rw [hy.cell (show gb < w1.heap.size by have := HGB.out; omega)]; exact hcb
        have LT : Hid (∀ y, Below w1.heap.size w3 y → y.cell? ⟨w.heap.size + 1, 0, none⟩ = some (.int .i64 (bd : Int)) ∧ y.cell? ⟨w.heap.size + 1, 1, none⟩ = some (.string x.state) ∧ y.cell? ⟨w.heap.size + 1, 2, none⟩ = some (.slice AI x.inputs.length qi)) := fun y hy => by
          have h0 := HLT1.out
          rw [← hbd]
          exact two_cells ((hy.block _ (by omega)).trans T3.out)
        obtain ⟨gg, hgg⟩ : ∃ y, goesM c (L.map Clz.l) x.state x.inputs = y := ⟨_, rfl⟩
        obtain ⟨sN, hsN⟩ : ∃ y, stM c x.state x.inputs = y := ⟨_, rfl⟩
        obtain ⟨lN, hlN⟩ : ∃ y, sb (lastV c [] x.state x.inputs) = y := ⟨_, rfl⟩
        have hlz : lN.size ≤ 9223372036854775807 := by
          rw [← hlN, sb_size]
          obtain ⟨m, hm, hm1⟩ := max_nat HR.out
          have := lastV_len c (by rw [vals_len, hm]; simp; omega) x.inputs [] x.state (by simp)
          omega
        have KG : Hid (∀ y, But2 w1.heap.size w3 y → PathAt y w1.heap.size c s A L.length q x.state ⟨#[]⟩ → Calls Try.prog 73 #[.func (.func 74) #[.pointer (some ⟨w1.heap.size, 0, none⟩)] #[], .slice AI x.inputs.length qi] y fun e w' => e = .returned (.bool gg) ∧ But2 w1.heap.size y w' ∧ (gg = true → PathAt w' w1.heap.size c s A L.length q sN lN)) := fun y hy hp => by
          have hby : Below w.heap.size w y := B3.out.trans (hy.b.mono HPW.out)
          have hbi : ∀ i ∈ x.inputs, bitsM i (c.ins.length : Int) = true := by have := HFT.out; rw [Bool.and_eq_true] at this; exact List.all_eq_true.1 this.2
          have := allS_goes w1.heap.size c s L A q x.state [] x.inputs AI qi y hp ((LC.out y hby).more HPW.out) HF.out ((LA.out y hby).more HPW.out) HR.out HBS.out hbi ((LI.out y hby).more HPW.out)
          rw [hgg, hsN, hlN] at this
          exact this
        obtain ⟨bl, hbl⟩ : ∃ y, c.bads[bd] = y := ⟨_, rfl⟩
        rw [hbl] at LB
        obtain ⟨tv, htv⟩ : ∃ y, trueM lN.data.toList bl = y := ⟨_, rfl⟩
        have KS : Hid (∀ y, Calls Try.prog 75 #[.string lN, .int .i64 bl] y fun e w' => e = .returned (.bool tv) ∧ Below y.heap.size y w') := fun y => by
          rw [← htv]
          exact sets_any lN bl y hlz (by rw [← hbl]; exact (HF.out.bads _ (List.getElem_mem HBD.out)).2)
        have HST : Hid (stepsM c (L.map Clz.l) x.bad x.state x.inputs = (gg && tv)) := by
          unfold Hid
          rw [steps_goes c _ _ _ [] _ HNI.out, hgg, ← htv, ← hlN, sb_list, hbd, Int.toNat_natCast]
          have e : c.bads.getD bd 0 = bl := by rw [← hbl, List.getD_eq_getElem?_getD, List.getElem?_eq_getElem HBD.out]; rfl
          rw [e]
        have EA : Hid (∀ args w, (callFunc 73 args).run Try.prog w = .ok (.enter 73 args) w) := enters_of Try.func73 (by kernel_rfl) rfl
        have ES : Hid (∀ args w, (callFunc 75 args).run Try.prog w = .ok (.enter 75 args) w) := enters_of Try.func75 (by kernel_rfl) rfl
        clear hgg hsN hlN hlz hbl htv hbd hA hgb hcb HGB HB1
        go_wp2
        refine wp_region_guardsE (by kernel_rfl) (by kernel_rfl) chk13M (by kernel_rfl) (by kernel_rfl)
          (fun d w' => But2 w1.heap.size w3 w' ∧ (d 3 = false → PathAt w' w1.heap.size c s A L.length q x.state ⟨#[]⟩) ∧ (d 3 = true → gg = true → PathAt w' w1.heap.size c s A L.length q sN lN)) (chk13R w.heap.size (w.heap.size + 1) w1.heap.size gb ob c.bads.length s.kb bd x.inputs.length qi AI bl lN gg tv) ⟨But2.drew _ _, fun _ => HP3.out, fun h => Bool.noConfusion h⟩ (fun jj f f' w w' hb hf h => chk13_stab jj  hf h) ?_ ?_ ?_
        · intro i oo d a' w' ho hw hok hrun hD
          match i, ho, hD, hw, hrun with
          | 0, ho, hD, hw, hrun =>
            obtain rfl := Option.some.inj ho
            exact Bool.noConfusion (show true = false from hw)
          | 1, ho, hD, hw, hrun =>
            obtain rfl := Option.some.inj ho
            exact Bool.noConfusion (show true = false from hw)
          | 2, ho, hD, hw, hrun =>
            obtain rfl := Option.some.inj ho
            exact Bool.noConfusion (show true = false from hw)
          | 3, ho, hD, hw, hrun =>
            obtain rfl := Option.some.inj ho
            exact Bool.noConfusion (show true = false from hw)
          | 4, ho, hD, hw, hrun =>
            obtain rfl := Option.some.inj ho
            exact Bool.noConfusion (show true = false from hw)
          | 5, ho, hD, hw, hrun =>
            obtain rfl := Option.some.inj ho
            exact Bool.noConfusion (show true = false from hw)
          | 6, ho, hD, hw, hrun =>
            obtain rfl := Option.some.inj ho
            have hy : a'.tmps.getD 53 undef = .bool (!gg) := hD 5 (by kernel_rfl)
            rw [wanted_of (t := 53) rfl rfl hy] at hw
            exact ⟨⟨hok.1, fun h => hok.2.1 (by simp only [Bool.or_eq_false_iff] at h; exact h.2), fun h => hok.2.2 (by simpa using h)⟩, fun f _ _ hb => by rw [hb] at hw; simp at hw⟩
          | 7, ho, hD, hw, hrun =>
            obtain rfl := Option.some.inj ho
            have hy : a'.tmps.getD 53 undef = .bool (!gg) := hD 5 (by kernel_rfl)
            rw [wanted_of (t := 53) rfl rfl hy] at hw
            exact ⟨⟨hok.1, fun h => hok.2.1 (by simp only [Bool.or_eq_false_iff] at h; exact h.2), fun h => hok.2.2 (by simpa using h)⟩, fun f _ _ hb => by rw [hb] at hw; simp at hw⟩
          | 8, ho, hD, hw, hrun =>
            obtain rfl := Option.some.inj ho
            have hy : a'.tmps.getD 53 undef = .bool (!gg) := hD 5 (by kernel_rfl)
            rw [wanted_of (t := 53) rfl rfl hy] at hw
            exact ⟨⟨hok.1, fun h => hok.2.1 (by simp only [Bool.or_eq_false_iff] at h; exact h.2), fun h => hok.2.2 (by simpa using h)⟩, fun f _ _ hb => by rw [hb] at hw; simp at hw⟩
          | 9, ho, hD, hw, hrun =>
            obtain rfl := Option.some.inj ho
            have hy : a'.tmps.getD 53 undef = .bool (!gg) := hD 5 (by kernel_rfl)
            rw [wanted_of (t := 53) rfl rfl hy] at hw
            exact ⟨⟨hok.1, fun h => hok.2.1 (by simp only [Bool.or_eq_false_iff] at h; exact h.2), fun h => hok.2.2 (by simpa using h)⟩, fun f _ _ hb => by rw [hb] at hw; simp at hw⟩
          | 10, ho, hD, hw, hrun =>
            obtain rfl := Option.some.inj ho
            have hy : a'.tmps.getD 53 undef = .bool (!gg) := hD 5 (by kernel_rfl)
            rw [wanted_of (t := 53) rfl rfl hy] at hw
            exact ⟨⟨hok.1, fun h => hok.2.1 (by simp only [Bool.or_eq_false_iff] at h; exact h.2), fun h => hok.2.2 (by simpa using h)⟩, fun f _ _ hb => by rw [hb] at hw; simp at hw⟩
          | 11, ho, hD, hw, hrun =>
            obtain rfl := Option.some.inj ho
            have hy : a'.tmps.getD 53 undef = .bool (!gg) := hD 5 (by kernel_rfl)
            rw [wanted_of (t := 53) rfl rfl hy] at hw
            exact ⟨⟨hok.1, fun h => hok.2.1 (by simp only [Bool.or_eq_false_iff] at h; exact h.2), fun h => hok.2.2 (by simpa using h)⟩, fun f _ _ hb => by rw [hb] at hw; simp at hw⟩
          | 12, ho, hD, hw, hrun =>
            obtain rfl := Option.some.inj ho
            have hy : a'.tmps.getD 53 undef = .bool (!gg) := hD 5 (by kernel_rfl)
            rw [wanted_of (t := 53) rfl rfl hy] at hw
            exact ⟨⟨hok.1, fun h => hok.2.1 (by simp only [Bool.or_eq_false_iff] at h; exact h.2), fun h => hok.2.2 (by simpa using h)⟩, fun f _ _ hb => by rw [hb] at hw; simp at hw⟩
          | 13, ho, hD, hw, hrun =>
            obtain rfl := Option.some.inj ho
            have hy : a'.tmps.getD 53 undef = .bool (!gg) := hD 5 (by kernel_rfl)
            rw [wanted_of (t := 53) rfl rfl hy] at hw
            exact ⟨⟨hok.1, fun h => hok.2.1 (by simp only [Bool.or_eq_false_iff] at h; exact h.2), fun h => hok.2.2 (by simpa using h)⟩, fun f _ _ hb => by rw [hb] at hw; simp at hw⟩
          | 14, ho, hD, hw, hrun =>
            obtain rfl := Option.some.inj ho
            have hy : a'.tmps.getD 53 undef = .bool (!gg) := hD 5 (by kernel_rfl)
            rw [wanted_of (t := 53) rfl rfl hy] at hw
            exact ⟨⟨hok.1, fun h => hok.2.1 (by simp only [Bool.or_eq_false_iff] at h; exact h.2), fun h => hok.2.2 (by simpa using h)⟩, fun f _ _ hb => by rw [hb] at hw; simp at hw⟩
          | 15, ho, hD, hw, hrun =>
            obtain rfl := Option.some.inj ho
            have hy : a'.tmps.getD 53 undef = .bool (!gg) := hD 5 (by kernel_rfl)
            rw [wanted_of (t := 53) rfl rfl hy] at hw
            exact ⟨⟨hok.1, fun h => hok.2.1 (by simp only [Bool.or_eq_false_iff] at h; exact h.2), fun h => hok.2.2 (by simpa using h)⟩, fun f _ _ hb => by rw [hb] at hw; simp at hw⟩
          | 16, ho, hD, hw, hrun =>
            obtain rfl := Option.some.inj ho
            exact Bool.noConfusion (show true = false from hw)
          | 17, ho, hD, hw, hrun =>
            obtain rfl := Option.some.inj ho
            exact Bool.noConfusion (show true = false from hw)
          | i + 18, ho, _, _, _ => exact absurd ho (by simp)
        · intro i oo d a' w' ho hwt hd hun hdf hok hrun hD K hK hK0
          match i, ho, hd, hD, hK, hK0, hun, hwt, hrun with
          | 0, ho, hd, hD, hK, hK0, hun, hwt, hrun =>
            have e := (congrArg Oper.op (Option.some.inj ho)).symm
            obtain rfl := Option.some.inj ho
            exact wp_val (op_mkfunc a' w' _ 8 _ (hun 8 (by kernel_rfl)) _ e) (hK _ _ (Below.refl _ _) ⟨hok.1, fun h => hok.2.1 (by simp only [Bool.or_eq_false_iff] at h; exact h.2), fun h => hok.2.2 (by simpa using h)⟩ (fun f h1 _ => h1 _ rfl))
          | 1, ho, hd, hD, hK, hK0, hun, hwt, hrun =>
            have e := (congrArg Oper.op (Option.some.inj ho)).symm
            obtain rfl := Option.some.inj ho
            exact wp_val (op_field_api_Witness_2 a' w' _ 5 (hun 5 (by kernel_rfl)) _ e) (hK _ _ (Below.refl _ _) ⟨hok.1, fun h => hok.2.1 (by simp only [Bool.or_eq_false_iff] at h; exact h.2), fun h => hok.2.2 (by simpa using h)⟩ (fun f h1 _ => h1 _ rfl))
          | 2, ho, hd, hD, hK, hK0, hun, hwt, hrun =>
            have e := (congrArg Oper.op (Option.some.inj ho)).symm
            obtain rfl := Option.some.inj ho
            exact wp_val (op_load_Lstring a' w' _ 49 _ (hD 1 (by kernel_rfl)) (LT.out _ hok.1.b).2.2 _ e) (hK _ _ (Below.refl _ _) ⟨hok.1, fun h => hok.2.1 (by simp only [Bool.or_eq_false_iff] at h; exact h.2), fun h => hok.2.2 (by simpa using h)⟩ (fun f h1 _ => h1 _ rfl))
          | 3, ho, hd, hD, hK, hK0, hun, hwt, hrun =>
            have e := (congrArg Oper.op (Option.some.inj ho)).symm
            obtain rfl := Option.some.inj ho
            refine wp_enter (op_call2r a' w' _ 48 50 _ _ EA.out _ e) ?_
            rw [show a'.tmps.getD 48 undef = .func (.func 74) #[.pointer (some ⟨w1.heap.size, 0, none⟩)] #[] from hD 0 (by kernel_rfl), show a'.tmps.getD 50 undef = .slice AI x.inputs.length qi from hD 2 (by kernel_rfl)]
            refine (KG.out w' hok.1 (hok.2.1 (hd 3 (by kernel_rfl)))).mono ?_
            rintro e w'' ⟨rfl, hb, hp⟩
            exact .inl ⟨_, rfl, hK0 _ _ ⟨hok.1.trans hb, fun h => by simp at h, fun _ hg => hp hg⟩ (fun f h1 _ => h1 _ rfl) (fun j f hj hf hq => chk13_stab j hf hq)⟩
          | 4, ho, hd, hD, hK, hK0, hun, hwt, hrun =>
            have e := (congrArg Oper.op (Option.some.inj ho)).symm
            obtain rfl := Option.some.inj ho
            exact wp_val (op_not a' w' _ 51 (hD 3 (by kernel_rfl)) _ e) (hK _ _ (Below.refl _ _) ⟨hok.1, fun h => hok.2.1 (by simp only [Bool.or_eq_false_iff] at h; exact h.2), fun h => hok.2.2 (by simpa using h)⟩ (fun f h1 _ => h1 _ rfl))
          | 5, ho, hd, hD, hK, hK0, hun, hwt, hrun =>
            have e := (congrArg Oper.op (Option.some.inj ho)).symm
            obtain rfl := Option.some.inj ho
            exact wp_val (op_move a' w' 52 _ e) (hK _ _ (Below.refl _ _) ⟨hok.1, fun h => hok.2.1 (by simp only [Bool.or_eq_false_iff] at h; exact h.2), fun h => hok.2.2 (by simpa using h)⟩ (fun f h1 _ => (h1 _ rfl).trans (hD 4 (by kernel_rfl))))
          | 6, ho, hd, hD, hK, hK0, hun, hwt, hrun =>
            have e := (congrArg Oper.op (Option.some.inj ho)).symm
            obtain rfl := Option.some.inj ho
            have hy : a'.tmps.getD 53 undef = .bool (!gg) := hD 5 (by kernel_rfl)
            have hb : gg = true := by
              rw [wanted_of (t := 53) rfl rfl hy] at hwt
              revert hwt; cases gg <;> simp
            exact wp_val (op_field_replay_path_3 a' w' _ 8 (hun 8 (by kernel_rfl)) _ e) (hK _ _ (Below.refl _ _) ⟨hok.1, fun h => hok.2.1 (by simp only [Bool.or_eq_false_iff] at h; exact h.2), fun h => hok.2.2 (by simpa using h)⟩ (fun f h1 _ _ => h1 _ rfl))
          | 7, ho, hd, hD, hK, hK0, hun, hwt, hrun =>
            have e := (congrArg Oper.op (Option.some.inj ho)).symm
            obtain rfl := Option.some.inj ho
            have hy : a'.tmps.getD 53 undef = .bool (!gg) := hD 5 (by kernel_rfl)
            have hb : gg = true := by
              rw [wanted_of (t := 53) rfl rfl hy] at hwt
              revert hwt; cases gg <;> simp
            exact wp_val (op_load_replay_step a' w' _ 54 _ (hD 6 (by kernel_rfl) hb) (cells11 (hok.2.2 (hrun 3 (by kernel_rfl)) hb)).2.2.2.2.2.2.2.2.2.2 _ e) (hK _ _ (Below.refl _ _) ⟨hok.1, fun h => hok.2.1 (by simp only [Bool.or_eq_false_iff] at h; exact h.2), fun h => hok.2.2 (by simpa using h)⟩ (fun f h1 _ _ => h1 _ rfl))
          | 8, ho, hd, hD, hK, hK0, hun, hwt, hrun =>
            have e := (congrArg Oper.op (Option.some.inj ho)).symm
            obtain rfl := Option.some.inj ho
            have hy : a'.tmps.getD 53 undef = .bool (!gg) := hD 5 (by kernel_rfl)
            have hb : gg = true := by
              rw [wanted_of (t := 53) rfl rfl hy] at hwt
              revert hwt; cases gg <;> simp
            exact wp_val (op_field_api_Circuit_4 a' w' _ 3 (hun 3 (by kernel_rfl)) _ e) (hK _ _ (Below.refl _ _) ⟨hok.1, fun h => hok.2.1 (by simp only [Bool.or_eq_false_iff] at h; exact h.2), fun h => hok.2.2 (by simpa using h)⟩ (fun f h1 _ _ => h1 _ rfl))
          | 9, ho, hd, hD, hK, hK0, hun, hwt, hrun =>
            have e := (congrArg Oper.op (Option.some.inj ho)).symm
            obtain rfl := Option.some.inj ho
            have hy : a'.tmps.getD 53 undef = .bool (!gg) := hD 5 (by kernel_rfl)
            have hb : gg = true := by
              rw [wanted_of (t := 53) rfl rfl hy] at hwt
              revert hwt; cases gg <;> simp
            exact wp_val (op_load_Lint a' w' _ 56 _ (hD 8 (by kernel_rfl) hb) (LB.out _ hok.1.b).1 _ e) (hK _ _ (Below.refl _ _) ⟨hok.1, fun h => hok.2.1 (by simp only [Bool.or_eq_false_iff] at h; exact h.2), fun h => hok.2.2 (by simpa using h)⟩ (fun f h1 _ _ => h1 _ rfl))
          | 10, ho, hd, hD, hK, hK0, hun, hwt, hrun =>
            have e := (congrArg Oper.op (Option.some.inj ho)).symm
            obtain rfl := Option.some.inj ho
            have hy : a'.tmps.getD 53 undef = .bool (!gg) := hD 5 (by kernel_rfl)
            have hb : gg = true := by
              rw [wanted_of (t := 53) rfl rfl hy] at hwt
              revert hwt; cases gg <;> simp
            exact wp_val (op_field_api_Witness_0 a' w' _ 5 (hun 5 (by kernel_rfl)) _ e) (hK _ _ (Below.refl _ _) ⟨hok.1, fun h => hok.2.1 (by simp only [Bool.or_eq_false_iff] at h; exact h.2), fun h => hok.2.2 (by simpa using h)⟩ (fun f h1 _ _ => h1 _ rfl))
          | 11, ho, hd, hD, hK, hK0, hun, hwt, hrun =>
            have e := (congrArg Oper.op (Option.some.inj ho)).symm
            obtain rfl := Option.some.inj ho
            have hy : a'.tmps.getD 53 undef = .bool (!gg) := hD 5 (by kernel_rfl)
            have hb : gg = true := by
              rw [wanted_of (t := 53) rfl rfl hy] at hwt
              revert hwt; cases gg <;> simp
            exact wp_val (op_load_int a' w' _ 58 _ (hD 10 (by kernel_rfl) hb) (LT.out _ hok.1.b).1 _ e) (hK _ _ (Below.refl _ _) ⟨hok.1, fun h => hok.2.1 (by simp only [Bool.or_eq_false_iff] at h; exact h.2), fun h => hok.2.2 (by simpa using h)⟩ (fun f h1 _ _ => h1 _ rfl))
          | 12, ho, hd, hD, hK, hK0, hun, hwt, hrun =>
            have e := (congrArg Oper.op (Option.some.inj ho)).symm
            obtain rfl := Option.some.inj ho
            have hy : a'.tmps.getD 53 undef = .bool (!gg) := hD 5 (by kernel_rfl)
            have hb : gg = true := by
              rw [wanted_of (t := 53) rfl rfl hy] at hwt
              revert hwt; cases gg <;> simp
            exact wp_val (op_index_i a' w' _ _ _ _ _ 57 59 (hD 9 (by kernel_rfl) hb) (hD 11 (by kernel_rfl) hb) HBD.out _ e) (hK _ _ (Below.refl _ _) ⟨hok.1, fun h => hok.2.1 (by simp only [Bool.or_eq_false_iff] at h; exact h.2), fun h => hok.2.2 (by simpa using h)⟩ (fun f h1 _ _ => h1 _ rfl))
          | 13, ho, hd, hD, hK, hK0, hun, hwt, hrun =>
            have e := (congrArg Oper.op (Option.some.inj ho)).symm
            obtain rfl := Option.some.inj ho
            have hy : a'.tmps.getD 53 undef = .bool (!gg) := hD 5 (by kernel_rfl)
            have hb : gg = true := by
              rw [wanted_of (t := 53) rfl rfl hy] at hwt
              revert hwt; cases gg <;> simp
            exact wp_val (op_load_int a' w' _ 60 _ (hD 12 (by kernel_rfl) hb) (LB.out _ hok.1.b).2 _ e) (hK _ _ (Below.refl _ _) ⟨hok.1, fun h => hok.2.1 (by simp only [Bool.or_eq_false_iff] at h; exact h.2), fun h => hok.2.2 (by simpa using h)⟩ (fun f h1 _ _ => h1 _ rfl))
          | 14, ho, hd, hD, hK, hK0, hun, hwt, hrun =>
            have e := (congrArg Oper.op (Option.some.inj ho)).symm
            obtain rfl := Option.some.inj ho
            have hy : a'.tmps.getD 53 undef = .bool (!gg) := hD 5 (by kernel_rfl)
            have hb : gg = true := by
              rw [wanted_of (t := 53) rfl rfl hy] at hwt
              revert hwt; cases gg <;> simp
            refine wp_enter (op_call2r a' w' _ 55 61 _ _ ES.out _ e) ?_
            rw [show a'.tmps.getD 55 undef = .string lN from hD 7 (by kernel_rfl) hb, show a'.tmps.getD 61 undef = .int .i64 bl from hD 13 (by kernel_rfl) hb]
            refine (KS.out w').mono ?_
            rintro e w'' ⟨rfl, hb2⟩
            exact .inl ⟨_, rfl, hK _ _ hb2 ⟨hok.1.trans (But2.of (by have h1 := hok.1.size; have h2 := HPL.out; omega) hb2), fun h => (hok.2.1 (by simp only [Bool.or_eq_false_iff] at h; exact h.2)).below hb2, fun h hg => (hok.2.2 (by simpa using h) hg).below hb2⟩ (fun f h1 _ _ => h1 _ rfl)⟩
          | 15, ho, hd, hD, hK, hK0, hun, hwt, hrun =>
            have e := (congrArg Oper.op (Option.some.inj ho)).symm
            obtain rfl := Option.some.inj ho
            have hy : a'.tmps.getD 53 undef = .bool (!gg) := hD 5 (by kernel_rfl)
            have hb : gg = true := by
              rw [wanted_of (t := 53) rfl rfl hy] at hwt
              revert hwt; cases gg <;> simp
            exact wp_val (op_not a' w' _ 62 (hD 14 (by kernel_rfl) hb) _ e) (hK _ _ (Below.refl _ _) ⟨hok.1, fun h => hok.2.1 (by simp only [Bool.or_eq_false_iff] at h; exact h.2), fun h => hok.2.2 (by simpa using h)⟩ (fun f h1 _ _ => h1 _ rfl))
          | 16, ho, hd, hD, hK, hK0, hun, hwt, hrun =>
            have e := (congrArg Oper.op (Option.some.inj ho)).symm
            obtain rfl := Option.some.inj ho
            exact wp_val (op_pick_or a' w' _ _ 53 63 (hD 5 (by kernel_rfl)) (fun hb => hD 15 (by kernel_rfl) (by revert hb; cases gg <;> simp)) _ e) (hK _ _ (Below.refl _ _) ⟨hok.1, fun h => hok.2.1 (by simp only [Bool.or_eq_false_iff] at h; exact h.2), fun h => hok.2.2 (by simpa using h)⟩ (fun f h1 _ => h1 _ rfl))
          | 17, ho, hd, hD, hK, hK0, hun, hwt, hrun =>
            have e := (congrArg Oper.op (Option.some.inj ho)).symm
            obtain rfl := Option.some.inj ho
            exact wp_val (op_assign a' w' 64 _ e) (hK _ _ (Below.refl _ _) ⟨hok.1, fun h => hok.2.1 (by simp only [Bool.or_eq_false_iff] at h; exact h.2), fun h => hok.2.2 (by simpa using h)⟩ (fun f h1 _ => (h1 _ rfl).trans (hD 16 (by kernel_rfl))))
          | i + 18, ho, _, _, _, _, _, _, _ => exact absurd ho (by simp)
        · intro a' w4 hsz hdf hkt hok hR
          have HF3 := frame_sets [47, 48, 49, 50, 51, 52, 53, 54, 55, 56, 57, 58, 59, 60, 61, 62, 63, 64] (by kernel_rfl) hsz hkt
          obtain ⟨d, hok⟩ := hok
          have h47 : a'.tmps.getD 47 undef = .bool (!gg || !tv) := hR 17 (by decide)
          have HB4 := Lib.hid hok.1
          clear hok
          obtain ⟨tm, df⟩ := a'
          obtain rfl : df = _ := hdf
          simp only [List.foldl_cons, List.foldl_nil] at HF3
          clear hkt hR hsz
          replace h47 : tm.getD 47 undef = _ := h47
          rw [h47] at HF3
          clear h47
          generalize tm.getD 48 undef = y48 at HF3
          generalize tm.getD 49 undef = y49 at HF3
          generalize tm.getD 50 undef = y50 at HF3
          generalize tm.getD 51 undef = y51 at HF3
          generalize tm.getD 52 undef = y52 at HF3
          generalize tm.getD 53 undef = y53 at HF3
          generalize tm.getD 54 undef = y54 at HF3
          generalize tm.getD 55 undef = y55 at HF3
          generalize tm.getD 56 undef = y56 at HF3
          generalize tm.getD 57 undef = y57 at HF3
          generalize tm.getD 58 undef = y58 at HF3
          generalize tm.getD 59 undef = y59 at HF3
          generalize tm.getD 60 undef = y60 at HF3
          generalize tm.getD 61 undef = y61 at HF3
          generalize tm.getD 62 undef = y62 at HF3
          generalize tm.getD 63 undef = y63 at HF3
          generalize tm.getD 64 undef = y64 at HF3
          simp only [List.setIfInBounds_toArray, List.set_cons_succ, List.set_cons_zero] at HF3
          subst HF3
          have BF : Hid (Below w.heap.size w w4) := B3.out.trans (HB4.out.b.mono HPW.out)
          clear HB4 HP3 LT LB KG KS EA ES B3 HPL
          cases hv : (!gg || !tv) with
          | true =>
            have HE : Hid (pathE c (L.map Clz.l) x = 51) := path_false HR.out HNB.out HNI.out HFT.out HIT.out (by rw [HST.out]; revert hv; cases gg <;> cases tv <;> simp)
            clear hv
            go_wp2
            go_ret
            exact ⟨by rw [HE.out]; rfl, BF.out⟩
          | false =>
            have HE : Hid (pathE c (L.map Clz.l) x = 0) := path_right HR.out HNB.out HNI.out HFT.out HIT.out (by rw [HST.out]; revert hv; cases gg <;> cases tv <;> simp)
            clear hv
            go_wp2
            go_ret
            exact ⟨by rw [HE.out]; rfl, BF.out⟩
end Go.Proofs.Ytfglgapocmnfpaa.Rep
