/- interlockref07.Path; condition: what it is handed lies in memory. -/
import Derived.Test.YtfglgapocmnfpaaPt42
import Derived.Test.YtfglgapocmnfpaaPt37
namespace Go.Proofs.Ytfglgapocmnfpaa.Rep
open Go.ChangeShapes Go.WideShapes Go.ChangeAt Go.RowKit Go.Maps Circ Cw
open Str Sim

/-- the answer, once the Bad, the inputs' number, and the state are such -/
def restE (c : Cir) (cl : List (List Int)) (bad : Int) (st : ByteArray) (ins : List ByteArray) : Int := if ins.all (fun i => bitsM i (c.ins.length : Int)) = false then 5 else if initM c st = false then 9 else if stepsM c cl bad st ins = false then 51 else 0
section
variable {c : Cir} {cl : List (List Int)} {bad : Int} {st : ByteArray} {ins : List ByteArray}
theorem rest_5 (h : ins.all (fun i => bitsM i (c.ins.length : Int)) = false) : restE c cl bad st ins = 5 := by unfold restE; rw [h, if_pos rfl]
theorem rest_9 (h : ins.all (fun i => bitsM i (c.ins.length : Int)) = true) (h2 : initM c st = false) : restE c cl bad st ins = 9 := by unfold restE; rw [h, if_neg (by decide), h2, if_pos rfl]
theorem rest_51 (h : ins.all (fun i => bitsM i (c.ins.length : Int)) = true) (h2 : initM c st = true) (h3 : stepsM c cl bad st ins = false) : restE c cl bad st ins = 51 := by unfold restE; rw [h, if_neg (by decide), h2, if_neg (by decide), h3, if_pos rfl]
theorem rest_0 (h : ins.all (fun i => bitsM i (c.ins.length : Int)) = true) (h2 : initM c st = true) (h3 : stepsM c cl bad st ins = true) : restE c cl bad st ins = 0 := by unfold restE; rw [h, if_neg (by decide), h2, if_neg (by decide), h3, if_neg (by decide)]
end
theorem path_9 {c : Cir} {cl : List (List Int)} {x : Wit} (h : refOk c = false) : pathE c cl x = 9 := by unfold pathE; rw [h]; rfl
theorem path_4 {c : Cir} {cl : List (List Int)} {x : Wit} (h : refOk c = true) (h2 : x.bad < 0 ∨ (c.bads.length : Int) ≤ x.bad) : pathE c cl x = 4 := by unfold pathE; rw [h, if_neg (by decide), if_pos h2]
theorem path_8 {c : Cir} {cl : List (List Int)} {x : Wit} (h : refOk c = true) (h2 : ¬ (x.bad < 0 ∨ (c.bads.length : Int) ≤ x.bad)) (h3 : x.inputs = []) : pathE c cl x = 8 := by unfold pathE; rw [h, if_neg (by decide), if_neg h2, if_pos h3]
theorem path_5 {c : Cir} {cl : List (List Int)} {x : Wit} (h : refOk c = true) (h2 : ¬ (x.bad < 0 ∨ (c.bads.length : Int) ≤ x.bad)) (h3 : x.inputs ≠ []) (h4 : bitsM x.state (c.lats.length : Int) = false) : pathE c cl x = 5 := by unfold pathE; rw [h, if_neg (by decide), if_neg h2, if_neg h3, h4, if_pos rfl]
theorem path_rest {c : Cir} {cl : List (List Int)} {x : Wit} (h : refOk c = true) (h2 : ¬ (x.bad < 0 ∨ (c.bads.length : Int) ≤ x.bad)) (h3 : x.inputs ≠ []) (h4 : bitsM x.state (c.lats.length : Int) = true) : pathE c cl x = restE c cl x.bad x.state x.inputs := by unfold pathE restE; rw [h, if_neg (by decide), if_neg h2, if_neg h3, h4, if_neg (by decide)]
theorem steps_drop (c : Cir) (cl : List (List Int)) (bad : Int) (t : ByteArray) (l : List ByteArray) (k : Nat) (hk : k < l.length) : stepsM c cl bad t (l.drop k) = (stepM c cl bad t l[k] (decide (k + 1 = l.length)) && stepsM c cl bad (nxt1 c t l[k]) (l.drop (k + 1))) := by
  rw [List.drop_eq_getElem_cons hk]
  have e : (l.drop (k + 1)).isEmpty = decide (k + 1 = l.length) := by
    rw [Bool.eq_iff_iff, List.isEmpty_iff, List.drop_eq_nil_iff, decide_eq_true_eq]; omega
  rw [← e]; rfl
set_option maxHeartbeats 16000000 in
set_option maxRecDepth 100000 in
theorem refpath_9 (c : Cir) (s : Places) (L : List Clz) (A : Option Addr) (q : Nat) (bad : Int) (st : ByteArray) (ins : List ByteArray) (AI : Option Addr) (qi : Nat) (w : World) (h : CLies w w.heap.size c s) (hf : CFits c s) (hr : refOk c = false) :
    Calls Try.prog 36 #[cirV c s, .slice A L.length q, .agg #[.int .i64 bad, .string st, .slice AI ins.length qi]] w fun e w' => e = .returned (.int .i64 9) ∧ Below w.heap.size w w' := by
  obtain ⟨WA, hWA⟩ : ∃ x, w.alloc (.cells #[.int .i64 c.max, .slice s.ai c.ins.length s.ki, .slice s.al c.lats.length s.kl, .slice s.ao c.outs.length s.ko, .slice s.ab c.bads.length s.kb, .slice s.ac c.invs.length s.kc, .slice s.aa c.ands.length s.ka, .slice s.an c.names.length s.kn] 27) = x := ⟨_, rfl⟩
  have bA : Below w.heap.size w WA := by rw [← hWA]; exact (Below.refl _ _).alloc (Nat.le_refl _) _
  have gA : WA.heap[w.heap.size]? = some (.cells (cirC c s) 27 (0, 0)) := by rw [← hWA]; exact Array.getElem?_push_size
  obtain ⟨WB, hWB⟩ : ∃ x, WA.alloc (.cells #[.int .i64 bad, .string st, .slice AI ins.length qi] 61) = x := ⟨_, rfl⟩
  have bB : Below WA.heap.size WA WB := by rw [← hWB]; exact (Below.refl _ _).alloc (Nat.le_refl _) _
  have gB : WB.heap[WA.heap.size]? = some (.cells #[.int .i64 bad, .string st, .slice AI ins.length qi] 61 (0, 0)) := by rw [← hWB]; exact Array.getElem?_push_size
  have BB : Hid (Below w.heap.size w WB) := bA.trans (bB.mono bA.size)
  have GC : Hid (∀ x, Below WB.heap.size WB x → x.heap[w.heap.size]? = some (.cells (cirC c s) 27 (0, 0))) := fun x hx => by
    have h1 := (bB.block _ (lt_of_block gA)).trans gA
    exact (hx.block _ (lt_of_block h1)).trans h1
  have GT : Hid (∀ x, Below WB.heap.size WB x → x.heap[WA.heap.size]? = some (.cells #[.int .i64 bad, .string st, .slice AI ins.length qi] 61 (0, 0))) := fun x hx => (hx.block _ (lt_of_block gB)).trans gB
  have LW : Hid (∀ x, Below WB.heap.size WB x → CLies x x.heap.size c s) := fun x hx => by
    have hb := BB.out.trans (hx.mono BB.out.size)
    exact (h.below hb).more hb.size
  have CK := Lib.hid (refcheck_any c s WB (LW.out WB (Below.refl _ _)) hf)
  obtain ⟨e0, e1, e2, e3, e4, e5, e6, e7⟩ := cells8 (GC.out WB (Below.refl _ _))
  obtain ⟨t0, t1, t2⟩ := two_cells (GT.out WB (Below.refl _ _))
  clear bA gA bB gB
  rw [refV_no c hr] at CK
  clear h hf hr
  unfold cirV at CK ⊢
  rw [show cirC c s = #[.int .i64 c.max, .slice s.ai c.ins.length s.ki, .slice s.al c.lats.length s.kl, .slice s.ao c.outs.length s.ko, .slice s.ab c.bads.length s.kb, .slice s.ac c.invs.length s.kc, .slice s.aa c.ands.length s.ka, .slice s.an c.names.length s.kn] from rfl] at CK ⊢
  go_enter Try.func36, Try.ntmps36
  go_wp2_with fail
  refine CK.out.mono ?_
  rintro e w1 ⟨rfl, hb⟩
  have B1 : Hid (Below WB.heap.size WB w1) := hb
  clear e0 e1 e2 e3 e4 e5 e6 e7 t0 t1 t2 hWA hWB CK hb
  have BF : Hid (Below w.heap.size w w1) := BB.out.trans (B1.out.mono BB.out.size)
  go_wp2
  go_ret
  exact ⟨rfl, BF.out⟩
set_option maxHeartbeats 16000000 in
set_option maxRecDepth 100000 in
theorem refpath_4 (c : Cir) (s : Places) (L : List Clz) (A : Option Addr) (q : Nat) (bad : Int) (st : ByteArray) (ins : List ByteArray) (AI : Option Addr) (qi : Nat) (w : World) (h : CLies w w.heap.size c s) (hf : CFits c s) (hr : refOk c = true) (hb : bad < 0 ∨ (c.bads.length : Int) ≤ bad) :
    Calls Try.prog 36 #[cirV c s, .slice A L.length q, .agg #[.int .i64 bad, .string st, .slice AI ins.length qi]] w fun e w' => e = .returned (.int .i64 4) ∧ Below w.heap.size w w' := by
  obtain ⟨WA, hWA⟩ : ∃ x, w.alloc (.cells #[.int .i64 c.max, .slice s.ai c.ins.length s.ki, .slice s.al c.lats.length s.kl, .slice s.ao c.outs.length s.ko, .slice s.ab c.bads.length s.kb, .slice s.ac c.invs.length s.kc, .slice s.aa c.ands.length s.ka, .slice s.an c.names.length s.kn] 27) = x := ⟨_, rfl⟩
  have bA : Below w.heap.size w WA := by rw [← hWA]; exact (Below.refl _ _).alloc (Nat.le_refl _) _
  have gA : WA.heap[w.heap.size]? = some (.cells (cirC c s) 27 (0, 0)) := by rw [← hWA]; exact Array.getElem?_push_size
  obtain ⟨WB, hWB⟩ : ∃ x, WA.alloc (.cells #[.int .i64 bad, .string st, .slice AI ins.length qi] 61) = x := ⟨_, rfl⟩
  have bB : Below WA.heap.size WA WB := by rw [← hWB]; exact (Below.refl _ _).alloc (Nat.le_refl _) _
  have gB : WB.heap[WA.heap.size]? = some (.cells #[.int .i64 bad, .string st, .slice AI ins.length qi] 61 (0, 0)) := by rw [← hWB]; exact Array.getElem?_push_size
  have BB : Hid (Below w.heap.size w WB) := bA.trans (bB.mono bA.size)
  have GC : Hid (∀ x, Below WB.heap.size WB x → x.heap[w.heap.size]? = some (.cells (cirC c s) 27 (0, 0))) := fun x hx => by
    have h1 := (bB.block _ (lt_of_block gA)).trans gA
    exact (hx.block _ (lt_of_block h1)).trans h1
  have GT : Hid (∀ x, Below WB.heap.size WB x → x.heap[WA.heap.size]? = some (.cells #[.int .i64 bad, .string st, .slice AI ins.length qi] 61 (0, 0))) := fun x hx => (hx.block _ (lt_of_block gB)).trans gB
  have LW : Hid (∀ x, Below WB.heap.size WB x → CLies x x.heap.size c s) := fun x hx => by
    have hb := BB.out.trans (hx.mono BB.out.size)
    exact (h.below hb).more hb.size
  have CK := Lib.hid (refcheck_any c s WB (LW.out WB (Below.refl _ _)) hf)
  obtain ⟨e0, e1, e2, e3, e4, e5, e6, e7⟩ := cells8 (GC.out WB (Below.refl _ _))
  obtain ⟨t0, t1, t2⟩ := two_cells (GT.out WB (Below.refl _ _))
  clear bA gA bB gB
  rw [refV_yes c hr] at CK
  clear h hf hr
  by_cases h0 : bad < 0
  · have hd0 : decide (bad < 0) = true := decide_eq_true h0
    clear hb
    unfold cirV at CK ⊢
    rw [show cirC c s = #[.int .i64 c.max, .slice s.ai c.ins.length s.ki, .slice s.al c.lats.length s.kl, .slice s.ao c.outs.length s.ko, .slice s.ab c.bads.length s.kb, .slice s.ac c.invs.length s.kc, .slice s.aa c.ands.length s.ka, .slice s.an c.names.length s.kn] from rfl] at CK ⊢
    go_enter Try.func36, Try.ntmps36
    go_wp2_with fail
    refine CK.out.mono ?_
    rintro e w1 ⟨rfl, hb⟩
    have B1 : Hid (Below WB.heap.size WB w1) := hb
    clear e0 e1 e2 e3 e4 e5 e6 e7 t0 t1 t2 hWA hWB CK hb
    obtain ⟨e0, e1, e2, e3, e4, e5, e6, e7⟩ := cells8 (GC.out _ B1.out)
    obtain ⟨t0, t1, t2⟩ := two_cells (GT.out _ B1.out)
    have BF : Hid (Below w.heap.size w w1) := BB.out.trans (B1.out.mono BB.out.size)
    go_wp2
    go_ret
    exact ⟨rfl, BF.out⟩
  · have hd0 : decide (bad < 0) = false := decide_eq_false h0
    have h1 : (c.bads.length : Int) ≤ bad := by omega
    have hd1 : decide ((c.bads.length : Int) ≤ bad) = true := decide_eq_true h1
    clear hb
    unfold cirV at CK ⊢
    rw [show cirC c s = #[.int .i64 c.max, .slice s.ai c.ins.length s.ki, .slice s.al c.lats.length s.kl, .slice s.ao c.outs.length s.ko, .slice s.ab c.bads.length s.kb, .slice s.ac c.invs.length s.kc, .slice s.aa c.ands.length s.ka, .slice s.an c.names.length s.kn] from rfl] at CK ⊢
    go_enter Try.func36, Try.ntmps36
    go_wp2_with fail
    refine CK.out.mono ?_
    rintro e w1 ⟨rfl, hb⟩
    have B1 : Hid (Below WB.heap.size WB w1) := hb
    clear e0 e1 e2 e3 e4 e5 e6 e7 t0 t1 t2 hWA hWB CK hb
    obtain ⟨e0, e1, e2, e3, e4, e5, e6, e7⟩ := cells8 (GC.out _ B1.out)
    obtain ⟨t0, t1, t2⟩ := two_cells (GT.out _ B1.out)
    have BF : Hid (Below w.heap.size w w1) := BB.out.trans (B1.out.mono BB.out.size)
    go_wp2
    go_ret
    exact ⟨rfl, BF.out⟩
set_option maxHeartbeats 16000000 in
set_option maxRecDepth 100000 in
theorem refpath_8 (c : Cir) (s : Places) (L : List Clz) (A : Option Addr) (q : Nat) (bad : Int) (st : ByteArray) (ins : List ByteArray) (AI : Option Addr) (qi : Nat) (w : World) (h : CLies w w.heap.size c s) (hf : CFits c s) (hr : refOk c = true) (hb0 : 0 ≤ bad) (hb1 : bad < (c.bads.length : Int)) (hi : ins = []) :
    Calls Try.prog 36 #[cirV c s, .slice A L.length q, .agg #[.int .i64 bad, .string st, .slice AI ins.length qi]] w fun e w' => e = .returned (.int .i64 8) ∧ Below w.heap.size w w' := by
  obtain ⟨WA, hWA⟩ : ∃ x, w.alloc (.cells #[.int .i64 c.max, .slice s.ai c.ins.length s.ki, .slice s.al c.lats.length s.kl, .slice s.ao c.outs.length s.ko, .slice s.ab c.bads.length s.kb, .slice s.ac c.invs.length s.kc, .slice s.aa c.ands.length s.ka, .slice s.an c.names.length s.kn] 27) = x := ⟨_, rfl⟩
  have bA : Below w.heap.size w WA := by rw [← hWA]; exact (Below.refl _ _).alloc (Nat.le_refl _) _
  have gA : WA.heap[w.heap.size]? = some (.cells (cirC c s) 27 (0, 0)) := by rw [← hWA]; exact Array.getElem?_push_size
  obtain ⟨WB, hWB⟩ : ∃ x, WA.alloc (.cells #[.int .i64 bad, .string st, .slice AI ins.length qi] 61) = x := ⟨_, rfl⟩
  have bB : Below WA.heap.size WA WB := by rw [← hWB]; exact (Below.refl _ _).alloc (Nat.le_refl _) _
  have gB : WB.heap[WA.heap.size]? = some (.cells #[.int .i64 bad, .string st, .slice AI ins.length qi] 61 (0, 0)) := by rw [← hWB]; exact Array.getElem?_push_size
  have BB : Hid (Below w.heap.size w WB) := bA.trans (bB.mono bA.size)
  have GC : Hid (∀ x, Below WB.heap.size WB x → x.heap[w.heap.size]? = some (.cells (cirC c s) 27 (0, 0))) := fun x hx => by
    have h1 := (bB.block _ (lt_of_block gA)).trans gA
    exact (hx.block _ (lt_of_block h1)).trans h1
  have GT : Hid (∀ x, Below WB.heap.size WB x → x.heap[WA.heap.size]? = some (.cells #[.int .i64 bad, .string st, .slice AI ins.length qi] 61 (0, 0))) := fun x hx => (hx.block _ (lt_of_block gB)).trans gB
  have LW : Hid (∀ x, Below WB.heap.size WB x → CLies x x.heap.size c s) := fun x hx => by
    have hb := BB.out.trans (hx.mono BB.out.size)
    exact (h.below hb).more hb.size
  have CK := Lib.hid (refcheck_any c s WB (LW.out WB (Below.refl _ _)) hf)
  obtain ⟨e0, e1, e2, e3, e4, e5, e6, e7⟩ := cells8 (GC.out WB (Below.refl _ _))
  obtain ⟨t0, t1, t2⟩ := two_cells (GT.out WB (Below.refl _ _))
  clear bA gA bB gB
  rw [refV_yes c hr] at CK
  have hn1 : ((ins.length : Int) == 0) = true := by rw [hi]; rfl
  have hd0 : decide (bad < 0) = false := decide_eq_false (by omega)
  have hd1 : decide ((c.bads.length : Int) ≤ bad) = false := decide_eq_false (by omega)
  clear h hf hr hi
  unfold cirV at CK ⊢
  rw [show cirC c s = #[.int .i64 c.max, .slice s.ai c.ins.length s.ki, .slice s.al c.lats.length s.kl, .slice s.ao c.outs.length s.ko, .slice s.ab c.bads.length s.kb, .slice s.ac c.invs.length s.kc, .slice s.aa c.ands.length s.ka, .slice s.an c.names.length s.kn] from rfl] at CK ⊢
  go_enter Try.func36, Try.ntmps36
  go_wp2_with fail
  refine CK.out.mono ?_
  rintro e w1 ⟨rfl, hb⟩
  have B1 : Hid (Below WB.heap.size WB w1) := hb
  clear e0 e1 e2 e3 e4 e5 e6 e7 t0 t1 t2 hWA hWB CK hb
  obtain ⟨e0, e1, e2, e3, e4, e5, e6, e7⟩ := cells8 (GC.out _ B1.out)
  obtain ⟨t0, t1, t2⟩ := two_cells (GT.out _ B1.out)
  have BF : Hid (Below w.heap.size w w1) := BB.out.trans (B1.out.mono BB.out.size)
  go_wp2
  go_ret
  exact ⟨rfl, BF.out⟩
set_option maxHeartbeats 16000000 in
set_option maxRecDepth 100000 in
theorem refpath_5 (c : Cir) (s : Places) (L : List Clz) (A : Option Addr) (q : Nat) (bad : Int) (st : ByteArray) (ins : List ByteArray) (AI : Option Addr) (qi : Nat) (w : World) (h : CLies w w.heap.size c s) (hf : CFits c s) (hr : refOk c = true) (hb0 : 0 ≤ bad) (hb1 : bad < (c.bads.length : Int)) (hi : ins ≠ []) (hz : st.size ≤ 9223372036854775807) (hs : bitsM st (c.lats.length : Int) = false) :
    Calls Try.prog 36 #[cirV c s, .slice A L.length q, .agg #[.int .i64 bad, .string st, .slice AI ins.length qi]] w fun e w' => e = .returned (.int .i64 5) ∧ Below w.heap.size w w' := by
  obtain ⟨WA, hWA⟩ : ∃ x, w.alloc (.cells #[.int .i64 c.max, .slice s.ai c.ins.length s.ki, .slice s.al c.lats.length s.kl, .slice s.ao c.outs.length s.ko, .slice s.ab c.bads.length s.kb, .slice s.ac c.invs.length s.kc, .slice s.aa c.ands.length s.ka, .slice s.an c.names.length s.kn] 27) = x := ⟨_, rfl⟩
  have bA : Below w.heap.size w WA := by rw [← hWA]; exact (Below.refl _ _).alloc (Nat.le_refl _) _
  have gA : WA.heap[w.heap.size]? = some (.cells (cirC c s) 27 (0, 0)) := by rw [← hWA]; exact Array.getElem?_push_size
  obtain ⟨WB, hWB⟩ : ∃ x, WA.alloc (.cells #[.int .i64 bad, .string st, .slice AI ins.length qi] 61) = x := ⟨_, rfl⟩
  have bB : Below WA.heap.size WA WB := by rw [← hWB]; exact (Below.refl _ _).alloc (Nat.le_refl _) _
  have gB : WB.heap[WA.heap.size]? = some (.cells #[.int .i64 bad, .string st, .slice AI ins.length qi] 61 (0, 0)) := by rw [← hWB]; exact Array.getElem?_push_size
  have BB : Hid (Below w.heap.size w WB) := bA.trans (bB.mono bA.size)
  have GC : Hid (∀ x, Below WB.heap.size WB x → x.heap[w.heap.size]? = some (.cells (cirC c s) 27 (0, 0))) := fun x hx => by
    have h1 := (bB.block _ (lt_of_block gA)).trans gA
    exact (hx.block _ (lt_of_block h1)).trans h1
  have GT : Hid (∀ x, Below WB.heap.size WB x → x.heap[WA.heap.size]? = some (.cells #[.int .i64 bad, .string st, .slice AI ins.length qi] 61 (0, 0))) := fun x hx => (hx.block _ (lt_of_block gB)).trans gB
  have LW : Hid (∀ x, Below WB.heap.size WB x → CLies x x.heap.size c s) := fun x hx => by
    have hb := BB.out.trans (hx.mono BB.out.size)
    exact (h.below hb).more hb.size
  have CK := Lib.hid (refcheck_any c s WB (LW.out WB (Below.refl _ _)) hf)
  obtain ⟨e0, e1, e2, e3, e4, e5, e6, e7⟩ := cells8 (GC.out WB (Below.refl _ _))
  obtain ⟨t0, t1, t2⟩ := two_cells (GT.out WB (Below.refl _ _))
  clear bA gA bB gB
  rw [refV_yes c hr] at CK
  have hd0 : decide (bad < 0) = false := decide_eq_false (by omega)
  have hd1 : decide ((c.bads.length : Int) ≤ bad) = false := decide_eq_false (by omega)
  have hn0 : 0 < ins.length := List.length_pos_iff.2 hi
  have hn1 : ((ins.length : Int) == 0) = false := by rw [beq_eq_false_iff_ne]; omega
  have TB := Lib.hid (fun x => refbits_any st (c.lats.length : Int) x hz)
  rw [hs] at TB
  clear h hf hr hi hs
  unfold cirV at CK ⊢
  rw [show cirC c s = #[.int .i64 c.max, .slice s.ai c.ins.length s.ki, .slice s.al c.lats.length s.kl, .slice s.ao c.outs.length s.ko, .slice s.ab c.bads.length s.kb, .slice s.ac c.invs.length s.kc, .slice s.aa c.ands.length s.ka, .slice s.an c.names.length s.kn] from rfl] at CK ⊢
  go_enter Try.func36, Try.ntmps36
  go_wp2_with fail
  refine CK.out.mono ?_
  rintro e w1 ⟨rfl, hb⟩
  have B1 : Hid (Below WB.heap.size WB w1) := hb
  clear e0 e1 e2 e3 e4 e5 e6 e7 t0 t1 t2 hWA hWB CK hb
  obtain ⟨e0, e1, e2, e3, e4, e5, e6, e7⟩ := cells8 (GC.out _ B1.out)
  obtain ⟨t0, t1, t2⟩ := two_cells (GT.out _ B1.out)
  go_wp2_with fail
  refine (TB.out w1).mono ?_
  rintro e w' ⟨rfl, rfl⟩
  have BF : Hid (Below w.heap.size w w1) := BB.out.trans (B1.out.mono BB.out.size)
  go_wp2
  go_ret
  exact ⟨rfl, BF.out⟩
set_option maxHeartbeats 16000000 in
set_option maxRecDepth 100000 in
theorem refpath_rest (c : Cir) (s : Places) (L : List Clz) (A : Option Addr) (q : Nat) (bad : Int) (st : ByteArray) (ins : List ByteArray) (AI : Option Addr) (qi : Nat) (w : World) (h : CLies w w.heap.size c s) (hf : CFits c s) (hr : refOk c = true) (hb0 : 0 ≤ bad) (hb1 : bad < (c.bads.length : Int)) (hi : ins ≠ []) (hz : st.size ≤ 9223372036854775807) (hs : bitsM st (c.lats.length : Int) = true) (hA : ALies w w.heap.size A L) (hS : SLies w w.heap.size AI ins) :
    Calls Try.prog 36 #[cirV c s, .slice A L.length q, .agg #[.int .i64 bad, .string st, .slice AI ins.length qi]] w fun e w' => e = .returned (.int .i64 (restE c (L.map Clz.l) bad st ins)) ∧ Below w.heap.size w w' := by
  obtain ⟨WA, hWA⟩ : ∃ x, w.alloc (.cells #[.int .i64 c.max, .slice s.ai c.ins.length s.ki, .slice s.al c.lats.length s.kl, .slice s.ao c.outs.length s.ko, .slice s.ab c.bads.length s.kb, .slice s.ac c.invs.length s.kc, .slice s.aa c.ands.length s.ka, .slice s.an c.names.length s.kn] 27) = x := ⟨_, rfl⟩
  have bA : Below w.heap.size w WA := by rw [← hWA]; exact (Below.refl _ _).alloc (Nat.le_refl _) _
  have gA : WA.heap[w.heap.size]? = some (.cells (cirC c s) 27 (0, 0)) := by rw [← hWA]; exact Array.getElem?_push_size
  obtain ⟨WB, hWB⟩ : ∃ x, WA.alloc (.cells #[.int .i64 bad, .string st, .slice AI ins.length qi] 61) = x := ⟨_, rfl⟩
  have bB : Below WA.heap.size WA WB := by rw [← hWB]; exact (Below.refl _ _).alloc (Nat.le_refl _) _
  have gB : WB.heap[WA.heap.size]? = some (.cells #[.int .i64 bad, .string st, .slice AI ins.length qi] 61 (0, 0)) := by rw [← hWB]; exact Array.getElem?_push_size
  have BB : Hid (Below w.heap.size w WB) := bA.trans (bB.mono bA.size)
  have GC : Hid (∀ x, Below WB.heap.size WB x → x.heap[w.heap.size]? = some (.cells (cirC c s) 27 (0, 0))) := fun x hx => by
    have h1 := (bB.block _ (lt_of_block gA)).trans gA
    exact (hx.block _ (lt_of_block h1)).trans h1
  have GT : Hid (∀ x, Below WB.heap.size WB x → x.heap[WA.heap.size]? = some (.cells #[.int .i64 bad, .string st, .slice AI ins.length qi] 61 (0, 0))) := fun x hx => (hx.block _ (lt_of_block gB)).trans gB
  have LW : Hid (∀ x, Below WB.heap.size WB x → CLies x x.heap.size c s) := fun x hx => by
    have hb := BB.out.trans (hx.mono BB.out.size)
    exact (h.below hb).more hb.size
  have CK := Lib.hid (refcheck_any c s WB (LW.out WB (Below.refl _ _)) hf)
  obtain ⟨e0, e1, e2, e3, e4, e5, e6, e7⟩ := cells8 (GC.out WB (Below.refl _ _))
  obtain ⟨t0, t1, t2⟩ := two_cells (GT.out WB (Below.refl _ _))
  clear bA gA bB gB
  rw [refV_yes c hr] at CK
  have hd0 : decide (bad < 0) = false := decide_eq_false (by omega)
  have hd1 : decide ((c.bads.length : Int) ≤ bad) = false := decide_eq_false (by omega)
  have hn0 : 0 < ins.length := List.length_pos_iff.2 hi
  have hn1 : ((ins.length : Int) == 0) = false := by rw [beq_eq_false_iff_ne]; omega
  have TB := Lib.hid (fun x => refbits_any st (c.lats.length : Int) x hz)
  rw [hs] at TB
  have AW : Hid (∀ x, Below WB.heap.size WB x → ALies x x.heap.size A L) := fun x hx => by
    have hb := BB.out.trans (hx.mono BB.out.size)
    exact (hA.below hb).more hb.size
  have SW : Hid (∀ x, Below WB.heap.size WB x → SLies x x.heap.size AI ins) := fun x hx => by
    have hb := BB.out.trans (hx.mono BB.out.size)
    exact (hS.below hb).more hb.size
  have HIS := Lib.hid hS.each
  have HIL := Lib.hid hS.len
  have HZ := Lib.hid (ref_sizes hr)
  have HOK := Lib.hid hr
  have HF := Lib.hid hf
  have HSB := Lib.hid hs
  have HSZ := Lib.hid hz
  obtain ⟨bn, hbn⟩ : ∃ n : Nat, bad = n := ⟨bad.toNat, by omega⟩
  subst hbn
  have HBN : Hid (bn < c.bads.length) := by unfold Hid; omega
  have hbz0 : (0 : Int) ≤ (bn : Int) := by omega
  clear h hr hi hs hA hS hf
  unfold cirV at CK ⊢
  rw [show cirC c s = #[.int .i64 c.max, .slice s.ai c.ins.length s.ki, .slice s.al c.lats.length s.kl, .slice s.ao c.outs.length s.ko, .slice s.ab c.bads.length s.kb, .slice s.ac c.invs.length s.kc, .slice s.aa c.ands.length s.ka, .slice s.an c.names.length s.kn] from rfl] at CK ⊢
  go_enter Try.func36, Try.ntmps36
  go_wp2_with fail
  refine CK.out.mono ?_
  rintro e w1 ⟨rfl, hb⟩
  have B1 : Hid (Below WB.heap.size WB w1) := hb
  clear e0 e1 e2 e3 e4 e5 e6 e7 t0 t1 t2 hWA hWB CK hb
  obtain ⟨e0, e1, e2, e3, e4, e5, e6, e7⟩ := cells8 (GC.out _ B1.out)
  obtain ⟨t0, t1, t2⟩ := two_cells (GT.out _ B1.out)
  go_wp2_with fail
  refine (TB.out w1).mono ?_
  rintro e w' ⟨rfl, rfl⟩
  clear TB
  go_wp2
  clear e0 e1 e2 e3 e4 e5 e6 e7 t0 t1 t2
  go_loopw [7] (fun i wr => ∃ k : Nat, k ≤ ins.length ∧ i = .int .i64 k ∧ (ins.take k).all (fun i => bitsM i (c.ins.length : Int)) = true ∧ Below WB.heap.size WB wr) (fun i _ => ins.length - (intOf i).toNat)
  case atStart => exact ⟨0, Nat.zero_le _, rfl, rfl, B1.out⟩
  case round =>
    clear B1
    obtain ⟨k, hk, rfl, ha, hbw⟩ := hrel
    have HA := Lib.hid ha
    have HB := Lib.hid hbw
    have hil := HIL.out
    clear ha hbw
    obtain ⟨e0, e1, e2, e3, e4, e5, e6, e7⟩ := cells8 (GC.out _ HB.out)
    obtain ⟨t0, t1, t2⟩ := two_cells (GT.out _ HB.out)
    by_cases hlt : k < ins.length
    · obtain ⟨b, o, hA2, -, hc⟩ := (SW.out wr HB.out).at hlt
      rw [hA2] at t2
      have hkz : (k : Int) < (ins.length : Int) := by omega
      have hk0 : (0 : Int) ≤ (k : Int) := by omega
      have TJ := Lib.hid (fun x => refbits_any ins[k] (c.ins.length : Int) x (HIS.out _ (List.getElem_mem hlt)))
      have HT := Lib.hid (all_take ins (fun i => bitsM i (c.ins.length : Int)) k hlt)
      rw [HA.out, Bool.true_and] at HT
      have HNo := Lib.hid (fun h => all_not (p := fun i => bitsM i (c.ins.length : Int)) hlt h)
      clear hA2
      generalize ins[k] = x at *
      cases hq : bitsM x (c.ins.length : Int) with
      | true =>
        rw [hq] at TJ HT
        have K1 := Lib.hid (fun (u : Wd wr.heap.size wr) => Calls.in_wd u ((TJ.out u.w).mono fun e w' ⟨h1, h2⟩ => ⟨h1, h2 ▸ Below.refl _ _⟩) (Nat.le_refl _))
        clear hq HNo TJ
        go_wp2
        have u1 := Wd.cell t2
        have u2 := Wd.cell hc
        have u3 := Wd.cell e1
        refine wp_region_wd (by kernel_rfl) (by kernel_rfl) ?_
        repeat (first | go_big_quiet_skip | (go_big_quiet_want; go_big_quiet_op; first | go_big_quiet_on | (apply Exists.intro; refine ⟨fun u => ?_, ?_⟩; (first | (go_at_call 27; with_reducible exact K1.out u)); go_big_quiet_on)))
        refine wpQuiet_nil ?_
        intro wz9 hw'
        obtain ⟨⟨_, hb9⟩, hw''⟩ := hw'
        subst hw''
        have BN : Hid (Below WB.heap.size WB wz9) := HB.out.trans (hb9.mono HB.out.size)
        clear hb9 K1 u1 u2 u3
        go_wp2
        go_roundw
        case rel => exact ⟨k + 1, by omega, by go_num, HT.out, BN.out⟩
        case measure => simp [intOf]; omega
      | false =>
        rw [hq] at TJ
        have K1 := Lib.hid (fun (u : Wd wr.heap.size wr) => Calls.in_wd u ((TJ.out u.w).mono fun e w' ⟨h1, h2⟩ => ⟨h1, h2 ▸ Below.refl _ _⟩) (Nat.le_refl _))
        have HX := Lib.hid (HNo.out hq)
        clear hq HNo HT TJ
        go_wp2
        have u1 := Wd.cell t2
        have u2 := Wd.cell hc
        have u3 := Wd.cell e1
        refine wp_region_wd (by kernel_rfl) (by kernel_rfl) ?_
        repeat (first | go_big_quiet_skip | (go_big_quiet_want; go_big_quiet_op; first | go_big_quiet_on | (apply Exists.intro; refine ⟨fun u => ?_, ?_⟩; (first | (go_at_call 27; with_reducible exact K1.out u)); go_big_quiet_on)))
        refine wpQuiet_nil ?_
        intro wz9 hw'
        obtain ⟨⟨_, hb9⟩, hw''⟩ := hw'
        subst hw''
        have BN : Hid (Below WB.heap.size WB wz9) := HB.out.trans (hb9.mono HB.out.size)
        have BF : Hid (Below w.heap.size w wz9) := BB.out.trans (BN.out.mono BB.out.size)
        clear hb9 K1 u1 u2 u3
        go_wp2
        go_ret
        exact ⟨by rw [rest_5 HX.out]; rfl, BF.out⟩
    · obtain rfl : k = ins.length := by omega
      rw [List.take_length] at HA
      have IN := Lib.hid (refinitial_any c s st wr (LW.out wr HB.out) HSZ.out)
      unfold cirV at IN
      rw [show cirC c s = #[.int .i64 c.max, .slice s.ai c.ins.length s.ki, .slice s.al c.lats.length s.kl, .slice s.ao c.outs.length s.ko, .slice s.ab c.bads.length s.kb, .slice s.ac c.invs.length s.kc, .slice s.aa c.ands.length s.ka, .slice s.an c.names.length s.kn] from rfl] at IN
      cases hq : initM c st with
      | false =>
        rw [hq] at IN
        have HIM := Lib.hid hq
        clear hq
        go_wp2_with fail
        refine IN.out.mono ?_
        rintro e w2 ⟨rfl, hb⟩
        have BN : Hid (Below WB.heap.size WB w2) := HB.out.trans (hb.mono HB.out.size)
        have BF : Hid (Below w.heap.size w w2) := BB.out.trans (BN.out.mono BB.out.size)
        clear hb IN e0 e1 e2 e3 e4 e5 e6 e7 t0 t1 t2
        go_wp2
        go_ret
        exact ⟨by rw [rest_9 HA.out HIM.out]; rfl, BF.out⟩
      | true =>
        rw [hq] at IN
        have HIM := Lib.hid hq
        clear hq
        go_wp2_with fail
        refine IN.out.mono ?_
        rintro e w2 ⟨rfl, hb⟩
        have B2 : Hid (Below WB.heap.size WB w2) := HB.out.trans (hb.mono HB.out.size)
        clear hb IN e0 e1 e2 e3 e4 e5 e6 e7 t0 t1 t2 HB
        obtain ⟨e0, e1, e2, e3, e4, e5, e6, e7⟩ := cells8 (GC.out _ B2.out)
        obtain ⟨t0, t1, t2⟩ := two_cells (GT.out _ B2.out)
        have HAN : Hid (∀ i ∈ ins, bitsM i (c.ins.length : Int) = true) := fun i hi => List.all_eq_true.1 HA.out i hi
        go_wp2
        clear e0 e1 e2 e3 e4 e5 e6 e7 t0 t1 t2
        go_loopw [8, 9] (fun t i wr => ∃ (k : Nat) (sx : ByteArray), k ≤ ins.length ∧ i = .int .i64 k ∧ t = .string sx ∧ bitsM sx (c.lats.length : Int) = true ∧ stepsM c (L.map Clz.l) bn st ins = stepsM c (L.map Clz.l) bn sx (ins.drop k) ∧ Below WB.heap.size WB wr) (fun _ i _ => ins.length - (intOf i).toNat)
        case atStart => exact ⟨0, st, Nat.zero_le _, rfl, rfl, HSB.out, rfl, B2.out⟩
        case round =>
          clear B2
          obtain ⟨k, sx, hk2, rfl, rfl, hsb, hst, hbw⟩ := hrel
          have HB := Lib.hid hbw
          have HST := Lib.hid hst
          have hil := HIL.out
          clear hbw hst
          obtain ⟨e0, e1, e2, e3, e4, e5, e6, e7⟩ := cells8 (GC.out _ HB.out)
          obtain ⟨t0, t1, t2⟩ := two_cells (GT.out _ HB.out)
          by_cases hlt : k < ins.length
          · obtain ⟨b, o, hA2, -, hc0⟩ := (SW.out WB (Below.refl _ _)).at hlt
            have LRK : Hid (∀ y, Below WB.heap.size WB y → y.cell? ⟨b, o + k, none⟩ = some (.string ins[k])) := fun y hy => (hy.cell (World.block_lt_of_cell? _ _ hc0)).trans hc0
            have hc := LRK.out wr HB.out
            have HAI := Lib.hid hA2
            clear hc0
            rw [hA2] at t2
            have hkz : (k : Int) < (ins.length : Int) := by omega
            have hk0 : (0 : Int) ≤ (k : Int) := by omega
            have hib := HAN.out _ (List.getElem_mem hlt)
            have hiz := HIS.out _ (List.getElem_mem hlt)
            have hsz : sx.size ≤ 9223372036854775807 := by have := (bits_parts hsb).1; have := HZ.out.2.1; omega
            have hve : vErr c sx ins[k] = 0 := err_ok HOK.out (by unfold okB; rw [hsb, hib]; rfl)
            have VV := Lib.hid (fun x hx => refvalues_any c s sx ins[k] x (LW.out x hx) HF.out hsz hiz)
            have NN := Lib.hid (fun x hx => refnext_any c s sx ins[k] x (LW.out x hx) HF.out hsz hiz)
            rw [str_ok hve, hve] at VV
            rw [show nStr c sx ins[k] = nxtL c (valsM c sx ins[k]) from if_pos hve, hve] at NN
            have hvl : (valsM c sx ins[k]).length ≤ 1048576 := by
              obtain ⟨m, hm, hm1⟩ := max_nat HOK.out
              rw [vals_len, hm]; simp; omega
            have HSD := Lib.hid (steps_drop c (L.map Clz.l) bn sx ins k hlt)
            have HNB := Lib.hid (nxt1_bits c sx ins[k])
            have AL := Lib.hid (fun x hx => refallowed_any c s L A q (sb (valsM c sx ins[k])) x (LW.out x hx) HF.out (by rw [sb_size]; omega) (by have := HZ.out.2.2.2.2.1; omega) (AW.out x hx))
            rw [sb_list] at AL
            have TV := Lib.hid (fun x => reftrue_any (sb (valsM c sx ins[k])) (c.bads[bn]'HBN.out) x (by rw [sb_size]; omega) (HF.out.bads _ (List.getElem_mem HBN.out)).2)
            rw [sb_list] at TV
            have HSM : Hid (stepM c (L.map Clz.l) bn sx ins[k] (decide (k + 1 = ins.length)) = (allowedM c (L.map Clz.l) (valsM c sx ins[k]) && (!decide (k + 1 = ins.length) || trueM (valsM c sx ins[k]) (c.bads[bn]'HBN.out)))) := by
              unfold Hid stepM
              rw [Int.toNat_natCast, List.getD_eq_getElem?_getD, List.getElem?_eq_getElem HBN.out]; rfl
            have HNX : Hid (nxt1 c sx ins[k] = sb (nxtL c (valsM c sx ins[k]))) := rfl
            have HKE : Hid (decide (k + 1 = ins.length) = ((k : Int) == (ins.length : Int) - 1)) := by
              unfold Hid
              rw [Bool.eq_iff_iff, decide_eq_true_eq, beq_iff_eq]; omega
            obtain ⟨bb, ob, hAB, -, -⟩ := LRow.int (LW.out WB (Below.refl _ _)).bads HBN.out
            have HAB := Lib.hid hAB
            clear hA2 hsb hib hiz hsz hve hvl hAB
            unfold sv at VV NN
            rw [show (⟨(valsM c sx ins[k]).toArray⟩ : ByteArray) = sb (valsM c sx ins[k]) from rfl] at VV
            rw [show (⟨(nxtL c (valsM c sx ins[k])).toArray⟩ : ByteArray) = sb (nxtL c (valsM c sx ins[k])) from rfl, ← HNX.out] at NN
            clear HNX
            generalize nxt1 c sx ins[k] = s9 at *
            generalize valsM c sx ins[k] = v at *
            generalize allowedM c (L.map Clz.l) v = y1 at *
            generalize sb v = sv9 at *
            generalize stepM c (L.map Clz.l) bn sx ins[k] (decide (k + 1 = ins.length)) = y0 at *
            generalize ins[k] = x at *
            unfold cirV at VV NN AL
            rw [show cirC c s = #[.int .i64 c.max, .slice s.ai c.ins.length s.ki, .slice s.al c.lats.length s.kl, .slice s.ao c.outs.length s.ko, .slice s.ab c.bads.length s.kb, .slice s.ac c.invs.length s.kc, .slice s.aa c.ands.length s.ka, .slice s.an c.names.length s.kn] from rfl] at VV NN AL
            have K1 := Lib.hid (fun (u : Wd wr.heap.size wr) => Calls.in_wd u (VV.out u.w (HB.out.trans (u.ok.mono HB.out.size))) (Nat.le_refl _))
            clear VV
            go_wp2
            have u0 := Wd.cell e0
            have u1 := Wd.cell e1
            have u2 := Wd.cell e2
            have u3 := Wd.cell e3
            have u4 := Wd.cell e4
            have u5 := Wd.cell e5
            have u6 := Wd.cell e6
            have u7 := Wd.cell e7
            have ut := Wd.cell t2
            have uc := Wd.cell hc
            refine wp_region_wd (by kernel_rfl) (by kernel_rfl) ?_
            repeat (first | go_big_quiet_skip | (go_big_quiet_want; go_big_quiet_op; first | go_big_quiet_on | (apply Exists.intro; refine ⟨fun u => ?_, ?_⟩; (first | (go_at_call 22; with_reducible exact K1.out u)); go_big_quiet_on)))
            refine wpQuiet_nil ?_
            intro wz9 hw'
            obtain ⟨⟨_, hb9⟩, hw''⟩ := hw'
            subst hw''
            obtain ⟨w5, rfl⟩ : ∃ z, z = wz9 := ⟨_, rfl⟩
            have B5 : Hid (Below WB.heap.size WB w5) := HB.out.trans (hb9.mono HB.out.size)
            clear hb9 K1 u0 u1 u2 u3 u4 u5 u6 u7 ut uc e0 e1 e2 e3 e4 e5 e6 e7 t0 t1 t2 hc
            obtain ⟨e0, e1, e2, e3, e4, e5, e6, e7⟩ := cells8 (GC.out _ B5.out)
            obtain ⟨t0, t1, t2⟩ := two_cells (GT.out _ B5.out)
            have AV := Lib.hid (AL.out w5 B5.out)
            clear AL
            cases y1 with
            | false =>
              have HX : Hid (stepsM c (L.map Clz.l) bn st ins = false) := by unfold Hid; rw [HST.out, HSD.out, HSM.out]; rfl
              go_wp2_with fail
              refine AV.out.mono ?_
              rintro e w6 ⟨rfl, hb⟩
              have B6 : Hid (Below WB.heap.size WB w6) := B5.out.trans (hb.mono B5.out.size)
              have BF : Hid (Below w.heap.size w w6) := BB.out.trans (B6.out.mono BB.out.size)
              clear hb AV e0 e1 e2 e3 e4 e5 e6 e7 t0 t1 t2
              go_wp2
              go_ret
              exact ⟨by rw [rest_51 HA.out HIM.out HX.out]; rfl, BF.out⟩
            | true =>
              go_wp2_with fail
              refine AV.out.mono ?_
              rintro e w6 ⟨rfl, hb⟩
              have B6 : Hid (Below WB.heap.size WB w6) := B5.out.trans (hb.mono B5.out.size)
              clear hb AV e0 e1 e2 e3 e4 e5 e6 e7 t0 t1 t2
              obtain ⟨e0, e1, e2, e3, e4, e5, e6, e7⟩ := cells8 (GC.out _ B6.out)
              obtain ⟨t0, t1, t2⟩ := two_cells (GT.out _ B6.out)
              have hc := LRK.out w6 B6.out
              rw [HAI.out] at t2
              by_cases hke : k + 1 = ins.length
              · have hkb : ((k : Int) == (ins.length : Int) - 1) = true := by rw [beq_iff_eq]; omega
                have hkd : decide (k + 1 = ins.length) = true := decide_eq_true hke
                obtain ⟨bb2, ob2, hAB2, -, hcb⟩ := LRow.int (LW.out w6 B6.out).bads HBN.out
                rw [hAB2] at e4
                have TV6 := Lib.hid (TV.out w6)
                have hbl : (bn : Int) < (c.bads.length : Int) := by have := HBN.out; omega
                clear hAB2
                generalize c.bads[bn]'HBN.out = xb at *
                cases hq : trueM v xb with
                | false =>
                  rw [hq] at TV6
                  have HX : Hid (stepsM c (L.map Clz.l) bn st ins = false) := by unfold Hid; rw [HST.out, HSD.out, HSM.out, hkd, hq]; rfl
                  clear hq hkd hke
                  go_wp2_with fail
                  refine TV6.out.mono ?_
                  rintro e w' ⟨rfl, rfl⟩
                  have BF : Hid (Below w.heap.size w w6) := BB.out.trans (B6.out.mono BB.out.size)
                  go_wp2
                  go_ret
                  exact ⟨by rw [rest_51 HA.out HIM.out HX.out]; rfl, BF.out⟩
                | true =>
                  rw [hq] at TV6
                  have HX : Hid (stepsM c (L.map Clz.l) bn st ins = stepsM c (L.map Clz.l) bn s9 (ins.drop (k + 1))) := by unfold Hid; rw [HST.out, HSD.out, HSM.out, hkd, hq]; rfl
                  have K2 := Lib.hid (fun (u : Wd w6.heap.size w6) => Calls.in_wd u (NN.out u.w (B6.out.trans (u.ok.mono B6.out.size))) (Nat.le_refl _))
                  clear hq hkd hke NN
                  go_wp2_with fail
                  refine TV6.out.mono ?_
                  rintro e w' ⟨rfl, rfl⟩
                  clear e0 e1 e2 e3 e4 e5 e6 e7
                  obtain ⟨e0, e1, e2, e3, e4, e5, e6, e7⟩ := cells8 (GC.out _ B6.out)
                  go_wp2
                  have u0 := Wd.cell e0
                  have u1 := Wd.cell e1
                  have u2 := Wd.cell e2
                  have u3 := Wd.cell e3
                  have u4 := Wd.cell e4
                  have u5 := Wd.cell e5
                  have u6 := Wd.cell e6
                  have u7 := Wd.cell e7
                  have ut := Wd.cell t2
                  have uc := Wd.cell hc
                  refine wp_region_wd (by kernel_rfl) (by kernel_rfl) ?_
                  repeat (first | go_big_quiet_skip | (go_big_quiet_want; go_big_quiet_op; first | go_big_quiet_on | (apply Exists.intro; refine ⟨fun u => ?_, ?_⟩; (first | (go_at_call 24; with_reducible exact K2.out u)); go_big_quiet_on)))
                  refine wpQuiet_nil ?_
                  intro wz9 hw'
                  obtain ⟨⟨_, hb9⟩, hw''⟩ := hw'
                  subst hw''
                  have BN : Hid (Below WB.heap.size WB wz9) := B6.out.trans (hb9.mono B6.out.size)
                  clear hb9 K2 u0 u1 u2 u3 u4 u5 u6 u7 ut uc
                  go_wp2
                  go_roundw
                  case rel => exact ⟨k + 1, s9, by omega, by go_num, rfl, HNB.out, HX.out, BN.out⟩
                  case measure => simp [intOf]; omega
              · have hkb : ((k : Int) == (ins.length : Int) - 1) = false := by rw [beq_eq_false_iff_ne]; omega
                have hkd : decide (k + 1 = ins.length) = false := decide_eq_false hke
                have HX : Hid (stepsM c (L.map Clz.l) bn st ins = stepsM c (L.map Clz.l) bn s9 (ins.drop (k + 1))) := by unfold Hid; rw [HST.out, HSD.out, HSM.out, hkd]; rfl
                have K2 := Lib.hid (fun (u : Wd w6.heap.size w6) => Calls.in_wd u (NN.out u.w (B6.out.trans (u.ok.mono B6.out.size))) (Nat.le_refl _))
                clear hkd hke NN
                go_wp2
                have u0 := Wd.cell e0
                have u1 := Wd.cell e1
                have u2 := Wd.cell e2
                have u3 := Wd.cell e3
                have u4 := Wd.cell e4
                have u5 := Wd.cell e5
                have u6 := Wd.cell e6
                have u7 := Wd.cell e7
                have ut := Wd.cell t2
                have uc := Wd.cell hc
                refine wp_region_wd (by kernel_rfl) (by kernel_rfl) ?_
                repeat (first | go_big_quiet_skip | (go_big_quiet_want; go_big_quiet_op; first | go_big_quiet_on | (apply Exists.intro; refine ⟨fun u => ?_, ?_⟩; (first | (go_at_call 24; with_reducible exact K2.out u)); go_big_quiet_on)))
                refine wpQuiet_nil ?_
                intro wz9 hw'
                obtain ⟨⟨_, hb9⟩, hw''⟩ := hw'
                subst hw''
                have BN : Hid (Below WB.heap.size WB wz9) := B6.out.trans (hb9.mono B6.out.size)
                clear hb9 K2 u0 u1 u2 u3 u4 u5 u6 u7 ut uc
                go_wp2
                go_roundw
                case rel => exact ⟨k + 1, s9, by omega, by go_num, rfl, HNB.out, HX.out, BN.out⟩
                case measure => simp [intOf]; omega
          · obtain rfl : k = ins.length := by omega
            have HX : Hid (stepsM c (L.map Clz.l) bn st ins = true) := by unfold Hid; rw [HST.out, List.drop_length]; rfl
            have BF : Hid (Below w.heap.size w wr) := BB.out.trans (HB.out.mono BB.out.size)
            go_wp2
            go_ret
            exact ⟨by rw [rest_0 HA.out HIM.out HX.out]; rfl, BF.out⟩
theorem refpath_any (c : Cir) (s : Places) (L : List Clz) (A : Option Addr) (q : Nat) (x : Wit) (AI : Option Addr) (qi : Nat) (w : World) (h : CLies w w.heap.size c s) (hf : CFits c s) (hz : x.state.size ≤ 9223372036854775807) (hA : ALies w w.heap.size A L) (hS : SLies w w.heap.size AI x.inputs) :
    Calls Try.prog 36 #[cirV c s, .slice A L.length q, witV x AI qi] w fun e w' => e = .returned (.int .i64 (pathE c (L.map Clz.l) x)) ∧ Below w.heap.size w w' := by
  obtain ⟨bad, st, ins⟩ := x
  unfold witV
  cases h1 : refOk c with
  | false => rw [path_9 h1]; exact refpath_9 c s L A q bad st ins AI qi w h hf h1
  | true =>
    by_cases h2 : bad < 0 ∨ (c.bads.length : Int) ≤ bad
    · rw [path_4 h1 h2]; exact refpath_4 c s L A q bad st ins AI qi w h hf h1 h2
    · by_cases h3 : ins = []
      · rw [path_8 h1 h2 h3]; exact refpath_8 c s L A q bad st ins AI qi w h hf h1 (by omega) (by omega) h3
      · cases h4 : bitsM st (c.lats.length : Int) with
        | false => rw [path_5 h1 h2 h3 h4]; exact refpath_5 c s L A q bad st ins AI qi w h hf h1 (by omega) (by omega) h3 hz h4
        | true => rw [path_rest h1 h2 h3 h4]; exact refpath_rest c s L A q bad st ins AI qi w h hf h1 (by omega) (by omega) h3 hz h4 hA hS
end Go.Proofs.Ytfglgapocmnfpaa.Rep
