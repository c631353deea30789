/- sim.Values; condition: the circuit lies in memory. What values are, and-gate by and-gate; no program is named here, no condition. -/
import Derived.Test.YtbgcoeejmnejdaaPt14
import Derived.Test.YtbgcoeejmnejdaaPt16
import Derived.Test.YtbgcoeejmnejdaaPt17
import Derived.Test.YtbgcoeejmnejdaaPt27
import Derived.Test.YtbgcoeejmnejdaaPt23
import Derived.Test.YtbgcoeejmnejdaaPt19
namespace Go.Proofs.Ytbgcoeejmnejdaa.Sim
open Go.ChangeShapes Go.WideShapes Go.ChangeAt Go.RowKit Go.Maps Circ Cw
open Str

/-- what the closure over values, handed to holds, comes to -/
theorem vholds_any (g gb : Nat) (v : List UInt8) (l : Int) (w : World) (h : HasV w g gb v) (h1 : l ≤ 9223372036854775807) (hl : cnt l / 2 < (v.length : Int)) : Calls Try.prog 61 #[.int .i64 l, .func (.func 60) #[] #[.pointer (some ⟨g, 0, none⟩)]] w fun e w' => e = .returned (.bool (trueM v l)) ∧ Below w.heap.size w w' := by
  have h0 : 0 ≤ cnt l / 2 := by unfold cnt; split <;> omega
  obtain ⟨i, hi⟩ : ∃ i : Nat, cnt l / 2 = (i : Int) := ⟨(cnt l / 2).toNat, by omega⟩
  have EV : ∀ args w, (callFunc 60 args).run Try.prog w = .ok (.enter 60 args) w := enters_of Try.func60 (by kernel_rfl) rfl
  have := holds_any 60 #[.pointer (some ⟨g, 0, none⟩)] l _ w h1 EV (by rw [hi]; exact set1_any g gb i v w h (by omega))
  unfold trueM
  rw [hi, Int.toNat_natCast]
  exact this
def isB (x : UInt8) : Prop := x = 48 ∨ x = 49
theorem isB_of {x : UInt8} (h : isBit x = true) : isB x := by
  unfold isBit at h
  simp only [Bool.or_eq_true, decide_eq_true_eq] at h
  rcases h with h | h
  · exact .inl (UInt8.toNat_inj.1 h)
  · exact .inr (UInt8.toNat_inj.1 h)
theorem bitL_self (v : List UInt8) (h : ∀ x ∈ v, isB x) : bitL (fun i => decide (v[i]? = some 49)) v.length = v := by
  unfold bitL
  apply List.ext_getElem (by simp)
  intro i h1 h2
  rw [List.getElem_map, List.getElem_range]
  simp only [List.getElem?_eq_getElem h2]
  unfold bitB
  rcases h v[i] (List.getElem_mem h2) with e | e
  · rw [e]; rfl
  · rw [e]; rfl
theorem putV_bits {v : List UInt8} {l : Int} {x : UInt8} (h : ∀ y ∈ v, isB y) (hx : isB x) : ∀ y ∈ putV v l x, isB y := fun y hy => by
  unfold putV at hy
  rcases List.mem_or_eq_of_mem_set hy with hy | hy
  · exact h y hy
  · rw [hy]; exact hx
theorem putsV_bits {v : List UInt8} {L : List Int} {s : ByteArray} (h : ∀ y ∈ v, isB y) (hs : ∀ y ∈ s.data.toList, isB y) : ∀ k, k ≤ s.size → ∀ y ∈ putsV v L s k, isB y
  | 0, _ => h
  | k + 1, hk => by
    unfold putsV
    refine putV_bits (putsV_bits h hs k (by omega)) (hs _ ?_)
    have hl : k < s.data.toList.length := by simp; omega
    rw [List.getD_eq_getElem?_getD, List.getElem?_eq_getElem hl]
    exact List.getElem_mem hl
theorem gatesV_bits {v : List UInt8} (h : ∀ y ∈ v, isB y) (l : List Tri) : ∀ y ∈ gatesV v l, isB y := by
  unfold gatesV
  induction l generalizing v with
  | nil => exact h
  | cons t l ih =>
    refine ih ?_
    unfold gateV
    split
    · exact putV_bits h (.inr rfl)
    · exact h
theorem bits_parts {s : ByteArray} {n : Nat} (h : bitsM s (n : Int) = true) : s.size = n ∧ ∀ y ∈ s.data.toList, isB y := by
  unfold bitsM at h
  simp only [Bool.and_eq_true, decide_eq_true_eq] at h
  exact ⟨by omega, fun y hy => isB_of (List.all_eq_true.1 h.2 y hy)⟩
theorem base_bits {c : Cir} {st inp : ByteArray} (hs : bitsM st (c.lats.length : Int) = true) (hi : bitsM inp (c.ins.length : Int) = true) : ∀ y ∈ baseB c st inp, isB y := by
  obtain ⟨a1, a2⟩ := bits_parts hs
  obtain ⟨b1, b2⟩ := bits_parts hi
  unfold baseB
  refine putsV_bits (putsV_bits (fun y hy => ?_) b2 _ (by omega)) a2 _ (by omega)
  rw [(List.mem_replicate.1 hy).2]; exact .inl rfl
theorem vals_bits {c : Cir} {st inp : ByteArray} (hs : bitsM st (c.lats.length : Int) = true) (hi : bitsM inp (c.ins.length : Int) = true) : ∀ y ∈ valsM c st inp, isB y := gatesV_bits (base_bits hs hi) _
/-- what an octet put in its place is in memory -/
theorem HasV.put {w : World} {g gb : Nat} {v : List UInt8} (h : HasV w g gb v) (hg : g ≠ gb) {l : Int} {i : Nat} (hi : l / 2 = (i : Int)) (hl : i < v.length) (x : UInt8) : HasV (w.setCell ⟨gb, i, none⟩ (.int .u8 ((x.toNat : Nat) : Int))) g gb (putV v l x) := by
  unfold putV
  rw [hi, Int.toNat_natCast]
  exact h.set hg hl x
theorem max_nat {c : Cir} (hr : refOk c = true) : ∃ m : Nat, c.max = (m : Int) ∧ m ≤ 2048 := by
  obtain ⟨hh, -⟩ := ref_parts hr
  unfold refHead at hh
  simp only [Bool.and_eq_true, Bool.not_eq_true', decide_eq_false_iff_not] at hh
  exact ⟨c.max.toNat, by omega, by omega⟩

set_option maxHeartbeats 16000000 in
set_option maxRecDepth 100000 in
theorem values_no (c : Cir) (s : Places) (st inp : ByteArray) (w : World) (h : CLies w w.heap.size c s) (hf : CFits c s) (hc : chk c = false) :
    Calls Try.prog 21 #[cirV c s, .string st, .string inp] w fun e w' => e = .returned (.tuple #[sv [], .int .i64 9]) ∧ Below w.heap.size w w' := by
  obtain ⟨WA, hWA⟩ : ∃ x, w.alloc (.cells #[.int .i64 c.max, .slice s.ai c.ins.length s.ki, .slice s.al c.lats.length s.kl, .slice s.ao c.outs.length s.ko, .slice s.ab c.bads.length s.kb, .slice s.ac c.invs.length s.kc, .slice s.aa c.ands.length s.ka, .slice s.an c.names.length s.kn] 27) = x := ⟨_, rfl⟩
  have bA : Hid (Below w.heap.size w WA) := by unfold Hid; rw [← hWA]; exact (Below.refl _ _).alloc (Nat.le_refl _) _
  have GA : Hid (WA.heap[w.heap.size]? = some (.cells (cirC c s) 27 (0, 0))) := by unfold Hid; rw [← hWA]; exact Array.getElem?_push_size
  obtain ⟨e0, e1, e2, e3, e4, e5, e6, e7⟩ := cells8 GA.out
  have CK := Lib.hid (check_any c s WA ((h.below bA.out).more bA.out.size) hf)
  rw [chkV_no c hc] at CK
  clear h hf hc
  unfold cirV at CK ⊢
  rw [show cirC c s = #[.int .i64 c.max, .slice s.ai c.ins.length s.ki, .slice s.al c.lats.length s.kl, .slice s.ao c.outs.length s.ko, .slice s.ab c.bads.length s.kb, .slice s.ac c.invs.length s.kc, .slice s.aa c.ands.length s.ka, .slice s.an c.names.length s.kn] from rfl] at CK ⊢
  go_enter Try.func21, Try.ntmps21
  go_wp2_with fail
  refine CK.out.mono ?_
  rintro e w1 ⟨rfl, hb⟩
  have B1 : Hid (Below w.heap.size w w1) := bA.out.trans (hb.mono bA.out.size)
  have G1 : Hid (w1.heap[w.heap.size]? = some (.cells (cirC c s) 27 (0, 0))) := (hb.block _ (lt_of_block GA.out)).trans GA.out
  clear e0 e1 e2 e3 e4 e5 e6 e7 hWA CK hb
  go_wp2
  go_ret2
  exact ⟨rfl, B1.out⟩
set_option maxHeartbeats 16000000 in
set_option maxRecDepth 100000 in
theorem values_long1 (c : Cir) (s : Places) (st inp : ByteArray) (w : World) (h : CLies w w.heap.size c s) (hf : CFits c s) (hc : chk c = true) (hs : bitsM st (c.lats.length : Int) = false) :
    Calls Try.prog 21 #[cirV c s, .string st, .string inp] w fun e w' => e = .returned (.tuple #[sv [], .int .i64 5]) ∧ Below w.heap.size w w' := by
  obtain ⟨WA, hWA⟩ : ∃ x, w.alloc (.cells #[.int .i64 c.max, .slice s.ai c.ins.length s.ki, .slice s.al c.lats.length s.kl, .slice s.ao c.outs.length s.ko, .slice s.ab c.bads.length s.kb, .slice s.ac c.invs.length s.kc, .slice s.aa c.ands.length s.ka, .slice s.an c.names.length s.kn] 27) = x := ⟨_, rfl⟩
  have bA : Hid (Below w.heap.size w WA) := by unfold Hid; rw [← hWA]; exact (Below.refl _ _).alloc (Nat.le_refl _) _
  have GA : Hid (WA.heap[w.heap.size]? = some (.cells (cirC c s) 27 (0, 0))) := by unfold Hid; rw [← hWA]; exact Array.getElem?_push_size
  obtain ⟨e0, e1, e2, e3, e4, e5, e6, e7⟩ := cells8 GA.out
  have CK := Lib.hid (check_any c s WA ((h.below bA.out).more bA.out.size) hf)
  rw [chkV_yes c hc] at CK
  have T1 : Hid (∀ w, Calls Try.prog 32 #[.string st, .int .i64 (c.lats.length : Int)] w fun e w' => e = .returned (.bool false) ∧ Below w.heap.size w w') := fun w => by
    have := bits_text st c.lats.length w
    rw [hs] at this
    exact this
  clear h hf hc hs
  unfold cirV at CK ⊢
  rw [show cirC c s = #[.int .i64 c.max, .slice s.ai c.ins.length s.ki, .slice s.al c.lats.length s.kl, .slice s.ao c.outs.length s.ko, .slice s.ab c.bads.length s.kb, .slice s.ac c.invs.length s.kc, .slice s.aa c.ands.length s.ka, .slice s.an c.names.length s.kn] from rfl] at CK ⊢
  go_enter Try.func21, Try.ntmps21
  go_wp2_with fail
  refine CK.out.mono ?_
  rintro e w1 ⟨rfl, hb⟩
  have B1 : Hid (Below w.heap.size w w1) := bA.out.trans (hb.mono bA.out.size)
  have G1 : Hid (w1.heap[w.heap.size]? = some (.cells (cirC c s) 27 (0, 0))) := (hb.block _ (lt_of_block GA.out)).trans GA.out
  clear e0 e1 e2 e3 e4 e5 e6 e7 hWA CK hb
  obtain ⟨e0, e1, e2, e3, e4, e5, e6, e7⟩ := cells8 G1.out
  go_wp2_with fail
  refine (T1.out w1).mono ?_
  rintro e w2 ⟨rfl, hb⟩
  have B2 : Hid (Below w.heap.size w w2) := B1.out.trans (hb.mono B1.out.size)
  have G2 : Hid (w2.heap[w.heap.size]? = some (.cells (cirC c s) 27 (0, 0))) := (hb.block _ (lt_of_block G1.out)).trans G1.out
  clear e0 e1 e2 e3 e4 e5 e6 e7 hb
  go_wp2
  go_ret2
  exact ⟨rfl, B2.out⟩
set_option maxHeartbeats 16000000 in
set_option maxRecDepth 100000 in
theorem values_long2 (c : Cir) (s : Places) (st inp : ByteArray) (w : World) (h : CLies w w.heap.size c s) (hf : CFits c s) (hc : chk c = true) (hs : bitsM st (c.lats.length : Int) = true) (hi : bitsM inp (c.ins.length : Int) = false) :
    Calls Try.prog 21 #[cirV c s, .string st, .string inp] w fun e w' => e = .returned (.tuple #[sv [], .int .i64 5]) ∧ Below w.heap.size w w' := by
  obtain ⟨WA, hWA⟩ : ∃ x, w.alloc (.cells #[.int .i64 c.max, .slice s.ai c.ins.length s.ki, .slice s.al c.lats.length s.kl, .slice s.ao c.outs.length s.ko, .slice s.ab c.bads.length s.kb, .slice s.ac c.invs.length s.kc, .slice s.aa c.ands.length s.ka, .slice s.an c.names.length s.kn] 27) = x := ⟨_, rfl⟩
  have bA : Hid (Below w.heap.size w WA) := by unfold Hid; rw [← hWA]; exact (Below.refl _ _).alloc (Nat.le_refl _) _
  have GA : Hid (WA.heap[w.heap.size]? = some (.cells (cirC c s) 27 (0, 0))) := by unfold Hid; rw [← hWA]; exact Array.getElem?_push_size
  obtain ⟨e0, e1, e2, e3, e4, e5, e6, e7⟩ := cells8 GA.out
  have CK := Lib.hid (check_any c s WA ((h.below bA.out).more bA.out.size) hf)
  rw [chkV_yes c hc] at CK
  have T1 : Hid (∀ w, Calls Try.prog 32 #[.string st, .int .i64 (c.lats.length : Int)] w fun e w' => e = .returned (.bool true) ∧ Below w.heap.size w w') := fun w => by
    have := bits_text st c.lats.length w
    rw [hs] at this
    exact this
  have T2 : Hid (∀ w, Calls Try.prog 32 #[.string inp, .int .i64 (c.ins.length : Int)] w fun e w' => e = .returned (.bool false) ∧ Below w.heap.size w w') := fun w => by
    have := bits_text inp c.ins.length w
    rw [hi] at this
    exact this
  clear h hf hc hs hi
  unfold cirV at CK ⊢
  rw [show cirC c s = #[.int .i64 c.max, .slice s.ai c.ins.length s.ki, .slice s.al c.lats.length s.kl, .slice s.ao c.outs.length s.ko, .slice s.ab c.bads.length s.kb, .slice s.ac c.invs.length s.kc, .slice s.aa c.ands.length s.ka, .slice s.an c.names.length s.kn] from rfl] at CK ⊢
  go_enter Try.func21, Try.ntmps21
  go_wp2_with fail
  refine CK.out.mono ?_
  rintro e w1 ⟨rfl, hb⟩
  have B1 : Hid (Below w.heap.size w w1) := bA.out.trans (hb.mono bA.out.size)
  have G1 : Hid (w1.heap[w.heap.size]? = some (.cells (cirC c s) 27 (0, 0))) := (hb.block _ (lt_of_block GA.out)).trans GA.out
  clear e0 e1 e2 e3 e4 e5 e6 e7 hWA CK hb
  obtain ⟨e0, e1, e2, e3, e4, e5, e6, e7⟩ := cells8 G1.out
  go_wp2_with fail
  refine (T1.out w1).mono ?_
  rintro e w2 ⟨rfl, hb⟩
  have B2 : Hid (Below w.heap.size w w2) := B1.out.trans (hb.mono B1.out.size)
  have G2 : Hid (w2.heap[w.heap.size]? = some (.cells (cirC c s) 27 (0, 0))) := (hb.block _ (lt_of_block G1.out)).trans G1.out
  clear e0 e1 e2 e3 e4 e5 e6 e7 hb
  obtain ⟨e0, e1, e2, e3, e4, e5, e6, e7⟩ := cells8 G2.out
  go_wp2_with fail
  refine (T2.out w2).mono ?_
  rintro e w3 ⟨rfl, hb⟩
  have B3 : Hid (Below w.heap.size w w3) := B2.out.trans (hb.mono B2.out.size)
  have G3 : Hid (w3.heap[w.heap.size]? = some (.cells (cirC c s) 27 (0, 0))) := (hb.block _ (lt_of_block G2.out)).trans G2.out
  clear e0 e1 e2 e3 e4 e5 e6 e7 hb
  go_wp2
  go_ret2
  exact ⟨rfl, B3.out⟩
set_option maxHeartbeats 16000000 in
set_option maxRecDepth 100000 in
theorem values_yes (c : Cir) (s : Places) (st inp : ByteArray) (w : World) (h : CLies w w.heap.size c s) (hf : CFits c s) (hc : chk c = true) (hs : bitsM st (c.lats.length : Int) = true) (hi : bitsM inp (c.ins.length : Int) = true) :
    Calls Try.prog 21 #[cirV c s, .string st, .string inp] w fun e w' => e = .returned (.tuple #[sv (valsM c st inp), .int .i64 0]) ∧ Below w.heap.size w w' := by
  have hmf : ∀ (fn : Fn) (first cap : Array Value) (w : World), (Instr.makeFunc fn first cap).run Try.prog w = .ok (.func fn first cap) w := fun _ _ _ _ => rfl
  have hr : refOk c = true := by rw [← chk_same]; exact hc
  obtain ⟨m, hm, hm1⟩ := max_nat hr
  obtain ⟨WA, hWA⟩ : ∃ x, w.alloc (.cells #[.int .i64 c.max, .slice s.ai c.ins.length s.ki, .slice s.al c.lats.length s.kl, .slice s.ao c.outs.length s.ko, .slice s.ab c.bads.length s.kb, .slice s.ac c.invs.length s.kc, .slice s.aa c.ands.length s.ka, .slice s.an c.names.length s.kn] 27) = x := ⟨_, rfl⟩
  have bA : Hid (Below w.heap.size w WA) := by unfold Hid; rw [← hWA]; exact (Below.refl _ _).alloc (Nat.le_refl _) _
  have GA : Hid (WA.heap[w.heap.size]? = some (.cells (cirC c s) 27 (0, 0))) := by unfold Hid; rw [← hWA]; exact Array.getElem?_push_size
  obtain ⟨e0, e1, e2, e3, e4, e5, e6, e7⟩ := cells8 GA.out
  have CK := Lib.hid (check_any c s WA ((h.below bA.out).more bA.out.size) hf)
  rw [chkV_yes c hc] at CK
  have T1 : Hid (∀ w, Calls Try.prog 32 #[.string st, .int .i64 (c.lats.length : Int)] w fun e w' => e = .returned (.bool true) ∧ Below w.heap.size w w') := fun w => by
    have := bits_text st c.lats.length w
    rw [hs] at this
    exact this
  have T2 : Hid (∀ w, Calls Try.prog 32 #[.string inp, .int .i64 (c.ins.length : Int)] w fun e w' => e = .returned (.bool true) ∧ Below w.heap.size w w') := fun w => by
    have := bits_text inp c.ins.length w
    rw [hi] at this
    exact this
  have HR := Lib.hid hr
  have HM := Lib.hid hm
  have HZ := Lib.hid (ref_sizes hr)
  have HST := Lib.hid (bits_parts hs)
  have HIN := Lib.hid (bits_parts hi)
  have HVB := Lib.hid (vals_bits hs hi)
  have LW : Hid (∀ x, Below w.heap.size w x → CLies x x.heap.size c s) := fun x hx => (h.below hx).more hx.size
  clear h hf hc hs hi hr hm
  unfold cirV at CK ⊢
  rw [show cirC c s = #[.int .i64 c.max, .slice s.ai c.ins.length s.ki, .slice s.al c.lats.length s.kl, .slice s.ao c.outs.length s.ko, .slice s.ab c.bads.length s.kb, .slice s.ac c.invs.length s.kc, .slice s.aa c.ands.length s.ka, .slice s.an c.names.length s.kn] from rfl] at CK ⊢
  go_enter Try.func21, Try.ntmps21
  go_wp2_with fail
  refine CK.out.mono ?_
  rintro e w1 ⟨rfl, hb⟩
  have B1 : Hid (Below w.heap.size w w1) := bA.out.trans (hb.mono bA.out.size)
  have G1 : Hid (w1.heap[w.heap.size]? = some (.cells (cirC c s) 27 (0, 0))) := (hb.block _ (lt_of_block GA.out)).trans GA.out
  clear e0 e1 e2 e3 e4 e5 e6 e7 hWA CK hb
  obtain ⟨e0, e1, e2, e3, e4, e5, e6, e7⟩ := cells8 G1.out
  go_wp2_with fail
  refine (T1.out w1).mono ?_
  rintro e w2 ⟨rfl, hb⟩
  have B2 : Hid (Below w.heap.size w w2) := B1.out.trans (hb.mono B1.out.size)
  have G2 : Hid (w2.heap[w.heap.size]? = some (.cells (cirC c s) 27 (0, 0))) := (hb.block _ (lt_of_block G1.out)).trans G1.out
  clear e0 e1 e2 e3 e4 e5 e6 e7 hb
  obtain ⟨e0, e1, e2, e3, e4, e5, e6, e7⟩ := cells8 G2.out
  go_wp2_with fail
  refine (T2.out w2).mono ?_
  rintro e w3 ⟨rfl, hb⟩
  have B3 : Hid (Below w.heap.size w w3) := B2.out.trans (hb.mono B2.out.size)
  have G3 : Hid (w3.heap[w.heap.size]? = some (.cells (cirC c s) 27 (0, 0))) := (hb.block _ (lt_of_block G2.out)).trans G2.out
  clear e0 e1 e2 e3 e4 e5 e6 e7 hb
  clear T1 T2 B1 B2 G1 G2 GA bA
  obtain ⟨e0, e1, e2, e3, e4, e5, e6, e7⟩ := cells8 G3.out
  rw [HM.out] at e0
  obtain ⟨W4, hW4⟩ : ∃ x, w3.alloc (.cells #[.int .u8 48] 5) = x := ⟨_, rfl⟩
  have b4 : Below w3.heap.size w3 W4 := by rw [← hW4]; exact (Below.refl _ _).alloc (Nat.le_refl _) _
  have h4 : W4.heap[w3.heap.size]? = some (.cells #[.int .u8 48] 5 (0, 0)) := by rw [← hW4]; exact Array.getElem?_push_size
  have RP := Lib.hid (repeat_any (m + 1) w3.heap.size 1 48 W4 (by omega) (by omega) (by rw [Lib.cell_of_heap h4]; rfl))
  rw [show (((m + 1 : Nat)) : Int) = (m : Int) + 1 from by omega] at RP
  have B4 := Lib.hid b4
  have f0 : W4.cell? ⟨w.heap.size, 0, none⟩ = some (.int .i64 (m : Int)) := (b4.cell (lt_of_block G3.out)).trans e0
  clear b4 h4
  go_wp2_with fail
  refine RP.out.mono ?_
  rintro e w5 ⟨⟨gb, rest, rfl, hgb, hhb⟩, hb⟩
  clear RP f0 hW4
  have B5 : Hid (Below w3.heap.size w3 w5) := B4.out.trans (hb.mono B4.out.size)
  have HGB : Hid (w3.heap.size ≤ gb ∧ gb < w5.heap.size) := ⟨Nat.le_trans B4.out.size hgb, lt_of_block hhb⟩
  have HHB := Lib.hid hhb
  clear hgb hhb hb B4 e0 e1 e2 e3 e4 e5 e6 e7
  obtain ⟨W6, hW6⟩ : ∃ x, w5.alloc (.cells #[.slice none 0 0] 87) = x := ⟨_, rfl⟩
  have b6 : Below w5.heap.size w5 W6 := by rw [← hW6]; exact (Below.refl _ _).alloc (Nat.le_refl _) _
  have h6 : W6.heap[w5.heap.size]? = some (.cells #[.slice none 0 0] 87 (0, 0)) := by rw [← hW6]; exact Array.getElem?_push_size
  obtain ⟨X9, u9, ⟨hX, pX, tX⟩, EX, FX⟩ := step_set W6 _ 0 (.slice (some ⟨gb, 0, none⟩) (m + 1) (m + 1)) h6 (by simp)
  have EX' : X9.heap[w5.heap.size]? = some (.cells #[.slice (some ⟨gb, 0, none⟩) (m + 1) (m + 1)] 87 (0, 0)) := EX
  have HL0 : Hid ((zeroV c).length = m + 1) := by have := HM.out; unfold Hid zeroV; simp; omega
  have V0 : Hid (HasV X9 w5.heap.size gb (zeroV c)) := by
    refine ⟨?_, rest, ?_⟩
    · rw [HL0.out, Lib.cell_of_heap EX']; rfl
    · rw [FX.b gb (by have := HGB.out; omega), b6.block gb HGB.out.2, HHB.out]
      unfold zeroV
      rw [HM.out, Int.toNat_natCast]
  have B9 : Hid (Below w3.heap.size w3 X9) := B5.out.trans ((FX.below b6 (Nat.le_refl _)).mono B5.out.size)
  have G9 : Hid (∀ x, Below w3.heap.size w3 x → x.heap[w.heap.size]? = some (.cells (cirC c s) 27 (0, 0))) := fun x hx => (hx.block _ (lt_of_block G3.out)).trans G3.out
  have G5 : Hid (w5.heap[w.heap.size]? = some (.cells (cirC c s) 27 (0, 0))) := G9.out _ B5.out
  have HSG : Hid (w3.heap.size ≤ w5.heap.size) := B5.out.size
  clear b6 h6 EX EX' FX HHB B5
  obtain ⟨e0, e1, e2, e3, e4, e5, e6, e7⟩ := cells8 (G9.out _ B9.out)
  go_wp2
  clear e0 e1 e2 e3 e4 e5 e6 e7 hW6 hX pX tX G5
  have HGN : Hid (w5.heap.size ≠ gb) := by have := HGB.out; unfold Hid; omega
  go_loopw [44] (fun i wr => ∃ j : Nat, j ≤ c.ins.length ∧ i = .int .i64 j ∧ HasV wr w5.heap.size gb (putsV (zeroV c) c.ins inp j) ∧ Below w3.heap.size w3 wr) (fun i _ => c.ins.length - (intOf i).toNat)
  case atStart => exact ⟨0, Nat.zero_le _, rfl, V0.out, B9.out⟩
  case round =>
    clear V0 B9
    obtain ⟨j, hj, rfl, hv, hbw⟩ := hrel
    have HV := Lib.hid hv
    have HB := Lib.hid hbw
    clear hv hbw
    have zi : c.ins.length ≤ 64 := HZ.out.1
    by_cases hlt : j < c.ins.length
    · obtain ⟨b0, o, hA, -, hc⟩ := LRow.int (LW.out wr (B3.out.trans (HB.out.mono B3.out.size))).ins hlt
      have hx := (Str.own_facts HR.out).2 c.ins[j] (by unfold own; simp)
      obtain ⟨vi, hvi⟩ : ∃ v : Nat, c.ins[j] / 2 = (v : Int) := ⟨(c.ins[j] / 2).toNat, by omega⟩
      have HVL : Hid (vi < (putsV (zeroV c) c.ins inp j).length) := by have := HM.out; have := HL0.out; unfold Hid; rw [putsV_len]; omega
      have HVI : Hid (vi < m + 1) := by have := HM.out; unfold Hid; omega
      have hcn : cnt c.ins[j] / 2 = (vi : Int) := by rw [cnt_pos _ (by omega)]; exact hvi
      have VA : Hid (∀ w, Calls Try.prog 59 #[.int .i64 c.ins[j]] w fun e w' => e = .returned (.int .i64 (vi : Int)) ∧ w = w') := fun w => by
        have h1 := var_any c.ins[j] w (by have := HM.out; omega)
        rw [hcn] at h1
        exact h1
      have EV : Hid (∀ args w, (callFunc 59 args).run Try.prog w = .ok (.enter 59 args) w) := enters_of Try.func59 (by kernel_rfl) rfl
      have HSJ : Hid (j < inp.size) := by have := HIN.out.1; unfold Hid; omega
      obtain ⟨xb, hxb⟩ : ∃ x, inp.data.toList.getD j 0 = x := ⟨_, rfl⟩
      obtain ⟨xo, hxo⟩ : ∃ x : Int, x = ((xb.toNat : Nat) : Int) := ⟨_, rfl⟩
      have HSX : Hid (xo = (((inp.data.toList.getD j 0).toNat : Nat) : Int)) := by unfold Hid; rw [hxb]; exact hxo
      have HVD : HasV wr.drew w5.heap.size gb (putsV (zeroV c) c.ins inp j) := HV.out.keep ((Below.refl _ _).drew)
      have LV : Hid (wr.drew.cell? ⟨w5.heap.size, 0, none⟩ = some (.slice (some ⟨gb, 0, none⟩) (m + 1) (m + 1))) := by have := HVD.c; rw [putsV_len, HL0.out] at this; exact this
      have C1 := Lib.hid (HVD.at HVL.out)
      have Z1 := Lib.hid (HVD.frozen vi)
      have hn := HVD.put HGN.out hvi HVL.out xb
      rw [← hxo] at hn
      obtain ⟨W1, hW1⟩ : ∃ x, wr.drew.setCell ⟨gb, vi, none⟩ (.int .u8 xo) = x := ⟨_, rfl⟩
      rw [hW1] at hn
      have HN : Hid (HasV W1 w5.heap.size gb (putsV (zeroV c) c.ins inp (j + 1))) := by
        unfold Hid putsV
        rw [hxb, List.getD_eq_getElem?_getD, List.getElem?_eq_getElem hlt]
        exact hn
      have BN : Hid (Below w3.heap.size w3 W1) := by unfold Hid; rw [← hW1]; exact HB.out.drew.setCell (p := ⟨gb, vi, none⟩) HGB.out.1 _
      have HW1 := Lib.hid hW1
      clear hx hvi hcn hxb hxo HVD hn hW1
      rw [hA]
      clear hA
      generalize c.ins[j] = lv at *
      go_wp2
      clear hc
      refine wp_region_valsE (by kernel_rfl) (by kernel_rfl) pinM (by kernel_rfl) (by kernel_rfl)
        (Sole 7 wr.drew W1) (pinR gb (m + 1) j vi lv xo inp) (Sole.start _ _ _) (fun jj f f' w w' hb hf h => pin_stab jj  hf h) ?_ ?_
      · intro i oo d a' w' ho hd hun hdf hok hDE K hK hK0
        match i, ho, hd, hDE, hK, hK0, hun with
        | 0, ho, hd, hDE, hK, hK0, hun =>
          have e := (congrArg Oper.op (Option.some.inj ho)).symm
          obtain rfl := Option.some.inj ho
          exact wp_val (op_load_Luint8 a' w' _ 9 _ (hun 9 (by kernel_rfl)) (by rw [hok.c0 (hd 7 (by kernel_rfl))]; exact LV.out) _ e) (hK _ _ (Below.refl _ _) (hok.read (by decide)) (fun f h1 _ => h1 _ rfl))
        | 1, ho, hd, hDE, hK, hK0, hun =>
          have e := (congrArg Oper.op (Option.some.inj ho)).symm
          obtain rfl := Option.some.inj ho
          exact wp_val (op_move a' w' 11 _ e) (hK _ _ (Below.refl _ _) (hok.read (by decide)) (fun f h1 _ => (h1 _ rfl).trans (hun 11 (by kernel_rfl))))
        | 2, ho, hd, hDE, hK, hK0, hun =>
          have e := (congrArg Oper.op (Option.some.inj ho)).symm
          obtain rfl := Option.some.inj ho
          refine wp_enter (op_call1 a' w' _ 50 _ EV.out _ e) ?_
          rw [show a'.tmps.getD 50 undef = .int .i64 lv from (hDE 1 (by kernel_rfl)).2]
          refine (VA.out w').mono ?_
          rintro e w'' ⟨rfl, rfl⟩
          exact .inl ⟨_, rfl, hK _ _ (Below.refl _ _) (hok.read (by decide)) (fun f h1 _ => h1 _ rfl)⟩
        | 3, ho, hd, hDE, hK, hK0, hun =>
          have e := (congrArg Oper.op (Option.some.inj ho)).symm
          obtain rfl := Option.some.inj ho
          exact wp_val (op_move a' w' 2 _ e) (hK _ _ (Below.refl _ _) (hok.read (by decide)) (fun f h1 _ => (h1 _ rfl).trans (hun 2 (by kernel_rfl))))
        | 4, ho, hd, hDE, hK, hK0, hun =>
          have e := (congrArg Oper.op (Option.some.inj ho)).symm
          obtain rfl := Option.some.inj ho
          exact wp_val (op_move a' w' 10 _ e) (hK _ _ (Below.refl _ _) (hok.read (by decide)) (fun f h1 _ => (h1 _ rfl).trans (hun 10 (by kernel_rfl))))
        | 5, ho, hd, hDE, hK, hK0, hun =>
          have e := (congrArg Oper.op (Option.some.inj ho)).symm
          obtain rfl := Option.some.inj ho
          exact wp_val (op_index_str a' w' _ _ _ 52 53 (hDE 3 (by kernel_rfl)).2 (hDE 4 (by kernel_rfl)).2 HSJ.out HSX.out _ e) (hK _ _ (Below.refl _ _) (hok.read (by decide)) (fun f h1 _ => h1 _ rfl))
        | 6, ho, hd, hDE, hK, hK0, hun =>
          have e := (congrArg Oper.op (Option.some.inj ho)).symm
          obtain rfl := Option.some.inj ho
          exact wp_val (op_index_u8 a' w' _ _ _ 49 51 (hDE 0 (by kernel_rfl)).2 (hDE 2 (by kernel_rfl)).2 HVI.out _ e) (hK _ _ (Below.refl _ _) (hok.read (by decide)) (fun f h1 _ => h1 _ rfl))
        | 7, ho, hd, hDE, hK, hK0, hun =>
          have e := (congrArg Oper.op (Option.some.inj ho)).symm
          obtain rfl := Option.some.inj ho
          have hr := op_store_u8 a' wr.drew _ _ _ _ 55 54 ((hDE 6 (by kernel_rfl)).2) (hDE 5 (by kernel_rfl)).2 C1.out Z1.out _ e
          rw [HW1.out, ← hok.c0 (hd 7 (by kernel_rfl))] at hr
          exact wp_skip' hr (hK0 _ _ (Sole.did _ _ _ _) (fun f h1 h2 => trivial) (fun j f hj hf hq => pin_stab j hf hq))
        | i + 8, ho, _, _, _, _, _ => exact absurd ho (by simp)
      · intro a' wz hsz hdf hkt hok hR
        have HF3 := frame_sets [49, 50, 51, 52, 53, 54, 55] (by kernel_rfl) hsz hkt
        obtain ⟨d, hok, hall⟩ := hok
        have hw := hok.c1 (hall 7 (by decide))
        subst hw
        obtain ⟨tm, df⟩ := a'
        obtain rfl : df = _ := hdf
        simp only [List.foldl_cons, List.foldl_nil] at HF3
        clear hkt hR hsz
        generalize tm.getD 49 undef = y49 at HF3
        generalize tm.getD 50 undef = y50 at HF3
        generalize tm.getD 51 undef = y51 at HF3
        generalize tm.getD 52 undef = y52 at HF3
        generalize tm.getD 53 undef = y53 at HF3
        generalize tm.getD 54 undef = y54 at HF3
        generalize tm.getD 55 undef = y55 at HF3
        simp only [List.setIfInBounds_toArray, List.set_cons_succ, List.set_cons_zero] at HF3
        subst HF3
        clear hok hall LV C1 Z1 HW1 VA EV HSJ HSX HVI HVL HV HB
        go_wp2
        go_roundw
        case rel => exact ⟨j + 1, by omega, by go_num, HN.out, BN.out⟩
        case measure => simp [intOf]; omega
    · obtain rfl : j = c.ins.length := by omega
      obtain ⟨wo, rfl⟩ : ∃ x, x = wr := ⟨_, rfl⟩
      obtain ⟨e0, e1, e2, e3, e4, e5, e6, e7⟩ := cells8 (G9.out _ HB.out)
      obtain ⟨v1, hv1⟩ : ∃ v, putsV (zeroV c) c.ins inp c.ins.length = v := ⟨_, rfl⟩
      have HL1 : Hid (v1.length = m + 1) := by unfold Hid; rw [← hv1, putsV_len]; exact HL0.out
      have V1 : Hid (HasV wo w5.heap.size gb (putsV v1 (c.lats.map Tri.a) st 0)) := by unfold Hid; rw [← hv1]; exact HV.out
      have HV1 := Lib.hid hv1
      clear hv1 HV
      go_wp2
      clear e0 e1 e2 e3 e4 e5 e6 e7
      go_loopw [60] (fun i wr => ∃ j : Nat, j ≤ c.lats.length ∧ i = .int .i64 j ∧ HasV wr w5.heap.size gb (putsV v1 (c.lats.map Tri.a) st j) ∧ Below w3.heap.size w3 wr) (fun i _ => c.lats.length - (intOf i).toNat)
      case atStart => exact ⟨0, Nat.zero_le _, rfl, V1.out, HB.out⟩
      case round =>
        clear V1 HB
        obtain ⟨j, hj, rfl, hv, hbw⟩ := hrel
        have HV := Lib.hid hv
        have HB := Lib.hid hbw
        clear hv hbw
        have zl : c.lats.length ≤ 64 := HZ.out.2.1
        by_cases hlt : j < c.lats.length
        · obtain ⟨b0, o, hA, -, c0, c1, c2⟩ := LRow.tri (LW.out wr (B3.out.trans (HB.out.mono B3.out.size))).lats hlt
          have hx := (Str.own_facts HR.out).2 c.lats[j].a (List.mem_append.2 (.inr (List.mem_append.2 (.inl (List.mem_map_of_mem (List.getElem_mem hlt))))))
          obtain ⟨vi, hvi⟩ : ∃ v : Nat, c.lats[j].a / 2 = (v : Int) := ⟨(c.lats[j].a / 2).toNat, by omega⟩
          have HVL : Hid (vi < (putsV v1 (c.lats.map Tri.a) st j).length) := by have := HM.out; have := HL1.out; unfold Hid; rw [putsV_len]; omega
          have HVI : Hid (vi < m + 1) := by have := HM.out; unfold Hid; omega
          have hcn : cnt c.lats[j].a / 2 = (vi : Int) := by rw [cnt_pos _ (by omega)]; exact hvi
          have VA : Hid (∀ w, Calls Try.prog 59 #[.int .i64 c.lats[j].a] w fun e w' => e = .returned (.int .i64 (vi : Int)) ∧ w = w') := fun w => by
            have h1 := var_any c.lats[j].a w (by have := HM.out; omega)
            rw [hcn] at h1
            exact h1
          have EV : Hid (∀ args w, (callFunc 59 args).run Try.prog w = .ok (.enter 59 args) w) := enters_of Try.func59 (by kernel_rfl) rfl
          have HSJ : Hid (j < st.size) := by have := HST.out.1; unfold Hid; omega
          obtain ⟨xb, hxb⟩ : ∃ x, st.data.toList.getD j 0 = x := ⟨_, rfl⟩
          obtain ⟨xo, hxo⟩ : ∃ x : Int, x = ((xb.toNat : Nat) : Int) := ⟨_, rfl⟩
          have HSX : Hid (xo = (((st.data.toList.getD j 0).toNat : Nat) : Int)) := by unfold Hid; rw [hxb]; exact hxo
          obtain ⟨wt, hwt⟩ : ∃ x, wr.alloc (.cells #[.int .i64 c.lats[j].a, .int .i64 c.lats[j].b, .int .i64 c.lats[j].c] 39) = x := ⟨_, rfl⟩
          have bt : Below wr.heap.size wr wt := by rw [← hwt]; exact (Below.refl _ _).alloc (Nat.le_refl _) _
          have KT : wt.drew.heap[wr.heap.size]? = some (.cells #[.int .i64 c.lats[j].a, .int .i64 c.lats[j].b, .int .i64 c.lats[j].c] 39 (0, 0)) := by rw [← hwt]; exact Array.getElem?_push_size
          have LT0 : Hid (wt.drew.cell? ⟨wr.heap.size, 0, none⟩ = some (.int .i64 c.lats[j].a)) := by unfold Hid; rw [Lib.cell_of_heap KT]; rfl
          have HVD : HasV wt.drew w5.heap.size gb (putsV v1 (c.lats.map Tri.a) st j) := HV.out.keep bt.drew
          have LV : Hid (wt.drew.cell? ⟨w5.heap.size, 0, none⟩ = some (.slice (some ⟨gb, 0, none⟩) (m + 1) (m + 1))) := by have := HVD.c; rw [putsV_len, HL1.out] at this; exact this
          have C1 := Lib.hid (HVD.at HVL.out)
          have Z1 := Lib.hid (HVD.frozen vi)
          have hn := HVD.put HGN.out hvi HVL.out xb
          rw [← hxo] at hn
          obtain ⟨W1, hW1⟩ : ∃ x, wt.drew.setCell ⟨gb, vi, none⟩ (.int .u8 xo) = x := ⟨_, rfl⟩
          rw [hW1] at hn
          have HN : Hid (HasV W1 w5.heap.size gb (putsV v1 (c.lats.map Tri.a) st (j + 1))) := by
            unfold Hid putsV
            rw [hxb, List.getD_eq_getElem?_getD, List.getElem?_map, List.getElem?_eq_getElem hlt]
            exact hn
          have BN : Hid (Below w3.heap.size w3 W1) := by unfold Hid; rw [← hW1]; exact (HB.out.trans (bt.mono HB.out.size)).drew.setCell (p := ⟨gb, vi, none⟩) HGB.out.1 _
          have HW1 := Lib.hid hW1
          clear hx hvi hcn hxb hxo HVD hn hW1 bt KT
          rw [hA]
          clear hA
          generalize c.lats[j] = t at *
          go_wp2
          clear hwt c0 c1 c2
          refine wp_region_valsE (by kernel_rfl) (by kernel_rfl) latchM (by kernel_rfl) (by kernel_rfl)
            (Sole 8 wt.drew W1) (latchR gb wr.heap.size (m + 1) j vi t.a xo st) (Sole.start _ _ _) (fun jj f f' w w' hb hf h => latch_stab jj  hf h) ?_ ?_
          · intro i oo d a' w' ho hd hun hdf hok hDE K hK hK0
            match i, ho, hd, hDE, hK, hK0, hun with
            | 0, ho, hd, hDE, hK, hK0, hun =>
              have e := (congrArg Oper.op (Option.some.inj ho)).symm
              obtain rfl := Option.some.inj ho
              exact wp_val (op_load_Luint8 a' w' _ 9 _ (hun 9 (by kernel_rfl)) (by rw [hok.c0 (hd 8 (by kernel_rfl))]; exact LV.out) _ e) (hK _ _ (Below.refl _ _) (hok.read (by decide)) (fun f h1 _ => h1 _ rfl))
            | 1, ho, hd, hDE, hK, hK0, hun =>
              have e := (congrArg Oper.op (Option.some.inj ho)).symm
              obtain rfl := Option.some.inj ho
              exact wp_val (op_field_api_Latch_0 a' w' _ 13 (hun 13 (by kernel_rfl)) _ e) (hK _ _ (Below.refl _ _) (hok.read (by decide)) (fun f h1 _ => h1 _ rfl))
            | 2, ho, hd, hDE, hK, hK0, hun =>
              have e := (congrArg Oper.op (Option.some.inj ho)).symm
              obtain rfl := Option.some.inj ho
              exact wp_val (op_load_int a' w' _ 66 _ (hDE 1 (by kernel_rfl)).2 (by rw [hok.c0 (hd 8 (by kernel_rfl))]; exact LT0.out) _ e) (hK _ _ (Below.refl _ _) (hok.read (by decide)) (fun f h1 _ => h1 _ rfl))
            | 3, ho, hd, hDE, hK, hK0, hun =>
              have e := (congrArg Oper.op (Option.some.inj ho)).symm
              obtain rfl := Option.some.inj ho
              refine wp_enter (op_call1 a' w' _ 67 _ EV.out _ e) ?_
              rw [show a'.tmps.getD 67 undef = .int .i64 t.a from (hDE 2 (by kernel_rfl)).2]
              refine (VA.out w').mono ?_
              rintro e w'' ⟨rfl, rfl⟩
              exact .inl ⟨_, rfl, hK _ _ (Below.refl _ _) (hok.read (by decide)) (fun f h1 _ => h1 _ rfl)⟩
            | 4, ho, hd, hDE, hK, hK0, hun =>
              have e := (congrArg Oper.op (Option.some.inj ho)).symm
              obtain rfl := Option.some.inj ho
              exact wp_val (op_move a' w' 1 _ e) (hK _ _ (Below.refl _ _) (hok.read (by decide)) (fun f h1 _ => (h1 _ rfl).trans (hun 1 (by kernel_rfl))))
            | 5, ho, hd, hDE, hK, hK0, hun =>
              have e := (congrArg Oper.op (Option.some.inj ho)).symm
              obtain rfl := Option.some.inj ho
              exact wp_val (op_move a' w' 12 _ e) (hK _ _ (Below.refl _ _) (hok.read (by decide)) (fun f h1 _ => (h1 _ rfl).trans (hun 12 (by kernel_rfl))))
            | 6, ho, hd, hDE, hK, hK0, hun =>
              have e := (congrArg Oper.op (Option.some.inj ho)).symm
              obtain rfl := Option.some.inj ho
              exact wp_val (op_index_str a' w' _ _ _ 69 70 (hDE 4 (by kernel_rfl)).2 (hDE 5 (by kernel_rfl)).2 HSJ.out HSX.out _ e) (hK _ _ (Below.refl _ _) (hok.read (by decide)) (fun f h1 _ => h1 _ rfl))
            | 7, ho, hd, hDE, hK, hK0, hun =>
              have e := (congrArg Oper.op (Option.some.inj ho)).symm
              obtain rfl := Option.some.inj ho
              exact wp_val (op_index_u8 a' w' _ _ _ 65 68 (hDE 0 (by kernel_rfl)).2 (hDE 3 (by kernel_rfl)).2 HVI.out _ e) (hK _ _ (Below.refl _ _) (hok.read (by decide)) (fun f h1 _ => h1 _ rfl))
            | 8, ho, hd, hDE, hK, hK0, hun =>
              have e := (congrArg Oper.op (Option.some.inj ho)).symm
              obtain rfl := Option.some.inj ho
              have hr := op_store_u8 a' wt.drew _ _ _ _ 72 71 ((hDE 7 (by kernel_rfl)).2) (hDE 6 (by kernel_rfl)).2 C1.out Z1.out _ e
              rw [HW1.out, ← hok.c0 (hd 8 (by kernel_rfl))] at hr
              exact wp_skip' hr (hK0 _ _ (Sole.did _ _ _ _) (fun f h1 h2 => trivial) (fun j f hj hf hq => latch_stab j hf hq))
            | i + 9, ho, _, _, _, _, _ => exact absurd ho (by simp)
          · intro a' wz hsz hdf hkt hok hR
            have HF3 := frame_sets [65, 66, 67, 68, 69, 70, 71, 72] (by kernel_rfl) hsz hkt
            obtain ⟨d, hok, hall⟩ := hok
            have hw := hok.c1 (hall 8 (by decide))
            subst hw
            obtain ⟨tm, df⟩ := a'
            obtain rfl : df = _ := hdf
            simp only [List.foldl_cons, List.foldl_nil] at HF3
            clear hkt hR hsz
            generalize tm.getD 65 undef = y65 at HF3
            generalize tm.getD 66 undef = y66 at HF3
            generalize tm.getD 67 undef = y67 at HF3
            generalize tm.getD 68 undef = y68 at HF3
            generalize tm.getD 69 undef = y69 at HF3
            generalize tm.getD 70 undef = y70 at HF3
            generalize tm.getD 71 undef = y71 at HF3
            generalize tm.getD 72 undef = y72 at HF3
            simp only [List.setIfInBounds_toArray, List.set_cons_succ, List.set_cons_zero] at HF3
            subst HF3
            clear hok hall LV LT0 C1 Z1 HW1 VA EV HSJ HSX HVI HVL HV HB
            go_wp2
            go_roundw
            case rel => exact ⟨j + 1, by omega, by go_num, HN.out, BN.out⟩
            case measure => simp [intOf]; omega
        · obtain rfl : j = c.lats.length := by omega
          obtain ⟨wq, rfl⟩ : ∃ x, x = wr := ⟨_, rfl⟩
          obtain ⟨e0, e1, e2, e3, e4, e5, e6, e7⟩ := cells8 (G9.out _ HB.out)
          obtain ⟨v2, hv2⟩ : ∃ v, putsV v1 (c.lats.map Tri.a) st c.lats.length = v := ⟨_, rfl⟩
          have HL2 : Hid (v2.length = m + 1) := by unfold Hid; rw [← hv2, putsV_len]; exact HL1.out
          have V2 : Hid (HasV wq w5.heap.size gb (gatesV v2 (c.ands.take 0))) := by unfold Hid; rw [← hv2]; exact HV.out
          have HVE : Hid (valsM c st inp = gatesV v2 c.ands) := by unfold Hid valsM baseB; rw [HV1.out, hv2]
          clear hv2 HV HV1
          go_wp2
          clear e0 e1 e2 e3 e4 e5 e6 e7
          go_loopw [78] (fun i wr => ∃ j : Nat, j ≤ c.ands.length ∧ i = .int .i64 j ∧ HasV wr w5.heap.size gb (gatesV v2 (c.ands.take j)) ∧ Below w3.heap.size w3 wr) (fun i _ => c.ands.length - (intOf i).toNat)
          case atStart => exact ⟨0, Nat.zero_le _, rfl, V2.out, HB.out⟩
          case round =>
            clear V2 HB
            obtain ⟨j, hj, rfl, hv, hbw⟩ := hrel
            have HV := Lib.hid hv
            have HB := Lib.hid hbw
            clear hv hbw
            have za : c.ands.length ≤ 4097 := HZ.out.2.2.2.2.2
            by_cases hlt : j < c.ands.length
            · obtain ⟨b0, o, hA, -, c0, c1, c2⟩ := LRow.tri (LW.out wr (B3.out.trans (HB.out.mono B3.out.size))).ands hlt
              have hx := (Str.own_facts HR.out).2 c.ands[j].a (List.mem_append.2 (.inr (List.mem_append.2 (.inr (List.mem_map_of_mem (List.getElem_mem hlt))))))
              obtain ⟨-, -, k1, k2⟩ := Str.and_at HR.out j hlt
              have hb1 := Str.lit_bound HR.out k1
              have hb2 := Str.lit_bound HR.out k2
              have HGS := Lib.hid (gatesV_snoc v2 c.ands j hlt)
              obtain ⟨v, hvq⟩ : ∃ v, gatesV v2 (c.ands.take j) = v := ⟨_, rfl⟩
              have hvl : v.length = m + 1 := by rw [← hvq, gatesV_len]; exact HL2.out
              rw [hvq] at HV HGS
              have HVL := Lib.hid hvl
              obtain ⟨vi, hvi⟩ : ∃ v : Nat, c.ands[j].a / 2 = (v : Int) := ⟨(c.ands[j].a / 2).toNat, by omega⟩
              have HVI : Hid (vi < m + 1) := by have := HM.out; unfold Hid; omega
              have hcn : cnt c.ands[j].a / 2 = (vi : Int) := by rw [cnt_pos _ (by omega)]; exact hvi
              have VA : Hid (∀ w, Calls Try.prog 59 #[.int .i64 c.ands[j].a] w fun e w' => e = .returned (.int .i64 (vi : Int)) ∧ w = w') := fun w => by
                have h1 := var_any c.ands[j].a w (by have := HM.out; omega)
                rw [hcn] at h1
                exact h1
              have EV : Hid (∀ args w, (callFunc 59 args).run Try.prog w = .ok (.enter 59 args) w) := enters_of Try.func59 (by kernel_rfl) rfl
              have hcb : cnt c.ands[j].b / 2 < (v.length : Int) := by have := HM.out; rw [cnt_pos _ hb1.1, hvl]; omega
              have hcc : cnt c.ands[j].c / 2 < (v.length : Int) := by have := HM.out; rw [cnt_pos _ hb2.1, hvl]; omega
              obtain ⟨wt, hwt⟩ : ∃ x, wr.alloc (.cells #[.int .i64 c.ands[j].a, .int .i64 c.ands[j].b, .int .i64 c.ands[j].c] 43) = x := ⟨_, rfl⟩
              have bt : Below wr.heap.size wr wt := by rw [← hwt]; exact (Below.refl _ _).alloc (Nat.le_refl _) _
              have KT : Hid (wt.heap[wr.heap.size]? = some (.cells #[.int .i64 c.ands[j].a, .int .i64 c.ands[j].b, .int .i64 c.ands[j].c] 43 (0, 0))) := by unfold Hid; rw [← hwt]; exact Array.getElem?_push_size
              have VT : Hid (HasV wt w5.heap.size gb v) := HV.out.keep bt
              have BT : Hid (Below w3.heap.size w3 wt) := HB.out.trans (bt.mono HB.out.size)
              have Q1 : Hid (∀ x, HasV x w5.heap.size gb v → Calls Try.prog 61 #[.int .i64 c.ands[j].b, .func (.func 60) #[] #[.pointer (some ⟨w5.heap.size, 0, none⟩)]] x fun e w' => e = .returned (.bool (trueM v c.ands[j].b)) ∧ Below x.heap.size x w') := fun x hx => vholds_any _ gb v _ x hx (by have := HM.out; omega) hcb
              have Q2 : Hid (∀ x, HasV x w5.heap.size gb v → Calls Try.prog 61 #[.int .i64 c.ands[j].c, .func (.func 60) #[] #[.pointer (some ⟨w5.heap.size, 0, none⟩)]] x fun e w' => e = .returned (.bool (trueM v c.ands[j].c)) ∧ Below x.heap.size x w') := fun x hx => vholds_any _ gb v _ x hx (by have := HM.out; omega) hcc
              have HGE : Hid (gatesV v2 (c.ands.take (j + 1)) = if trueM v c.ands[j].b && trueM v c.ands[j].c then putV v c.ands[j].a 49 else v) := HGS.out
              have HPI := Lib.hid hvi
              clear hx k1 k2 hb1 hb2 hvq hvl hvi hcn hcb hcc bt HGS HV
              rw [hA]
              clear hA
              generalize c.ands[j] = t at *
              obtain ⟨r0, r1, r2⟩ := two_cells KT.out
              generalize trueM v t.b = p1 at *
              generalize trueM v t.c = p2 at *
              obtain ⟨v9, hv9⟩ : ∃ x, gatesV v2 (c.ands.take (j + 1)) = x := ⟨_, rfl⟩
              rw [hv9] at HGE
              have HV9 := Lib.hid hv9
              clear hv9
              go_wp2_with fail
              clear hwt c0 c1 c2
              refine (Q1.out wt VT.out).mono ?_
              rintro e w7 ⟨rfl, hb⟩
              have V7 : Hid (HasV w7 w5.heap.size gb v) := VT.out.keep hb
              have B7 : Hid (Below w3.heap.size w3 w7) := BT.out.trans (hb.mono BT.out.size)
              have K7 : Hid (w7.heap[wr.heap.size]? = some (.cells #[.int .i64 t.a, .int .i64 t.b, .int .i64 t.c] 43 (0, 0))) := (hb.block _ (lt_of_block KT.out)).trans KT.out
              clear r0 r1 r2 hb Q1
              cases p1
              · have HVN : Hid (HasV w7 w5.heap.size gb v9) := by unfold Hid; rw [HGE.out]; exact V7.out
                clear HGE
                go_wp2
                go_roundw
                case rel => exact ⟨j + 1, by omega, by go_num, by rw [HV9.out]; exact HVN.out, B7.out⟩
                case measure => simp [intOf]; omega
              · obtain ⟨r0, r1, r2⟩ := two_cells K7.out
                go_wp2_with fail
                refine (Q2.out w7 V7.out).mono ?_
                rintro e w8 ⟨rfl, hb⟩
                have V8 : Hid (HasV w8 w5.heap.size gb v) := V7.out.keep hb
                have B8 : Hid (Below w3.heap.size w3 w8) := B7.out.trans (hb.mono B7.out.size)
                have K8 : Hid (w8.heap[wr.heap.size]? = some (.cells #[.int .i64 t.a, .int .i64 t.b, .int .i64 t.c] 43 (0, 0))) := (hb.block _ (lt_of_block K7.out)).trans K7.out
                clear r0 r1 r2 hb Q2
                cases p2
                · have HVN : Hid (HasV w8 w5.heap.size gb v9) := by unfold Hid; rw [HGE.out]; exact V8.out
                  clear HGE
                  go_wp2
                  go_roundw
                  case rel => exact ⟨j + 1, by omega, by go_num, by rw [HV9.out]; exact HVN.out, B8.out⟩
                  case measure => simp [intOf]; omega
                · have HVD : HasV w8.drew w5.heap.size gb v := V8.out.keep ((Below.refl _ _).drew)
                  have LV : Hid (w8.drew.cell? ⟨w5.heap.size, 0, none⟩ = some (.slice (some ⟨gb, 0, none⟩) (m + 1) (m + 1))) := by have := HVD.c; rw [HVL.out] at this; exact this
                  have LT0 : Hid (w8.drew.cell? ⟨wr.heap.size, 0, none⟩ = some (.int .i64 t.a)) := (two_cells (w := w8.drew) K8.out).1
                  have hvl : vi < v.length := by rw [HVL.out]; exact HVI.out
                  have C1 := Lib.hid (HVD.at hvl)
                  have Z1 := Lib.hid (HVD.frozen vi)
                  have hn := HVD.put HGN.out HPI.out hvl 49
                  obtain ⟨W1, hW1⟩ : ∃ x, w8.drew.setCell ⟨gb, vi, none⟩ (.int .u8 49) = x := ⟨_, rfl⟩
                  have hn : HasV W1 w5.heap.size gb (putV v t.a 49) := by rw [← hW1]; exact hn
                  have HVN : Hid (HasV W1 w5.heap.size gb v9) := by unfold Hid; rw [HGE.out]; exact hn
                  have BN : Hid (Below w3.heap.size w3 W1) := by unfold Hid; rw [← hW1]; exact B8.out.drew.setCell (p := ⟨gb, vi, none⟩) HGB.out.1 _
                  have HW1 := Lib.hid hW1
                  clear HVD hn hW1 HGE
                  go_wp2
                  refine wp_region_valsE (by kernel_rfl) (by kernel_rfl) gateM (by kernel_rfl) (by kernel_rfl)
                    (Sole 5 w8.drew W1) (gateR gb wr.heap.size (m + 1) vi t.a) (Sole.start _ _ _) (fun jj f f' w w' hb hf h => gate_stab jj  hf h) ?_ ?_
                  · intro i oo d a' w' ho hd hun hdf hok hDE K hK hK0
                    match i, ho, hd, hDE, hK, hK0, hun with
                    | 0, ho, hd, hDE, hK, hK0, hun =>
                      have e := (congrArg Oper.op (Option.some.inj ho)).symm
                      obtain rfl := Option.some.inj ho
                      exact wp_val (op_load_Luint8 a' w' _ 9 _ (hun 9 (by kernel_rfl)) (by rw [hok.c0 (hd 5 (by kernel_rfl))]; exact LV.out) _ e) (hK _ _ (Below.refl _ _) (hok.read (by decide)) (fun f h1 _ => h1 _ rfl))
                    | 1, ho, hd, hDE, hK, hK0, hun =>
                      have e := (congrArg Oper.op (Option.some.inj ho)).symm
                      obtain rfl := Option.some.inj ho
                      exact wp_val (op_field_api_And_0 a' w' _ 16 (hun 16 (by kernel_rfl)) _ e) (hK _ _ (Below.refl _ _) (hok.read (by decide)) (fun f h1 _ => h1 _ rfl))
                    | 2, ho, hd, hDE, hK, hK0, hun =>
                      have e := (congrArg Oper.op (Option.some.inj ho)).symm
                      obtain rfl := Option.some.inj ho
                      exact wp_val (op_load_int a' w' _ 93 _ (hDE 1 (by kernel_rfl)).2 (by rw [hok.c0 (hd 5 (by kernel_rfl))]; exact LT0.out) _ e) (hK _ _ (Below.refl _ _) (hok.read (by decide)) (fun f h1 _ => h1 _ rfl))
                    | 3, ho, hd, hDE, hK, hK0, hun =>
                      have e := (congrArg Oper.op (Option.some.inj ho)).symm
                      obtain rfl := Option.some.inj ho
                      refine wp_enter (op_call1 a' w' _ 94 _ EV.out _ e) ?_
                      rw [show a'.tmps.getD 94 undef = .int .i64 t.a from (hDE 2 (by kernel_rfl)).2]
                      refine (VA.out w').mono ?_
                      rintro e w'' ⟨rfl, rfl⟩
                      exact .inl ⟨_, rfl, hK _ _ (Below.refl _ _) (hok.read (by decide)) (fun f h1 _ => h1 _ rfl)⟩
                    | 4, ho, hd, hDE, hK, hK0, hun =>
                      have e := (congrArg Oper.op (Option.some.inj ho)).symm
                      obtain rfl := Option.some.inj ho
                      exact wp_val (op_index_u8 a' w' _ _ _ 92 95 (hDE 0 (by kernel_rfl)).2 (hDE 3 (by kernel_rfl)).2 HVI.out _ e) (hK _ _ (Below.refl _ _) (hok.read (by decide)) (fun f h1 _ => h1 _ rfl))
                    | 5, ho, hd, hDE, hK, hK0, hun =>
                      have e := (congrArg Oper.op (Option.some.inj ho)).symm
                      obtain rfl := Option.some.inj ho
                      have hr := op_store_49 a' w8.drew _ _ _ 96 (hDE 4 (by kernel_rfl)).2 C1.out Z1.out _ e
                      rw [HW1.out, ← hok.c0 (hd 5 (by kernel_rfl))] at hr
                      exact wp_skip' hr (hK0 _ _ (Sole.did _ _ _ _) (fun f h1 h2 => trivial) (fun j f hj hf hq => gate_stab j hf hq))
                    | i + 6, ho, _, _, _, _, _ => exact absurd ho (by simp)
                  · intro a' wz hsz hdf hkt hok hR
                    have HF3 := frame_sets [92, 93, 94, 95, 96] (by kernel_rfl) hsz hkt
                    obtain ⟨d, hok, hall⟩ := hok
                    have hw := hok.c1 (hall 5 (by decide))
                    subst hw
                    obtain ⟨tm, df⟩ := a'
                    obtain rfl : df = _ := hdf
                    simp only [List.foldl_cons, List.foldl_nil] at HF3
                    clear hkt hR hsz
                    generalize tm.getD 92 undef = y92 at HF3
                    generalize tm.getD 93 undef = y93 at HF3
                    generalize tm.getD 94 undef = y94 at HF3
                    generalize tm.getD 95 undef = y95 at HF3
                    generalize tm.getD 96 undef = y96 at HF3
                    simp only [List.setIfInBounds_toArray, List.set_cons_succ, List.set_cons_zero] at HF3
                    subst HF3
                    clear hok hall LV LT0 C1 Z1 HW1 VA EV HVI V8 B8 K8 V7 B7 K7 KT VT BT HB
                    go_wp2
                    go_roundw
                    case rel => exact ⟨j + 1, by omega, by go_num, by rw [HV9.out]; exact HVN.out, BN.out⟩
                    case measure => simp [intOf]; omega
            · obtain rfl : j = c.ands.length := by omega
              rw [List.take_length] at HV
              have hb3 : HasV wr w5.heap.size gb (valsM c st inp) := by rw [HVE.out]; exact HV.out
              have hln : (valsM c st inp).length = m + 1 := by rw [vals_len, HM.out]; simp
              have EV1 : ∀ args w, (callFunc 60 args).run Try.prog w = .ok (.enter 60 args) w := enters_of Try.func60 (by kernel_rfl) rfl
              have FB := Lib.hid (bits_any (valsM c st inp).length 60 #[.pointer (some ⟨w5.heap.size, 0, none⟩)] (fun i => decide ((valsM c st inp)[i]? = some 49)) wr (by omega) EV1 (fun X hX i hi => set1_any w5.heap.size gb i _ X (hb3.keep hX) hi))
              rw [bitL_self _ HVB.out] at FB
              have LV := hb3.c
              clear EV1 hb3 HV HVE HVB
              have HLN := Lib.hid hln
              rw [hln] at LV FB
              clear hln
              go_wp2_with fail
              refine FB.out.mono ?_
              rintro e w9 ⟨rfl, hb⟩
              have BF : Hid (Below w.heap.size w w9) := B3.out.trans ((HB.out.trans (hb.mono HB.out.size)).mono B3.out.size)
              clear hb FB LV
              go_wp2
              go_ret2
              exact ⟨rfl, BF.out⟩
end Go.Proofs.Ytbgcoeejmnejdaa.Sim
namespace Go.Proofs.Ytbgcoeejmnejdaa.Sim
open Circ Cw Str

/-- the bit of variable n -/
def bitV (v : List UInt8) (n : Int) : Bool := decide (v[n.toNat]? = some 49)
theorem true_bit (v : List UInt8) {l : Int} (h : 0 ≤ l) : trueM v l = bitM (bitV v) l := by
  unfold trueM bitM bitV
  rw [cnt_pos l h]
theorem eval_other (n : Int) : ∀ (l : List Tri) (V : Int → Bool), (∀ u ∈ l, u.a / 2 ≠ n) → evalM V l n = V n
  | [], _, _ => rfl
  | t :: l, V, h => by
    have e : evalM V (t :: l) n = evalM (setM V (t.a / 2) (bitM V t.b && bitM V t.c)) l n := rfl
    rw [e, eval_other n l _ fun u hu => h u (List.mem_cons_of_mem _ hu)]
    unfold setM
    rw [if_neg fun e => h t List.mem_cons_self e.symm]
theorem bitV_put (v : List UInt8) {l n : Int} (hl : 0 ≤ l) (hn : 0 ≤ n) (hlt : l / 2 < (v.length : Int)) (x : UInt8) : bitV (putV v l x) n = if n = l / 2 then decide (some x = some (49 : UInt8)) else bitV v n := by
  unfold bitV putV
  rw [List.getElem?_set]
  by_cases h : n = l / 2
  · rw [if_pos h, if_pos (by omega), if_pos (by omega)]
  · rw [if_neg h, if_neg (by omega)]
theorem gates_eval {B : Int → Prop} {l : List Tri} (hg : Str.Good B l) (v0 : List UInt8) (hlen : ∀ t ∈ l, t.a / 2 < (v0.length : Int)) (h0 : ∀ t ∈ l, bitV v0 (t.a / 2) = false) : ∀ n, 0 ≤ n → bitV (gatesV v0 l) n = evalM (bitV v0) l n := by
  induction hg with
  | nil => intro n _; rfl
  | snoc l t h1 h2 h3 h4 h5 h6 h7 h8 h9 h10 h11 ih =>
    intro n hn
    have ih := ih (fun u hu => hlen u (List.mem_append_left _ hu)) (fun u hu => h0 u (List.mem_append_left _ hu))
    have ht := hlen t (List.mem_append_right _ (List.mem_singleton.2 rfl))
    have ht0 := h0 t (List.mem_append_right _ (List.mem_singleton.2 rfl))
    have e : gatesV v0 (l ++ [t]) = gateV (gatesV v0 l) t := by unfold gatesV; rw [List.foldl_append]; rfl
    rw [e, eval_snoc]
    have hlv : (gatesV v0 l).length = v0.length := gatesV_len _ _
    have eb : trueM (gatesV v0 l) t.b = bitM (evalM (bitV v0) l) t.b := by
      rw [true_bit _ h5]; unfold bitM; rw [ih _ (by omega)]
    have ec : trueM (gatesV v0 l) t.c = bitM (evalM (bitV v0) l) t.c := by
      rw [true_bit _ h7]; unfold bitM; rw [ih _ (by omega)]
    unfold gateV
    rw [eb, ec]
    cases hq : (bitM (evalM (bitV v0) l) t.b && bitM (evalM (bitV v0) l) t.c) with
    | true =>
      rw [if_pos rfl, bitV_put _ (by omega) hn (by rw [hlv]; exact ht)]
      unfold setM
      by_cases h : n = t.a / 2
      · rw [if_pos h, if_pos h]; rfl
      · rw [if_neg h, if_neg h, ih n hn]
    | false =>
      rw [if_neg (by decide), ih n hn]
      unfold setM
      by_cases h : n = t.a / 2
      · rw [if_pos h, h, eval_other _ _ _ fun u hu => ?_, ht0]
        have := h4 u hu
        have := (h1.mem u hu).2.1
        omega
      · rw [if_neg h]
theorem puts_other (n : Int) (hn : 0 ≤ n) (L : List Int) (s : ByteArray) (v : List UInt8) (hL : ∀ x ∈ L, 0 ≤ x ∧ x / 2 < (v.length : Int)) (ho : ∀ x ∈ L, x / 2 ≠ n) : ∀ k, k ≤ L.length → bitV (putsV v L s k) n = bitV v n
  | 0, _ => rfl
  | k + 1, hk => by
    have hm : L.getD k 0 ∈ L := by rw [List.getD_eq_getElem?_getD, List.getElem?_eq_getElem hk]; exact List.getElem_mem hk
    unfold putsV
    rw [bitV_put _ (hL _ hm).1 hn (by rw [putsV_len]; exact (hL _ hm).2), if_neg (fun e => ho _ hm e.symm), puts_other n hn L s v hL ho k (by omega)]
theorem zero_bit (c : Cir) (n : Int) : bitV (zeroV c) n = false := by
  unfold bitV zeroV
  rw [List.getElem?_replicate]
  split <;> rfl
section
variable {c : Cir} (st inp : ByteArray)
theorem max_len (hr : refOk c = true) : ((zeroV c).length : Int) = c.max + 1 := by
  obtain ⟨m, hm, _⟩ := max_nat hr
  unfold zeroV
  rw [List.length_replicate, hm]; simp
theorem own_in (hr : refOk c = true) {x : Int} (hx : x ∈ own c) : 2 ≤ x ∧ x % 2 = 0 ∧ x / 2 < ((zeroV c).length : Int) := by
  have := (own_facts hr).2 x hx
  rw [max_len hr]; omega
/-- what is no input's, and no latch's, is 0 to begin with -/
theorem base_bit (hr : refOk c = true) (n : Int) (hn : 0 ≤ n) (h1 : ∀ x ∈ c.ins, x / 2 ≠ n) (h2 : ∀ x ∈ c.lats.map Tri.a, x / 2 ≠ n) : bitV (baseB c st inp) n = false := by
  have hi : ∀ x ∈ c.ins, 0 ≤ x ∧ x / 2 < ((zeroV c).length : Int) := fun x hx => by
    have := own_in hr (show x ∈ own c from List.mem_append.2 (.inl hx)); omega
  have hl : ∀ x ∈ c.lats.map Tri.a, 0 ≤ x ∧ x / 2 < ((zeroV c).length : Int) := fun x hx => by
    have := own_in hr (show x ∈ own c from List.mem_append.2 (.inr (List.mem_append.2 (.inl hx)))); omega
  unfold baseB
  rw [puts_other n hn _ _ _ (by rw [putsV_len]; exact hl) h2 _ (by simp), puts_other n hn _ _ _ hi h1 _ (Nat.le_refl _), zero_bit]
theorem vals_eval (hr : refOk c = true) : ∀ n, 0 ≤ n → bitV (valsM c st inp) n = evalM (bitV (baseB c st inp)) c.ands n := by
  have hbl : ((baseB c st inp).length : Int) = ((zeroV c).length : Int) := by unfold baseB; rw [putsV_len, putsV_len]
  refine gates_eval (good_ands hr) _ (fun t ht => ?_) (fun t ht => ?_)
  · rw [hbl]
    exact (own_in hr (List.mem_append.2 (.inr (List.mem_append.2 (.inr (List.mem_map_of_mem ht)))))).2.2
  · have hm : t.a ∈ c.ands.map Tri.a := List.mem_map_of_mem ht
    obtain ⟨a1, a2, _⟩ := own_in hr (List.mem_append.2 (.inr (List.mem_append.2 (.inr hm))))
    have hnd := (own_facts hr).1
    unfold own at hnd
    rw [List.nodup_append] at hnd
    obtain ⟨-, hn2, hn3⟩ := hnd
    rw [List.nodup_append] at hn2
    refine base_bit st inp hr _ (by omega) (fun x hx e => ?_) (fun x hx e => ?_)
    · obtain ⟨b1, b2, _⟩ := own_in hr (show x ∈ own c from List.mem_append.2 (.inl hx))
      exact hn3 x hx t.a (List.mem_append.2 (.inr hm)) (by omega)
    · obtain ⟨b1, b2, _⟩ := own_in hr (show x ∈ own c from List.mem_append.2 (.inr (List.mem_append.2 (.inl hx))))
      exact hn2.2.2 x hx t.a hm (by omega)
/-- EACH AND IS THE AND OF ITS LITERALS -/
theorem vals_and (hr : refOk c = true) {t : Tri} (ht : t ∈ c.ands) : trueM (valsM c st inp) t.a = (trueM (valsM c st inp) t.b && trueM (valsM c st inp) t.c) := by
  obtain ⟨a1, a2, a3, a4, a5, a6, -⟩ := (good_ands hr).mem t ht
  have h := eval_and (bitV (baseB c st inp)) (good_ands hr) t ht
  have e : ∀ x : Int, 0 ≤ x → trueM (valsM c st inp) x = bitM (evalM (bitV (baseB c st inp)) c.ands) x := fun x hx => by
    rw [true_bit _ hx]; unfold bitM; rw [vals_eval st inp hr _ (by omega)]
  rw [e _ (by omega), e _ (by omega), e _ (by omega), ← h]
  unfold bitM
  rw [show decide (t.a % 2 = 1) = false from decide_eq_false (by omega)]
  simp
theorem vals_zero (hr : refOk c = true) : trueM (valsM c st inp) 0 = false := by
  rw [true_bit _ (by omega)]
  unfold bitM
  rw [show (0 : Int) / 2 = 0 from rfl, vals_eval st inp hr _ (by omega), eval_low _ (good_ands hr) (.inl rfl), base_bit st inp hr _ (by omega) (fun x hx => ?_) (fun x hx => ?_)]
  · rfl
  · have := own_in hr (show x ∈ own c from List.mem_append.2 (.inl hx)); omega
  · have := own_in hr (show x ∈ own c from List.mem_append.2 (.inr (List.mem_append.2 (.inl hx)))); omega
end
end Go.Proofs.Ytbgcoeejmnejdaa.Sim
