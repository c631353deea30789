/- ternary.Lift; condition: the circuit and the literals lie in memory. TernaryLifts; no condition. -/
import Derived.Test.YthcigpklbhjglaaPt35
import Derived.Lib.ConvBytes
import Derived.Laws.IdiomStrings
import Derived.Test.YthcigpklbhjglaaPt48
import Derived.Test.YthcigpklbhjglaaPt36
namespace Go.Proofs.Ythcigpklbhjglaa.Ter
open Go.ChangeShapes Go.WideShapes Go.ChangeAt Go.RowKit Go.Maps Circ Cw
open Sim Str

theorem op_index_u8q (a : Act) (w : World) (b n q k : Nat) (t s : Nat) (h : a.tmps.getD t undef = .slice (some ⟨b, 0, none⟩) n q) (h2 : a.tmps.getD s undef = .int .i64 (k : Int)) (hk : k < n) (oo : Oper) (ho : oo.op = .indexAddr 59 (.tmp t) (.tmp s)) : (execOp a.eval oo).run Try.prog w = .ok (.value (.pointer (some ⟨b, k, none⟩))) w := by
  have h' : a.tmps[t]?.getD undef = .slice (some ⟨b, 0, none⟩) n q := by simpa using h
  have h2' : a.tmps[s]?.getD undef = .int .i64 (k : Int) := by simpa using h2
  have h0 : (0 : Int) ≤ k := by omega
  have h1 : (k : Int) < n := by omega
  unfold execOp
  rw [ho]
  go_simp
/-- the variable g holds the octets v, which lie in block gb, with room for q -/
structure HasW (w : World) (g gb q : Nat) (v : List UInt8) : Prop where
  c : w.cell? ⟨g, 0, none⟩ = some (.slice (some ⟨gb, 0, none⟩) v.length q)
  h : ∃ (rest : List Value) (fz : Nat × Nat), w.heap[gb]? = some (.cells (Lib.byteCells v ++ rest).toArray 5 fz) ∧ ∀ i, i < v.length → ¬ (fz.1 ≤ i ∧ i < fz.2)
theorem HasW.keep {w w' : World} {g gb q : Nat} {v : List UInt8} (h : HasW w g gb q v) (hb : Below w.heap.size w w') : HasW w' g gb q v := by
  obtain ⟨c, r, fz, h, hz⟩ := h
  exact ⟨(hb.cell (World.block_lt_of_cell? _ _ c)).trans c, r, fz, (hb.block _ (lt_of_block h)).trans h, hz⟩
theorem HasW.lt {w : World} {g gb q : Nat} {v : List UInt8} (h : HasW w g gb q v) : g < w.heap.size ∧ gb < w.heap.size := by
  obtain ⟨c, r, fz, h, hz⟩ := h
  exact ⟨World.block_lt_of_cell? _ _ c, lt_of_block h⟩
theorem HasW.at {w : World} {g gb q : Nat} {v : List UInt8} (h : HasW w g gb q v) {i : Nat} (hi : i < v.length) : w.cell? ⟨gb, i, none⟩ = some (.int .u8 ((v[i].toNat : Nat) : Int)) := by
  obtain ⟨c, r, fz, h, hz⟩ := h
  rw [Lib.cell_of_heap h]
  have hl : i < (Lib.byteCells v).length := by rw [byteCells_len]; exact hi
  have e : (Lib.byteCells v)[i]? = some (.int .u8 ((v[i].toNat : Nat) : Int)) := by
    unfold Lib.byteCells
    rw [List.getElem?_map, List.getElem?_eq_getElem hi]; rfl
  rw [List.getElem?_toArray, List.getElem?_append_left hl, e]
theorem HasW.frozen {w : World} {g gb q : Nat} {v : List UInt8} (h : HasW w g gb q v) {i : Nat} (hi : i < v.length) : w.frozen? ⟨gb, i, none⟩ = false := by
  obtain ⟨c, r, ⟨lo, hh⟩, h, hz⟩ := h
  have := hz i hi
  unfold World.frozen?
  simp only [h]
  simp only [Bool.and_eq_false_iff, decide_eq_false_iff_not]
  simp only at this
  omega
theorem HasW.set {w : World} {g gb q : Nat} {v : List UInt8} (h : HasW w g gb q v) (hg : g ≠ gb) {i : Nat} (hi : i < v.length) (x : UInt8) : HasW (w.setCell ⟨gb, i, none⟩ (.int .u8 ((x.toNat : Nat) : Int))) g gb q (v.set i x) := by
  obtain ⟨c, r, fz, h, hz⟩ := h
  have hl : i < (Lib.byteCells v).length := by rw [byteCells_len]; exact hi
  refine ⟨?_, r, fz, ?_, fun j hj => hz j (by rw [List.length_set] at hj; exact hj)⟩
  · rw [World.cell?_of_block (w := w) (by exact Below.heap_setCell _ _ _ _ hg), c, List.length_set]
  · have e : Lib.byteCells (v.set i x) ++ r = (Lib.byteCells v ++ r).set i (.int .u8 ((x.toNat : Nat) : Int)) := by
      rw [List.set_append_left _ _ hl]
      congr 1
      unfold Lib.byteCells
      rw [List.map_set]
    rw [e]
    simp [World.setCell, Array.getElem?_modify, h]
theorem HasW.row {w : World} {g gb q : Nat} {v : List UInt8} (h : HasW w g gb q v) : LRow w w.heap.size 1 (some ⟨gb, 0, none⟩) (bts v) := by
  refine .inr ⟨gb, 0, rfl, h.lt.2, fun i ys hi j u hj => ?_⟩
  have hl : i < v.length := by
    have := (List.getElem?_eq_some_iff.1 hi).1
    rwa [bts_len] at this
  have e : ys = [.int .u8 ((v[i].toNat : Nat) : Int)] := by
    unfold bts at hi
    rw [List.getElem?_map, List.getElem?_eq_getElem hl] at hi
    exact (Option.some.inj hi).symm
  subst e
  match j, hj with
  | 0, hj =>
    obtain rfl : Value.int .u8 ((v[i].toNat : Nat) : Int) = u := by simpa using hj
    have := h.at hl
    rwa [show 0 + (i * 1 + 0) = i from by omega]
  | j + 1, hj => simp at hj
/-- octets in memory as a text -/
theorem HasW.conv {w : World} {g gb q : Nat} {v : List UInt8} (h : HasW w g gb q v) : (convert 59 9 (.slice (some ⟨gb, 0, none⟩) v.length q)).run Try.prog w = .ok (.string ⟨v.toArray⟩) w :=
  run_convert_bytes_back w 59 9 5 ⟨gb, 0, none⟩ q v Try.underlying59 Try.underlying5 Try.underlying9 (fun j hj => by
    have e : (⟨gb, 0, none⟩ : Addr).add j = ⟨gb, j, none⟩ := by unfold Addr.add; by_cases hz : j = 0 <;> simp [hz]
    rw [e]; exact h.at hj)
/-- a text as octets in memory -/
theorem conv_to (s : ByteArray) (w : World) : ∃ (q : Nat) (W : World), (convert 9 59 (.string s)).run Try.prog w = .ok (.slice (some ⟨w.heap.size, 0, none⟩) s.size q) W ∧ Below w.heap.size w W ∧ w.heap.size < W.heap.size ∧ ∃ (rest : List Value) (fz : Nat × Nat), W.heap[w.heap.size]? = some (.cells (Lib.byteCells s.data.toList ++ rest).toArray 5 fz) ∧ ∀ i, i < s.size → ¬ (fz.1 ≤ i ∧ i < fz.2) := by
  refine ⟨_, _, Lib.run_convert_string_bytes w 9 59 5 s Try.underlying9 Try.underlying59 Try.underlying5, ?_, ?_, ?_⟩
  · unfold Lib.bytesWorld
    exact Lib.below_freeze (((Below.refl w.heap.size w).drew).alloc (Nat.le_refl _) _) (Nat.le_refl _) _
  · rw [Lib.bytesWorld_size]; exact Nat.lt_succ_self _
  · refine ⟨List.replicate (grownCap w s.size 0 5 - s.size) (.int .u8 0), ((Lib.bytesCells w 5 s).size, (Lib.bytesCells w 5 s).size + 1), ?_, ?_⟩
    · exact (Lib.bytesWorld_at_new w 5 s).trans (by
        congr 2
        unfold Lib.bytesCells Lib.byteCells
        apply Array.toList_inj.1
        simp)
    · intro i hi h
      have hz : (Lib.bytesCells w 5 s).size = s.size + (grownCap w s.size 0 5 - s.size) := by
        unfold Lib.bytesCells
        simp
      simp only [hz] at h
      omega
/-- of what has not been tried nothing has changed -/
theorem liftL_later (c : Cir) (inp : ByteArray) (hold : List Int) (s : List UInt8) : ∀ (k i : Nat), k ≤ i → (liftL c inp hold s k)[i]? = s[i]?
  | 0, _, _ => rfl
  | k + 1, i, h => by
    have ih := liftL_later c inp hold s k i (by omega)
    unfold liftL liftS
    split
    · rw [List.getElem?_set_ne (by omega)]; exact ih
    · exact ih
theorem set_back {v s : List UInt8} {j : Nat} (h : v[j]? = s[j]?) (hj : j < s.length) (x : UInt8) : (v.set j x).set j (s.getD j 0) = v := by
  rw [List.set_set]
  have hs : s.getD j 0 = s[j] := by rw [List.getD_eq_getElem?_getD, List.getElem?_eq_getElem hj]; rfl
  rw [hs]
  apply List.ext_getElem?
  intro i
  rw [List.getElem?_set]
  by_cases e : j = i
  · subst e
    rw [if_pos rfl, h, List.getElem?_eq_getElem hj]
    rw [List.getElem?_eq_getElem hj] at h
    rw [if_pos (List.getElem?_eq_some_iff.1 h).1]
  · rw [if_neg e]
/-- what operation j of the region leaves -/
def tbackR (gb n q j : Nat) (xo : Int) (sx : ByteArray) : Nat → (Nat → Value) → World → Prop
  | 0, f, _ => f 36 = .slice (some ⟨gb, 0, none⟩) n q
  | 1, f, _ => f 37 = .int .i64 (j : Int)
  | 2, f, _ => f 38 = .string sx
  | 3, f, _ => f 39 = .int .i64 (j : Int)
  | 4, f, _ => f 40 = .int .u8 xo
  | 5, f, _ => f 41 = .pointer (some ⟨gb, j, none⟩)
  | 6, _, _ => True
  | _, _, _ => True
def tbackM : Nat → List Nat
  | 0 => [36]
  | 1 => [37]
  | 2 => [38]
  | 3 => [39]
  | 4 => [40]
  | 5 => [41]
  | 6 => []
  | _ => []
theorem tback_stab {gb n q j : Nat} {xo : Int} {sx : ByteArray} (jj : Nat) {f f' : Nat → Value} {w w' : World}  (hf : ∀ t ∈ tbackM jj, f' t = f t) (h : tbackR gb n q j xo sx jj f w) : tbackR gb n q j xo sx jj f' w' := by
  match jj, hf, h with
  | 0, hf, h => exact (hf 36 (by decide)).trans h
  | 1, hf, h => exact (hf 37 (by decide)).trans h
  | 2, hf, h => exact (hf 38 (by decide)).trans h
  | 3, hf, h => exact (hf 39 (by decide)).trans h
  | 4, hf, h => exact (hf 40 (by decide)).trans h
  | 5, hf, h => exact (hf 41 (by decide)).trans h
  | 6, _, _ => trivial
  | _ + 7, _, _ => trivial
/-- what the closure in the closure of Lift answers of a literal -/
theorem held1_any (g : Nat) (v : List UInt8) (l : Int) (w : World) (h : w.cell? ⟨g, 0, none⟩ = some (.string ⟨v.toArray⟩)) (hv : v.length ≤ 1048576) (hl : l ≤ 9223372036854775807) (ht : ∀ y ∈ v, isT y) :
    Calls Try.prog 88 #[.int .i64 l, .pointer (some ⟨g, 0, none⟩)] w fun e w' => e = .returned (.bool (!decide (ofT v l = 49))) ∧ Below w.heap.size w w' := by
  have O := Lib.hid (of_any ⟨v.toArray⟩ l w (by rw [sv_size]; omega) hl ht)
  rw [show (⟨v.toArray⟩ : ByteArray).data.toList = v from rfl] at O
  have hq : (!decide (ofT v l = 49)) = (((ofT v l).toNat : Int) != 49) := by
    by_cases e : ofT v l = 49
    · rw [e]; rfl
    · rw [decide_eq_false e]
      have : (((ofT v l).toNat : Int) != 49) = true := by
        rw [bne_iff_ne]
        exact fun e2 => e (UInt8.toNat_inj.1 (by have : (49 : UInt8).toNat = 49 := rfl; omega))
      rw [this]; rfl
  rw [hq]
  generalize (ofT v l).toNat = x at *
  generalize (⟨v.toArray⟩ : ByteArray) = sx at *
  clear hq
  go_enter Try.func88, Try.ntmps88
  go_wp2_with fail
  refine O.out.mono ?_
  rintro e w' ⟨rfl, hb⟩
  have HB := Lib.hid hb
  clear hb O
  go_wp2
  go_ret
  exact ⟨rfl, HB.out⟩
theorem held_not (v : List UInt8) (hold : List Int) : hold.any (fun l => !decide (ofT v l = 49)) = !heldT v hold := by
  unfold heldT
  rw [Bool.eq_iff_iff]
  simp
set_option maxHeartbeats 16000000 in
set_option maxRecDepth 100000 in
theorem lost_any (c : Cir) (s : Places) (inp : ByteArray) (hold : List Int) (A : Option Addr) (q gc g gi gh gb qb : Nat) (v : List UInt8) (w : World) (hg : w.heap[gc]? = some (.cells (cirC c s) 27 (0, 0))) (h : CLies w w.heap.size c s) (hf : CFits c s) (hr : refOk c = true) (hgi : w.cell? ⟨gi, 0, none⟩ = some (.string inp)) (hgh : w.cell? ⟨gh, 0, none⟩ = some (.slice A hold.length q)) (hrow : LRow w w.heap.size 1 A (ints hold)) (hl : ∀ x ∈ hold, I64 x) (hn : hold.length ≤ 9223372036854775807) (hw : HasW w g gb qb v) (hs : tritsM (sb v) (c.lats.length : Int) = true) (hi : tritsM inp (c.ins.length : Int) = true) :
    Calls Try.prog 87 #[.pointer (some ⟨gc, 0, none⟩), .pointer (some ⟨g, 0, none⟩), .pointer (some ⟨gi, 0, none⟩), .pointer (some ⟨gh, 0, none⟩)] w fun e w' => e = .returned (.bool (!heldT (valsT c (sb v) inp) hold)) ∧ Below w.heap.size w w' := by
  have hmf : ∀ (fn : Fn) (first cap : Array Value) (w : World), (Instr.makeFunc fn first cap).run Try.prog w = .ok (.func fn first cap) w := fun _ _ _ _ => rfl
  have VV := Lib.hid (valued_any c s (sb v) inp w h hf hr hs hi)
  obtain ⟨m, hm, hm1⟩ := max_nat hr
  have hvl : (valsT c (sb v) inp).length ≤ 1048576 := by rw [valsT_len, hm]; simp; omega
  have HIT := Lib.hid (valsT_isT hs hi)
  have hcv := hw.conv
  have hc := hw.c
  rw [← held_not]
  rw [show sb v = (⟨v.toArray⟩ : ByteArray) from rfl] at *
  generalize valsT c (⟨v.toArray⟩ : ByteArray) inp = vt at *
  generalize (⟨v.toArray⟩ : ByteArray) = sx at *
  have HGH : Hid (∀ x, Below w.heap.size w x → x.cell? ⟨gh, 0, none⟩ = some (.slice A hold.length q)) := fun x hx => (hx.cell (World.block_lt_of_cell? _ _ hgh)).trans hgh
  have HROW : Hid (∀ x, Below w.heap.size w x → LRow x x.heap.size 1 A (ints hold)) := fun x hx => (hrow.below hx).more hx.size
  have HL := Lib.hid hl
  have HVL := Lib.hid hvl
  have HN := Lib.hid hn
  obtain ⟨e0, e1, e2, e3, e4, e5, e6, e7⟩ := cells8 hg
  clear hg h hf hr hgh hrow hl hw hs hi hm hm1 hvl
  unfold cirV at VV
  rw [show cirC c s = #[.int .i64 c.max, .slice s.ai c.ins.length s.ki, .slice s.al c.lats.length s.kl, .slice s.ao c.outs.length s.ko, .slice s.ab c.bads.length s.kb, .slice s.ac c.invs.length s.kc, .slice s.aa c.ands.length s.ka, .slice s.an c.names.length s.kn] from rfl] at VV
  unfold sv at VV
  obtain ⟨sy, hsy⟩ : ∃ x, (⟨vt.toArray⟩ : ByteArray) = x := ⟨_, rfl⟩
  rw [hsy] at VV
  have HSY := Lib.hid hsy
  clear hsy
  obtain ⟨bz, hbz⟩ : ∃ b, hold.any (fun l => !decide (ofT vt l = 49)) = b := ⟨_, rfl⟩
  rw [hbz]
  have HBZ := Lib.hid hbz
  clear hbz
  go_enter Try.func87, Try.ntmps87
  go_wp2_with fail
  refine VV.out.mono ?_
  rintro e w1 ⟨rfl, hb⟩
  have B1 : Hid (Below w.heap.size w w1) := hb
  clear VV hb e0 e1 e2 e3 e4 e5 e6 e7 hcv hc hgi
  obtain ⟨W0, hW0⟩ : ∃ x, w1.alloc (.cells #[.string ⟨#[]⟩] 9) = x := ⟨_, rfl⟩
  have b0 : Below w1.heap.size w1 W0 := by rw [← hW0]; exact (Below.refl _ _).alloc (Nat.le_refl _) _
  have h0 : W0.heap[w1.heap.size]? = some (.cells #[.string ⟨#[]⟩] 9 (0, 0)) := by rw [← hW0]; exact Array.getElem?_push_size
  obtain ⟨W2, u2, ⟨hW2, pW2, tW2⟩, EW2, FW2⟩ := step_set W0 _ 0 (.string sy) h0 (by simp)
  have K2 : Hid (W2.heap[w1.heap.size]? = some (.cells #[.string ⟨vt.toArray⟩] 9 (0, 0))) := by unfold Hid; rw [HSY.out]; exact EW2
  have b2 : Below w1.heap.size w1 W2 := FW2.below b0 (Nat.le_refl _)
  have B2 : Hid (Below w.heap.size w W2) := B1.out.trans (b2.mono B1.out.size)
  have EV : ∀ args w, (callFunc 88 args).run Try.prog w = .ok (.enter 88 args) w := enters_of Try.func88 (by kernel_rfl) rfl
  have CF := Lib.hid (contains52_any 88 #[.pointer (some ⟨w1.heap.size, 0, none⟩)] hold A q (fun l => !decide (ofT vt l = 49)) W2 HN.out EV (HROW.out W2 B2.out) (fun i hi x hx => by
    have hk : x.cell? ⟨w1.heap.size, 0, none⟩ = some (.string ⟨vt.toArray⟩) := by rw [Lib.cell_of_heap ((hx.block _ (lt_of_block K2.out)).trans K2.out)]; rfl
    refine (held1_any w1.heap.size vt hold[i] x hk HVL.out (HL.out _ (List.getElem_mem hi)).2 HIT.out).mono ?_
    rintro e w' ⟨rfl, hb⟩
    exact ⟨rfl, hx.trans (hb.mono hx.size)⟩))
  have hgh2 := HGH.out W2 B2.out
  rw [HBZ.out] at CF
  clear EV b0 h0 EW2 FW2 b2 HSY
  go_wp2_with fail
  refine CF.out.mono ?_
  rintro e w3 ⟨rfl, hb⟩
  have BF : Hid (Below w.heap.size w w3) := B2.out.trans (hb.mono B2.out.size)
  clear CF hb hW0 hW2 pW2 tW2 hgh2
  go_wp2
  go_ret
  exact ⟨rfl, BF.out⟩
set_option maxHeartbeats 16000000 in
set_option maxRecDepth 100000 in
theorem plift_any (c : Cir) (s : Places) (st inp : ByteArray) (hold : List Int) (A : Option Addr) (q : Nat) (w : World) (h : CLies w w.heap.size c s) (hf : CFits c s) (hzs : st.size ≤ 9223372036854775807) (hzi : inp.size ≤ 9223372036854775807) (hl : ∀ x ∈ hold, I64 x) (hn : hold.length ≤ 9223372036854775807) (hrow : LRow w w.heap.size 1 A (ints hold)) :
    Calls Try.prog 46 #[cirV c s, .string st, .string inp, .slice A hold.length q] w fun e w' => e = .returned (.tuple #[sv (lStr c st inp hold), .int .i64 (lErr c st inp hold)]) ∧ Below w.heap.size w w' := by
  have hmf : ∀ (fn : Fn) (first cap : Array Value) (w : World), (Instr.makeFunc fn first cap).run Try.prog w = .ok (.func fn first cap) w := fun _ _ _ _ => rfl
  obtain ⟨WA, hWA⟩ : ∃ x, w.alloc (.cells #[.int .i64 c.max, .slice s.ai c.ins.length s.ki, .slice s.al c.lats.length s.kl, .slice s.ao c.outs.length s.ko, .slice s.ab c.bads.length s.kb, .slice s.ac c.invs.length s.kc, .slice s.aa c.ands.length s.ka, .slice s.an c.names.length s.kn] 27) = x := ⟨_, rfl⟩
  have bA : Below w.heap.size w WA := by rw [← hWA]; exact (Below.refl _ _).alloc (Nat.le_refl _) _
  have sA : WA.heap.size = w.heap.size + 1 := by rw [← hWA]; simp
  have gA : WA.heap[w.heap.size]? = some (.cells (cirC c s) 27 (0, 0)) := by rw [← hWA]; exact Array.getElem?_push_size
  obtain ⟨WB, hWB⟩ : ∃ x, WA.alloc (.cells #[.string inp] 9) = x := ⟨_, rfl⟩
  have bB : Below WA.heap.size WA WB := by rw [← hWB]; exact (Below.refl _ _).alloc (Nat.le_refl _) _
  have sB : WB.heap.size = WA.heap.size + 1 := by rw [← hWB]; simp
  have gB : WB.heap[WA.heap.size]? = some (.cells #[.string inp] 9 (0, 0)) := by rw [← hWB]; exact Array.getElem?_push_size
  obtain ⟨WC, hWC⟩ : ∃ x, WB.alloc (.cells #[.slice A hold.length q] 22) = x := ⟨_, rfl⟩
  have bC : Below WB.heap.size WB WC := by rw [← hWC]; exact (Below.refl _ _).alloc (Nat.le_refl _) _
  have gC : WC.heap[WB.heap.size]? = some (.cells #[.slice A hold.length q] 22 (0, 0)) := by rw [← hWC]; exact Array.getElem?_push_size
  have BC : Hid (Below w.heap.size w WC) := (bA.trans (bB.mono bA.size)).trans (bC.mono (by omega))
  have GC : Hid (∀ x, Below WC.heap.size WC x → x.heap[w.heap.size]? = some (.cells (cirC c s) 27 (0, 0))) := fun x hx => by
    have h1 := (bB.block _ (lt_of_block gA)).trans gA
    have h2 := (bC.block _ (lt_of_block h1)).trans h1
    exact (hx.block _ (lt_of_block h2)).trans h2
  have GI : Hid (∀ x, Below WC.heap.size WC x → x.cell? ⟨WA.heap.size, 0, none⟩ = some (.string inp)) := fun x hx => by
    have h2 := (bC.block _ (lt_of_block gB)).trans gB
    rw [Lib.cell_of_heap ((hx.block _ (lt_of_block h2)).trans h2)]; rfl
  have GH : Hid (∀ x, Below WC.heap.size WC x → x.cell? ⟨WB.heap.size, 0, none⟩ = some (.slice A hold.length q)) := fun x hx => by
    rw [Lib.cell_of_heap ((hx.block _ (lt_of_block gC)).trans gC)]; rfl
  have LW : Hid (∀ x, Below WC.heap.size WC x → CLies x x.heap.size c s) := fun x hx => by
    have hb := BC.out.trans (hx.mono BC.out.size)
    exact (h.below hb).more hb.size
  have LR : Hid (∀ x, Below WC.heap.size WC x → LRow x x.heap.size 1 A (ints hold)) := fun x hx => by
    have hb := BC.out.trans (hx.mono BC.out.size)
    exact (hrow.below hb).more hb.size
  have CK := Lib.hid (tcheck_any c s st inp WC (LW.out WC (Below.refl _ _)) hf hzs hzi)
  clear bA sA gA bB sB gB bC gC hrow h
  obtain ⟨e0, e1, e2, e3, e4, e5, e6, e7⟩ := cells8 (GC.out WC (Below.refl _ _))
  have ei := GI.out WC (Below.refl _ _)
  have hr := terr_range c st inp
  by_cases he : tErr c st inp = 0
  · obtain ⟨hok, hts, hti⟩ := terr_is he
    obtain ⟨hsz, hisT⟩ := trits_parts hts
    have HZ := Lib.hid (ref_sizes hok)
    have HSZ := Lib.hid hsz
    have HT0 := Lib.hid hisT
    have LOST : Hid (∀ (v : List UInt8) (g gb qb : Nat) (x : World), Below WC.heap.size WC x → HasW x g gb qb v → v.length = c.lats.length → (∀ y ∈ v, isT y) → Calls Try.prog 87 #[.pointer (some ⟨w.heap.size, 0, none⟩), .pointer (some ⟨g, 0, none⟩), .pointer (some ⟨WA.heap.size, 0, none⟩), .pointer (some ⟨WB.heap.size, 0, none⟩)] x fun e w' => e = .returned (.bool (!heldT (valsT c (sb v) inp) hold)) ∧ Below x.heap.size x w') := fun v g gb qb x hx hw hv ht =>
      lost_any c s inp hold A q w.heap.size g WA.heap.size WB.heap.size gb qb v x (GC.out x hx) (LW.out x hx) hf hok (GI.out x hx) (GH.out x hx) (LR.out x hx) hl hn hw (trits_of hv ht) hti
    have hle : lErr c st inp hold = if heldT (valsT c st inp) hold = true then 0 else 51 := if_pos he
    have EV : Hid (∀ args w, (callFunc 87 args).run Try.prog w = .ok (.enter 87 args) w) := enters_of Try.func87 (by kernel_rfl) rfl
    rw [he] at CK
    clear hl hn hr hts hti hok hf hisT hsz
    unfold cirV at CK ⊢
    rw [show cirC c s = #[.int .i64 c.max, .slice s.ai c.ins.length s.ki, .slice s.al c.lats.length s.kl, .slice s.ao c.outs.length s.ko, .slice s.ab c.bads.length s.kb, .slice s.ac c.invs.length s.kc, .slice s.aa c.ands.length s.ka, .slice s.an c.names.length s.kn] from rfl] at CK ⊢
    go_enter Try.func46, Try.ntmps46
    go_wp2_with fail
    refine CK.out.mono ?_
    rintro e w3 ⟨rfl, hb⟩
    have B3 : Hid (Below WC.heap.size WC w3) := hb
    have HLT3 : Hid (WB.heap.size < w3.heap.size ∧ WA.heap.size < w3.heap.size ∧ w.heap.size < w3.heap.size) := ⟨World.block_lt_of_cell? _ _ (GH.out w3 hb), World.block_lt_of_cell? _ _ (GI.out w3 hb), lt_of_block (GC.out w3 hb)⟩
    clear e0 e1 e2 e3 e4 e5 e6 e7 ei hWA hWB hWC CK hb
    obtain ⟨qb, W4, hcv, b4, l4, rest, fz, h4, z4⟩ := conv_to st w3
    obtain ⟨W5, hW5⟩ : ∃ x, W4.alloc (.cells #[.slice none 0 0] 59) = x := ⟨_, rfl⟩
    have b5 : Below W4.heap.size W4 W5 := by rw [← hW5]; exact (Below.refl _ _).alloc (Nat.le_refl _) _
    have h5 : W5.heap[W4.heap.size]? = some (.cells #[.slice none 0 0] 59 (0, 0)) := by rw [← hW5]; exact Array.getElem?_push_size
    obtain ⟨X9, u9, ⟨hX, pX, tX⟩, EX, FX⟩ := step_set W5 _ 0 (.slice (some ⟨w3.heap.size, 0, none⟩) st.size qb) h5 (by simp)
    have EX' : X9.heap[W4.heap.size]? = some (.cells #[.slice (some ⟨w3.heap.size, 0, none⟩) st.size qb] 59 (0, 0)) := EX
    have HL0 : Hid (st.data.toList.length = st.size) := by unfold Hid; simp
    have V0 : Hid (HasW X9 W4.heap.size w3.heap.size qb (liftL c inp hold st.data.toList 0)) := by
      show HasW X9 W4.heap.size w3.heap.size qb st.data.toList
      refine ⟨?_, rest, fz, ?_, fun i hi => z4 i (by rw [HL0.out] at hi; exact hi)⟩
      · rw [HL0.out, Lib.cell_of_heap EX']; rfl
      · rw [FX.b w3.heap.size (by omega), b5.block w3.heap.size l4, h4]
    have B9 : Hid (Below w3.heap.size w3 X9) := b4.trans ((FX.below b5 (Nat.le_refl _)).mono (by omega))
    have HGN : Hid (W4.heap.size ≠ w3.heap.size) := by unfold Hid; omega
    have HG4 : Hid (w3.heap.size ≤ W4.heap.size) := by unfold Hid; omega
    have BW : Hid (∀ x, Below w3.heap.size w3 x → Below WC.heap.size WC x) := fun x hx => B3.out.trans (hx.mono B3.out.size)
    clear b4 l4 h4 z4 b5 h5 EX EX' FX
    have hsb : sb st.data.toList = st := rfl
    have LO := Lib.hid (LOST.out st.data.toList W4.heap.size w3.heap.size qb X9 (BW.out _ B9.out) V0.out (by rw [HL0.out]; exact HSZ.out) HT0.out)
    rw [hsb] at LO
    clear hsb
    have eO : ∀ args w, (callFunc 87 args).run Try.prog w = .ok (.enter 87 args) w := EV.out
    cases hq : heldT (valsT c st inp) hold with
    | false =>
      rw [hq] at LO hle
      have hls : lStr c st inp hold = [] := if_neg (by rw [hle]; decide)
      have HLS := Lib.hid hls
      have HLE := Lib.hid hle
      clear hq hle hls
      go_wp2_with fail
      refine LO.out.mono ?_
      rintro e w7 ⟨rfl, hb⟩
      have BF : Hid (Below w.heap.size w w7) := by
        have h1 := BW.out _ B9.out
        exact BC.out.trans ((h1.trans (hb.mono h1.size)).mono BC.out.size)
      clear hb LO
      go_wp2
      go_ret2
      exact ⟨by rw [HLS.out, HLE.out]; rfl, BF.out⟩
    | true =>
      rw [hq] at LO hle
      have hls : lStr c st inp hold = liftL c inp hold st.data.toList st.size := if_pos hle
      have HLS := Lib.hid hls
      have HLE := Lib.hid hle
      clear hq hle hls
      go_wp2_with fail
      refine LO.out.mono ?_
      rintro e w7 ⟨rfl, hb⟩
      have V7 : Hid (HasW w7 W4.heap.size w3.heap.size qb (liftL c inp hold st.data.toList 0)) := V0.out.keep hb
      have B7 : Hid (Below w3.heap.size w3 w7) := B9.out.trans (hb.mono B9.out.size)
      clear hb LO V0 B9 hW5 hX pX tX hcv
      have c7 : w7.cell? ⟨W4.heap.size, 0, none⟩ = some (.slice (some ⟨w3.heap.size, 0, none⟩) st.size qb) := by have := V7.out.c; rw [liftL_len, HL0.out] at this; exact this
      go_wp2
      clear c7
      go_loopw [28] (fun i wr => ∃ j : Nat, j ≤ st.size ∧ i = .int .i64 j ∧ HasW wr W4.heap.size w3.heap.size qb (liftL c inp hold st.data.toList j) ∧ Below w3.heap.size w3 wr) (fun i _ => st.size - (intOf i).toNat)
      case atStart => exact ⟨0, Nat.zero_le _, rfl, V7.out, B7.out⟩
      case round =>
        clear V7 B7
        obtain ⟨j, hj, rfl, hv, hbw⟩ := hrel
        have HV := Lib.hid hv
        have HB := Lib.hid hbw
        clear hv hbw
        have zl : st.size ≤ 64 := by have := HZ.out.2.1; have := HSZ.out; omega
        by_cases hlt : j < st.size
        · have HISJ := Lib.hid (liftL_isT c inp hold st.data.toList HT0.out j)
          have HLJ : Hid (liftL c inp hold st.data.toList (j + 1) = if heldT (valsT c (sb ((liftL c inp hold st.data.toList j).set j 120)) inp) hold = true then (liftL c inp hold st.data.toList j).set j 120 else liftL c inp hold st.data.toList j) := rfl
          have HBK := Lib.hid (set_back (liftL_later c inp hold st.data.toList j j (Nat.le_refl _)) (by simpa using hlt) 120)
          have hvlen : (liftL c inp hold st.data.toList j).length = st.size := by rw [liftL_len]; simp
          obtain ⟨v, hv⟩ : ∃ v, liftL c inp hold st.data.toList j = v := ⟨_, rfl⟩
          rw [hv] at HV HISJ HLJ HBK hvlen
          clear hv
          have HVL := Lib.hid hvlen
          have HVI : Hid (j < st.size) := hlt
          obtain ⟨v9, hv9⟩ : ∃ z, liftL c inp hold st.data.toList (j + 1) = z := ⟨_, rfl⟩
          rw [hv9] at HLJ
          have HV9 := Lib.hid hv9
          clear hv9
          have c8 : wr.cell? ⟨W4.heap.size, 0, none⟩ = some (.slice (some ⟨w3.heap.size, 0, none⟩) st.size qb) := by have := HV.out.c; rw [hvlen] at this; exact this
          have c9 := HV.out.at (i := j) (by omega)
          have f9 := HV.out.frozen (i := j) (by omega)
          have hn := HV.out.set HGN.out (i := j) (by omega) 120
          obtain ⟨Y, hY⟩ : ∃ x, wr.setCell ⟨w3.heap.size, j, none⟩ (.int .u8 120) = x := ⟨_, rfl⟩
          have hn2 : HasW Y W4.heap.size w3.heap.size qb (v.set j 120) := by rw [← hY]; exact hn
          have VY := Lib.hid hn2
          have BY : Hid (Below w3.heap.size w3 Y) := by unfold Hid; rw [← hY]; exact HB.out.setCell (p := ⟨w3.heap.size, j, none⟩) (Nat.le_refl _) _
          have LJ := Lib.hid (LOST.out (v.set j 120) W4.heap.size w3.heap.size qb Y (BW.out _ BY.out) VY.out (by rw [List.length_set, HVL.out]; exact HSZ.out) (fun y hy => by
            rcases List.mem_or_eq_of_mem_set hy with hy | hy
            · exact HISJ.out y hy
            · rw [hy]; exact .inr (.inr rfl)))
          clear hn hn2
          cases hq : heldT (valsT c (sb (v.set j 120)) inp) hold with
          | true =>
            rw [hq] at LJ HLJ
            clear hq
            go_wp2_with fail
            refine LJ.out.mono ?_
            rintro e w8 ⟨rfl, hb⟩
            have V8 : Hid (HasW w8 W4.heap.size w3.heap.size qb (v.set j 120)) := VY.out.keep hb
            have B8 : Hid (Below w3.heap.size w3 w8) := BY.out.trans (hb.mono BY.out.size)
            clear hb LJ c8 c9 f9 hY
            go_wp2
            go_roundw
            case rel => exact ⟨j + 1, by omega, by go_num, by rw [HV9.out, HLJ.out, if_pos (by trivial)]; exact V8.out, B8.out⟩
            case measure => simp [intOf]; omega
          | false =>
            rw [hq] at LJ HLJ
            clear hq
            go_wp2_with fail
            refine LJ.out.mono ?_
            rintro e w8 ⟨rfl, hb⟩
            have V8 : Hid (HasW w8 W4.heap.size w3.heap.size qb (v.set j 120)) := VY.out.keep hb
            have B8 : Hid (Below w3.heap.size w3 w8) := BY.out.trans (hb.mono BY.out.size)
            clear hb LJ c8 c9 f9 hY
            obtain ⟨xb, hxb⟩ : ∃ x, st.data.toList.getD j 0 = x := ⟨_, rfl⟩
            obtain ⟨xo, hxo⟩ : ∃ x : Int, x = ((xb.toNat : Nat) : Int) := ⟨_, rfl⟩
            have HSX : Hid (xo = (((st.data.toList.getD j 0).toNat : Nat) : Int)) := by unfold Hid; rw [hxb]; exact hxo
            have HSJ : Hid (j < st.size) := hlt
            have VD : HasW w8.drew W4.heap.size w3.heap.size qb (v.set j 120) := V8.out.keep ((Below.refl _ _).drew)
            have hsl : j < (v.set j 120).length := by rw [List.length_set, HVL.out]; exact hlt
            have LV : Hid (w8.drew.cell? ⟨W4.heap.size, 0, none⟩ = some (.slice (some ⟨w3.heap.size, 0, none⟩) st.size qb)) := by have := VD.c; rw [List.length_set, HVL.out] at this; exact this
            obtain ⟨uc, C1⟩ : ∃ u, Hid (w8.drew.cell? ⟨w3.heap.size, j, none⟩ = some u) := ⟨_, VD.at hsl⟩
            have Z1 := Lib.hid (VD.frozen hsl)
            have hn := VD.set HGN.out hsl xb
            rw [← hxo, ← hxb] at hn
            obtain ⟨W1, hW1⟩ : ∃ x, w8.drew.setCell ⟨w3.heap.size, j, none⟩ (.int .u8 xo) = x := ⟨_, rfl⟩
            rw [hW1] at hn
            have HN : Hid (HasW W1 W4.heap.size w3.heap.size qb v9) := by
              unfold Hid
              rw [HLJ.out, if_neg (by decide)]
              rw [HBK.out] at hn
              exact hn
            have BN : Hid (Below w3.heap.size w3 W1) := by unfold Hid; rw [← hW1]; exact B8.out.drew.setCell (p := ⟨w3.heap.size, j, none⟩) (Nat.le_refl _) _
            have HW1 := Lib.hid hW1
            clear VD hsl hn hW1 hxb hxo HBK HLJ
            go_wp2
            refine wp_region_valsE (by kernel_rfl) (by kernel_rfl) tbackM (by kernel_rfl) (by kernel_rfl)
              (Sole 6 w8.drew W1) (tbackR w3.heap.size st.size qb j xo st) (Sole.start _ _ _) (fun jj f f' w w' hb hf h => tback_stab jj  hf h) ?_ ?_
            · intro i oo d a' w' ho hd hun hdf hok hDE K hK hK0
              match i, ho, hd, hDE, hK, hK0, hun with
              | 0, ho, hd, hDE, hK, hK0, hun =>
                have e := (congrArg Oper.op (Option.some.inj ho)).symm
                obtain rfl := Option.some.inj ho
                exact wp_val (op_load_Luint8 a' w' _ 11 _ (hun 11 (by kernel_rfl)) (by rw [hok.c0 (hd 6 (by kernel_rfl))]; exact LV.out) _ e) (hK _ _ (Below.refl _ _) (hok.read (by decide)) (fun f h1 _ => h1 _ rfl))
              | 1, ho, hd, hDE, hK, hK0, hun =>
                have e := (congrArg Oper.op (Option.some.inj ho)).symm
                obtain rfl := Option.some.inj ho
                exact wp_val (op_move a' w' 13 _ e) (hK _ _ (Below.refl _ _) (hok.read (by decide)) (fun f h1 _ => (h1 _ rfl).trans (hun 13 (by kernel_rfl))))
              | 2, ho, hd, hDE, hK, hK0, hun =>
                have e := (congrArg Oper.op (Option.some.inj ho)).symm
                obtain rfl := Option.some.inj ho
                exact wp_val (op_move a' w' 1 _ e) (hK _ _ (Below.refl _ _) (hok.read (by decide)) (fun f h1 _ => (h1 _ rfl).trans (hun 1 (by kernel_rfl))))
              | 3, ho, hd, hDE, hK, hK0, hun =>
                have e := (congrArg Oper.op (Option.some.inj ho)).symm
                obtain rfl := Option.some.inj ho
                exact wp_val (op_move a' w' 13 _ e) (hK _ _ (Below.refl _ _) (hok.read (by decide)) (fun f h1 _ => (h1 _ rfl).trans (hun 13 (by kernel_rfl))))
              | 4, ho, hd, hDE, hK, hK0, hun =>
                have e := (congrArg Oper.op (Option.some.inj ho)).symm
                obtain rfl := Option.some.inj ho
                exact wp_val (op_index_str a' w' _ _ _ 38 39 (hDE 2 (by kernel_rfl)).2 (hDE 3 (by kernel_rfl)).2 HSJ.out HSX.out _ e) (hK _ _ (Below.refl _ _) (hok.read (by decide)) (fun f h1 _ => h1 _ rfl))
              | 5, ho, hd, hDE, hK, hK0, hun =>
                have e := (congrArg Oper.op (Option.some.inj ho)).symm
                obtain rfl := Option.some.inj ho
                exact wp_val (op_index_u8q a' w' _ _ _ _ 36 37 (hDE 0 (by kernel_rfl)).2 (hDE 1 (by kernel_rfl)).2 HVI.out _ e) (hK _ _ (Below.refl _ _) (hok.read (by decide)) (fun f h1 _ => h1 _ rfl))
              | 6, ho, hd, hDE, hK, hK0, hun =>
                have e := (congrArg Oper.op (Option.some.inj ho)).symm
                obtain rfl := Option.some.inj ho
                have hr := op_store_u8 a' w8.drew _ _ _ _ 41 40 ((hDE 5 (by kernel_rfl)).2) (hDE 4 (by kernel_rfl)).2 C1.out Z1.out _ e
                rw [HW1.out, ← hok.c0 (hd 6 (by kernel_rfl))] at hr
                exact wp_skip' hr (hK0 _ _ (Sole.did _ _ _ _) (fun f h1 h2 => trivial) (fun j f hj hf hq => tback_stab j hf hq))
              | i + 7, ho, _, _, _, _, _ => exact absurd ho (by simp)
            · intro a' wz hsz hdf hkt hok hR
              have HF3 := frame_sets [36, 37, 38, 39, 40, 41] (by kernel_rfl) hsz hkt
              obtain ⟨d, hok, hall⟩ := hok
              have hw := hok.c1 (hall 6 (by decide))
              subst hw
              obtain ⟨tm, df⟩ := a'
              obtain rfl : df = _ := hdf
              simp only [List.foldl_cons, List.foldl_nil] at HF3
              clear hkt hR hsz
              generalize tm.getD 36 undef = y36 at HF3
              generalize tm.getD 37 undef = y37 at HF3
              generalize tm.getD 38 undef = y38 at HF3
              generalize tm.getD 39 undef = y39 at HF3
              generalize tm.getD 40 undef = y40 at HF3
              generalize tm.getD 41 undef = y41 at HF3
              simp only [List.setIfInBounds_toArray, List.set_cons_succ, List.set_cons_zero] at HF3
              subst HF3
              clear hok hall LV C1 Z1 HW1 HSJ HSX HVI HVL HV HB V8 B8 VY BY HISJ
              go_wp2
              go_roundw
              case rel => exact ⟨j + 1, by omega, by go_num, by rw [HV9.out]; exact HN.out, BN.out⟩
              case measure => simp [intOf]; omega
        · obtain rfl : j = st.size := by omega
          have hlen : (liftL c inp hold st.data.toList st.size).length = st.size := by rw [liftL_len]; simp
          have FB := Lib.hid (text_any (liftL c inp hold st.data.toList st.size) (some ⟨w3.heap.size, 0, none⟩) qb wr HV.out.row (by rw [hlen]; omega))
          have c8 : wr.cell? ⟨W4.heap.size, 0, none⟩ = some (.slice (some ⟨w3.heap.size, 0, none⟩) st.size qb) := by have := HV.out.c; rw [hlen] at this; exact this
          rw [hlen] at FB
          clear HV
          rw [← HLS.out] at FB
          unfold sv at FB
          obtain ⟨sz, hsz9⟩ : ∃ z, (⟨(lStr c st inp hold).toArray⟩ : ByteArray) = z := ⟨_, rfl⟩
          rw [hsz9] at FB
          have HSZ9 := Lib.hid hsz9
          clear hsz9
          go_wp2_with fail
          refine FB.out.mono ?_
          rintro e w9 ⟨rfl, hb⟩
          have BF : Hid (Below w.heap.size w w9) := by
            have h1 := HB.out.trans (hb.mono HB.out.size)
            have h2 := BW.out _ h1
            exact BC.out.trans (h2.mono BC.out.size)
          clear hb FB c8
          go_wp2
          go_ret2
          exact ⟨by unfold sv; rw [HSZ9.out, HLE.out]; rfl, BF.out⟩
  · have hle : lErr c st inp hold = tErr c st inp := if_neg he
    have hls : lStr c st inp hold = [] := if_neg (by rw [hle]; exact he)
    rw [hle, hls]
    have hz : (tErr c st inp == 0) = false := beq_eq_false_iff_ne.2 he
    have hz2 : (tErr c st inp != 0) = true := bne_iff_ne.2 he
    clear hf hle hls hl hn
    generalize tErr c st inp = x at *
    unfold sv
    unfold cirV at CK ⊢
    rw [show cirC c s = #[.int .i64 c.max, .slice s.ai c.ins.length s.ki, .slice s.al c.lats.length s.kl, .slice s.ao c.outs.length s.ko, .slice s.ab c.bads.length s.kb, .slice s.ac c.invs.length s.kc, .slice s.aa c.ands.length s.ka, .slice s.an c.names.length s.kn] from rfl] at CK ⊢
    go_enter Try.func46, Try.ntmps46
    go_wp2_with fail
    refine CK.out.mono ?_
    rintro e w1 ⟨rfl, hb⟩
    have B1 : Hid (Below w.heap.size w w1) := BC.out.trans (hb.mono BC.out.size)
    clear e0 e1 e2 e3 e4 e5 e6 e7 ei hWA hWB hWC CK hb
    go_wp2
    go_ret2
    exact ⟨rfl, B1.out⟩
end Go.Proofs.Ythcigpklbhjglaa.Ter
namespace Go.Proofs.Ythcigpklbhjglaa.Ter
open Go.ChangeShapes Go.WideShapes Go.ChangeAt Go.RowKit Go.Maps Circ Cw
open Str Sim

set_option maxHeartbeats 16000000 in
set_option maxRecDepth 100000 in
theorem lifts_walk (c : Cir) (s : Places) (st inp : ByteArray) (hold : List Int) (A : Option Addr) (q : Nat) (most : Int) (w : World) (h : CLies w w.heap.size c s) (hf : CFits c s) (hzs : st.size ≤ 9223372036854775807) (hzi : inp.size ≤ 9223372036854775807) (hl : ∀ x ∈ hold, I64 x) (hn : hold.length ≤ 9223372036854775807) (hrow : LRow w w.heap.size 1 A (ints hold)) :
    Calls Try.prog 10 #[cirV c s, .string st, .string inp, .slice A hold.length q, .int .i64 most] w fun e w' => e = .returned (.bool true) ∧ Below w.heap.size w w' := by
  obtain ⟨WA, hWA⟩ : ∃ x, w.alloc (.cells #[.int .i64 c.max, .slice s.ai c.ins.length s.ki, .slice s.al c.lats.length s.kl, .slice s.ao c.outs.length s.ko, .slice s.ab c.bads.length s.kb, .slice s.ac c.invs.length s.kc, .slice s.aa c.ands.length s.ka, .slice s.an c.names.length s.kn] 27) = x := ⟨_, rfl⟩
  have bA : Hid (Below w.heap.size w WA) := by unfold Hid; rw [← hWA]; exact (Below.refl _ _).alloc (Nat.le_refl _) _
  have GA : Hid (WA.heap[w.heap.size]? = some (.cells (cirC c s) 27 (0, 0))) := by unfold Hid; rw [← hWA]; exact Array.getElem?_push_size
  obtain ⟨e0, e1, e2, e3, e4, e5, e6, e7⟩ := cells8 GA.out
  have LW : Hid (∀ x, Below w.heap.size w x → CLies x x.heap.size c s) := fun x hx => (h.below hx).more hx.size
  have LR : Hid (∀ x, Below w.heap.size w x → LRow x x.heap.size 1 A (ints hold)) := fun x hx => (hrow.below hx).more hx.size
  have LA := Lib.hid (fun x hx => plift_any c s st inp hold A q x (LW.out x hx) hf hzs hzi hl hn (LR.out x hx))
  have LB := Lib.hid (fun x hx => reflift_any c s st inp hold A q x (LW.out x hx) hf hzs hzi hl hn (LR.out x hx))
  have WWA := Lib.hid (fun x hx => pwid_any c s most x (LW.out x hx) hf)
  have WWB := Lib.hid (fun x hx => refwid_any c s most x (LW.out x hx) hf)
  unfold sv at LA LB WWA WWB
  generalize (⟨(lStr c st inp hold).toArray⟩ : ByteArray) = s1 at *
  generalize (⟨(wStr c most).toArray⟩ : ByteArray) = s2 at *
  generalize lErr c st inp hold = x1 at *
  generalize wErr c most = x2 at *
  generalize wNum c most = x3 at *
  clear h hf hzs hzi hl hn hrow LR
  unfold cirV at LA LB WWA WWB ⊢
  rw [show cirC c s = #[.int .i64 c.max, .slice s.ai c.ins.length s.ki, .slice s.al c.lats.length s.kl, .slice s.ao c.outs.length s.ko, .slice s.ab c.bads.length s.kb, .slice s.ac c.invs.length s.kc, .slice s.aa c.ands.length s.ka, .slice s.an c.names.length s.kn] from rfl] at LA LB WWA WWB ⊢
  go_enter Try.func10, Try.ntmps10
  go_wp2_with fail
  refine (LA.out WA bA.out).mono ?_
  rintro e w1 ⟨rfl, hb⟩
  clear hWA
  have B1 : Hid (Below w.heap.size w w1) := bA.out.trans (hb.mono bA.out.size)
  have G1 : Hid (w1.heap[w.heap.size]? = some (.cells (cirC c s) 27 (0, 0))) := (hb.block _ (lt_of_block GA.out)).trans GA.out
  clear e0 e1 e2 e3 e4 e5 e6 e7 hb
  obtain ⟨e0, e1, e2, e3, e4, e5, e6, e7⟩ := cells8 G1.out
  go_wp2_with fail
  refine (LB.out w1 B1.out).mono ?_
  rintro e w2 ⟨rfl, hb⟩
  have B2 : Hid (Below w.heap.size w w2) := B1.out.trans (hb.mono B1.out.size)
  have G2 : Hid (w2.heap[w.heap.size]? = some (.cells (cirC c s) 27 (0, 0))) := (hb.block _ (lt_of_block G1.out)).trans G1.out
  clear e0 e1 e2 e3 e4 e5 e6 e7 hb
  obtain ⟨e0, e1, e2, e3, e4, e5, e6, e7⟩ := cells8 G2.out
  go_wp2_with fail
  refine (WWA.out w2 B2.out).mono ?_
  rintro e w3 ⟨rfl, hb⟩
  have B3 : Hid (Below w.heap.size w w3) := B2.out.trans (hb.mono B2.out.size)
  have G3 : Hid (w3.heap[w.heap.size]? = some (.cells (cirC c s) 27 (0, 0))) := (hb.block _ (lt_of_block G2.out)).trans G2.out
  clear e0 e1 e2 e3 e4 e5 e6 e7 hb
  obtain ⟨e0, e1, e2, e3, e4, e5, e6, e7⟩ := cells8 G3.out
  go_wp2_with fail
  refine (WWB.out w3 B3.out).mono ?_
  rintro e w4 ⟨rfl, hb⟩
  have B4 : Hid (Below w.heap.size w w4) := B3.out.trans (hb.mono B3.out.size)
  have G4 : Hid (w4.heap[w.heap.size]? = some (.cells (cirC c s) 27 (0, 0))) := (hb.block _ (lt_of_block G3.out)).trans G3.out
  clear e0 e1 e2 e3 e4 e5 e6 e7 hb
  obtain ⟨e0, e1, e2, e3, e4, e5, e6, e7⟩ := cells8 G4.out
  clear LA LB WWA WWB e0 e1 e2 e3 e4 e5 e6 e7
  go_wp2_with (go_at_call 40; refine (num_any _ _).mono ?_; rintro e w' ⟨rfl, rfl⟩)
  refine (alive_any w4).mono ?_
  rintro e w5 ⟨rfl, hb⟩
  have B5 : Hid (Below w.heap.size w w5) := B4.out.trans (hb.mono B4.out.size)
  clear hb
  go_wp2
  go_ret
  exact ⟨rfl, B5.out⟩
set_option maxRecDepth 100000 in
theorem lifts_core {H : Type} {enc : TypeId × Value → H} (W : World) (v : Value) (d : DataW H) (p : List MemPlace) {r : Reach} {b0 : Nat} (hv : Value.okWide Try.prog W r b0 27 v) (h : DataW.Trod enc Try.prog W 0 (fun _ => true) true 27 v d p)
    (st : ByteArray) (hst : st.size ≤ maxLen) (inp : ByteArray) (hinp : inp.size ≤ maxLen)
    (v1 : Value) (d1 : DataW H) (p1 : List MemPlace) {r1 : Reach} {b1 : Nat} (hv1 : Value.okWide Try.prog W r1 b1 22 v1) (h1 : DataW.Trod enc Try.prog W 0 (fun _ => true) true 22 v1 d1 p1)
    (most : Int) (_m0 : -9223372036854775808 ≤ most) (_m1 : most ≤ 9223372036854775807) {e1 e2 e4 : DataW H} {t1 t2 t4 : TypeId} {ts : List TypeId} {ds : List (DataW H)} (hsz : (DataW.weightsEach Try.prog (27 :: t1 :: t2 :: 22 :: t4 :: ts) (d :: e1 :: e2 :: d1 :: e4 :: ds)).all (· ≤ reachBytes) = true) :
    Calls Try.prog 10 #[v, .string st, .string inp, v1, .int .i64 most] W fun e W' => e = .returned (.bool true) ∧ Below W.heap.size W W' := by
  obtain ⟨c, s, rfl, hl, hf⟩ := open_circ hv h (all_weights hsz 0 rfl rfl)
  have hw1 := all_weights hsz 3 (t := 22) (d := d1) rfl rfl
  obtain ⟨fuel, ht⟩ := h1
  obtain ⟨A1, cl, q1, e1, r1', f1, k1, z1⟩ := open_rows 1 (by decide) (fun x : Int => [Value.int .i64 x]) I64 (fun _ => rfl) Try.underlying22 c3 (fun n cs' y h => el_int h) ht
  have hv1 : v1 = .slice A1 cl.length q1 := by
    obtain ⟨a0, len, cap, rfl⟩ := okWide_slice Try.underlying22 hv1
    simpa [Value.cells] using e1
  subst hv1
  have hbl : cl.length * 8 ≤ 140737488355328 := row_bytes (l := cl) 8 (by kernel_rfl) Try.underlying22 z1 hw1
  unfold maxLen at hst hinp
  exact lifts_walk c s st inp cl A1 q1 most W hl hf hst hinp f1 (by omega) r1'
end Go.Proofs.Ythcigpklbhjglaa.Ter
