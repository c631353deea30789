/- The program's all, sets, keeps, next, takes, Allowed, fits; no condition but that lists and texts are as long as Go's may be. The program's Allowed and fits; condition: the circuit lies in memory. -/
import Derived.Test.YtfglgapocmnfpaaPt37
import Derived.Test.YtfglgapocmnfpaaPt36
import Derived.Test.YtfglgapocmnfpaaPt13
namespace Go.Proofs.Ytfglgapocmnfpaa.Rep
open Go.ChangeShapes Go.WideShapes Go.ChangeAt Go.RowKit Go.Maps Circ Cw
open Str Sim

/-- is it so of the first n? -/
def allB (b : Nat → Bool) (n : Nat) : Bool := (List.range n).all b
theorem allB_yes {b : Nat → Bool} {n : Nat} (h : ∀ k, k < n → b k = true) : allB b n = true := List.all_eq_true.2 fun k hk => h k (List.mem_range.1 hk)
theorem allB_no {b : Nat → Bool} {n k : Nat} (h : k < n) (e : b k = false) : allB b n = false := by
  rw [Bool.eq_false_iff]
  intro h2
  have := List.all_eq_true.1 h2 k (List.mem_range.2 h)
  rw [e] at this; cases this
theorem allB_list {α : Type} (l : List α) (p : α → Bool) (b : Nat → Bool) (h : ∀ k (hk : k < l.length), b k = p l[k]) : allB b l.length = l.all p := by
  rw [Bool.eq_iff_iff]
  constructor
  · intro ha
    refine List.all_eq_true.2 fun x hx => ?_
    obtain ⟨k, hk, rfl⟩ := List.getElem_of_mem hx
    rw [← h k hk]
    exact List.all_eq_true.1 ha k (List.mem_range.2 hk)
  · intro ha
    refine allB_yes fun k hk => ?_
    rw [h k hk]
    exact List.all_eq_true.1 ha _ (List.getElem_mem hk)
set_option maxHeartbeats 16000000 in
set_option maxRecDepth 100000 in
/-- all: what is asked may change the world, as Inv tells; Fin: what is so where it ended early -/
theorem allI_any (kf : FuncId) (fv : Value) (l : List Int) (A : Option Addr) (q : Nat) (b : Nat → Bool) (Inv : Nat → World → Prop) (Fin : World → Prop) (w : World) (hl : l.length ≤ 9223372036854775807) (hk : ∀ args w, (callFunc kf args).run Try.prog w = .ok (.enter kf args) w)
    (hrow : ∀ k W, Inv k W → LRow W W.heap.size 1 A (ints l))
    (hs : ∀ (k : Nat) (h : k < l.length) (W : World), Inv k W → Calls Try.prog kf #[fv, .int .i64 l[k]] W fun e w' => e = .returned (.bool (b k)) ∧ (b k = true → Inv (k + 1) w') ∧ (b k = false → Fin w'))
    (h0 : Inv 0 w) :
    Calls Try.prog 76 #[.func (.func kf) #[fv] #[], .slice A l.length q] w fun e w' => e = .returned (.bool (allB b l.length)) ∧ (allB b l.length = true → Inv l.length w') ∧ (allB b l.length = false → Fin w') := by
  have HS := Lib.hid hs
  have HR := Lib.hid hrow
  have H0 := Lib.hid h0
  clear hs hrow h0
  go_enter Try.func76, Try.ntmps76
  go_wp2
  go_loopw [9] (fun i wr => ∃ j : Nat, j ≤ l.length ∧ i = .int .i64 j ∧ (∀ k, k < j → b k = true) ∧ Inv j wr) (fun i _ => l.length - (intOf i).toNat)
  case atStart => exact ⟨0, Nat.zero_le _, rfl, fun k h => absurd h (Nat.not_lt_zero _), H0.out⟩
  case round =>
    obtain ⟨j, hj, rfl, ha, hi⟩ := hrel
    have HA := Lib.hid ha
    have HI := Lib.hid hi
    clear ha hi
    by_cases hlt : j < l.length
    · obtain ⟨bb, o, rfl, hb, hc⟩ := LRow_one (HR.out j wr HI.out) (k := j) (by simpa [ints] using hlt) (v := .int .i64 l[j]) (by unfold ints; rw [List.getElem_map])
      have HE := Lib.hid (HS.out j hlt wr HI.out)
      have HNO := Lib.hid (fun h => allB_no (b := b) hlt h)
      have HYES : Hid (b j = true → ∀ k, k < j + 1 → b k = true) := fun h k hk => by
        by_cases e : k = j
        · subst e; exact h
        · exact HA.out k (by omega)
      generalize b j = r at *
      cases r with
      | true =>
        have HY := Lib.hid (HYES.out rfl)
        clear HYES HNO
        go_wp2_with fail
        refine HE.out.mono ?_
        rintro e w' ⟨rfl, ht, -⟩
        have HT := Lib.hid (ht (by trivial))
        clear ht HE
        go_wp2
        go_roundw
        case rel => exact ⟨j + 1, by omega, by go_num, HY.out, HT.out⟩
        case measure => simp [intOf]; omega
      | false =>
        have HN := Lib.hid (HNO.out rfl)
        clear HYES HNO
        go_wp2_with fail
        refine HE.out.mono ?_
        rintro e w' ⟨rfl, -, hf⟩
        have HT := Lib.hid (hf (by trivial))
        clear hf HE
        go_wp2
        go_ret
        exact ⟨by rw [HN.out]; rfl, fun h => absurd (HN.out.symm.trans h) (by decide), fun _ => HT.out⟩
    · obtain rfl : j = l.length := by omega
      have HY := Lib.hid (allB_yes HA.out)
      go_wp2
      go_ret
      exact ⟨by rw [HY.out]; rfl, fun _ => HI.out, fun h => absurd (HY.out.symm.trans h) (by decide)⟩
set_option maxHeartbeats 16000000 in
set_option maxRecDepth 100000 in
/-- all: what is asked may change the world, as Inv tells; Fin: what is so where it ended early -/
theorem allC_any (kf : FuncId) (fv : Value) (l : List Clz) (A : Option Addr) (q : Nat) (b : Nat → Bool) (Inv : Nat → World → Prop) (Fin : World → Prop) (w : World) (hl : l.length ≤ 9223372036854775807) (hk : ∀ args w, (callFunc kf args).run Try.prog w = .ok (.enter kf args) w)
    (hrow : ∀ k W, Inv k W → LRow W W.heap.size 1 A (l.map Clz.cells))
    (hs : ∀ (k : Nat) (h : k < l.length) (W : World), Inv k W → Calls Try.prog kf #[fv, .slice l[k].A l[k].l.length l[k].q] W fun e w' => e = .returned (.bool (b k)) ∧ (b k = true → Inv (k + 1) w') ∧ (b k = false → Fin w'))
    (h0 : Inv 0 w) :
    Calls Try.prog 77 #[.func (.func kf) #[fv] #[], .slice A l.length q] w fun e w' => e = .returned (.bool (allB b l.length)) ∧ (allB b l.length = true → Inv l.length w') ∧ (allB b l.length = false → Fin w') := by
  have HS := Lib.hid hs
  have HR := Lib.hid hrow
  have H0 := Lib.hid h0
  clear hs hrow h0
  go_enter Try.func77, Try.ntmps77
  go_wp2
  go_loopw [9] (fun i wr => ∃ j : Nat, j ≤ l.length ∧ i = .int .i64 j ∧ (∀ k, k < j → b k = true) ∧ Inv j wr) (fun i _ => l.length - (intOf i).toNat)
  case atStart => exact ⟨0, Nat.zero_le _, rfl, fun k h => absurd h (Nat.not_lt_zero _), H0.out⟩
  case round =>
    obtain ⟨j, hj, rfl, ha, hi⟩ := hrel
    have HA := Lib.hid ha
    have HI := Lib.hid hi
    clear ha hi
    by_cases hlt : j < l.length
    · obtain ⟨bb, o, rfl, hb, hc⟩ := LRow_one (HR.out j wr HI.out) (k := j) (by simpa using hlt) (v := .slice l[j].A l[j].l.length l[j].q) (by rw [List.getElem_map]; rfl)
      have HE := Lib.hid (HS.out j hlt wr HI.out)
      have HNO := Lib.hid (fun h => allB_no (b := b) hlt h)
      have HYES : Hid (b j = true → ∀ k, k < j + 1 → b k = true) := fun h k hk => by
        by_cases e : k = j
        · subst e; exact h
        · exact HA.out k (by omega)
      generalize b j = r at *
      cases r with
      | true =>
        have HY := Lib.hid (HYES.out rfl)
        clear HYES HNO
        go_wp2_with fail
        refine HE.out.mono ?_
        rintro e w' ⟨rfl, ht, -⟩
        have HT := Lib.hid (ht (by trivial))
        clear ht HE
        go_wp2
        go_roundw
        case rel => exact ⟨j + 1, by omega, by go_num, HY.out, HT.out⟩
        case measure => simp [intOf]; omega
      | false =>
        have HN := Lib.hid (HNO.out rfl)
        clear HYES HNO
        go_wp2_with fail
        refine HE.out.mono ?_
        rintro e w' ⟨rfl, -, hf⟩
        have HT := Lib.hid (hf (by trivial))
        clear hf HE
        go_wp2
        go_ret
        exact ⟨by rw [HN.out]; rfl, fun h => absurd (HN.out.symm.trans h) (by decide), fun _ => HT.out⟩
    · obtain rfl : j = l.length := by omega
      have HY := Lib.hid (allB_yes HA.out)
      go_wp2
      go_ret
      exact ⟨by rw [HY.out]; rfl, fun _ => HI.out, fun h => absurd (HY.out.symm.trans h) (by decide)⟩
set_option maxHeartbeats 16000000 in
set_option maxRecDepth 100000 in
/-- all: what is asked may change the world, as Inv tells; Fin: what is so where it ended early -/
theorem allS_any (kf : FuncId) (fv : Value) (l : List ByteArray) (A : Option Addr) (q : Nat) (b : Nat → Bool) (Inv : Nat → World → Prop) (Fin : World → Prop) (w : World) (hl : l.length ≤ 9223372036854775807) (hk : ∀ args w, (callFunc kf args).run Try.prog w = .ok (.enter kf args) w)
    (hrow : ∀ k W, Inv k W → LRow W W.heap.size 1 A (strs l))
    (hs : ∀ (k : Nat) (h : k < l.length) (W : World), Inv k W → Calls Try.prog kf #[fv, .string l[k]] W fun e w' => e = .returned (.bool (b k)) ∧ (b k = true → Inv (k + 1) w') ∧ (b k = false → Fin w'))
    (h0 : Inv 0 w) :
    Calls Try.prog 73 #[.func (.func kf) #[fv] #[], .slice A l.length q] w fun e w' => e = .returned (.bool (allB b l.length)) ∧ (allB b l.length = true → Inv l.length w') ∧ (allB b l.length = false → Fin w') := by
  have HS := Lib.hid hs
  have HR := Lib.hid hrow
  have H0 := Lib.hid h0
  clear hs hrow h0
  go_enter Try.func73, Try.ntmps73
  go_wp2
  go_loopw [9] (fun i wr => ∃ j : Nat, j ≤ l.length ∧ i = .int .i64 j ∧ (∀ k, k < j → b k = true) ∧ Inv j wr) (fun i _ => l.length - (intOf i).toNat)
  case atStart => exact ⟨0, Nat.zero_le _, rfl, fun k h => absurd h (Nat.not_lt_zero _), H0.out⟩
  case round =>
    obtain ⟨j, hj, rfl, ha, hi⟩ := hrel
    have HA := Lib.hid ha
    have HI := Lib.hid hi
    clear ha hi
    by_cases hlt : j < l.length
    · obtain ⟨bb, o, rfl, hb, hc⟩ := LRow_one (HR.out j wr HI.out) (k := j) (by simpa [strs] using hlt) (v := .string l[j]) (by unfold strs; rw [List.getElem_map])
      have HE := Lib.hid (HS.out j hlt wr HI.out)
      have HNO := Lib.hid (fun h => allB_no (b := b) hlt h)
      have HYES : Hid (b j = true → ∀ k, k < j + 1 → b k = true) := fun h k hk => by
        by_cases e : k = j
        · subst e; exact h
        · exact HA.out k (by omega)
      generalize b j = r at *
      cases r with
      | true =>
        have HY := Lib.hid (HYES.out rfl)
        clear HYES HNO
        go_wp2_with fail
        refine HE.out.mono ?_
        rintro e w' ⟨rfl, ht, -⟩
        have HT := Lib.hid (ht (by trivial))
        clear ht HE
        go_wp2
        go_roundw
        case rel => exact ⟨j + 1, by omega, by go_num, HY.out, HT.out⟩
        case measure => simp [intOf]; omega
      | false =>
        have HN := Lib.hid (HNO.out rfl)
        clear HYES HNO
        go_wp2_with fail
        refine HE.out.mono ?_
        rintro e w' ⟨rfl, -, hf⟩
        have HT := Lib.hid (hf (by trivial))
        clear hf HE
        go_wp2
        go_ret
        exact ⟨by rw [HN.out]; rfl, fun h => absurd (HN.out.symm.trans h) (by decide), fun _ => HT.out⟩
    · obtain rfl : j = l.length := by omega
      have HY := Lib.hid (allB_yes HA.out)
      go_wp2
      go_ret
      exact ⟨by rw [HY.out]; rfl, fun _ => HI.out, fun h => absurd (HY.out.symm.trans h) (by decide)⟩
theorem sets_any (s : ByteArray) (l : Int) (w : World) (hs : s.size ≤ 9223372036854775807) (hl : l ≤ 9223372036854775807) :
    Calls Try.prog 75 #[.string s, .int .i64 l] w fun e w' => e = .returned (.bool (trueM s.data.toList l)) ∧ Below w.heap.size w w' := by
  have T := Lib.hid (true_any s l w hs hl)
  go_enter Try.func75, Try.ntmps75
  go_wp2_with fail
  refine T.out.mono ?_
  rintro e w' ⟨rfl, hb⟩
  go_wp2
  go_ret
  exact ⟨rfl, hb⟩
theorem keeps_any (s : ByteArray) (l : List Int) (A : Option Addr) (q : Nat) (w : World) (hs : s.size ≤ 9223372036854775807) (hl : ∀ x ∈ l, I64 x) (hn : l.length ≤ 9223372036854775807) (hr : LRow w w.heap.size 1 A (ints l)) :
    Calls Try.prog 78 #[.string s, .slice A l.length q] w fun e w' => e = .returned (.bool (holdsM s.data.toList l)) ∧ Below w.heap.size w w' := by
  have T := Lib.hid (holdsM_any s l A q w hs hl hn hr)
  clear hr hl
  go_enter Try.func78, Try.ntmps78
  go_wp2_with fail
  refine T.out.mono ?_
  rintro e w' ⟨rfl, hb⟩
  go_wp2
  go_ret
  exact ⟨rfl, hb⟩
set_option maxHeartbeats 16000000 in
set_option maxRecDepth 100000 in
/-- the state behind a step, built anew -/
theorem pnext_any (v : ByteArray) (L : List Tri) (A : Option Addr) (q : Nat) (w : World) (hv : v.size ≤ 9223372036854775807) (hn : L.length ≤ 1048576) (hf : ∀ t ∈ L, t.fits) (hr : LRow w w.heap.size 3 A (tris L)) :
    Calls Try.prog 108 #[.string v, .slice A L.length q] w fun e w' => e = .returned (sv (bitL (fun i => trueM v.data.toList (L.getD i ⟨0, 0, 0⟩).b) L.length)) ∧ Below w.heap.size w w' := by
  have HR := Lib.hid hr
  have HF := Lib.hid hf
  clear hr hf
  obtain ⟨p, hp⟩ : ∃ p : Nat → Bool, p = fun i => trueM v.data.toList (L.getD i ⟨0, 0, 0⟩).b := ⟨_, rfl⟩
  rw [← hp]
  have HP := Lib.hid hp
  clear hp
  obtain ⟨WB, hWB⟩ : ∃ x, w.alloc (.cells #[.pointer none, .slice none 0 0] 132) = x := ⟨_, rfl⟩
  have hb0 : Below w.heap.size w WB := by rw [← hWB]; exact (Below.refl _ _).alloc (Nat.le_refl _) _
  have hB0 : Lib.IsBuilder 132 5 w.heap.size w.heap.size (Lib.byteCells []) WB := by rw [← hWB]; exact fresh_builder w
  have hs0 : WB.heap.size = w.heap.size + 1 := by rw [← hWB]; simp
  have HS0 := Lib.hid hs0
  go_enter Try.func108, Try.ntmps108
  go_wp2
  clear hWB hs0
  have HB0 := Lib.hid hB0
  clear hB0
  go_loopw [10] (fun i wr => ∃ j : Nat, j ≤ L.length ∧ i = .int .i64 j ∧ Lib.IsBuilder 132 5 w.heap.size w.heap.size (Lib.byteCells (bitL p j)) wr ∧ Below w.heap.size w wr ∧ w.heap.size + 1 ≤ wr.heap.size) (fun i _ => L.length - (intOf i).toNat)
  case atStart => exact ⟨0, Nat.zero_le _, rfl, HB0.out, hb0, by rw [HS0.out]; exact Nat.le_refl _⟩
  case round =>
    obtain ⟨j, hj, rfl, hB, hbel, hsz1⟩ := hrel
    have hsz := hbel.size
    have HBR := Lib.hid hB
    have HBL := Lib.hid hbel
    have HZR := Lib.hid hsz1
    clear hB hbel hsz1
    by_cases hlt : j < L.length
    · obtain ⟨b0, o, rfl, hbb, c0, c1, c2⟩ := ((HR.out).below HBL.out).tri hlt
      have HSN := Lib.hid (bitL_snoc p j)
      have hpj : p j = trueM v.data.toList L[j].b := by rw [HP.out]; show trueM _ (L.getD j _).b = _; rw [List.getD_eq_getElem?_getD, List.getElem?_eq_getElem hlt]; rfl
      obtain ⟨wt, hwt⟩ : ∃ x, wr.alloc (.cells #[.int .i64 L[j].a, .int .i64 L[j].b, .int .i64 L[j].c] 39) = x := ⟨_, rfl⟩
      have bt : Below wr.heap.size wr wt := by rw [← hwt]; exact (Below.refl _ _).alloc (Nat.le_refl _) _
      have KT : wt.heap[wr.heap.size]? = some (.cells #[.int .i64 L[j].a, .int .i64 L[j].b, .int .i64 L[j].c] 39 (0, 0)) := by rw [← hwt]; exact Array.getElem?_push_size
      obtain ⟨r0, r1, r2⟩ := two_cells KT
      have HT := Lib.hid (sets_any v L[j].b wt hv (HF.out _ (List.getElem_mem hlt)).2.1.2)
      have HBT := Lib.hid (builder_keep HBR.out bt)
      have HB1 : Hid (Below w.heap.size w wt) := HBL.out.trans (bt.mono hsz)
      have ht1 := bt.size
      rw [← hpj] at HT
      clear KT bt HBR hpj
      generalize L[j] = t at *
      generalize hq : p j = r at *
      go_wp2_with fail
      refine HT.out.mono ?_
      rintro e w1 ⟨rfl, hb1⟩
      have HB2 := Lib.hid (builder_keep HBT.out hb1)
      have HBE : Hid (Below w.heap.size w w1) := HB1.out.trans (hb1.mono HB1.out.size)
      have hsz1 := HBE.out.size
      have hz1 := hb1.size
      have HZ1 : Hid (w.heap.size + 1 ≤ w1.heap.size) := by have := HZR.out; unfold Hid; omega
      clear HT hb1 HBT HB1
      have hlen : (Lib.byteCells (bitL p j)).length + 1 ≤ 140737488355328 := by rw [byteCells_len, bitL_len]; omega
      cases r
      · have WR := Lib.hid (Bld.write_byte w.heap.size w.heap.size _ 48 w1 HB2.out hlen hsz1)
        clear hlen hwt r0 r1 r2 c0 c1 c2
        go_wp2_with fail
        refine WR.out.mono ?_
        rintro e w2 ⟨rfl, hb2, hbe2⟩
        have HB3 : Hid (Lib.IsBuilder 132 5 w.heap.size w.heap.size (Lib.byteCells (bitL p (j + 1))) w2) := by
          unfold Hid
          rw [HSN.out, byteCells_snoc]; exact .inr hb2
        have HBF : Hid (Below w.heap.size w w2) := HBE.out.trans hbe2
        have HZ2 : Hid (w.heap.size + 1 ≤ w2.heap.size) := Nat.le_trans HZ1.out hbe2.size
        clear hb2 hbe2 WR HB2
        go_wp2
        go_roundw
        case rel => exact ⟨j + 1, by omega, by go_num, HB3.out, HBF.out, HZ2.out⟩
        case measure => simp [intOf]; omega
      · have WR := Lib.hid (Bld.write_byte w.heap.size w.heap.size _ 49 w1 HB2.out hlen hsz1)
        clear hlen hwt r0 r1 r2 c0 c1 c2
        go_wp2_with fail
        refine WR.out.mono ?_
        rintro e w2 ⟨rfl, hb2, hbe2⟩
        have HB3 : Hid (Lib.IsBuilder 132 5 w.heap.size w.heap.size (Lib.byteCells (bitL p (j + 1))) w2) := by
          unfold Hid
          rw [HSN.out, byteCells_snoc]; exact .inr hb2
        have HBF : Hid (Below w.heap.size w w2) := HBE.out.trans hbe2
        have HZ2 : Hid (w.heap.size + 1 ≤ w2.heap.size) := Nat.le_trans HZ1.out hbe2.size
        clear hb2 hbe2 WR HB2
        go_wp2
        go_roundw
        case rel => exact ⟨j + 1, by omega, by go_num, HB3.out, HBF.out, HZ2.out⟩
        case measure => simp [intOf]; omega
    · obtain rfl : j = L.length := by omega
      go_wp2_with fail
      refine (Try.Builder_String_any w.heap.size w.heap.size (bitL p L.length) _ HBR.out hsz).mono ?_
      rintro e w' ⟨rfl, hb⟩
      go_wp2_with fail
      go_ret
      exact ⟨rfl, HBL.out.trans hb⟩
/-- a path's box -/
def pathC (c : Cir) (s : Places) (A : Option Addr) (n q : Nat) (st la : ByteArray) : Array Value := #[.int .i64 c.max, .slice s.ai c.ins.length s.ki, .slice s.al c.lats.length s.kl, .slice s.ao c.outs.length s.ko, .slice s.ab c.bads.length s.kb, .slice s.ac c.invs.length s.kc, .slice s.aa c.ands.length s.ka, .slice s.an c.names.length s.kn, .slice A n q, .string st, .string la]
def PathAt (w : World) (P : Nat) (c : Cir) (s : Places) (A : Option Addr) (n q : Nat) (st la : ByteArray) : Prop := w.heap[P]? = some (.cells (pathC c s A n q st la) 100 (0, 0))
theorem PathAt.below {w w' : World} {P : Nat} {c : Cir} {s : Places} {A : Option Addr} {n q : Nat} {st la : ByteArray} (h : PathAt w P c s A n q st la) (hb : Below w.heap.size w w') : PathAt w' P c s A n q st la := (hb.block P (lt_of_block h)).trans h
theorem cells11 {w : World} {P : Nat} {c : Cir} {s : Places} {A : Option Addr} {n q : Nat} {st la : ByteArray} (h : PathAt w P c s A n q st la) : w.cell? ⟨P, 0, none⟩ = some (.int .i64 c.max) ∧ w.cell? ⟨P, 1, none⟩ = some (.slice s.ai c.ins.length s.ki) ∧ w.cell? ⟨P, 2, none⟩ = some (.slice s.al c.lats.length s.kl) ∧ w.cell? ⟨P, 3, none⟩ = some (.slice s.ao c.outs.length s.ko) ∧ w.cell? ⟨P, 4, none⟩ = some (.slice s.ab c.bads.length s.kb) ∧ w.cell? ⟨P, 5, none⟩ = some (.slice s.ac c.invs.length s.kc) ∧ w.cell? ⟨P, 6, none⟩ = some (.slice s.aa c.ands.length s.ka) ∧ w.cell? ⟨P, 7, none⟩ = some (.slice s.an c.names.length s.kn) ∧ w.cell? ⟨P, 8, none⟩ = some (.slice A n q) ∧ w.cell? ⟨P, 9, none⟩ = some (.string st) ∧ w.cell? ⟨P, 10, none⟩ = some (.string la) := by
  have e : ∀ i, w.cell? ⟨P, i, none⟩ = (pathC c s A n q st la)[i]? := fun i => by unfold PathAt at h; simp [World.cell?, h]
  exact ⟨e 0, e 1, e 2, e 3, e 4, e 5, e 6, e 7, e 8, e 9, e 10⟩
set_option maxRecDepth 100000 in
theorem takes_any (P : Nat) (c : Cir) (s : Places) (A : Option Addr) (n q : Nat) (st la inp : ByteArray) (w : World) (h : PathAt w P c s A n q st la) :
    Calls Try.prog 107 #[.pointer (some ⟨P, 0, none⟩), .string inp] w fun e w' => e = .returned (.bool (bitsM inp (c.ins.length : Int))) ∧ Below w.heap.size w w' := by
  have T := Lib.hid (bits_text inp (c.ins.length : Int) w)
  obtain ⟨e0, e1, e2, e3, e4, e5, e6, e7, e8, e9, e10⟩ := cells11 h
  clear h
  go_enter Try.func107, Try.ntmps107
  go_wp2_with fail
  refine T.out.mono ?_
  rintro e w' ⟨rfl, hb⟩
  clear e0 e1 e2 e3 e4 e5 e6 e7 e8 e9 e10
  go_wp2
  go_ret
  exact ⟨rfl, hb⟩
end Go.Proofs.Ytfglgapocmnfpaa.Rep
namespace Go.Proofs.Ytfglgapocmnfpaa.Rep
open Go.ChangeShapes Go.WideShapes Go.ChangeAt Go.RowKit Go.Maps Circ Cw
open Str Sim

theorem allI_sets (v : ByteArray) (l : List Int) (A : Option Addr) (q : Nat) (w : World) (hv : v.size ≤ 9223372036854775807) (hI : ∀ x ∈ l, I64 x) (hl : l.length ≤ 9223372036854775807) (hr : LRow w w.heap.size 1 A (ints l)) :
    Calls Try.prog 76 #[.func (.func 75) #[.string v] #[], .slice A l.length q] w fun e w' => e = .returned (.bool (l.all (trueM v.data.toList))) ∧ Below w.heap.size w w' := by
  have EV : ∀ args w, (callFunc 75 args).run Try.prog w = .ok (.enter 75 args) w := enters_of Try.func75 (by kernel_rfl) rfl
  refine (allI_any 75 (.string v) l A q (fun k => trueM v.data.toList (l.getD k 0)) (fun _ W => Below w.heap.size w W) (fun W => Below w.heap.size w W) w hl EV (fun k W hW => (hr.below hW).more hW.size) (fun k hk W hW => ?_) (Below.refl _ _)).mono ?_
  · have e : l.getD k 0 = l[k] := by rw [List.getD_eq_getElem?_getD, List.getElem?_eq_getElem hk]; rfl
    refine (sets_any v l[k] W hv (hI _ (List.getElem_mem hk)).2).mono ?_
    rintro e' w' ⟨rfl, hb⟩
    show _ = Ending.returned (.bool (trueM v.data.toList (l.getD k 0))) ∧ _
    rw [e]
    exact ⟨rfl, fun _ => hW.trans (hb.mono hW.size), fun _ => hW.trans (hb.mono hW.size)⟩
  · rintro e w' ⟨rfl, h1, h2⟩
    rw [allB_list l (trueM v.data.toList) _ (fun k hk => by show trueM _ (l.getD k 0) = _; rw [List.getD_eq_getElem?_getD, List.getElem?_eq_getElem hk]; rfl)] at h1 h2 ⊢
    refine ⟨rfl, ?_⟩
    cases hq : l.all (trueM v.data.toList) with
    | true => exact h1 hq
    | false => exact h2 hq
theorem allC_keeps (v : ByteArray) (L : List Clz) (A : Option Addr) (q : Nat) (w : World) (hv : v.size ≤ 9223372036854775807) (hr : ALies w w.heap.size A L) :
    Calls Try.prog 77 #[.func (.func 78) #[.string v] #[], .slice A L.length q] w fun e w' => e = .returned (.bool ((L.map Clz.l).all (holdsM v.data.toList))) ∧ Below w.heap.size w w' := by
  have EV : ∀ args w, (callFunc 78 args).run Try.prog w = .ok (.enter 78 args) w := enters_of Try.func78 (by kernel_rfl) rfl
  refine (allC_any 78 (.string v) L A q (fun k => holdsM v.data.toList (L.getD k default).l) (fun _ W => Below w.heap.size w W) (fun W => Below w.heap.size w W) w hr.len EV (fun k W hW => ((hr.below hW).more hW.size).row) (fun k hk W hW => ?_) (Below.refl _ _)).mono ?_
  · have e : L.getD k default = L[k] := by rw [List.getD_eq_getElem?_getD, List.getElem?_eq_getElem hk]; rfl
    have hz := ((hr.below hW).more hW.size).each _ (List.getElem_mem hk)
    refine (keeps_any v L[k].l L[k].A L[k].q W hv hz.fits hz.len hz.row).mono ?_
    rintro e' w' ⟨rfl, hb⟩
    show _ = Ending.returned (.bool (holdsM v.data.toList (L.getD k default).l)) ∧ _
    rw [e]
    exact ⟨rfl, fun _ => hW.trans (hb.mono hW.size), fun _ => hW.trans (hb.mono hW.size)⟩
  · rintro e w' ⟨rfl, h1, h2⟩
    rw [List.all_map]
    rw [allB_list L (holdsM v.data.toList ∘ Clz.l) _ (fun k hk => by show holdsM _ (L.getD k default).l = _; rw [List.getD_eq_getElem?_getD, List.getElem?_eq_getElem hk]; rfl)] at h1 h2 ⊢
    refine ⟨rfl, ?_⟩
    cases hq : L.all (holdsM v.data.toList ∘ Clz.l) with
    | true => exact h1 hq
    | false => exact h2 hq
theorem allS_takes (P : Nat) (c : Cir) (s : Places) (A : Option Addr) (n q : Nat) (st la : ByteArray) (l : List ByteArray) (AI : Option Addr) (qi : Nat) (w : World) (h : PathAt w P c s A n q st la) (hr : SLies w w.heap.size AI l) :
    Calls Try.prog 73 #[.func (.func 107) #[.pointer (some ⟨P, 0, none⟩)] #[], .slice AI l.length qi] w fun e w' => e = .returned (.bool (l.all (fun i => bitsM i (c.ins.length : Int)))) ∧ Below w.heap.size w w' := by
  have EV : ∀ args w, (callFunc 107 args).run Try.prog w = .ok (.enter 107 args) w := enters_of Try.func107 (by kernel_rfl) rfl
  refine (allS_any 107 (.pointer (some ⟨P, 0, none⟩)) l AI qi (fun k => bitsM (l.getD k default) (c.ins.length : Int)) (fun _ W => Below w.heap.size w W) (fun W => Below w.heap.size w W) w hr.len EV (fun k W hW => ((hr.below hW).more hW.size).row) (fun k hk W hW => ?_) (Below.refl _ _)).mono ?_
  · have e : l.getD k default = l[k] := by rw [List.getD_eq_getElem?_getD, List.getElem?_eq_getElem hk]; rfl
    refine (takes_any P c s A n q st la l[k] W (h.below hW)).mono ?_
    rintro e' w' ⟨rfl, hb⟩
    show _ = Ending.returned (.bool (bitsM (l.getD k default) (c.ins.length : Int))) ∧ _
    rw [e]
    exact ⟨rfl, fun _ => hW.trans (hb.mono hW.size), fun _ => hW.trans (hb.mono hW.size)⟩
  · rintro e w' ⟨rfl, h1, h2⟩
    rw [allB_list l (fun i => bitsM i (c.ins.length : Int)) _ (fun k hk => by show bitsM (l.getD k default) _ = _; rw [List.getD_eq_getElem?_getD, List.getElem?_eq_getElem hk]; rfl)] at h1 h2 ⊢
    refine ⟨rfl, ?_⟩
    cases hq : l.all (fun i => bitsM i (c.ins.length : Int)) with
    | true => exact h1 hq
    | false => exact h2 hq
set_option maxHeartbeats 16000000 in
set_option maxRecDepth 100000 in
/-- the program's Allowed, of whatever values -/
theorem pallowed_any (c : Cir) (s : Places) (L : List Clz) (A : Option Addr) (q : Nat) (v : ByteArray) (w : World) (h : CLies w w.heap.size c s) (hf : CFits c s) (hv : v.size ≤ 9223372036854775807) (ha : ALies w w.heap.size A L) :
    Calls Try.prog 38 #[cirV c s, .slice A L.length q, .string v] w fun e w' => e = .returned (.bool (allowedM c (L.map Clz.l) v.data.toList)) ∧ Below w.heap.size w w' := by
  have hmf : ∀ (fn : Fn) (first cap : Array Value) (w : World), (Instr.makeFunc fn first cap).run Try.prog w = .ok (.func fn first cap) w := fun _ _ _ _ => rfl
  obtain ⟨WA, hWA⟩ : ∃ x, w.alloc (.cells #[.int .i64 c.max, .slice s.ai c.ins.length s.ki, .slice s.al c.lats.length s.kl, .slice s.ao c.outs.length s.ko, .slice s.ab c.bads.length s.kb, .slice s.ac c.invs.length s.kc, .slice s.aa c.ands.length s.ka, .slice s.an c.names.length s.kn] 27) = x := ⟨_, rfl⟩
  have bA : Hid (Below w.heap.size w WA) := by unfold Hid; rw [← hWA]; exact (Below.refl _ _).alloc (Nat.le_refl _) _
  have GA : Hid (WA.heap[w.heap.size]? = some (.cells (cirC c s) 27 (0, 0))) := by unfold Hid; rw [← hWA]; exact Array.getElem?_push_size
  obtain ⟨e0, e1, e2, e3, e4, e5, e6, e7⟩ := cells8 GA.out
  have K1 := Lib.hid (allI_sets v c.invs s.ac s.kc WA hv hf.invs (by have := hf.lc; omega) (((h.below bA.out).more bA.out.size).invs))
  have K2 := Lib.hid (fun x (hx : Below w.heap.size w x) => allC_keeps v L A q x hv ((ha.below hx).more hx.size))
  have HD : Hid (allowedM c (L.map Clz.l) v.data.toList = (c.invs.all (trueM v.data.toList) && (L.map Clz.l).all (holdsM v.data.toList))) := rfl
  rw [HD.out]
  clear h hf ha HD
  generalize (L.map Clz.l).all (holdsM v.data.toList) = b2 at *
  generalize c.invs.all (trueM v.data.toList) = b1 at *
  unfold cirV
  rw [show cirC c s = #[.int .i64 c.max, .slice s.ai c.ins.length s.ki, .slice s.al c.lats.length s.kl, .slice s.ao c.outs.length s.ko, .slice s.ab c.bads.length s.kb, .slice s.ac c.invs.length s.kc, .slice s.aa c.ands.length s.ka, .slice s.an c.names.length s.kn] from rfl]
  cases b1 with
  | false =>
    clear K2
    go_enter Try.func38, Try.ntmps38
    go_wp2_with fail
    refine K1.out.mono ?_
    rintro e w1 ⟨rfl, hb⟩
    have BF : Hid (Below w.heap.size w w1) := bA.out.trans (hb.mono bA.out.size)
    clear e0 e1 e2 e3 e4 e5 e6 e7 hWA K1 hb
    go_wp2
    go_ret
    exact ⟨rfl, BF.out⟩
  | true =>
    go_enter Try.func38, Try.ntmps38
    go_wp2_with fail
    refine K1.out.mono ?_
    rintro e w1 ⟨rfl, hb⟩
    have B1 : Hid (Below w.heap.size w w1) := bA.out.trans (hb.mono bA.out.size)
    clear e0 e1 e2 e3 e4 e5 e6 e7 hWA K1 hb
    go_wp2_with fail
    refine (K2.out w1 B1.out).mono ?_
    rintro e w2 ⟨rfl, hb⟩
    have BF : Hid (Below w.heap.size w w2) := B1.out.trans (hb.mono B1.out.size)
    clear K2 hb
    go_wp2
    go_ret
    exact ⟨by simp, BF.out⟩
set_option maxHeartbeats 16000000 in
set_option maxRecDepth 100000 in
theorem fits_any (P : Nat) (c : Cir) (s : Places) (A : Option Addr) (n q : Nat) (st la : ByteArray) (l : List ByteArray) (AI : Option Addr) (qi : Nat) (w : World) (h : PathAt w P c s A n q st la) (hr : SLies w w.heap.size AI l) :
    Calls Try.prog 72 #[.pointer (some ⟨P, 0, none⟩), .slice AI l.length qi] w fun e w' => e = .returned (.bool (bitsM st (c.lats.length : Int) && l.all (fun i => bitsM i (c.ins.length : Int)))) ∧ Below w.heap.size w w' := by
  have hmf : ∀ (fn : Fn) (first cap : Array Value) (w : World), (Instr.makeFunc fn first cap).run Try.prog w = .ok (.func fn first cap) w := fun _ _ _ _ => rfl
  obtain ⟨e0, e1, e2, e3, e4, e5, e6, e7, e8, e9, e10⟩ := cells11 h
  have K1 := Lib.hid (fun (u : Wd w.heap.size w) => Calls.in_wd u (bits_text st (c.lats.length : Int) u.w) (Nat.le_refl _))
  have K2 := Lib.hid (fun (u : Wd w.heap.size w) => Calls.in_wd u (allS_takes P c s A n q st la l AI qi u.w (h.below u.ok) ((hr.below u.ok).more u.ok.size)) (Nat.le_refl _))
  have u0 := Wd.cell e2
  have u1 := Wd.cell e9
  clear h hr e0 e1 e2 e3 e4 e5 e6 e7 e8 e9 e10
  generalize bitsM st (c.lats.length : Int) = b1 at *
  generalize l.all (fun i => bitsM i (c.ins.length : Int)) = b2 at *
  cases b1 with
  | false =>
    go_enter Try.func72, Try.ntmps72
    go_wp2
    refine wp_region_wd (by kernel_rfl) (by kernel_rfl) ?_
    repeat (first | go_big_quiet_skip | (go_big_quiet_want; go_big_quiet_op; first | go_big_quiet_on | (apply Exists.intro; refine ⟨fun u => ?_, ?_⟩; (first | (go_at_call 32; with_reducible exact K1.out u)); go_big_quiet_on)))
    refine wpQuiet_nil ?_
    intro wz9 hw'
    obtain ⟨⟨_, hb9⟩, hw''⟩ := hw'
    subst hw''
    have BF := Lib.hid hb9
    clear hb9 K1 K2 u0 u1
    go_wp2
    go_ret
    exact ⟨rfl, BF.out⟩
  | true =>
    go_enter Try.func72, Try.ntmps72
    go_wp2
    refine wp_region_wd (by kernel_rfl) (by kernel_rfl) ?_
    repeat (first | go_big_quiet_skip | (go_big_quiet_want; go_big_quiet_op; first | go_big_quiet_on | (apply Exists.intro; refine ⟨fun u => ?_, ?_⟩; (first | (go_at_call 32; with_reducible exact K1.out u) | (go_at_call 73; with_reducible exact K2.out u)); go_big_quiet_on)))
    refine wpQuiet_nil ?_
    intro wz9 hw'
    obtain ⟨⟨_, hb9⟩, hw''⟩ := hw'
    subst hw''
    have BF := Lib.hid hb9
    clear hb9 K1 K2 u0 u1
    go_wp2
    go_ret
    exact ⟨by simp, BF.out⟩
end Go.Proofs.Ytfglgapocmnfpaa.Rep
