/- The program's Check and True; no condition but that lists and texts are as long as Go's may be. -/
import Derived.Test.YtefbknpoehmfaaaPb14
import Derived.Test.YtefbknpoehmfaaaPb15
namespace Go.Proofs.Ytefbknpoehmfaaa.For
open Go.ChangeShapes Go.WideShapes Go.ChangeAt Go.RowKit Go.Maps Go.Shelf Circ Cw Cla Rep

set_option maxHeartbeats 8000000 in
set_option maxRecDepth 100000 in
theorem fcheck_any (vars : Int) (L : List Clz) (A : Option Addr) (q : Nat) (w : World) (hA : ALies w w.heap.size A L) :
    Calls Try.prog 11 #[forV vars A L.length q] w fun e w' => e = .returned (.int .i64 (formM vars (L.map Clz.l))) ∧ Below w.heap.size w w' := by
  have hmf : ∀ (fn : Fn) (first cap : Array Value) (w : World), (Instr.makeFunc fn first cap).run Try.prog w = .ok (.func fn first cap) w := fun _ _ _ _ => rfl
  obtain ⟨WA, hWA⟩ : ∃ x, w.alloc (.cells #[.int .i64 vars, .slice A L.length q] 24) = x := ⟨_, rfl⟩
  have bA : Below w.heap.size w WA := by rw [← hWA]; exact (Below.refl _ _).alloc (Nat.le_refl _) _
  have sA : WA.heap.size = w.heap.size + 1 := by rw [← hWA]; simp
  obtain ⟨WB, hWB⟩ : ∃ x, WA.alloc (.cells #[.int .i64 0] 26) = x := ⟨_, rfl⟩
  have bB : Below WA.heap.size WA WB := by rw [← hWB]; exact (Below.refl _ _).alloc (Nat.le_refl _) _
  have sB : WB.heap.size = w.heap.size + 2 := by rw [← hWB]; simp [sA]
  have gA : WA.heap[w.heap.size]? = some (.cells #[.int .i64 vars, .slice A L.length q] 24 (0, 0)) := by rw [← hWA]; exact Array.getElem?_push_size
  have gB : WB.heap[w.heap.size]? = some (.cells #[.int .i64 vars, .slice A L.length q] 24 (0, 0)) := (bB.block _ (by omega)).trans gA
  have rB : WB.heap[w.heap.size + 1]? = some (.cells #[.int .i64 0] 26 (0, 0)) := by rw [← hWB, ← sA]; exact Array.getElem?_push_size
  have BB : Hid (Below w.heap.size w WB) := bA.trans (bB.mono (by omega))
  have SB := Lib.hid sB
  have RB := Lib.hid rB
  have NF := Lib.hid (needform_any vars L A q WB ((hA.below BB.out).more (by omega)))
  have HV : Hid (formM vars (L.map Clz.l) = 0 ∨ formM vars (L.map Clz.l) = 9) := by
    unfold Hid formM
    split
    · exact .inr rfl
    · split
      · exact .inr rfl
      · split
        · exact .inr rfl
        · split
          · exact .inl rfl
          · exact .inr rfl
  have hll := hA.len
  obtain ⟨e0, e1⟩ := cells2 gB
  have el : (WA.alloc (.cells #[.int .i64 0] 26)).heap[w.heap.size]? = some (.cells #[.int .i64 vars, .slice A L.length q] 24 (0, 0)) := by rw [hWB]; exact gB
  generalize formM vars (L.map Clz.l) = y at *
  unfold forV at *
  have SA := Lib.hid sA
  clear hA bA bB gA gB rB sB sA el e0 e1
  subst hWB
  subst hWA
  go_enter_defers Try.func11, Try.ntmps11
  go_wp2_with fail
  refine NF.out.mono ?_
  rintro e w1 ⟨he, hb⟩
  have B1 : Hid (Below w.heap.size w w1) := BB.out.trans (hb.mono (by rw [SB.out]; omega))
  have r1 : w1.heap[w.heap.size + 1]? = some (.cells #[.int .i64 0] 26 (0, 0)) := (hb.block _ (by rw [SB.out]; omega)).trans RB.out
  have hcr : w1.cell? ⟨w.heap.size + 1, 0, none⟩ = some (.int .i64 0) := by simp [World.cell?, r1]
  have hfr : w1.frozen? ⟨w.heap.size + 1, 0, none⟩ = false := by simp [World.frozen?, r1]
  rcases HV.out with hy | hy
  · subst hy
    have he' : e = .returned (.tuple #[]) := he
    subst he'
    have hcs := World.cell?_setCell_same' w1 ⟨w.heap.size + 1, 0, none⟩ (.int .i64 0) (by rw [hcr]; rfl)
    clear he hb NF HV
    go_wp2
    refine leaves_cons (f := 36) (args := #[.pointer (some ⟨w.heap.size + 1, 0, none⟩)]) (by simp) (by simp [go_sem]) ?_
    refine (ccatch_idle ⟨w.heap.size + 1, 0, none⟩ _).mono ?_
    rintro e u' w'' ⟨rfl, rfl, rfl⟩
    simp [Leaves, settle, results, Try.results11, go_sem, hcs]
    exact B1.out.setCell (by simp) _
  · subst hy
    have he' : e = .panicked (faultI 9) := he
    subst he'
    have hcs := World.cell?_setCell_same' w1 ⟨w.heap.size + 1, 0, none⟩ (.int .i64 9) (by rw [hcr]; rfl)
    clear he hb NF HV
    go_wp2
    refine leaves_cons (f := 36) (args := #[.pointer (some ⟨w.heap.size + 1, 0, none⟩)]) (by simp) (by simp [go_sem]) ?_
    refine (ccatch_panicking ⟨w.heap.size + 1, 0, none⟩ 9 0 _ hcr hfr).mono ?_
    rintro e u' w'' ⟨rfl, rfl, rfl⟩
    simp [Leaves, settle, results, Try.results11, go_sem, hcs]
    exact B1.out.setCell (by simp) _
theorem bits1_at (w : World) : PredAt Try.prog 51 #[] encR Sim.otherR w := fun W r _ => by
  unfold FnGives encR
  show Calls Try.prog 51 #[.int .i32 (r : Int)] W _
  by_cases h : r = 48
  · subst h
    go_enter Try.func51, Try.ntmps51
    go_wp2
    go_ret
    exact ⟨rfl, 0, rfl⟩
  · have e : Sim.otherR r = (((r : Nat) : Int) != 49) := by
      unfold Sim.otherR
      rw [Bool.eq_iff_iff]
      simp only [Bool.and_eq_true, bne_iff_ne, decide_eq_true_eq]
      omega
    rw [e]
    have h1 : (((r : Nat) : Int) != 48) = true := by simp; omega
    go_enter Try.func51, Try.ntmps51
    go_wp2
    go_ret
    exact ⟨rfl, 0, rfl⟩
theorem sbits_any (s : ByteArray) (n : Int) (w : World) :
    Calls Try.prog 38 #[.string s, .int .i64 n] w fun e w' => e = .returned (.bool (Sim.bitsM s n)) ∧ Below w.heap.size w w' := by
  have EV : ∀ args w, (callFunc 51 args).run Try.prog w = .ok (.enter 51 args) w := enters_of Try.func51 (by kernel_rfl) rfl
  have CF := Lib.hid (Try.strings_ContainsFunc 51 #[] EV Sim.otherR s w (bits1_at w))
  rw [Sim.idx_bits] at CF
  unfold Sim.bitsM
  generalize s.data.toList.all Sim.isBit = q at *
  clear EV
  by_cases h : (s.size : Int) = n
  · subst h
    go_enter Try.func38, Try.ntmps38
    go_wp2_with fail
    refine CF.out.mono ?_
    rintro e w' ⟨rfl, hb⟩
    go_wp2
    go_ret
    exact ⟨by simp, hb⟩
  · have hb : ((s.size : Int) == n) = false := beq_eq_false_iff_ne.2 h
    go_enter Try.func38, Try.ntmps38
    go_wp2
    go_ret
    exact ⟨by simp [h], Below.refl _ _⟩
set_option maxHeartbeats 4000000 in
set_option maxRecDepth 100000 in
theorem sets_any (m : ByteArray) (x : Int) (w : World) (hx : I64 x) (hm : m.size ≤ 9223372036854775807) :
    Calls Try.prog 54 #[.string m, .int .i64 x] w fun e w' => e = .returned (.bool (isM m x)) ∧ w' = w := by
  have HV := Lib.hid (have_any (m.size : Int) x w hx)
  have VA := Lib.hid (var_any x w)
  rw [varW_abs hx] at VA
  have HI : Hid (isM m x = (litOk (m.size : Int) x && (decide ((m.data.toList.getD (absW x - 1).toNat 0).toNat = 49) == decide (0 < x)))) := by
    unfold Hid isM litOk
    rw [Bool.and_assoc]
  rw [HI.out]
  by_cases hl : litOk (m.size : Int) x = true
  · obtain ⟨h1, h2⟩ := (lit_iff _ _).1 hl
    rw [hl, Bool.true_and]
    rw [hl] at HV
    obtain ⟨k, hk⟩ : ∃ k : Nat, absW x = (k : Int) + 1 := ⟨(absW x - 1).toNat, by omega⟩
    have hkm : k < m.size := by omega
    have e1 : m.data.toList.getD (absW x - 1).toNat 0 = m[k]'hkm := by
      have hl : k < m.data.toList.length := by rw [Array.length_toList]; exact hkm
      rw [hk, show ((k : Int) + 1 - 1).toNat = k from by omega, List.getD_eq_getElem?_getD, List.getElem?_eq_getElem hl, Option.getD_some, Array.getElem_toList]; rfl
    rw [e1]
    have hk0 : (0 : Int) ≤ (k : Int) := by omega
    have hkz : (k : Int) < (m.size : Int) := by omega
    have hsub : (k : Int) + 1 - 1 = (k : Int) := by omega
    have HE : Hid (decide ((m[k]'hkm).toNat = 49) = (((m[k]'hkm).toNat : Int) == 49)) := by
      unfold Hid
      rw [Bool.eq_iff_iff, decide_eq_true_eq, beq_iff_eq]; omega
    rw [HE.out]
    rw [hk] at VA
    clear hx h1 h2 hk e1 HE HI hl
    go_enter Try.func54, Try.ntmps54
    go_wp2_with fail
    refine HV.out.mono ?_
    rintro e w' ⟨rfl, rfl⟩
    go_wp2_with fail
    refine VA.out.mono ?_
    rintro e w' ⟨rfl, rfl⟩
    go_wp2
    go_ret
    exact ⟨rfl, rfl⟩
  · rw [Bool.not_eq_true] at hl
    rw [hl, Bool.false_and]
    rw [hl] at HV
    clear HI VA
    go_enter Try.func54, Try.ntmps54
    go_wp2_with fail
    refine HV.out.mono ?_
    rintro e w' ⟨rfl, rfl⟩
    go_wp2
    go_ret
    exact ⟨rfl, rfl⟩
set_option maxRecDepth 100000 in
theorem keeps_any (m : ByteArray) (z : Clz) (w : World) (hm : m.size ≤ 9223372036854775807) (h : z.Lies w w.heap.size) :
    Calls Try.prog 40 #[.string m, .slice z.A z.l.length z.q] w fun e w' => e = .returned (.bool (oneM m z.l)) ∧ Below w.heap.size w w' := by
  have CF := Lib.hid (cfF_any (isM m) 54 (.string m) z.l z.A z.q w (enters_of Try.func54 (by kernel_rfl) rfl) (clz_lies h) fun x hx W _ => (sets_any m x W hx hm).mono fun _ _ ⟨h1, h2⟩ => ⟨h1, by rw [h2]; exact Below.refl _ _⟩)
  clear h
  unfold oneM
  generalize z.l.any (isM m) = y at *
  go_enter Try.func40, Try.ntmps40
  go_wp2_with fail
  refine CF.out.mono ?_
  rintro e w' ⟨rfl, hb⟩
  have B3 := Lib.hid hb
  clear hb CF
  go_wp2
  go_ret
  exact ⟨rfl, B3.out⟩
set_option maxHeartbeats 4000000 in
set_option maxRecDepth 100000 in
theorem ftrue_any (vars : Int) (L : List Clz) (A : Option Addr) (q : Nat) (m : ByteArray) (w : World) (hA : ALies w w.heap.size A L) (hm : m.size ≤ 9223372036854775807) :
    Calls Try.prog 13 #[forV vars A L.length q, .string m] w fun e w' => e = .returned (.bool (trueM vars (L.map Clz.l) m)) ∧ Below w.heap.size w w' := by
  obtain ⟨WA, hWA⟩ : ∃ x, w.alloc (.cells #[.int .i64 vars, .slice A L.length q] 24) = x := ⟨_, rfl⟩
  have bA : Below w.heap.size w WA := by rw [← hWA]; exact (Below.refl _ _).alloc (Nat.le_refl _) _
  have gA : WA.heap[w.heap.size]? = some (.cells #[.int .i64 vars, .slice A L.length q] 24 (0, 0)) := by rw [← hWA]; exact Array.getElem?_push_size
  have BT := Lib.hid (sbits_any m vars WA)
  have HA : Hid (∀ W, Below w.heap.size w W → ALies W W.heap.size A L) := fun W hW => (hA.below hW).more hW.size
  have AL := Lib.hid (fun W (hW : Below w.heap.size w W) => allC_any (fun z => oneM m z.l) 40 (.string m) L A q W (enters_of Try.func40 (by kernel_rfl) rfl) (HA.out W hW)
    fun z hz V hV => keeps_any m z V hm (((HA.out W hW).below hV).more hV.size |>.each z hz))
  have HT : Hid (trueM vars (L.map Clz.l) m = (Sim.bitsM m vars && L.all (fun z => oneM m z.l))) := by
    unfold Hid trueM Sim.bitsM
    rw [List.all_map]
    have hb : ∀ c : UInt8, isB c = Sim.isBit c := fun c => by
      unfold isB Sim.isBit
      rfl
    rw [show isB = Sim.isBit from funext hb]
    generalize m.data.toList.all Sim.isBit = a
    show (a && (L.all (fun z => oneM m z.l) && _)) = _
    generalize L.all (fun z => oneM m z.l) = b
    by_cases h : (m.size : Int) = vars
    · simp [h]
    · simp [h]
  rw [HT.out]
  have BA := Lib.hid bA
  have hll := hA.len
  obtain ⟨e0, e1⟩ := cells2 gA
  unfold forV
  clear hA HA HT bA
  generalize L.all (fun z => oneM m z.l) = r at *
  generalize Sim.bitsM m vars = b at *
  cases b with
  | false =>
    rw [Bool.false_and]
    clear AL
    go_enter Try.func13, Try.ntmps13
    go_wp2_with fail
    refine BT.out.mono ?_
    rintro e w1 ⟨rfl, hb⟩
    have B1 : Hid (Below w.heap.size w w1) := BA.out.trans (hb.mono BA.out.size)
    clear hb BT
    go_wp2
    go_ret
    exact ⟨rfl, B1.out⟩
  | true =>
    rw [Bool.true_and]
    go_enter Try.func13, Try.ntmps13
    go_wp2_with fail
    refine BT.out.mono ?_
    rintro e w1 ⟨rfl, hb⟩
    have B1 : Hid (Below w.heap.size w w1) := BA.out.trans (hb.mono BA.out.size)
    have g1 : w1.heap[w.heap.size]? = some (.cells #[.int .i64 vars, .slice A L.length q] 24 (0, 0)) := (hb.block _ (lt_of_block gA)).trans gA
    obtain ⟨f0, f1⟩ := cells2 g1
    have A1 := Lib.hid (AL.out w1 B1.out)
    clear hb BT e0 e1 AL
    go_wp2_with fail
    refine A1.out.mono ?_
    rintro e w2 ⟨rfl, hb⟩
    have B2 : Hid (Below w.heap.size w w2) := B1.out.trans (hb.mono B1.out.size)
    clear hb A1
    go_wp2
    go_ret
    exact ⟨rfl, B2.out⟩
end Go.Proofs.Ytefbknpoehmfaaa.For
