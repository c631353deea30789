/- circuit.Check: what it tells of any circuit; no condition. Lists of numbers that a call makes itself: what appending leaves; no condition. -/
import Derived.Test.YtbgcoeejmnejdaaPt08
import Derived.Recover
import Derived.Maps.AppendAt
import Derived.OwnWalk
namespace Go.Proofs.Ytbgcoeejmnejdaa.Cw
open Go.ChangeShapes Go.WideShapes Go.ChangeAt Go.RowKit Go.Maps Circ

theorem assert71 (w : World) : (Instr.typeAssert (.iface 108 (.agg #[.int .i64 9])) 20 108 false).run Try.prog w = .ok (.agg #[.int .i64 9]) w := by kernel_rfl
theorem field71 (w : World) : (Instr.field 108 (.agg #[.int .i64 9]) 0).run Try.prog w = .ok (.int .i64 9) w := by kernel_rfl

theorem catch_panicking (p : Addr) (x : Int) (w : World) (hc : w.cell? p = some (.int .i64 x)) (hz : w.frozen? p = false) :
    CallsD Try.prog 85 #[.pointer (some p)] (.panicking fault) w fun e u' w' =>
      e = .returned (.tuple #[]) ∧ u' = .panicking [{ v := .iface 108 (.agg #[.int .i64 9]), recovered := true }] ∧ w' = w.setCell p (.int .i64 9) := by
  refine callsD_of_wpS Try.func85 rfl fun c₀ cs hu => ?_
  unfold fault at hu
  apply wpS_seq
  apply wpS_region
  simp [wpOpsS, go_sem, recoverD, hu, Try.ntmps85, Exit.thenS]
  apply wpS_seq
  apply wpS_region
  simp [wpOpsS, go_sem, Exit.thenS]
  refine wpS_cond (t := true) (by simp [Act.eval]) ?_
  simp only [if_true]
  apply wpS_region
  simp [wpOpsS, go_sem, assert71, field71, hc, hz, bodyPostS, results, Try.results85]

theorem catch_idle (p : Addr) (w : World) :
    CallsD Try.prog 85 #[.pointer (some p)] .returning w fun e u' w' => e = .returned (.tuple #[]) ∧ u' = .returning ∧ w' = w := by
  refine callsD_of_wpS Try.func85 rfl fun c₀ cs hu => ?_
  apply wpS_seq
  apply wpS_region
  simp [wpOpsS, go_sem, recoverD, hu, Try.ntmps85, Exit.thenS]
  apply wpS_seq
  apply wpS_region
  simp [wpOpsS, go_sem, Exit.thenS]
  refine wpS_cond (t := false) (by simp [Act.eval]) ?_
  simp only [Bool.false_eq_true, if_false]
  refine wpS_of_wp (wp_skip ?_)
  cases c₀
  simp_all [bodyPostS, results, Try.results85]

/-- what is asked of a circuit whose variables are S -/
def chkIn (S : List Int) (c : Cir) : Bool := c.lats.all (latOk S) && andsOk S c.ands && [c.outs, c.bads, c.invs].all (fun l => l.all (namedOk S)) && namesOk c
def chk (c : Cir) : Bool := sizesOk c && match defAll c.max [0] (own c) with
  | some S => chkIn S c
  | none => false

theorem chk_facts (c : Cir) (s : Places) (w w' : World) (hb : Below (w.heap.size + 2) ((w.alloc (.cells (cirC c s) 27)).alloc (.cells #[.int .i64 0] 30)) w') :
    Below w.heap.size w w' ∧ Box w' w.heap.size c s ∧ w'.cell? ⟨w.heap.size + 1, 0, none⟩ = some (.int .i64 0) ∧ w'.frozen? ⟨w.heap.size + 1, 0, none⟩ = false ∧ w.heap.size + 2 ≤ w'.heap.size := by
  have hb1 : Below w.heap.size w (w.alloc (.cells (cirC c s) 27)) := (Below.refl _ _).alloc (Nat.le_refl _) _
  have hs1 : (w.alloc (.cells (cirC c s) 27)).heap.size = w.heap.size + 1 := by simp
  have hb2 := hb1.alloc hb1.size (.cells #[.int .i64 0] 30)
  have hx := (Box.made w c s).keep ((Below.refl (w.heap.size + 1) _).alloc (Nat.le_of_eq hs1.symm) (.cells #[.int .i64 0] 30)) (Nat.lt_succ_self _)
  have hn := new_cell (w.alloc (.cells (cirC c s) 27)) #[.int .i64 0] 30 0
  rw [hs1] at hn
  refine ⟨hb2.trans (hb.mono (by omega)), hx.keep hb (by omega), ?_, ?_, ?_⟩
  · rw [hb.cell (by show w.heap.size + 1 < w.heap.size + 2; omega)]; exact hn
  · rw [hb.frozen (by show w.heap.size + 1 < w.heap.size + 2; omega)]
    have : ((w.alloc (.cells (cirC c s) 27)).alloc (.cells #[.int .i64 0] 30)).heap[w.heap.size + 1]? = some (.cells #[.int .i64 0] 30) := by
      have := heap_alloc_new (w.alloc (.cells (cirC c s) 27)) (.cells #[.int .i64 0] 30)
      rw [hs1] at this; exact this
    unfold World.frozen?; rw [this]; rfl
  · have := hb.size
    simp at this; omega

theorem lists_at (c : Cir) (s : Places) (w5 w : World) (B : Nat) (hL : CLies w B c s) (hf : CFits c s) (hb : Below (w5.heap.size + 1) (w5.alloc (.cells #[.slice s.ao c.outs.length s.ko, .slice s.ab c.bads.length s.kb, .slice s.ac c.invs.length s.kc] 22)) w) (k : Nat) (hk : k < 3) :
    ∃ (A : Option Addr) (l : List Int) (q : Nat), w.cell? ⟨w5.heap.size, k, none⟩ = some (.slice A l.length q) ∧ ([c.outs, c.bads, c.invs][k]'hk) = l ∧ LRow w B 1 A (ints l) ∧ l.length * 8 ≤ 140737488355328 ∧ ∀ x ∈ l, I64 x := by
  have hc : ∀ i, w.cell? ⟨w5.heap.size, i, none⟩ = (#[.slice s.ao c.outs.length s.ko, .slice s.ab c.bads.length s.kb, .slice s.ac c.invs.length s.kc] : Array Value)[i]? := fun i => by
    rw [hb.cell (by exact Nat.lt_succ_self _), new_cell]
  match k, hk with
  | 0, _ => exact ⟨_, _, _, hc 0, rfl, hL.outs, hf.lo, hf.outs⟩
  | 1, _ => exact ⟨_, _, _, hc 1, rfl, hL.bads, hf.lb, hf.bads⟩
  | 2, _ => exact ⟨_, _, _, hc 2, rfl, hL.invs, hf.lc, hf.invs⟩

/-- the error's number -/
def chkV (c : Cir) : Int := if chk c = true then 0 else 9
theorem chkV_no (c : Cir) (h : chk c = false) : chkV c = 9 := by unfold chkV; rw [h]; rfl
theorem chkV_yes (c : Cir) (h : chk c = true) : chkV c = 0 := by unfold chkV; rw [h]; rfl

theorem chk_of (c : Cir) (S : List Int) (h0 : sizesOk c = true) (h1 : defAll c.max [0] (own c) = some S) : chk c = (c.lats.all (latOk S) && andsOk S c.ands && [c.outs, c.bads, c.invs].all (fun l => l.all (namedOk S)) && namesOk c) := by
  unfold chk; rw [h0, h1]; rfl

set_option maxHeartbeats 4000000 in
set_option maxRecDepth 100000 in
theorem check_any (c : Cir) (s : Places) (w : World) (h : CLies w w.heap.size c s) (hf : CFits c s) :
    Calls Try.prog 44 #[cirV c s] w fun e w' => e = .returned (.int .i64 (chkV c)) ∧ Below w.heap.size w w' := by
  have hmf : ∀ (fn : Fn) (first cap : Array Value) (w : World), (Instr.makeFunc fn first cap).run Try.prog w = .ok (.func fn first cap) w := fun _ _ _ _ => rfl
  have SZ := Lib.hid (fun w => sizes_any c s w)
  have DF := Lib.hid (fun w h => defined_any c s w h hf)
  have LT := Lib.hid (fun g B S w h hh => lats_any c s g B S w h hf hh)
  have AN := Lib.hid (fun g B S w h hh => ands_any c s g B S w h hf hh)
  have NM := Lib.hid (fun w h => names_any c s w h hf)
  have H := Lib.hid h
  have HF := Lib.hid hf
  clear h hf
  unfold cirV at *
  rw [show cirC c s = #[.int .i64 c.max, .slice s.ai c.ins.length s.ki, .slice s.al c.lats.length s.kl, .slice s.ao c.outs.length s.ko, .slice s.ab c.bads.length s.kb, .slice s.ac c.invs.length s.kc, .slice s.aa c.ands.length s.ka, .slice s.an c.names.length s.kn] from rfl] at *
  go_enter_defers Try.func44, Try.ntmps44
  go_wp2_with fail
  refine (SZ.out _).mono ?_
  rintro e w1 ⟨he, hb⟩
  have hb1 : Below (w.heap.size + 2) ((w.alloc (.cells (cirC c s) 27)).alloc (.cells #[.int .i64 0] 30)) w1 := hb.mono (by simp)
  clear hb
  cases h0 : sizesOk c
  · have he' : e = .panicked fault := by rw [he, h0]; rfl
    clear he
    subst he'
    obtain ⟨hbw, -, hcr, hfr, -⟩ := chk_facts c s w _ hb1
    have hcs := World.cell?_setCell_same' _ ⟨w.heap.size + 1, 0, none⟩ (.int .i64 9) (by rw [hcr]; rfl)
    have HE : Hid (chk c = false) := (by unfold chk; rw [h0]; rfl : chk c = false)
    go_wp2
    refine leaves_cons (f := 85) (args := #[.pointer (some ⟨w.heap.size + 1, 0, none⟩)]) (by simp) (by simp [go_sem]) ?_
    refine (catch_panicking ⟨w.heap.size + 1, 0, none⟩ 0 _ hcr hfr).mono ?_
    rintro e u' w'' ⟨rfl, rfl, rfl⟩
    simp [Leaves, settle, results, Try.results44, go_sem, hcs]
    exact ⟨(chkV_no c HE.out).symm, hbw.setCell (by simp) _⟩
  have he' : e = .returned (.tuple #[]) := by rw [he, h0]; rfl
  clear he
  subst he'
  obtain ⟨hbw1, bx1, -, -, hz1⟩ := chk_facts c s w _ hb1
  obtain ⟨e0, e1, e2, e3, e4, e5, e6, e7⟩ := bx1.cells
  have D := Lib.hid (DF.out w1 ((H.out.below hbw1).more (by omega)))
  go_wp2_with fail
  refine D.out.mono ?_
  rintro e w2 ⟨hbd, hor⟩
  have hb2 := hb1.trans (hbd.mono hz1)
  rcases hor with ⟨S, B, hS, rfl, hIs⟩ | ⟨hno, rfl⟩
  case inr =>
    obtain ⟨hbw, -, hcr, hfr, -⟩ := chk_facts c s w _ hb2
    have hcs := World.cell?_setCell_same' _ ⟨w.heap.size + 1, 0, none⟩ (.int .i64 9) (by rw [hcr]; rfl)
    have HE : Hid (chk c = false) := (by unfold chk; rw [hno, Bool.and_false] : chk c = false)
    go_wp2
    refine leaves_cons (f := 85) (args := #[.pointer (some ⟨w.heap.size + 1, 0, none⟩)]) (by simp) (by simp [go_sem]) ?_
    refine (catch_panicking ⟨w.heap.size + 1, 0, none⟩ 0 _ hcr hfr).mono ?_
    rintro e u' w'' ⟨rfl, rfl, rfl⟩
    simp [Leaves, settle, results, Try.results44, go_sem, hcs]
    exact ⟨(chkV_no c HE.out).symm, hbw.setCell (by simp) _⟩
  have HK := Lib.hid (chk_of c S h0 hS)
  clear h0 hS
  go_wp2_with fail
  refine (named64_any B _).mono ?_
  rintro e w3 ⟨rfl, rfl⟩
  have hz2 := hbd.size
  have hb3 := hb2.alloc (Nat.le_trans hz1 hz2) (.cells #[.map (some B)] 112)
  obtain ⟨hbw3, bx3, -, -, hz3⟩ := chk_facts c s w _ hb3
  obtain ⟨a0, a1, a2, a3, a4, a5, a6, a7⟩ := bx3.cells
  have hh3 : Has (w2.alloc (.cells #[.map (some B)] 112)) w2.heap.size B S := ⟨by rw [new_cell]; rfl, hIs.alloc _⟩
  have HH3 := Lib.hid hh3
  clear hIs hh3
  have D2 := Lib.hid (LT.out w2.heap.size B S _ ((H.out.below hbw3).more (by omega)) HH3.out)
  go_wp2_with fail
  refine D2.out.mono ?_
  rintro e w4 ⟨he, hbl⟩
  have hb4 := hb3.trans (hbl.mono hz3)
  cases hl : c.lats.all (latOk S)
  · have he' : e = .panicked fault := by rw [he, hl]; rfl
    clear he
    subst he'
    obtain ⟨hbw, -, hcr, hfr, -⟩ := chk_facts c s w _ hb4
    have hcs := World.cell?_setCell_same' _ ⟨w.heap.size + 1, 0, none⟩ (.int .i64 9) (by rw [hcr]; rfl)
    have HE : Hid (chk c = false) := (by rw [HK.out, hl]; rfl : chk c = false)
    go_wp2
    refine leaves_cons (f := 85) (args := #[.pointer (some ⟨w.heap.size + 1, 0, none⟩)]) (by simp) (by simp [go_sem]) ?_
    refine (catch_panicking ⟨w.heap.size + 1, 0, none⟩ 0 _ hcr hfr).mono ?_
    rintro e u' w'' ⟨rfl, rfl, rfl⟩
    simp [Leaves, settle, results, Try.results44, go_sem, hcs]
    exact ⟨(chkV_no c HE.out).symm, hbw.setCell (by simp) _⟩
  have he' : e = .returned (.tuple #[]) := by rw [he, hl]; rfl
  clear he
  subst he'
  rw [hl, Bool.true_and] at HK
  clear hl
  obtain ⟨hbw4, bx4, -, -, hz4⟩ := chk_facts c s w _ hb4
  obtain ⟨g0, g1, g2, g3, g4, g5, g6, g7⟩ := bx4.cells
  have HH4 := Lib.hid (HH3.out.below hbl rfl)
  have D3 := Lib.hid (AN.out w2.heap.size B S _ ((H.out.below hbw4).more (by omega)) HH4.out)
  go_wp2_with fail
  refine D3.out.mono ?_
  rintro e w5 ⟨he, hba⟩
  have hb5 := hb4.trans (hba.mono hz4)
  cases hl : andsOk S c.ands
  · have he' : e = .panicked fault := by rw [he, hl]; rfl
    clear he
    subst he'
    obtain ⟨hbw, -, hcr, hfr, -⟩ := chk_facts c s w _ hb5
    have hcs := World.cell?_setCell_same' _ ⟨w.heap.size + 1, 0, none⟩ (.int .i64 9) (by rw [hcr]; rfl)
    have HE : Hid (chk c = false) := (by rw [HK.out, hl]; rfl : chk c = false)
    go_wp2
    refine leaves_cons (f := 85) (args := #[.pointer (some ⟨w.heap.size + 1, 0, none⟩)]) (by simp) (by simp [go_sem]) ?_
    refine (catch_panicking ⟨w.heap.size + 1, 0, none⟩ 0 _ hcr hfr).mono ?_
    rintro e u' w'' ⟨rfl, rfl, rfl⟩
    simp [Leaves, settle, results, Try.results44, go_sem, hcs]
    exact ⟨(chkV_no c HE.out).symm, hbw.setCell (by simp) _⟩
  have he' : e = .returned (.tuple #[]) := by rw [he, hl]; rfl
  clear he
  subst he'
  rw [hl, Bool.true_and] at HK
  clear hl
  obtain ⟨hbw5, bx5, -, -, hz5⟩ := chk_facts c s w _ hb5
  obtain ⟨k0, k1, k2, k3, k4, k5, k6, k7⟩ := bx5.cells
  have HH5 := Lib.hid (HH4.out.below hba rfl)
  have hb6 := hb5.alloc hz5 (.cells #[.slice s.ao c.outs.length s.ko, .slice s.ab c.bads.length s.kb, .slice s.ac c.invs.length s.kc] 22)
  have hs6 : (w5.alloc (.cells #[.slice s.ao c.outs.length s.ko, .slice s.ab c.bads.length s.kb, .slice s.ac c.invs.length s.kc] 22)).heap.size = w5.heap.size + 1 := by simp
  have HH6 := Lib.hid (HH5.out.below ((Below.refl _ _).alloc (Nat.le_refl _) (.cells #[.slice s.ao c.outs.length s.ko, .slice s.ab c.bads.length s.kb, .slice s.ac c.invs.length s.kc] 22)) rfl)
  have HB6 := Lib.hid hb6
  have HS6 := Lib.hid hs6
  clear hb6 hs6
  go_wp2
  go_loopw [28] (fun i wr => ∃ k : Nat, k ≤ 3 ∧ i = .int .i64 k ∧ ([c.outs, c.bads, c.invs].take k).all (fun l => l.all (namedOk S)) = true ∧ Below (w5.heap.size + 1) (w5.alloc (.cells #[.slice s.ao c.outs.length s.ko, .slice s.ab c.bads.length s.kb, .slice s.ac c.invs.length s.kc] 22)) wr) (fun i _ => 3 - (intOf i).toNat)
  case atStart => exact ⟨0, Nat.zero_le _, rfl, rfl, Below.refl _ _⟩
  case round =>
    obtain ⟨k, hk, rfl, hno, hb⟩ := hrel
    have HN := Lib.hid hno; clear hno
    obtain ⟨wo, rfl⟩ : ∃ wo : World, wo = wr := ⟨_, rfl⟩
    by_cases hlt : k < 3
    · have hbo := HB6.out.trans (hb.mono (by omega))
      obtain ⟨hbwo, -, -, -, -⟩ := chk_facts c s w _ hbo
      obtain ⟨A, l, q, hcl, hll, hrow, hlen, hfit⟩ := lists_at c s w5 wo w.heap.size (H.out.below hbwo) HF.out hb k hlt
      have HX := Lib.hid (all_take [c.outs, c.bads, c.invs] (fun l => l.all (namedOk S)) k hlt)
      have HS := Lib.hid (all_not [c.outs, c.bads, c.invs] (fun l => l.all (namedOk S)) k hlt)
      rw [hll] at HX HS
      have HR := Lib.hid hrow
      have HI := Lib.hid hfit
      clear hll hrow hfit hbo
      have hd3 : decide ((k : Int) < 3) = true := by simp; omega
      go_wp2
      go_loopw [34] (fun i wr => ∃ j : Nat, j ≤ l.length ∧ i = .int .i64 j ∧ (l.take j).all (namedOk S) = true ∧ Below (w5.heap.size + 1) (w5.alloc (.cells #[.slice s.ao c.outs.length s.ko, .slice s.ab c.bads.length s.kb, .slice s.ac c.invs.length s.kc] 22)) wr ∧ Below w.heap.size wo wr) (fun i _ => l.length - (intOf i).toNat)
      case atStart => exact ⟨0, Nat.zero_le _, rfl, rfl, hb, Below.refl _ _⟩
      case round =>
        obtain ⟨j, hj, rfl, hno2, hbr, hbr2⟩ := hrel
        have HN2 := Lib.hid hno2; clear hno2
        by_cases hlt2 : j < l.length
        · obtain ⟨b, o, rfl, hbb, hx⟩ := (HR.out.below hbr2).int hlt2
          have HX2 := Lib.hid (all_take l (namedOk S) j hlt2)
          have HS2 := Lib.hid (all_not l (namedOk S) j hlt2)
          have HI2 := Lib.hid (HI.out l[j] (List.getElem_mem _))
          generalize l[j] = x at *
          have hhr := HH6.out.below hbr HS6.out.symm
          go_wp2_with fail
          refine (named1_any x w2.heap.size B S _ HI2.out hhr.cm hhr.hS).mono ?_
          rintro e w' ⟨he, hbn⟩
          have hbr' := hbr.trans (hbn.mono (by have := hbr.size; rw [show _ = _ from HS6.out] at this; exact this))
          have hbr2' := hbr2.trans (hbn.mono (Nat.le_trans hbwo.size hbr2.size))
          cases hn : namedOk S x
          · have he' : e = .panicked fault := by rw [he, hn]; rfl
            clear he
            subst he'
            have hq : chk c = false := by rw [HK.out, HS.out (HS2.out hn)]; rfl
            have HQ := Lib.hid hq
            have hbz := HB6.out.trans (hbr'.mono (by omega))
            clear hn hq
            obtain ⟨hbw, -, hcr, hfr, -⟩ := chk_facts c s w _ hbz
            have hcs := World.cell?_setCell_same' _ ⟨w.heap.size + 1, 0, none⟩ (.int .i64 9) (by rw [hcr]; rfl)
            have HE : Hid (chk c = false) := HQ.out
            go_wp2
            refine leaves_cons (f := 85) (args := #[.pointer (some ⟨w.heap.size + 1, 0, none⟩)]) (by simp) (by simp [go_sem]) ?_
            refine (catch_panicking ⟨w.heap.size + 1, 0, none⟩ 0 _ hcr hfr).mono ?_
            rintro e u' w'' ⟨rfl, rfl, rfl⟩
            simp [Leaves, settle, results, Try.results44, go_sem, hcs]
            exact ⟨(chkV_no c HE.out).symm, hbw.setCell (by simp) _⟩
          · have he' : e = .returned (.tuple #[]) := by rw [he, hn]; rfl
            clear he
            subst he'
            have HQ := Lib.hid hn
            clear hn
            go_wp2
            go_roundw
            case rel => exact ⟨j + 1, by omega, by go_num, by rw [HX2.out, HN2.out, HQ.out]; rfl, hbr', hbr2'⟩
            case measure => simp [intOf]; omega
        · obtain rfl : j = l.length := by omega
          rw [List.take_of_length_le (Nat.le_refl _)] at HN2
          go_wp2
          go_roundw
          case rel => exact ⟨k + 1, by omega, by go_num, by rw [HX.out, HN.out, HN2.out]; rfl, hbr⟩
          case measure => simp [intOf]; omega
    · obtain rfl : k = 3 := by omega
      have hall : [c.outs, c.bads, c.invs].all (fun l => l.all (namedOk S)) = true := HN.out
      rw [hall, Bool.true_and] at HK
      clear hall
      have hbz := HB6.out.trans (hb.mono (by omega))
      obtain ⟨hbw7, bx7, -, -, hz7⟩ := chk_facts c s w _ hbz
      obtain ⟨m0, m1, m2, m3, m4, m5, m6, m7⟩ := bx7.cells
      have D4 := Lib.hid (NM.out wo ((H.out.below hbw7).more (by omega)))
      go_wp2_with fail
      refine D4.out.mono ?_
      rintro e w8 ⟨he, hbn⟩
      have hb8 := hbz.trans (hbn.mono hz7)
      cases hl : namesOk c
      · have he' : e = .panicked fault := by rw [he, hl]; rfl
        clear he
        subst he'
        obtain ⟨hbw, -, hcr, hfr, -⟩ := chk_facts c s w _ hb8
        have hcs := World.cell?_setCell_same' _ ⟨w.heap.size + 1, 0, none⟩ (.int .i64 9) (by rw [hcr]; rfl)
        have HE : Hid (chk c = false) := (by rw [HK.out, hl] : chk c = false)
        go_wp2
        refine leaves_cons (f := 85) (args := #[.pointer (some ⟨w.heap.size + 1, 0, none⟩)]) (by simp) (by simp [go_sem]) ?_
        refine (catch_panicking ⟨w.heap.size + 1, 0, none⟩ 0 _ hcr hfr).mono ?_
        rintro e u' w'' ⟨rfl, rfl, rfl⟩
        simp [Leaves, settle, results, Try.results44, go_sem, hcs]
        exact ⟨(chkV_no c HE.out).symm, hbw.setCell (by simp) _⟩
      have he' : e = .returned (.tuple #[]) := by rw [he, hl]; rfl
      clear he
      subst he'
      have HQ : Hid (chk c = true) := by unfold Hid; rw [HK.out, hl]
      clear hl
      obtain ⟨hbw8, -, hcr, hfr, -⟩ := chk_facts c s w _ hb8
      have hcs := World.cell?_setCell_same' _ ⟨w.heap.size + 1, 0, none⟩ (.int .i64 0) (by rw [hcr]; rfl)
      go_wp2
      refine leaves_cons (f := 85) (args := #[.pointer (some ⟨w.heap.size + 1, 0, none⟩)]) (by simp) (by simp [go_sem]) ?_
      refine (catch_idle ⟨w.heap.size + 1, 0, none⟩ _).mono ?_
      rintro e u' w'' ⟨rfl, rfl, rfl⟩
      simp [Leaves, settle, results, Try.results44, go_sem, hcs]
      exact ⟨(chkV_yes c HQ.out).symm, hbw8.setCell (by simp) _⟩
end Go.Proofs.Ytbgcoeejmnejdaa.Cw
namespace Go.Proofs.Ytbgcoeejmnejdaa.Cw
open Go.ChangeShapes Go.WideShapes Go.ChangeAt Go.RowKit Go.Maps Circ

/-- the slice v, made from block base on, holds the numbers xs -/
def OwnI (w : World) (base : Nat) (v : Value) (xs : List Int) : Prop := w.ownsRow base 3 1 v xs.length (xs.map (Value.int .i64))
theorem OwnI.nil (w : World) (base : Nat) : OwnI w base (.slice none 0 0) [] := ⟨rfl, .inl ⟨rfl, rfl⟩⟩
theorem OwnI.row {w : World} {base : Nat} {v : Value} {xs : List Int} (h : OwnI w base v xs) : ∃ A q, v = .slice A xs.length q ∧ LRow w w.heap.size 1 A (ints xs) ∧ xs.length ≤ q ∧ q ≤ 9223372036854775807 := by
  obtain ⟨_, h⟩ := h
  rcases h with ⟨rfl, h0⟩ | ⟨g, cap, cur, rfl, _, hg, hn, hm, hs, ht⟩
  · have hx : xs = [] := List.eq_nil_of_length_eq_zero h0
    subst hx
    exact ⟨none, 0, rfl, .inl rfl, Nat.le_refl _, by decide⟩
  · refine ⟨_, cap, rfl, .inr ⟨g, 0, rfl, (Array.getElem?_eq_some_iff.1 hg).1, fun i ys hi j u hj => ?_⟩, hn, by unfold maxLen at hm; exact hm⟩
    obtain ⟨hi', rfl⟩ : ∃ h : i < xs.length, [Value.int .i64 xs[i]] = ys := by
      unfold ints at hi
      rw [List.getElem?_map] at hi
      cases hq : xs[i]? with
      | none => rw [hq] at hi; cases hi
      | some x =>
        rw [hq] at hi
        obtain ⟨h1, h2⟩ := List.getElem?_eq_some_iff.1 hq
        refine ⟨h1, ?_⟩
        rw [h2]; exact Option.some.inj hi
    match j, hj with
    | 0, hj =>
      obtain rfl : Value.int .i64 xs[i] = u := by simpa using hj
      have e := congrArg (fun l : List Value => l[i]?) ht
      simp only [List.getElem?_take] at e
      rw [if_pos (by omega), List.getElem?_map, List.getElem?_eq_getElem hi'] at e
      simp [World.cell?, hg]
      simpa using e
theorem OwnI.block_lt {w : World} {base : Nat} {v : Value} {xs : List Int} (h : OwnI w base v xs) (g : Nat) (hg : v.ownBlock = some g) : base ≤ g ∧ g < w.heap.size := by
  obtain ⟨_, h⟩ := h
  rcases h with ⟨rfl, h0⟩ | ⟨g', cap, cur, rfl, hb, hh, _⟩
  · simp [Value.ownBlock] at hg
  · have : g' = g := by simpa [Value.ownBlock] using hg
    subst this
    exact ⟨hb, (Array.getElem?_eq_some_iff.1 hh).1⟩
theorem OwnI.keep {w w' : World} {base : Nat} {v : Value} {xs : List Int} (h : OwnI w base v xs) (hb : Below w.heap.size w w') : OwnI w' base v xs := by
  obtain ⟨h0, h⟩ := h
  refine ⟨h0, ?_⟩
  rcases h with h | ⟨g, cap, cur, hv, hg, hh, r⟩
  · exact .inl h
  · exact .inr ⟨g, cap, cur, hv, hg, (hb.block g (Array.getElem?_eq_some_iff.1 hh).1).trans hh, r⟩

theorem info3 : (Try.prog.info? 3).map (fun i => (i.zero, i.size, i.bytes)) = some (some (.int .i64 0), 1, 8) := by kernel_rfl
theorem under22 : Try.prog.underlying 22 = some (.slice 3) := Try.underlying22

theorem run_append_nil (w : World) (base : Nat) (ty : TypeId) (v : Value) (xs : List Int) (hown : OwnI w base v xs) (c : Nat) : (Builtin.append_ #[22, 22] ty #[v, .slice none 0 c]).run Try.prog w = .ok v w := by
  obtain ⟨i0, hi0, hz0, hz1, hz2⟩ := info_parts info3
  rcases hown.2 with ⟨rfl, _⟩ | ⟨g, cap, cur, rfl, _, _, hnc, _⟩
  · simp [Builtin.append_, run_underlying under22, sizeOf, typeInfo, hi0, Builtin.lenOf, Builtin.firstCells]
  · simp [Builtin.append_, run_underlying under22, sizeOf, typeInfo, hi0, Builtin.lenOf, Builtin.firstCells, hnc, storeCells]

theorem run_append_ints (w : World) (base B : Nat) (ty : TypeId) (v : Value) (xs l : List Int) (hown : OwnI w base v xs) (A : Option Addr) (c : Nat) (hr : LRow w B 1 A (ints l))
    (hbytes : (xs.length + l.length) * 8 ≤ 140737488355328) (hbase : base ≤ w.heap.size) :
    ∃ v' w', (Builtin.append_ #[22, 22] ty #[v, .slice A l.length c]).run Try.prog w = .ok v' w' ∧ OwnI w' base v' (xs ++ l) ∧ w.grownBy w' v.ownBlock ∧ (v'.ownBlock = v.ownBlock ∨ v'.ownBlock = some w.heap.size) := by
  obtain ⟨i0, hi0, hz0, hz1, hz2⟩ := info_parts info3
  have go : ∀ ad : Addr, A = some ad → (∀ j u, (l.map (Value.int .i64))[j]? = some u → w.cell? (ad.add j) = some u) → ∃ v' w', (Builtin.append_ #[22, 22] ty #[v, .slice A l.length c]).run Try.prog w = .ok v' w' ∧ OwnI w' base v' (xs ++ l) ∧ w.grownBy w' v.ownBlock ∧ (v'.ownBlock = v.ownBlock ∨ v'.ownBlock = some w.heap.size) := fun ad hA hc => by
    obtain ⟨v', w', h1, h2, h3, _, h5⟩ := run_append_own_at (P := Try.prog) w base 22 ty 3 i0 (.int .i64 0) 1 8 under22 hi0 hz0 hz1 hz2 rfl (by decide) v xs.length (xs.map (Value.int .i64)) hown ad l.length c (l.map (Value.int .i64)) (by simp) hc (fun u hu => by
      obtain ⟨x, _, rfl⟩ := List.mem_map.1 hu; rfl) (by unfold maxLen; omega) hbytes hbase
    refine ⟨v', w', by rw [hA]; exact h1, ?_, h3, h5⟩
    unfold OwnI
    rw [List.length_append, List.map_append]
    exact h2
  rcases hr with h0 | ⟨b, o, e, hb, hc⟩
  · have hl : l = [] := by simpa [ints] using h0
    subst hl
    rcases A with _ | ad
    · exact ⟨v, w, run_append_nil w base ty v xs hown c, by simpa using hown, World.grownBy.refl w _, .inl rfl⟩
    · exact go ad rfl (fun j u hj => by simp at hj)
  · refine go _ e (fun j u hj => ?_)
    have hj' : j < l.length := by
      have := (List.getElem?_eq_some_iff.1 hj).1; simpa using this
    have h1 := hc j [Value.int .i64 l[j]] (by simp [ints, hj']) 0 _ rfl
    have h2 : u = Value.int .i64 l[j] := by
      rw [List.getElem?_map, List.getElem?_eq_getElem hj'] at hj
      exact (Option.some.inj hj).symm
    subst h2
    have h3 : (⟨b, o, none⟩ : Addr).add j = ⟨b, o + (j * 1 + 0), none⟩ := by
      unfold Addr.add
      by_cases hz : j = 0
      · simp [hz]
      · simp [hz]
    rw [h3]; exact h1

theorem wpList_app {ops : Array Oper} {rest : List Oper} {o : Oper} {a : Act} {Q : Exit → Act → World → Prop} (w : World) (hgd : o.guard = none) (s x : Operand)
    (ho : o.op = .call { callee := .builtin .append, args := #[s, x], argTypes := #[22, 22] })
    (base B : Nat) (v : Value) (xs l : List Int) (hs : a.eval s = v) (hown : OwnI w base v xs) (A : Option Addr) (m c : Nat) (hm : m = l.length) (hx : a.eval x = .slice A m c) (hr : LRow w B 1 A (ints l))
    (hbytes : (xs.length + l.length) * 8 ≤ 140737488355328) (hbase : base ≤ w.heap.size)
    (h : ∀ v' w', OwnI w' base v' (xs ++ l) → w.grownBy w' v.ownBlock → (v'.ownBlock = v.ownBlock ∨ v'.ownBlock = some w.heap.size) → wpList Try.prog ops Q rest (a.put o.dst v') w') : wpList Try.prog ops Q (o :: rest) a w := by
  subst hm
  obtain ⟨v', w', hr', h2, h3, h4⟩ := run_append_ints w base B o.type v xs l hown A c hr hbytes hbase
  refine wpList_plain hgd fun K hK => ?_
  unfold Oper.wp execOp
  simp only [ho, resolve, invoke, builtin, Sem.run_bind, Sem.run_pure, Result.andThen_ok, List.map_toArray, List.map_cons, List.map_nil, hs, hx, hr']
  exact hK _ _ (h v' w' h2 h3 h4)
end Go.Proofs.Ytbgcoeejmnejdaa.Cw
