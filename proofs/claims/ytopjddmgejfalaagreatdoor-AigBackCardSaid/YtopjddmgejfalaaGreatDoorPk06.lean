/- circuit.Check: what it tells of any circuit; no condition. What circuit.Check asks makes a circuit's text readable: numbers, texts and counts within bounds; no condition. -/
import Derived.Test.YtopjddmgejfalaaGreatDoorPk05
import Derived.Recover
import Derived.Test.YtopjddmgejfalaaGreatDoorPk01
namespace Go.Proofs.YtopjddmgejfalaaGreatDoor.Cw
open Go.ChangeShapes Go.WideShapes Go.ChangeAt Go.RowKit Go.Maps Circ

theorem assert71 (w : World) : (Instr.typeAssert (.iface 116 (.agg #[.int .i64 9])) 20 116 false).run Tryz.prog w = .ok (.agg #[.int .i64 9]) w := by kernel_rfl
theorem field71 (w : World) : (Instr.field 116 (.agg #[.int .i64 9]) 0).run Tryz.prog w = .ok (.int .i64 9) w := by kernel_rfl

theorem catch_panicking (p : Addr) (x : Int) (w : World) (hc : w.cell? p = some (.int .i64 x)) (hz : w.frozen? p = false) :
    CallsD Tryz.prog 64 #[.pointer (some p)] (.panicking fault) w fun e u' w' =>
      e = .returned (.tuple #[]) ∧ u' = .panicking [{ v := .iface 116 (.agg #[.int .i64 9]), recovered := true }] ∧ w' = w.setCell p (.int .i64 9) := by
  refine callsD_of_wpS Tryz.func64 rfl fun c₀ cs hu => ?_
  unfold fault at hu
  apply wpS_seq
  apply wpS_region
  simp [wpOpsS, go_sem, recoverD, hu, Tryz.ntmps64, Exit.thenS]
  apply wpS_seq
  apply wpS_region
  simp [wpOpsS, go_sem, Exit.thenS]
  refine wpS_cond (t := true) (by simp [Act.eval]) ?_
  simp only [if_true]
  apply wpS_region
  simp [wpOpsS, go_sem, assert71, field71, hc, hz, bodyPostS, results, Tryz.results64]

theorem catch_idle (p : Addr) (w : World) :
    CallsD Tryz.prog 64 #[.pointer (some p)] .returning w fun e u' w' => e = .returned (.tuple #[]) ∧ u' = .returning ∧ w' = w := by
  refine callsD_of_wpS Tryz.func64 rfl fun c₀ cs hu => ?_
  apply wpS_seq
  apply wpS_region
  simp [wpOpsS, go_sem, recoverD, hu, Tryz.ntmps64, Exit.thenS]
  apply wpS_seq
  apply wpS_region
  simp [wpOpsS, go_sem, Exit.thenS]
  refine wpS_cond (t := false) (by simp [Act.eval]) ?_
  simp only [Bool.false_eq_true, if_false]
  refine wpS_of_wp (wp_skip ?_)
  cases c₀
  simp_all [bodyPostS, results, Tryz.results64]

/-- what is asked of a circuit whose variables are S -/
def chkIn (S : List Int) (c : Cir) : Bool := c.lats.all (latOk S) && andsOk S c.ands && [c.outs, c.bads, c.invs].all (fun l => l.all (namedOk S)) && namesOk c
def chk (c : Cir) : Bool := sizesOk c && match defAll c.max [0] (own c) with
  | some S => chkIn S c
  | none => false

theorem chk_facts (c : Cir) (s : Places) (w w' : World) (hb : Below (w.heap.size + 2) ((w.alloc (.cells (cirC c s) 27)).alloc (.cells #[.int .i64 0] 30)) w') :
    Below w.heap.size w w' ∧ Box w' w.heap.size c s ∧ w'.cell? ⟨w.heap.size + 1, 0, none⟩ = some (.int .i64 0) ∧ w'.frozen? ⟨w.heap.size + 1, 0, none⟩ = false ∧ w.heap.size + 2 ≤ w'.heap.size := by
  have hb1 : Below w.heap.size w (w.alloc (.cells (cirC c s) 27)) := (Below.refl _ _).alloc (Nat.le_refl _) _
  have hs1 : (w.alloc (.cells (cirC c s) 27)).heap.size = w.heap.size + 1 := by simp
  have hb2 := hb1.alloc hb1.size (.cells #[.int .i64 0] 30)
  have hx := (Box.made w c s).keep ((Below.refl (w.heap.size + 1) _).alloc (Nat.le_of_eq hs1.symm) (.cells #[.int .i64 0] 30)) (Nat.lt_succ_self _)
  have hn := new_cell (w.alloc (.cells (cirC c s) 27)) #[.int .i64 0] 30 0
  rw [hs1] at hn
  refine ⟨hb2.trans (hb.mono (by omega)), hx.keep hb (by omega), ?_, ?_, ?_⟩
  · rw [hb.cell (by show w.heap.size + 1 < w.heap.size + 2; omega)]; exact hn
  · rw [hb.frozen (by show w.heap.size + 1 < w.heap.size + 2; omega)]
    have : ((w.alloc (.cells (cirC c s) 27)).alloc (.cells #[.int .i64 0] 30)).heap[w.heap.size + 1]? = some (.cells #[.int .i64 0] 30) := by
      have := heap_alloc_new (w.alloc (.cells (cirC c s) 27)) (.cells #[.int .i64 0] 30)
      rw [hs1] at this; exact this
    unfold World.frozen?; rw [this]; rfl
  · have := hb.size
    simp at this; omega

theorem lists_at (c : Cir) (s : Places) (w5 w : World) (B : Nat) (hL : CLies w B c s) (hf : CFits c s) (hb : Below (w5.heap.size + 1) (w5.alloc (.cells #[.slice s.ao c.outs.length s.ko, .slice s.ab c.bads.length s.kb, .slice s.ac c.invs.length s.kc] 22)) w) (k : Nat) (hk : k < 3) :
    ∃ (A : Option Addr) (l : List Int) (q : Nat), w.cell? ⟨w5.heap.size, k, none⟩ = some (.slice A l.length q) ∧ ([c.outs, c.bads, c.invs][k]'hk) = l ∧ LRow w B 1 A (ints l) ∧ l.length * 8 ≤ 140737488355328 ∧ ∀ x ∈ l, I64 x := by
  have hc : ∀ i, w.cell? ⟨w5.heap.size, i, none⟩ = (#[.slice s.ao c.outs.length s.ko, .slice s.ab c.bads.length s.kb, .slice s.ac c.invs.length s.kc] : Array Value)[i]? := fun i => by
    rw [hb.cell (by exact Nat.lt_succ_self _), new_cell]
  match k, hk with
  | 0, _ => exact ⟨_, _, _, hc 0, rfl, hL.outs, hf.lo, hf.outs⟩
  | 1, _ => exact ⟨_, _, _, hc 1, rfl, hL.bads, hf.lb, hf.bads⟩
  | 2, _ => exact ⟨_, _, _, hc 2, rfl, hL.invs, hf.lc, hf.invs⟩

/-- the error's number -/
def chkV (c : Cir) : Int := if chk c = true then 0 else 9
theorem chkV_no (c : Cir) (h : chk c = false) : chkV c = 9 := by unfold chkV; rw [h]; rfl
theorem chkV_yes (c : Cir) (h : chk c = true) : chkV c = 0 := by unfold chkV; rw [h]; rfl

theorem chk_of (c : Cir) (S : List Int) (h0 : sizesOk c = true) (h1 : defAll c.max [0] (own c) = some S) : chk c = (c.lats.all (latOk S) && andsOk S c.ands && [c.outs, c.bads, c.invs].all (fun l => l.all (namedOk S)) && namesOk c) := by
  unfold chk; rw [h0, h1]; rfl

set_option maxHeartbeats 4000000 in
set_option maxRecDepth 100000 in
theorem check_any (c : Cir) (s : Places) (w : World) (h : CLies w w.heap.size c s) (hf : CFits c s) :
    Calls Tryz.prog 40 #[cirV c s] w fun e w' => e = .returned (.int .i64 (chkV c)) ∧ Below w.heap.size w w' := by
  have hmf : ∀ (fn : Fn) (first cap : Array Value) (w : World), (Instr.makeFunc fn first cap).run Tryz.prog w = .ok (.func fn first cap) w := fun _ _ _ _ => rfl
  have SZ := Lib.hid (fun w => sizes_any c s w)
  have DF := Lib.hid (fun w h => defined_any c s w h hf)
  have LT := Lib.hid (fun g B S w h hh => lats_any c s g B S w h hf hh)
  have AN := Lib.hid (fun g B S w h hh => ands_any c s g B S w h hf hh)
  have NM := Lib.hid (fun w h => names_any c s w h hf)
  have H := Lib.hid h
  have HF := Lib.hid hf
  clear h hf
  unfold cirV at *
  rw [show cirC c s = #[.int .i64 c.max, .slice s.ai c.ins.length s.ki, .slice s.al c.lats.length s.kl, .slice s.ao c.outs.length s.ko, .slice s.ab c.bads.length s.kb, .slice s.ac c.invs.length s.kc, .slice s.aa c.ands.length s.ka, .slice s.an c.names.length s.kn] from rfl] at *
  go_enter_defers Tryz.func40, Tryz.ntmps40
  go_wp2_with fail
  refine (SZ.out _).mono ?_
  rintro e w1 ⟨he, hb⟩
  have hb1 : Below (w.heap.size + 2) ((w.alloc (.cells (cirC c s) 27)).alloc (.cells #[.int .i64 0] 30)) w1 := hb.mono (by simp)
  clear hb
  cases h0 : sizesOk c
  · have he' : e = .panicked fault := by rw [he, h0]; rfl
    clear he
    subst he'
    obtain ⟨hbw, -, hcr, hfr, -⟩ := chk_facts c s w _ hb1
    have hcs := World.cell?_setCell_same' _ ⟨w.heap.size + 1, 0, none⟩ (.int .i64 9) (by rw [hcr]; rfl)
    have HE : Hid (chk c = false) := (by unfold chk; rw [h0]; rfl : chk c = false)
    go_wp2
    refine leaves_cons (f := 64) (args := #[.pointer (some ⟨w.heap.size + 1, 0, none⟩)]) (by simp) (by simp [go_sem]) ?_
    refine (catch_panicking ⟨w.heap.size + 1, 0, none⟩ 0 _ hcr hfr).mono ?_
    rintro e u' w'' ⟨rfl, rfl, rfl⟩
    simp [Leaves, settle, results, Tryz.results40, go_sem, hcs]
    exact ⟨(chkV_no c HE.out).symm, hbw.setCell (by simp) _⟩
  have he' : e = .returned (.tuple #[]) := by rw [he, h0]; rfl
  clear he
  subst he'
  obtain ⟨hbw1, bx1, -, -, hz1⟩ := chk_facts c s w _ hb1
  obtain ⟨e0, e1, e2, e3, e4, e5, e6, e7⟩ := bx1.cells
  have D := Lib.hid (DF.out w1 ((H.out.below hbw1).more (by omega)))
  go_wp2_with fail
  refine D.out.mono ?_
  rintro e w2 ⟨hbd, hor⟩
  have hb2 := hb1.trans (hbd.mono hz1)
  rcases hor with ⟨S, B, hS, rfl, hIs⟩ | ⟨hno, rfl⟩
  case inr =>
    obtain ⟨hbw, -, hcr, hfr, -⟩ := chk_facts c s w _ hb2
    have hcs := World.cell?_setCell_same' _ ⟨w.heap.size + 1, 0, none⟩ (.int .i64 9) (by rw [hcr]; rfl)
    have HE : Hid (chk c = false) := (by unfold chk; rw [hno, Bool.and_false] : chk c = false)
    go_wp2
    refine leaves_cons (f := 64) (args := #[.pointer (some ⟨w.heap.size + 1, 0, none⟩)]) (by simp) (by simp [go_sem]) ?_
    refine (catch_panicking ⟨w.heap.size + 1, 0, none⟩ 0 _ hcr hfr).mono ?_
    rintro e u' w'' ⟨rfl, rfl, rfl⟩
    simp [Leaves, settle, results, Tryz.results40, go_sem, hcs]
    exact ⟨(chkV_no c HE.out).symm, hbw.setCell (by simp) _⟩
  have HK := Lib.hid (chk_of c S h0 hS)
  clear h0 hS
  go_wp2_with fail
  refine (named64_any B _).mono ?_
  rintro e w3 ⟨rfl, rfl⟩
  have hz2 := hbd.size
  have hb3 := hb2.alloc (Nat.le_trans hz1 hz2) (.cells #[.map (some B)] 118)
  obtain ⟨hbw3, bx3, -, -, hz3⟩ := chk_facts c s w _ hb3
  obtain ⟨a0, a1, a2, a3, a4, a5, a6, a7⟩ := bx3.cells
  have hh3 : Has (w2.alloc (.cells #[.map (some B)] 118)) w2.heap.size B S := ⟨by rw [new_cell]; rfl, hIs.alloc _⟩
  have HH3 := Lib.hid hh3
  clear hIs hh3
  have D2 := Lib.hid (LT.out w2.heap.size B S _ ((H.out.below hbw3).more (by omega)) HH3.out)
  go_wp2_with fail
  refine D2.out.mono ?_
  rintro e w4 ⟨he, hbl⟩
  have hb4 := hb3.trans (hbl.mono hz3)
  cases hl : c.lats.all (latOk S)
  · have he' : e = .panicked fault := by rw [he, hl]; rfl
    clear he
    subst he'
    obtain ⟨hbw, -, hcr, hfr, -⟩ := chk_facts c s w _ hb4
    have hcs := World.cell?_setCell_same' _ ⟨w.heap.size + 1, 0, none⟩ (.int .i64 9) (by rw [hcr]; rfl)
    have HE : Hid (chk c = false) := (by rw [HK.out, hl]; rfl : chk c = false)
    go_wp2
    refine leaves_cons (f := 64) (args := #[.pointer (some ⟨w.heap.size + 1, 0, none⟩)]) (by simp) (by simp [go_sem]) ?_
    refine (catch_panicking ⟨w.heap.size + 1, 0, none⟩ 0 _ hcr hfr).mono ?_
    rintro e u' w'' ⟨rfl, rfl, rfl⟩
    simp [Leaves, settle, results, Tryz.results40, go_sem, hcs]
    exact ⟨(chkV_no c HE.out).symm, hbw.setCell (by simp) _⟩
  have he' : e = .returned (.tuple #[]) := by rw [he, hl]; rfl
  clear he
  subst he'
  rw [hl, Bool.true_and] at HK
  clear hl
  obtain ⟨hbw4, bx4, -, -, hz4⟩ := chk_facts c s w _ hb4
  obtain ⟨g0, g1, g2, g3, g4, g5, g6, g7⟩ := bx4.cells
  have HH4 := Lib.hid (HH3.out.below hbl rfl)
  have D3 := Lib.hid (AN.out w2.heap.size B S _ ((H.out.below hbw4).more (by omega)) HH4.out)
  go_wp2_with fail
  refine D3.out.mono ?_
  rintro e w5 ⟨he, hba⟩
  have hb5 := hb4.trans (hba.mono hz4)
  cases hl : andsOk S c.ands
  · have he' : e = .panicked fault := by rw [he, hl]; rfl
    clear he
    subst he'
    obtain ⟨hbw, -, hcr, hfr, -⟩ := chk_facts c s w _ hb5
    have hcs := World.cell?_setCell_same' _ ⟨w.heap.size + 1, 0, none⟩ (.int .i64 9) (by rw [hcr]; rfl)
    have HE : Hid (chk c = false) := (by rw [HK.out, hl]; rfl : chk c = false)
    go_wp2
    refine leaves_cons (f := 64) (args := #[.pointer (some ⟨w.heap.size + 1, 0, none⟩)]) (by simp) (by simp [go_sem]) ?_
    refine (catch_panicking ⟨w.heap.size + 1, 0, none⟩ 0 _ hcr hfr).mono ?_
    rintro e u' w'' ⟨rfl, rfl, rfl⟩
    simp [Leaves, settle, results, Tryz.results40, go_sem, hcs]
    exact ⟨(chkV_no c HE.out).symm, hbw.setCell (by simp) _⟩
  have he' : e = .returned (.tuple #[]) := by rw [he, hl]; rfl
  clear he
  subst he'
  rw [hl, Bool.true_and] at HK
  clear hl
  obtain ⟨hbw5, bx5, -, -, hz5⟩ := chk_facts c s w _ hb5
  obtain ⟨k0, k1, k2, k3, k4, k5, k6, k7⟩ := bx5.cells
  have HH5 := Lib.hid (HH4.out.below hba rfl)
  have hb6 := hb5.alloc hz5 (.cells #[.slice s.ao c.outs.length s.ko, .slice s.ab c.bads.length s.kb, .slice s.ac c.invs.length s.kc] 22)
  have hs6 : (w5.alloc (.cells #[.slice s.ao c.outs.length s.ko, .slice s.ab c.bads.length s.kb, .slice s.ac c.invs.length s.kc] 22)).heap.size = w5.heap.size + 1 := by simp
  have HH6 := Lib.hid (HH5.out.below ((Below.refl _ _).alloc (Nat.le_refl _) (.cells #[.slice s.ao c.outs.length s.ko, .slice s.ab c.bads.length s.kb, .slice s.ac c.invs.length s.kc] 22)) rfl)
  have HB6 := Lib.hid hb6
  have HS6 := Lib.hid hs6
  clear hb6 hs6
  go_wp2
  go_loopw [28] (fun i wr => ∃ k : Nat, k ≤ 3 ∧ i = .int .i64 k ∧ ([c.outs, c.bads, c.invs].take k).all (fun l => l.all (namedOk S)) = true ∧ Below (w5.heap.size + 1) (w5.alloc (.cells #[.slice s.ao c.outs.length s.ko, .slice s.ab c.bads.length s.kb, .slice s.ac c.invs.length s.kc] 22)) wr) (fun i _ => 3 - (intOf i).toNat)
  case atStart => exact ⟨0, Nat.zero_le _, rfl, rfl, Below.refl _ _⟩
  case round =>
    obtain ⟨k, hk, rfl, hno, hb⟩ := hrel
    have HN := Lib.hid hno; clear hno
    obtain ⟨wo, rfl⟩ : ∃ wo : World, wo = wr := ⟨_, rfl⟩
    by_cases hlt : k < 3
    · have hbo := HB6.out.trans (hb.mono (by omega))
      obtain ⟨hbwo, -, -, -, -⟩ := chk_facts c s w _ hbo
      obtain ⟨A, l, q, hcl, hll, hrow, hlen, hfit⟩ := lists_at c s w5 wo w.heap.size (H.out.below hbwo) HF.out hb k hlt
      have HX := Lib.hid (all_take [c.outs, c.bads, c.invs] (fun l => l.all (namedOk S)) k hlt)
      have HS := Lib.hid (all_not [c.outs, c.bads, c.invs] (fun l => l.all (namedOk S)) k hlt)
      rw [hll] at HX HS
      have HR := Lib.hid hrow
      have HI := Lib.hid hfit
      clear hll hrow hfit hbo
      have hd3 : decide ((k : Int) < 3) = true := by simp; omega
      go_wp2
      go_loopw [34] (fun i wr => ∃ j : Nat, j ≤ l.length ∧ i = .int .i64 j ∧ (l.take j).all (namedOk S) = true ∧ Below (w5.heap.size + 1) (w5.alloc (.cells #[.slice s.ao c.outs.length s.ko, .slice s.ab c.bads.length s.kb, .slice s.ac c.invs.length s.kc] 22)) wr ∧ Below w.heap.size wo wr) (fun i _ => l.length - (intOf i).toNat)
      case atStart => exact ⟨0, Nat.zero_le _, rfl, rfl, hb, Below.refl _ _⟩
      case round =>
        obtain ⟨j, hj, rfl, hno2, hbr, hbr2⟩ := hrel
        have HN2 := Lib.hid hno2; clear hno2
        by_cases hlt2 : j < l.length
        · obtain ⟨b, o, rfl, hbb, hx⟩ := (HR.out.below hbr2).int hlt2
          have HX2 := Lib.hid (all_take l (namedOk S) j hlt2)
          have HS2 := Lib.hid (all_not l (namedOk S) j hlt2)
          have HI2 := Lib.hid (HI.out l[j] (List.getElem_mem _))
          generalize l[j] = x at *
          have hhr := HH6.out.below hbr HS6.out.symm
          go_wp2_with fail
          refine (named1_any x w2.heap.size B S _ HI2.out hhr.cm hhr.hS).mono ?_
          rintro e w' ⟨he, hbn⟩
          have hbr' := hbr.trans (hbn.mono (by have := hbr.size; rw [show _ = _ from HS6.out] at this; exact this))
          have hbr2' := hbr2.trans (hbn.mono (Nat.le_trans hbwo.size hbr2.size))
          cases hn : namedOk S x
          · have he' : e = .panicked fault := by rw [he, hn]; rfl
            clear he
            subst he'
            have hq : chk c = false := by rw [HK.out, HS.out (HS2.out hn)]; rfl
            have HQ := Lib.hid hq
            have hbz := HB6.out.trans (hbr'.mono (by omega))
            clear hn hq
            obtain ⟨hbw, -, hcr, hfr, -⟩ := chk_facts c s w _ hbz
            have hcs := World.cell?_setCell_same' _ ⟨w.heap.size + 1, 0, none⟩ (.int .i64 9) (by rw [hcr]; rfl)
            have HE : Hid (chk c = false) := HQ.out
            go_wp2
            refine leaves_cons (f := 64) (args := #[.pointer (some ⟨w.heap.size + 1, 0, none⟩)]) (by simp) (by simp [go_sem]) ?_
            refine (catch_panicking ⟨w.heap.size + 1, 0, none⟩ 0 _ hcr hfr).mono ?_
            rintro e u' w'' ⟨rfl, rfl, rfl⟩
            simp [Leaves, settle, results, Tryz.results40, go_sem, hcs]
            exact ⟨(chkV_no c HE.out).symm, hbw.setCell (by simp) _⟩
          · have he' : e = .returned (.tuple #[]) := by rw [he, hn]; rfl
            clear he
            subst he'
            have HQ := Lib.hid hn
            clear hn
            go_wp2
            go_roundw
            case rel => exact ⟨j + 1, by omega, by go_num, by rw [HX2.out, HN2.out, HQ.out]; rfl, hbr', hbr2'⟩
            case measure => simp [intOf]; omega
        · obtain rfl : j = l.length := by omega
          rw [List.take_of_length_le (Nat.le_refl _)] at HN2
          go_wp2
          go_roundw
          case rel => exact ⟨k + 1, by omega, by go_num, by rw [HX.out, HN.out, HN2.out]; rfl, hbr⟩
          case measure => simp [intOf]; omega
    · obtain rfl : k = 3 := by omega
      have hall : [c.outs, c.bads, c.invs].all (fun l => l.all (namedOk S)) = true := HN.out
      rw [hall, Bool.true_and] at HK
      clear hall
      have hbz := HB6.out.trans (hb.mono (by omega))
      obtain ⟨hbw7, bx7, -, -, hz7⟩ := chk_facts c s w _ hbz
      obtain ⟨m0, m1, m2, m3, m4, m5, m6, m7⟩ := bx7.cells
      have D4 := Lib.hid (NM.out wo ((H.out.below hbw7).more (by omega)))
      go_wp2_with fail
      refine D4.out.mono ?_
      rintro e w8 ⟨he, hbn⟩
      have hb8 := hbz.trans (hbn.mono hz7)
      cases hl : namesOk c
      · have he' : e = .panicked fault := by rw [he, hl]; rfl
        clear he
        subst he'
        obtain ⟨hbw, -, hcr, hfr, -⟩ := chk_facts c s w _ hb8
        have hcs := World.cell?_setCell_same' _ ⟨w.heap.size + 1, 0, none⟩ (.int .i64 9) (by rw [hcr]; rfl)
        have HE : Hid (chk c = false) := (by rw [HK.out, hl] : chk c = false)
        go_wp2
        refine leaves_cons (f := 64) (args := #[.pointer (some ⟨w.heap.size + 1, 0, none⟩)]) (by simp) (by simp [go_sem]) ?_
        refine (catch_panicking ⟨w.heap.size + 1, 0, none⟩ 0 _ hcr hfr).mono ?_
        rintro e u' w'' ⟨rfl, rfl, rfl⟩
        simp [Leaves, settle, results, Tryz.results40, go_sem, hcs]
        exact ⟨(chkV_no c HE.out).symm, hbw.setCell (by simp) _⟩
      have he' : e = .returned (.tuple #[]) := by rw [he, hl]; rfl
      clear he
      subst he'
      have HQ : Hid (chk c = true) := by unfold Hid; rw [HK.out, hl]
      clear hl
      obtain ⟨hbw8, -, hcr, hfr, -⟩ := chk_facts c s w _ hb8
      have hcs := World.cell?_setCell_same' _ ⟨w.heap.size + 1, 0, none⟩ (.int .i64 0) (by rw [hcr]; rfl)
      go_wp2
      refine leaves_cons (f := 64) (args := #[.pointer (some ⟨w.heap.size + 1, 0, none⟩)]) (by simp) (by simp [go_sem]) ?_
      refine (catch_idle ⟨w.heap.size + 1, 0, none⟩ _).mono ?_
      rintro e u' w'' ⟨rfl, rfl, rfl⟩
      simp [Leaves, settle, results, Tryz.results40, go_sem, hcs]
      exact ⟨(chkV_yes c HQ.out).symm, hbw8.setCell (by simp) _⟩
end Go.Proofs.YtopjddmgejfalaaGreatDoor.Cw
namespace Go.Proofs.YtopjddmgejfalaaGreatDoor.Aag
open Go.Lib Dig Circ Cw

theorem def_within (m : Int) (hm : 0 ≤ m ∧ m ≤ 2048) : ∀ (l S T : List Int), defAll m S l = some T → (∀ y ∈ S, 0 ≤ y ∧ y ≤ 2049) → (∀ x ∈ l, 0 ≤ x ∧ x ≤ 4097) ∧ ∀ y ∈ T, 0 ≤ y ∧ y ≤ 2049
  | [], S, T, h, hS => by
    simp only [defAll, Option.some.injEq] at h
    subst h
    exact ⟨by simp, hS⟩
  | x :: l, S, T, h, hS => by
    simp only [defAll] at h
    split at h
    · rename_i hd
      unfold defOk outside great at hd
      simp only [Bool.and_eq_true, Bool.not_eq_true', Bool.or_eq_false_iff, decide_eq_false_iff_not] at hd
      obtain ⟨⟨⟨h1, h2⟩, _⟩, _⟩ := hd
      have hx : 0 ≤ x ∧ x ≤ 4097 := by
        refine ⟨by omega, ?_⟩
        first | omega | (split at h2 <;> omega)
      have hc : cnt x = x := by unfold cnt; rw [if_neg (by omega)]
      obtain ⟨g1, g2⟩ := def_within m hm l (cnt x / 2 :: S) T h (fun y hy => by
        rcases List.mem_cons.1 hy with rfl | hy
        · rw [hc]; omega
        · exact hS y hy)
      exact ⟨fun y hy => by
        rcases List.mem_cons.1 hy with rfl | hy
        · exact hx
        · exact g1 y hy, g2⟩
    · cases h
theorem named_within (S : List Int) (hS : ∀ y ∈ S, 0 ≤ y ∧ y ≤ 2049) (x : Int) (h : namedOk S x = true) : OkN x := by
  unfold namedOk at h
  simp only [Bool.and_eq_true, decide_eq_true_eq] at h
  have hc : cnt x = x := by unfold cnt; rw [if_neg (by omega)]
  rw [hc] at h
  have := hS (x / 2) (by simpa using h.1)
  exact ⟨h.2, by omega⟩
theorem ands_step (S : List Int) (hS : ∀ y ∈ S, 0 ≤ y ∧ y ≤ 2049) : ∀ (l : List Tri) (p q : Int), 0 ≤ p → through (andStep S) p l = some q → p + l.length ≤ q ∧ (∀ t ∈ l, 0 ≤ t.a ∧ OkN t.b ∧ OkN t.c) ∧ (q = p ∨ ∃ t ∈ l, q = t.a)
  | [], p, q, _, h => by
    simp only [through, Option.some.injEq] at h
    subst h
    exact ⟨by simp, by simp, .inl rfl⟩
  | t :: l, p, q, hp, h => by
    simp only [through, andStep] at h
    split at h
    · rename_i hc
      simp only [Bool.and_eq_true, decide_eq_true_eq] at hc
      obtain ⟨⟨⟨⟨h1, h2⟩, h3⟩, h4⟩, h5⟩ := hc
      obtain ⟨g1, g2, g3⟩ := ands_step S hS l t.a q (by omega) h
      refine ⟨by rw [List.length_cons]; omega, fun u hu => ?_, ?_⟩
      · rcases List.mem_cons.1 hu with rfl | hu
        · exact ⟨by omega, named_within S hS _ h4, named_within S hS _ h5⟩
        · exact g2 u hu
      · rcases g3 with g3 | ⟨u, hu, g3⟩
        · exact .inr ⟨t, List.mem_cons_self, g3⟩
        · exact .inr ⟨u, List.mem_cons_of_mem _ hu, g3⟩
    · cases h
theorem rank_kind (t : ByteArray) (h : 0 ≤ rankV t) : (∃ k ∈ kindsL, t.data.toList = [k]) ∧ rankV t ≤ 4 := by
  unfold rankV at h ⊢
  cases hq : kinds.findIdx? (fun x => x.toList == t.toList) with
  | none => rw [hq] at h; simp at h
  | some k =>
    rw [List.findIdx?_eq_some_iff_getElem] at hq
    obtain ⟨hk, he, _⟩ := hq
    have he' : kinds[k].toList = t.toList := beq_iff_eq.1 he
    have e : t.toList = t.data.toList := toList_data t
    rw [e] at he'
    clear he e h
    simp only
    match k, hk, he' with
    | 0, _, he' => exact ⟨⟨105, by decide, he'.symm.trans (toList_data _)⟩, by omega⟩
    | 1, _, he' => exact ⟨⟨108, by decide, he'.symm.trans (toList_data _)⟩, by omega⟩
    | 2, _, he' => exact ⟨⟨111, by decide, he'.symm.trans (toList_data _)⟩, by omega⟩
    | 3, _, he' => exact ⟨⟨98, by decide, he'.symm.trans (toList_data _)⟩, by omega⟩
    | 4, _, he' => exact ⟨⟨99, by decide, he'.symm.trans (toList_data _)⟩, by omega⟩
    | k + 5, hk, _ => exact absurd hk (by unfold kinds; simp)
theorem text_word (s : ByteArray) (h : textOk s = true) : Word s.data.toList ∧ s.data.toList.length ≤ 32 := by
  unfold textOk at h
  simp only [Bool.and_eq_true, decide_eq_true_eq] at h
  obtain ⟨⟨h1, h2⟩, h3⟩ := h
  have hl : s.data.toList.length = s.size := by simp
  have no : ∀ c : UInt8, octetOk c = false → c ∉ s.data.toList := fun c hc hm => by
    have := List.all_eq_true.1 h3 c hm
    rw [hc] at this; cases this
  refine ⟨⟨fun e => ?_, no 32 (by decide), no 10 (by decide)⟩, by omega⟩
  rw [e] at hl
  simp at hl
  omega
theorem names_step (c : Cir) (hk : ∀ t, (kindLits c t).length ≤ 64) : ∀ (l : List Nam) (p q : Int × Int), 0 ≤ p.1 → -1 ≤ p.2 → p.2 ≤ 63 → p.1 ≤ 4 → through (nameStep c) p l = some q → 64 * p.1 + p.2 + l.length ≤ 64 * q.1 + q.2 ∧ q.1 ≤ 4 ∧ q.2 ≤ 63 ∧ ∀ n ∈ l, NamFine n ∧ n.text.data.toList.length ≤ 32 ∧ n.num ≤ 64
  | [], p, q, h0, h1, h2, h3, h => by
    simp only [through, Option.some.injEq] at h
    subst h
    exact ⟨by simp, h3, h2, by simp⟩
  | n :: l, p, q, h0, h1, h2, h3, h => by
    simp only [through, nameStep] at h
    split at h
    · rename_i hc
      simp only [Bool.and_eq_true, Bool.or_eq_true, decide_eq_true_eq] at hc
      obtain ⟨⟨c1, c2, c3⟩, c4⟩ := hc
      have hr0 : 0 ≤ rankV n.kind := by rcases c1 with c1 | c1 <;> omega
      obtain ⟨hk1, hk2⟩ := rank_kind n.kind hr0
      have hn := hk n.kind
      obtain ⟨g1, g2, g3, g4⟩ := names_step c hk l (rankV n.kind, n.num) q hr0 (by simp only; omega) (by simp only; omega) hk2 h
      simp only at g1
      obtain ⟨t1, t2⟩ := text_word n.text c4
      refine ⟨by rw [List.length_cons]; rcases c1 with c1 | c1 <;> omega, g2, g3, fun m hm => ?_⟩
      rcases List.mem_cons.1 hm with rfl | hm
      · exact ⟨⟨hk1, ⟨c2, by omega⟩, t1⟩, t2, by omega⟩
      · exact g4 m hm
    · cases h
theorem chk_fine (c : Cir) (h : chk c = true) : Fine c ∧ c.ins.length ≤ 64 ∧ c.lats.length ≤ 64 ∧ c.outs.length ≤ 64 ∧ c.bads.length ≤ 64 ∧ c.invs.length ≤ 64 ∧ c.ands.length ≤ 4097 ∧ c.names.length ≤ 320 ∧ ∀ n ∈ c.names, n.text.data.toList.length ≤ 32 := by
  unfold chk at h
  simp only [Bool.and_eq_true] at h
  obtain ⟨hs, h⟩ := h
  unfold sizesOk lens at hs
  simp only [Bool.and_eq_true, decide_eq_true_eq, List.all_cons, List.all_nil] at hs
  obtain ⟨⟨m0, m1⟩, s1, s2, s3, s4, s5, _⟩ := hs
  cases hd : defAll c.max [0] (own c) with
  | none => rw [hd] at h; cases h
  | some S =>
    rw [hd] at h
    simp only at h
    unfold chkIn at h
    simp only [Bool.and_eq_true, List.all_cons, List.all_nil] at h
    obtain ⟨⟨⟨hl, ha⟩, ho, hb, hv, _⟩, hn⟩ := h
    obtain ⟨hown, hS⟩ := def_within c.max ⟨m0, m1⟩ (own c) [0] S hd (fun y hy => by simp only [List.mem_singleton] at hy; subst hy; omega)
    have oin : ∀ x ∈ c.ins, OkN x := fun x hx => by have := hown x (by unfold own; simp [hx]); exact ⟨this.1, by omega⟩
    have olat : ∀ t ∈ c.lats, OkN t.a := fun t ht => by
      have := hown t.a (by unfold own; simp only [List.mem_append, List.mem_map]; exact .inr (.inl ⟨t, ht, rfl⟩))
      exact ⟨this.1, by omega⟩
    have oand : ∀ t ∈ c.ands, 0 ≤ t.a ∧ t.a ≤ 4097 := fun t ht => hown t.a (by unfold own; simp only [List.mem_append, List.mem_map]; exact .inr (.inr ⟨t, ht, rfl⟩))
    unfold andsOk at ha
    obtain ⟨qa, hqa⟩ := Option.isSome_iff_exists.1 ha
    obtain ⟨a1, a2, a3⟩ := ands_step S hS c.ands 0 qa (by omega) hqa
    unfold namesOk at hn
    obtain ⟨qn, hqn⟩ := Option.isSome_iff_exists.1 hn
    have hkl : ∀ t, (kindLits c t).length ≤ 64 := fun t => by
      unfold kindLits
      split
      · omega
      split
      · rw [List.length_map]; omega
      split
      · omega
      split <;> omega
    obtain ⟨n1, n2, n3, n4⟩ := names_step c hkl c.names (0, -1) qn (by simp) (by simp) (by simp) (by simp) hqn
    simp only at n1
    have hna : (c.ands.length : Int) ≤ 4097 := by
      rcases a3 with a3 | ⟨t, ht, a3⟩
      · omega
      · have := oand t ht; omega
    have lit : ∀ (l : List Int), l.all (namedOk S) = true → ∀ x ∈ l, OkN x := fun l hl x hx => named_within S hS x (List.all_eq_true.1 hl x hx)
    refine ⟨⟨⟨m0, by omega⟩, oin, fun t ht => ?_, lit _ ho, lit _ hb, lit _ hv, fun t ht => ?_, fun n hn => (n4 n hn).1, by omega, by omega, by omega, by omega, by omega, by omega⟩, by omega, by omega, by omega, by omega, by omega, by omega, by omega, fun n hn => (n4 n hn).2.1⟩
    · have h1 := List.all_eq_true.1 hl t ht
      unfold latOk at h1
      simp only [Bool.and_eq_true, Bool.or_eq_true, decide_eq_true_eq] at h1
      have h2 := olat t ht
      refine ⟨h2, named_within S hS _ h1.1, ?_⟩
      rcases h1.2 with (h | h) | h <;> rw [h]
      · exact ⟨by omega, by omega⟩
      · exact ⟨by omega, by omega⟩
      · exact h2
    · have h1 := oand t ht
      obtain ⟨_, b1, b2⟩ := a2 t ht
      exact ⟨⟨h1.1, by omega⟩, b1, b2⟩
end Go.Proofs.YtopjddmgejfalaaGreatDoor.Aag
