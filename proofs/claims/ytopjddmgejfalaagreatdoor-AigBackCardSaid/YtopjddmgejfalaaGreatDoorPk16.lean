/- The walks of aig's reading of lines of words, and of numbers of words; no condition. The walks of aag's reading of ands; no condition. The walks of aag's printing: numbers as words; condition: the table of powers of ten is as it is laid. strings.Builder as the embedded part of aag's writer, written and read: copyCheck, WriteString and String at this translation; no condition but sizes. How long a numeral is; no condition. The walks of aag's printing of lines; conditions: the table of powers of ten is as it is laid, sizes as stated. -/
import Derived.Test.YtopjddmgejfalaaGreatDoorPk15
import Derived.Test.YtopjddmgejfalaaGreatDoorPk13
import Derived.Test.YtopjddmgejfalaaGreatDoorPk14
import Derived.Test.YtopjddmgejfalaaGreatDoorChecked
import Derived.Test.YtopjddmgejfalaaGreatDoorPk09
import Derived.Lib.Builder
import Derived.Lib.AppendStr
import Derived.Shelf.Strings.BuilderX
import Derived.WalkKit
import Derived.ProofKit
import Derived.WalkSpells
import Derived.Lib.Strings
import Derived.Lib.Walk
import Derived.Laws.Externs
import Derived.RegionTactic
import Derived.ChangeAlike
import Derived.Test.YtopjddmgejfalaaGreatDoorPk10
namespace Go.Proofs.YtopjddmgejfalaaGreatDoor.Aig
open Go.ChangeShapes Go.WideShapes Go.ChangeAt Go.RowKit Dig Circ Cw Aag

theorem index_cut : ∀ (l : List UInt8), Lib.index l [10] = match lineCut l with | none => -1 | some x => (x.1.length : Int)
  | [] => rfl
  | b :: l => by
    have ih := index_cut l
    rw [Lib.index, lineCut]
    by_cases hb : b = 10
    · subst hb; simp
    · have : ([10] : List UInt8).isPrefixOf (b :: l) = false := by
        simp only [List.isPrefixOf, Bool.and_true, beq_eq_false_iff_ne, ne_eq]
        exact fun h => hb h.symm
      rw [this, if_neg hb, ih]
      cases lineCut l with
      | none => rfl
      | some x =>
        have : ¬ ((x.1.length : Int) == -1) = true := by simp
        simp [this]
def numsB (l : List UInt8) : List Int := l.map fun x => (x.toNat : Int)
theorem numsB_length (l : List UInt8) : (numsB l).length = l.length := by simp [numsB]
theorem bytesOf_numsB (l : List UInt8) : Lib.bytesOf (numsB l) = l := by
  unfold Lib.bytesOf numsB
  rw [List.map_map]
  conv => rhs; rw [← List.map_id l]
  apply List.map_congr_left
  intro x _
  simp
theorem numsB_range (l : List UInt8) : ∀ x ∈ numsB l, 0 ≤ x ∧ x < 256 := by
  intro x hx
  obtain ⟨y, _, rfl⟩ := List.mem_map.1 hx
  have := y.toNat_lt
  omega
theorem lrow_apart {R B m : Nat} {w w' : World} {C : Option Addr} {xs : List (List Value)} (h : LRow w B m C xs) (hC : ∀ p, C = some p → p.block ≠ R) (hB : B ≤ w.heap.size) (hx : Ext R w w') : LRow w' B m C xs := by
  rcases h with h | ⟨b, o, e, hb, hc⟩
  · exact .inl h
  · exact .inr ⟨b, o, e, hb, fun i ys hi j u hj => by
      rw [← hc i ys hi j u hj]
      exact World.cell?_of_block (w := w) (hx.block b (by omega) (hC _ e))⟩
theorem Lies.bytes {S R : Nat} {l : List UInt8} {A : Option Addr} {q : Nat} {w : World} (h : Lies S R l A q w) : Lib.BytesIn w A l.length (numsB l) := fun hn => by
  obtain ⟨g, o, e, _, _, hc⟩ := h.at_ (by intro e; subst e; simp at hn)
  refine ⟨g, o, e, fun i hi => ?_⟩
  rw [hc i (l[i]'hi) (List.getElem?_eq_getElem hi), List.getD_eq_getElem?_getD, numsB, List.getElem?_map, List.getElem?_eq_getElem hi]
  rfl
theorem cut_run {S R : Nat} {l : List UInt8} {A : Option Addr} {q : Nat} {w : World} (h : Src S R l w) (hl : Lies S R l A q w) :
    Calls Tryz.prog 85 #[.slice A l.length q, .slice (some ⟨w.heap.size, 0, none⟩) 1 1] (w.alloc (.cells #[.int .u8 10] 5)) fun e w' => e = .returned (Lib.cutV A l.length q 1 (Lib.index l [10])) ∧ Below w.heap.size w w' := by
  have hal : Below w.heap.size w (w.alloc (.cells #[.int .u8 10] 5)) := (Below.refl _ _).alloc (Nat.le_refl _) _
  obtain ⟨m, hm⟩ := (h.below hal).mx
  have hlen := h.len
  refine (Tryz.bytes_Cut_all A (some ⟨w.heap.size, 0, none⟩) l.length q 1 1 (numsB l) [10] m _ (numsB_length l) rfl (numsB_range l) (by simp) (hl.below h.ins hal).bytes (fun _ => ⟨_, _, rfl, fun i hi => ?_⟩) hl.nil hl.le (by omega) (by omega) hm).mono fun e w' ⟨he, p, hw⟩ => ?_
  · obtain rfl : i = 0 := by omega
    rw [new_cell]; rfl
  · rw [bytesOf_numsB] at he
    exact ⟨he, by rw [hw]; exact hal.trans ((drewN_below _ _ p).mono hal.size)⟩
theorem nums_back5 (l : List UInt8) : strOfNums (l.map fun b => (b.toNat : Int)) = ⟨l.toArray⟩ := by
  unfold strOfNums
  congr 2
  rw [List.map_map]
  conv => rhs; rw [← List.map_id l]
  exact List.map_congr_left fun b _ => by simp
/-- octets of a row, as a text -/
theorem conv5 {w : World} {g o n cap : Nat} {l : List UInt8} (hn : l.length = n) (h : ∀ (i : Nat) (b : UInt8), l[i]? = some b → w.cell? ⟨g, o + i, none⟩ = some (.int .u8 b.toNat)) : (convert 28 9 (.slice (some ⟨g, o, none⟩) n cap)).run Tryz.prog w = .ok (sv l) w := by
  have := run_convert_bytes_arg (P := Tryz.prog) (w := w) 28 5 Tryz.underlying28 Tryz.underlying5 g o n cap (l.map fun b => (b.toNat : Int)) (by simpa using hn) (fun i hi => by
    rw [h i (l[i]'(by omega)) (List.getElem?_eq_getElem (by omega)), List.getD_eq_getElem?_getD, List.getElem?_map, List.getElem?_eq_getElem (by omega)]; rfl) 9 Tryz.underlying9
  rw [this, nums_back5]; rfl
theorem words_own (s : ByteArray) (w : World) (hs : s.size ≤ 4194304) (hm : MaxCell w) :
    Calls Tryz.prog 86 #[.string s] w fun e w' => ∃ a cap, e = .returned (.slice a (wordsL s.data.toList).length cap) ∧ (ReadsAt a (wordsL s.data.toList) w' ∧ ∀ p, a = some p → w.heap.size ≤ p.block) ∧ Below w.heap.size w w' :=
  (words_any s w hs hm).mono fun e w' ⟨v, he, hv, hb⟩ => by
    obtain ⟨a, cap, h1, h2⟩ := hv.reads.at_
    refine ⟨a, cap, by rw [he, h1], ⟨h2, fun p hp => ?_⟩, hb⟩
    subst h1; subst hp
    obtain ⟨_, h⟩ := hv
    rcases h with ⟨h, _⟩ | ⟨g, cp, cur, hv, hb, _⟩
    · simp at h
    · simp only [Value.slice.injEq, Option.some.injEq] at hv
      rw [hv.1]; exact hb
theorem cutV_none (A : Option Addr) (n q : Nat) : Lib.cutV A n q 1 (-1) = .tuple #[.slice A n q, .slice none 0 0, .bool false] := rfl
theorem cutV_some (A : Option Addr) (n q k : Nat) : Lib.cutV A n q 1 (k : Int) = .tuple #[.slice A k q, Lib.fromV A n q (k + 1), .bool true] := by
  unfold Lib.cutV; rw [if_pos (by omega)]; rfl

set_option maxHeartbeats 2000000 in
set_option maxRecDepth 100000 in
theorem words_none {S R : Nat} {l : List UInt8} (C : Value) (w : World) (h : Src S R l w) (hc : lineCut l = none) :
    Calls Tryz.prog 59 #[.pointer (some ⟨R, 0, none⟩), C] w fun e w' => e = .panicked fault5 ∧ Ext R w w' := by
  obtain ⟨A, q, hl⟩ := h.lie
  have CT := Lib.hid (cut_run h hl)
  rw [index_cut, hc] at CT
  simp only [cutV_none] at CT
  have c0 : w.cell? ⟨R, 0, none⟩ = some (.slice A l.length q) := by rw [Lib.cell_of_heap hl.blk]; rfl
  clear h hl hc
  go_enter Tryz.func59, Tryz.ntmps59
  go_wp2_with fail
  refine CT.out.mono ?_
  rintro e w1 ⟨rfl, hb⟩
  go_wp2_with fail
  refine (need_fault _ _).mono ?_
  rintro e w2 ⟨rfl, rfl⟩
  exact ⟨rfl, rfl, Ext.of hb⟩
set_option maxHeartbeats 2000000 in
set_option maxRecDepth 100000 in
theorem words_ok {S R : Nat} {l y r : List UInt8} (cs : List Nat) (C : Option Addr) (qc B : Nat) (w : World) (h : Src S R l w) (hct : lineCut l = some (y, r)) (hc : LRow w B 1 C (ints (cs.map fun x : Nat => (x : Int)))) (hB : B ≤ w.heap.size) (hC : ∀ p, C = some p → p.block ≠ R) (hl : cs.length ≤ 100) (hw : wordsOk cs y = true) :
    Calls Tryz.prog 59 #[.pointer (some ⟨R, 0, none⟩), .slice C cs.length qc] w fun e w' => ∃ A' q', e = .returned (.slice A' (wordsL y).length q') ∧ ReadsAt A' (wordsL y) w' ∧ (∀ p, A' = some p → w.heap.size ≤ p.block) ∧ Src S R r w' ∧ Ext R w w' := by
  obtain ⟨A, q, hL⟩ := h.lie
  have CT := Lib.hid (cut_run h hL)
  rw [index_cut, hct] at CT
  simp only [cutV_some] at CT
  have c0 : w.cell? ⟨R, 0, none⟩ = some (.slice A l.length q) := by rw [Lib.cell_of_heap hL.blk]; rfl
  obtain ⟨hly, -⟩ := lineCut_eq _ _ _ hct
  have hle := hL.le
  have hmx := hL.mx
  have hlen := h.len
  have hll : l.length = y.length + 1 + r.length := by rw [hly]; simp; omega
  obtain ⟨g, o, rfl, hg, hgl, hcell⟩ := hL.at_ (by rw [hly]; simp)
  have HCY : Hid (∀ (i : Nat) b, y[i]? = some b → w.cell? ⟨g, o + i, none⟩ = some (.int .u8 b.toNat)) := fun i b hi => hcell i b (by
    rw [hly, List.getElem?_append_left (List.getElem?_eq_some_iff.1 hi).1]; exact hi)
  have H := Lib.hid h
  have HL := Lib.hid hL
  have HC := Lib.hid hc
  have HRW : Hid (R < w.heap.size) := h.lt
  obtain ⟨_, hwl⟩ := words_len y
  unfold wordsOk at hw
  simp only [Bool.and_eq_true, beq_iff_eq] at hw
  obtain ⟨hw1, hw2⟩ := hw
  have HW1 : Hid _ := any_contains cs (wordsL y).length
  have HW2 : Hid (cs.contains (wordsL y).length = true) := hw1
  have HW3 : Hid (joinL (wordsL y) = y) := hw2
  have hlenc : (cs.map fun x : Nat => (x : Int)).length = cs.length := by simp
  have HLY := Lib.hid hly
  have hyl : y.length ≤ 65536 := by omega
  have hql : y.length ≤ q := by omega
  have HGL : Hid (g < w.heap.size) := Nat.lt_of_lt_of_le hgl hL.bd
  have HGR : Hid (g ≠ R) := hg
  have HCP := Lib.hid hC
  clear h hL hc hw1 hw2 hcell hct hly hgl hg hC
  obtain ⟨A2, hfv⟩ : ∃ A2, Lib.fromV (some ⟨g, o, none⟩) l.length q (y.length + 1) = .slice A2 (l.length - (y.length + 1)) (q - (y.length + 1)) := ⟨_, rfl⟩
  have HFV := Lib.hid hfv
  have HLL := Lib.hid hll
  rw [hfv] at CT
  clear hfv hll
  go_enter Tryz.func59, Tryz.ntmps59
  go_wp2_with fail
  refine CT.out.mono ?_
  rintro e w1 ⟨rfl, hb1⟩
  have hl1 := HL.out.below H.out.ins hb1
  have c1 : w1.cell? ⟨R, 0, none⟩ = some (.slice (some ⟨g, o, none⟩) l.length q) := by rw [Lib.cell_of_heap hl1.blk]; rfl
  obtain ⟨Z, u, ⟨hS, p0, t0⟩, EZ, FZ⟩ := step_set w1 _ 0 (.slice A2 (l.length - (y.length + 1)) (q - (y.length + 1))) hl1.blk (by simp)
  have hu : u = .slice (some ⟨g, o, none⟩) l.length q := Option.some.inj (p0.symm.trans c1)
  subst hu
  have hx : Ext R w1 Z := ⟨FZ.os, FZ.tape, FZ.output, Nat.le_of_eq FZ.z.symm, fun k _ hk => FZ.b k hk⟩
  have HX : Hid (Ext R w Z) := (Ext.of hb1).trans hx
  have HSZ : Hid (Src S R r Z) := by
    have h3 := (H.out.below hb1).drop hl1 hx (y.length + 1) (by have := HLL.out; omega) (by rw [EZ, HFV.out]; rfl)
    have h4 : l.drop (y.length + 1) = r := by rw [HLY.out, show y ++ 10 :: r = (y ++ [10]) ++ r by simp, List.drop_left' (by simp)]
    rwa [h4] at h3
  have hcv : (convert 28 9 (.slice (some ⟨g, o, none⟩) y.length q)).run Tryz.prog Z = .ok (sv y) Z := conv5 rfl fun i b hi => by
    rw [← HCY.out i b hi]
    exact World.cell?_of_block (w := w) (HX.out.block g HGL.out HGR.out)
  have HCC : Hid (LRow Z B 1 C (ints (cs.map fun x : Nat => (x : Int)))) := by
    exact lrow_apart HC.out HCP.out hB HX.out
  have WD := Lib.hid (words_own ⟨y.toArray⟩ Z (by simp [ByteArray.size]; omega) HSZ.out.mx)
  unfold sv at hcv
  clear hx EZ FZ hl1 c1 hb1 CT
  go_wp2_with fail
  refine (need_ok _ _).mono ?_
  rintro e w2 ⟨rfl, rfl⟩
  go_wp2_with fail
  refine WD.out.mono ?_
  rintro e w2 ⟨A', q', rfl, ⟨hr, hfr⟩, hb2⟩
  have HFR : Hid (∀ p, A' = some p → w.heap.size ≤ p.block) := fun p hp => Nat.le_trans HX.out.size (hfr p hp)
  clear hfr
  have HR := Lib.hid hr
  clear hr WD
  have CN := Lib.hid (contains_any (cs.map fun x : Nat => (x : Int)) C qc B ((wordsL y).length : Int) w2 (by rw [hlenc]; omega) (HCC.out.below (hb2.mono (Nat.le_trans hB HX.out.size))))
  rw [HW1.out, HW2.out, hlenc] at CN
  have JN := Lib.hid (join_any (.slice A' (wordsL y).length q') (wordsL y) w2 HR.out.texts (by omega))
  rw [HW3.out] at JN
  unfold sv at JN
  go_wp2_with fail
  refine CN.out.mono ?_
  rintro e w3 ⟨rfl, rfl⟩
  go_wp2_with fail
  refine (need_ok _ _).mono ?_
  rintro e w3 ⟨rfl, rfl⟩
  go_wp2_with fail
  refine JN.out.mono ?_
  rintro e w3 ⟨rfl, hb3⟩
  go_wp2_with fail
  refine (need_ok _ _).mono ?_
  rintro e w4 ⟨rfl, rfl⟩
  go_wp2
  go_ret
  refine ⟨A', q', rfl, ?_, HFR.out, ?_, ?_⟩
  · exact HR.out.below hb3
  · exact (HSZ.out.below hb2).below hb3
  · exact HX.out.trans ((Ext.of hb2).trans (Ext.of hb3))
set_option maxHeartbeats 2000000 in
set_option maxRecDepth 100000 in
theorem words_fault {S R : Nat} {l y r : List UInt8} (cs : List Nat) (C : Option Addr) (qc B : Nat) (w : World) (h : Src S R l w) (hct : lineCut l = some (y, r)) (hc : LRow w B 1 C (ints (cs.map fun x : Nat => (x : Int)))) (hB : B ≤ w.heap.size) (hC : ∀ p, C = some p → p.block ≠ R) (hl : cs.length ≤ 100) (hw : wordsOk cs y = false) :
    Calls Tryz.prog 59 #[.pointer (some ⟨R, 0, none⟩), .slice C cs.length qc] w fun e w' => e = .panicked fault5 ∧ Ext R w w' := by
  obtain ⟨A, q, hL⟩ := h.lie
  have CT := Lib.hid (cut_run h hL)
  rw [index_cut, hct] at CT
  simp only [cutV_some] at CT
  have c0 : w.cell? ⟨R, 0, none⟩ = some (.slice A l.length q) := by rw [Lib.cell_of_heap hL.blk]; rfl
  obtain ⟨hly, -⟩ := lineCut_eq _ _ _ hct
  have hle := hL.le
  have hmx := hL.mx
  have hlen := h.len
  have hll : l.length = y.length + 1 + r.length := by rw [hly]; simp; omega
  obtain ⟨g, o, rfl, hg, hgl, hcell⟩ := hL.at_ (by rw [hly]; simp)
  have HCY : Hid (∀ (i : Nat) b, y[i]? = some b → w.cell? ⟨g, o + i, none⟩ = some (.int .u8 b.toNat)) := fun i b hi => hcell i b (by
    rw [hly, List.getElem?_append_left (List.getElem?_eq_some_iff.1 hi).1]; exact hi)
  have H := Lib.hid h
  have HL := Lib.hid hL
  have HC := Lib.hid hc
  have HRW : Hid (R < w.heap.size) := h.lt
  obtain ⟨_, hwl⟩ := words_len y
  unfold wordsOk at hw
  have HW0 := Lib.hid hw
  have HW1 : Hid _ := any_contains cs (wordsL y).length
  have hlenc : (cs.map fun x : Nat => (x : Int)).length = cs.length := by simp
  have HLY := Lib.hid hly
  have hyl : y.length ≤ 65536 := by omega
  have hql : y.length ≤ q := by omega
  have HGL : Hid (g < w.heap.size) := Nat.lt_of_lt_of_le hgl hL.bd
  have HGR : Hid (g ≠ R) := hg
  have HCP := Lib.hid hC
  clear h hL hc hw hcell hct hly hgl hg hC
  obtain ⟨A2, hfv⟩ : ∃ A2, Lib.fromV (some ⟨g, o, none⟩) l.length q (y.length + 1) = .slice A2 (l.length - (y.length + 1)) (q - (y.length + 1)) := ⟨_, rfl⟩
  have HFV := Lib.hid hfv
  have HLL := Lib.hid hll
  rw [hfv] at CT
  clear hfv hll
  go_enter Tryz.func59, Tryz.ntmps59
  go_wp2_with fail
  refine CT.out.mono ?_
  rintro e w1 ⟨rfl, hb1⟩
  have hl1 := HL.out.below H.out.ins hb1
  have c1 : w1.cell? ⟨R, 0, none⟩ = some (.slice (some ⟨g, o, none⟩) l.length q) := by rw [Lib.cell_of_heap hl1.blk]; rfl
  obtain ⟨Z, u, ⟨hS, p0, t0⟩, EZ, FZ⟩ := step_set w1 _ 0 (.slice A2 (l.length - (y.length + 1)) (q - (y.length + 1))) hl1.blk (by simp)
  have hu : u = .slice (some ⟨g, o, none⟩) l.length q := Option.some.inj (p0.symm.trans c1)
  subst hu
  have hx : Ext R w1 Z := ⟨FZ.os, FZ.tape, FZ.output, Nat.le_of_eq FZ.z.symm, fun k _ hk => FZ.b k hk⟩
  have HX : Hid (Ext R w Z) := (Ext.of hb1).trans hx
  have HSZ : Hid (Src S R r Z) := by
    have h3 := (H.out.below hb1).drop hl1 hx (y.length + 1) (by have := HLL.out; omega) (by rw [EZ, HFV.out]; rfl)
    have h4 : l.drop (y.length + 1) = r := by rw [HLY.out, show y ++ 10 :: r = (y ++ [10]) ++ r by simp, List.drop_left' (by simp)]
    rwa [h4] at h3
  have hcv : (convert 28 9 (.slice (some ⟨g, o, none⟩) y.length q)).run Tryz.prog Z = .ok (sv y) Z := conv5 rfl fun i b hi => by
    rw [← HCY.out i b hi]
    exact World.cell?_of_block (w := w) (HX.out.block g HGL.out HGR.out)
  have HCC : Hid (LRow Z B 1 C (ints (cs.map fun x : Nat => (x : Int)))) := by
    exact lrow_apart HC.out HCP.out hB HX.out
  have WD := Lib.hid (words_own ⟨y.toArray⟩ Z (by simp [ByteArray.size]; omega) HSZ.out.mx)
  unfold sv at hcv
  clear hx EZ FZ hl1 c1 hb1 CT
  go_wp2_with fail
  refine (need_ok _ _).mono ?_
  rintro e w2 ⟨rfl, rfl⟩
  go_wp2_with fail
  refine WD.out.mono ?_
  rintro e w2 ⟨A', q', rfl, ⟨hr, -⟩, hb2⟩
  have HR := Lib.hid hr
  have HE2 : Hid (Ext R w w2) := HX.out.trans (Ext.of hb2)
  clear hr WD
  have CN := Lib.hid (contains_any (cs.map fun x : Nat => (x : Int)) C qc B ((wordsL y).length : Int) w2 (by rw [hlenc]; omega) (HCC.out.below (hb2.mono (Nat.le_trans hB HX.out.size))))
  have JN := Lib.hid (join_any (.slice A' (wordsL y).length q') (wordsL y) w2 HR.out.texts (by omega))
  rw [HW1.out, hlenc] at CN
  unfold sv at JN
  cases hw1 : cs.contains (wordsL y).length
  · rw [hw1] at CN
    clear hw1 JN
    go_wp2_with fail
    refine CN.out.mono ?_
    rintro e w3 ⟨rfl, rfl⟩
    go_wp2_with fail
    refine (need_fault _ _).mono ?_
    rintro e w3 ⟨rfl, rfl⟩
    exact ⟨rfl, rfl, HE2.out⟩
  · have hw3 : (joinL (wordsL y) == y) = false := by have := HW0.out; rw [hw1] at this; simpa using this
    rw [hw1] at CN
    have HW3 := Lib.hid hw3
    clear hw1 hw3 HW0
    generalize joinL (wordsL y) = z at *
    go_wp2_with fail
    refine CN.out.mono ?_
    rintro e w3 ⟨rfl, rfl⟩
    go_wp2_with fail
    refine (need_ok _ _).mono ?_
    rintro e w3 ⟨rfl, rfl⟩
    go_wp2_with fail
    refine JN.out.mono ?_
    rintro e w3 ⟨rfl, hb3⟩
    go_wp2_with fail
    rw [HW3.out]
    refine (need_fault _ _).mono ?_
    rintro e w4 ⟨rfl, rfl⟩
    exact ⟨rfl, rfl, HE2.out.trans (Ext.of hb3)⟩
theorem parsed_ok {R : Nat} (s : List UInt8) (w : World) (hs : s.length ≤ 4194304) (h : numOk s = true) :
    Calls Tryz.prog 60 #[.pointer (some ⟨R, 0, none⟩), sv s] w fun e w' => e = .returned (.int .i64 (numV s)) ∧ Below w.heap.size w w' := by
  have PA := Lib.hid (Dig.parse_any ⟨s.toArray⟩ w (by unfold maxLen; simp [ByteArray.size]; omega))
  unfold numOk at h
  simp only [Bool.and_eq_true, decide_eq_true_eq] at h
  obtain ⟨h1, h2⟩ := h
  unfold parseOut at PA
  simp only at PA
  unfold numV
  have h3 : decide (0 ≤ (parseL s).1) = true := by simpa using h2
  rw [h1] at PA
  clear h1
  generalize (parseL s).1 = n at *
  go_enter Tryz.func60, Tryz.ntmps60
  go_wp2_with fail
  refine PA.out.mono ?_
  rintro e w1 ⟨rfl, hb⟩
  go_wp2_with (go_at_call 21; refine (need_ok _ _).mono ?_; rintro e w' ⟨rfl, rfl⟩)
  go_ret
  exact ⟨rfl, hb⟩
theorem parsed_fault {R : Nat} (s : List UInt8) (w : World) (hs : s.length ≤ 4194304) (h : numOk s = false) :
    Calls Tryz.prog 60 #[.pointer (some ⟨R, 0, none⟩), sv s] w fun e w' => e = .panicked (fault5) ∧ Below w.heap.size w w' := by
  have PA := Lib.hid (Dig.parse_any ⟨s.toArray⟩ w (by unfold maxLen; simp [ByteArray.size]; omega))
  unfold parseOut at PA
  simp only at PA
  unfold numOk at h
  by_cases h1 : (parseL s).2 = 0
  · have h2 : ¬ 0 ≤ (parseL s).1 := by
      intro h2
      simp [h1, h2] at h
    have h3 : decide (0 ≤ (parseL s).1) = false := by simpa using h2
    rw [h1] at PA
    clear h h1 h2
    generalize (parseL s).1 = n at *
    go_enter Tryz.func60, Tryz.ntmps60
    go_wp2_with fail
    refine PA.out.mono ?_
    rintro e w1 ⟨rfl, hb⟩
    go_wp2_with fail
    refine (need_fault _ _).mono ?_
    rintro e w2 ⟨rfl, rfl⟩
    exact ⟨rfl, rfl, hb⟩
  · have h2 : ((parseL s).2 == 0) = false := by simpa using h1
    clear h
    generalize (parseL s).1 = n at *
    generalize (parseL s).2 = m at *
    go_enter Tryz.func60, Tryz.ntmps60
    go_wp2_with fail
    refine PA.out.mono ?_
    rintro e w1 ⟨rfl, hb⟩
    go_wp2_with fail
    refine (need_fault _ _).mono ?_
    rintro e w2 ⟨rfl, rfl⟩
    exact ⟨rfl, rfl, hb⟩

/-- what a line of words is read as -/
def wl (cs : List Nat) (y : List UInt8) : Option (List (List UInt8)) := if wordsOk cs y = true then some (wordsL y) else none
def WordsP (w : World) (ws : List (List UInt8)) (e : Ending) (w' : World) : Prop := ∃ A' q', e = .returned (.slice A' ws.length q') ∧ ReadsAt A' ws w' ∧ ∀ p, A' = some p → w.heap.size ≤ p.block
theorem rdLine_none {α : Type} {form : List UInt8 → Option α} {l : List UInt8} (h : lineCut l = none) : rdLine form l = none := by unfold rdLine; rw [h]; rfl
theorem rdLine_some {α : Type} {form : List UInt8 → Option α} {l y r : List UInt8} (h : lineCut l = some (y, r)) : rdLine form l = (form y).map fun a => (a, r) := by unfold rdLine; rw [h]; rfl
theorem reader_words {S R : Nat} {l : List UInt8} (cs : List Nat) (C : Option Addr) (qc B : Nat) (w : World) (h : Src S R l w) (hc : LRow w B 1 C (ints (cs.map fun x : Nat => (x : Int)))) (hB : B ≤ w.heap.size) (hC : ∀ p, C = some p → p.block ≠ R) (hl : cs.length ≤ 100) :
    Calls Tryz.prog 59 #[.pointer (some ⟨R, 0, none⟩), .slice C cs.length qc] w (Runs5 S R w (rdLine (wl cs) l) (WordsP w)) := by
  cases hct : lineCut l with
  | none => exact (words_none _ w h hct).mono fun e w' hp => runs5_none (rdLine_none hct) hp
  | some x =>
    obtain ⟨y, r⟩ := x
    cases hw : wordsOk cs y
    · exact (words_fault cs C qc B w h hct hc hB hC hl hw).mono fun e w' hp => runs5_none (by rw [rdLine_some hct]; unfold wl; rw [hw]; rfl) hp
    · exact (words_ok cs C qc B w h hct hc hB hC hl hw).mono fun e w' ⟨A', q', h1, h2, h3, h4, h5⟩ => runs5_some (y := wordsL y) (r := r) (by rw [rdLine_some hct]; unfold wl; rw [hw]; rfl) ⟨⟨A', q', h1, h2, h3⟩, h4, h5⟩
theorem parsed_any {R : Nat} (s : List UInt8) (w : World) (hs : s.length ≤ 4194304) :
    Calls Tryz.prog 60 #[.pointer (some ⟨R, 0, none⟩), sv s] w fun e w' => Below w.heap.size w w' ∧ ((numOk s = true ∧ e = .returned (.int .i64 (numV s))) ∨ (numOk s = false ∧ e = .panicked fault5)) := by
  cases h : numOk s
  · exact (parsed_fault (R := R) s w hs h).mono fun e w' ⟨he, hb⟩ => ⟨hb, .inr ⟨rfl, he⟩⟩
  · exact (parsed_ok (R := R) s w hs h).mono fun e w' ⟨he, hb⟩ => ⟨hb, .inl ⟨rfl, he⟩⟩
end Go.Proofs.YtopjddmgejfalaaGreatDoor.Aig
namespace Go.Proofs.YtopjddmgejfalaaGreatDoor.Aag
open Go.ChangeShapes Go.WideShapes Go.ChangeAt Go.RowKit Dig Circ Cw

theorem tris_snoc (l : List Tri) (t : Tri) : tris l ++ [t.cells] = tris (l ++ [t]) := by simp [tris]
theorem op_move (a : Act) (w : World) (t : Nat) (oo : Oper) (ho : oo.op = .move (.tmp t)) : (execOp a.eval oo).run Tryz.prog w = .ok (.value (a.tmps.getD t undef)) w := by
  unfold execOp
  rw [ho]
  go_simp
theorem op_assign (a : Act) (w : World) (t : Nat) (oo : Oper) (ho : oo.op = .assign (.tmp t)) : (execOp a.eval oo).run Tryz.prog w = .ok (.value (a.tmps.getD t undef)) w := by
  unfold execOp
  rw [ho]
  go_simp
theorem op_load_int (a : Act) (w : World) (A : Addr) (t : Nat) (v : Value) (h : a.tmps.getD t undef = .pointer (some A)) (hc : w.cell? A = some v) (oo : Oper) (ho : oo.op = .load 3 (.tmp t)) : (execOp a.eval oo).run Tryz.prog w = .ok (.value v) w := by
  have h' : a.tmps[t]?.getD undef = .pointer (some A) := by simpa using h
  unfold execOp
  rw [ho]
  go_simp
end Go.Proofs.YtopjddmgejfalaaGreatDoor.Aag
namespace Go.Proofs.YtopjddmgejfalaaGreatDoor.Aag
open Go.ChangeShapes Go.WideShapes Go.ChangeAt Go.RowKit Dig Circ Cw

def svs (l : List (List UInt8)) : List (List Value) := l.map fun s => [sv s]
theorem svs_length (l : List (List UInt8)) : (svs l).length = l.length := by simp [svs]
theorem svs_flatten (l : List (List UInt8)) : (svs l).flatten = l.map sv := by
  induction l with
  | nil => rfl
  | cons a l ih => unfold svs at ih ⊢; simp [ih]
theorem svs_texts {w : World} {B : Nat} {v : Value} {l : List (List UInt8)} (h : OwnC w B 9 1 v (svs l)) : Texts B v l w := by
  unfold OwnC at h
  rw [svs_length, svs_flatten] at h
  exact h
theorem svs_snoc (l : List (List UInt8)) (s : List UInt8) : svs l ++ [[sv s]] = svs (l ++ [s]) := by simp [svs]
theorem nums_take (l : List Int) (k : Nat) (h : k < l.length) : nums (l.take (k + 1)) = nums (l.take k) ++ [Lib.itoa l[k]] := by
  unfold nums; rw [List.take_succ_eq_append_getElem h, List.map_append, List.map_cons, List.map_nil]
end Go.Proofs.YtopjddmgejfalaaGreatDoor.Aag
namespace Go.Proofs.YtopjddmgejfalaaGreatDoor.Bldw
open Go.RowKit

theorem sizeBuilder : (Tryz.prog.info? 105).map (·.size) = some 2 := by kernel_rfl
theorem infoByte : (Tryz.prog.info? 5).map (fun i => (i.zero, i.size, i.bytes)) = some (some (.int .u8 0), 1, 1) := by kernel_rfl

/-- all blocks but b, and but those of bytes, are as they were -/
def KeptT (b : Nat) (w w' : World) : Prop := ∀ k, k < w.heap.size → k ≠ b → (∀ c f, w.heap[k]? ≠ some (.cells c 5 f)) → w'.heap[k]? = w.heap[k]?
theorem KeptT.trans {b : Nat} {w w1 w2 : World} (h : KeptT b w w1) (hz : w.heap.size ≤ w1.heap.size) (k : KeptT b w1 w2) : KeptT b w w2 := fun i hi hb hc => by
  have e := h i hi hb hc
  rw [← e]
  exact k i (Nat.lt_of_lt_of_le hi hz) hb (fun c f => by rw [e]; exact hc c f)
theorem KeptT.of {b : Nat} {w w' : World} (h : Below w.heap.size w w') : KeptT b w w' := fun k hk _ _ => h.block k hk
set_option maxRecDepth 100000 in
theorem check_used (b : Nat) (w : World) (h0 : w.cell? ⟨b, 0, none⟩ = some (.pointer (some ⟨b, 0, none⟩))) :
    Calls Tryz.prog 83 #[.pointer (some ⟨b, 0, none⟩)] w fun e w' => e = .returned (.tuple #[]) ∧ w = w' := by
  obtain ⟨j, hj, _⟩ := Option.map_eq_some_iff.1 sizeBuilder
  go_enter Tryz.func83, Tryz.ntmps83
  go_wp2
  rw [Lib.run_neq_ptr_same w _ Tryz.underlying103 hj]
  go_wp2
  go_end0
  exact ⟨rfl, rfl⟩

theorem cellsByte : Tryz.prog.cellsOf 5 = 1 := by kernel_rfl
end Go.Proofs.YtopjddmgejfalaaGreatDoor.Bldw
namespace Go.Proofs.YtopjddmgejfalaaGreatDoor.Dig
open Go.ChangeShapes Go.WideShapes Go.ChangeAt Go.RowKit

theorem itoa_len (n : Int) (h0 : -9223372036854775808 ≤ n) (h1 : n ≤ 9223372036854775807) : (Lib.itoa n).length ≤ 21 := by
  have h : ∀ u : Nat, u < 10 ^ 20 → (Lib.decDigits u).length ≤ 20 := fun u hu => by
    rw [Lib.decDigits_length]
    rcases Nat.lt_or_ge 20 (Lib.nDigits u) with h | h
    · exfalso
      have : ∀ k u : Nat, k + 1 ≤ Lib.nDigits u → 10 ^ k ≤ u ∨ k = 0 := by
        intro k
        induction k with
        | zero => intro u _; exact .inr rfl
        | succ k ih =>
          intro u hu
          left
          by_cases hs : u < 10
          · rw [Lib.nDigits_small hs] at hu; omega
          · rw [Lib.nDigits_big hs] at hu
            have := ih (u / 10) (by omega)
            rw [Nat.pow_succ]
            rcases this with h | h
            · omega
            · subst h; omega
      rcases this 20 u (by omega) with h | h
      · omega
      · omega
    · exact h
  unfold Lib.itoa
  split
  · simp only [List.length_cons]; have := h n.natAbs (by omega); omega
  · have := h n.toNat (by omega); omega

end Go.Proofs.YtopjddmgejfalaaGreatDoor.Dig
namespace Go.Proofs.YtopjddmgejfalaaGreatDoor.Aag
open Go.ChangeShapes Go.WideShapes Go.ChangeAt Go.RowKit Dig Circ Cw

theorem op_nil (a : Act) (w : World) (A : Addr) (t : Nat) (h : a.tmps.getD t undef = .pointer (some A)) (oo : Oper) (ho : oo.op = .nilCheck (.tmp t)) : (execOp a.eval oo).run Tryz.prog w = .ok (.value (.pointer (some A))) w := by
  have h' : a.tmps[t]?.getD undef = .pointer (some A) := by simpa using h
  unfold execOp
  rw [ho]
  go_simp
theorem op_call1 (a : Act) (w : World) (f t T : Nat) (hf : ∀ args w, (callFunc f args).run Tryz.prog w = .ok (.enter f args) w) (oo : Oper) (ho : oo.op = .call { callee := .value (.func f), args := #[.tmp t], argTypes := #[T] }) : (execOp a.eval oo).run Tryz.prog w = .ok (.enter f #[a.tmps.getD t undef]) w := by
  unfold execOp
  rw [ho]
  go_simp
theorem op_call2 (a : Act) (w : World) (f t s T S : Nat) (hf : ∀ args w, (callFunc f args).run Tryz.prog w = .ok (.enter f args) w) (oo : Oper) (ho : oo.op = .call { callee := .value (.func f), args := #[.tmp t, .tmp s], argTypes := #[T, S] }) : (execOp a.eval oo).run Tryz.prog w = .ok (.enter f #[a.tmps.getD t undef, a.tmps.getD s undef]) w := by
  unfold execOp
  rw [ho]
  go_simp
def lineM (j : Nat) : List Nat := if j < 5 then [4 + j] else []
theorem own_type {w : World} {base : Nat} {e : TypeId} {m : Nat} {v : Value} {xs : List (List Value)} (h : OwnC w base e m v xs) {g : Nat} (hg : v.ownBlock = some g) : ∃ cur, w.heap[g]? = some (.cells cur e (0, 0)) := by
  obtain ⟨_, h⟩ := h
  rcases h with ⟨rfl, h0⟩ | ⟨g', cap, cur, rfl, hb, hh, _⟩
  · simp [Value.ownBlock] at hg
  · have : g' = g := by simpa [Value.ownBlock] using hg
    subst this
    exact ⟨cur, hh⟩
theorem nl_snoc (l : List (List UInt8)) (x : List UInt8) : nlL (l ++ [x]) = nlL l ++ (x ++ [10]) := by rw [nl_append]; simp [nlL]
theorem one_text (w : World) (s : List UInt8) : ReadsTexts (.slice (some ⟨w.heap.size, 0, none⟩) 1 1) [s] (w.alloc (.cells #[sv s] 9)) :=
  .inr ⟨w.heap.size, 0, 1, rfl, by simp, fun i hi => by
    have : i = 0 := by simpa using hi
    subst this
    rw [Nat.add_zero, new_cell]; rfl⟩
theorem itoa_short (n : Int) (h : I64 n) : (Lib.itoa n).length ≤ 21 := itoa_len n h.1 h.2
theorem nl_lits (l : List Int) (h : ∀ x ∈ l, I64 x) : (nlL (l.map litL)).length ≤ 22 * l.length := by
  induction l with
  | nil => simp [nlL]
  | cons x l ih =>
    have h1 := ih fun y hy => h y (List.mem_cons_of_mem _ hy)
    have h2 := itoa_short x (h x List.mem_cons_self)
    have e : nlL ((x :: l).map litL) = (Lib.itoa x ++ [10]) ++ nlL (l.map litL) := by unfold nlL litL nums; rfl
    rw [e, List.length_append, List.length_append, List.length_cons]
    simp only [List.length_cons, List.length_nil]
    omega
end Go.Proofs.YtopjddmgejfalaaGreatDoor.Aag
