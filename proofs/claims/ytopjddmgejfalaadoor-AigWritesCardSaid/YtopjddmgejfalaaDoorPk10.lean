/- strings.Builder, written: copyCheck and WriteString at this translation; a builder that the call itself has made. The walks of Words, Lines, Join; bounds on sizes as they are stated. The walks of aag's reading, line by line: what hands out lines, and what refuses them; no condition. Appending to a list of any elements that a call makes itself; no condition. The walks of aag's reading of lines of numbers; no condition. The walks of aag's reading of ands; no condition. The walks of aag's printing: numbers as words; condition: the table of powers of ten is as it is laid. strings.Builder as the embedded part of aag's writer, written and read: copyCheck, WriteString and String at this translation; no condition but sizes. How long a numeral is; no condition. The walks of aag's printing of lines; conditions: the table of powers of ten is as it is laid, sizes as stated. The walks of aag's printing of a latch's line and of the header; conditions: the table of powers of ten is as it is laid, sizes as stated. The walk of the region in which aag prints a name's line; conditions: the table of powers of ten is as it is laid, sizes as stated. -/
import Derived.Test.YtopjddmgejfalaaDoorChecked
import Derived.Test.YtopjddmgejfalaaDoorPk09
import Derived.Lib.Builder
import Derived.Lib.AppendStr
import Derived.Shelf.Strings.BuilderX
import Derived.WalkKit
import Derived.ProofKit
import Derived.WalkSpells
import Derived.Lib.Strings
import Derived.Lib.Walk
import Derived.Laws.Externs
import Derived.Test.YtopjddmgejfalaaDoorPk07
import Derived.Test.YtopjddmgejfalaaDoorPk05
import Derived.Deep.QuietTactic
import Derived.BigQuiet
import Derived.RegionTactic
import Derived.ChangeAlike
namespace Go.Proofs.YtopjddmgejfalaaDoor.Bld
open Go.RowKit

theorem sizeBuilder : (Tryd.prog.info? 111).map (·.size) = some 2 := by kernel_rfl
theorem liesBuilder : liesAt Tryd.prog Tryd.prog.depth 111 (2 / Tryd.prog.cellsOf 111) 0 111 1 = true := by kernel_rfl
theorem infoByte : (Tryd.prog.info? 5).map (fun i => (i.zero, i.size, i.bytes)) = some (some (.int .u8 0), 1, 1) := by kernel_rfl

set_option maxRecDepth 100000 in
theorem check_used (b : Nat) (w : World) (h0 : w.cell? ⟨b, 0, none⟩ = some (.pointer (some ⟨b, 0, none⟩))) :
    Calls Tryd.prog 87 #[.pointer (some ⟨b, 0, none⟩)] w fun e w' => e = .returned (.tuple #[]) ∧ w = w' := by
  obtain ⟨j, hj, _⟩ := Option.map_eq_some_iff.1 sizeBuilder
  go_enter Tryd.func87, Tryd.ntmps87
  go_wp2
  rw [Lib.run_neq_ptr_same w _ Tryd.underlying109 hj]
  go_wp2
  go_end0
  exact ⟨rfl, rfl⟩

set_option maxRecDepth 100000 in
theorem check_fresh (b : Nat) (w : World) (h0 : w.cell? ⟨b, 0, none⟩ = some (.pointer none)) (hsh : w.shape? b = some (111, 2)) (hfz : w.frozen? ⟨b, 0, none⟩ = false) :
    Calls Tryd.prog 87 #[.pointer (some ⟨b, 0, none⟩)] w fun e w' => e = .returned (.tuple #[]) ∧ w.setCell ⟨b, 0, none⟩ (.pointer (some ⟨b, 0, none⟩)) = w' := by
  obtain ⟨j, hj, hjs⟩ := Option.map_eq_some_iff.1 sizeBuilder
  go_enter Tryd.func87, Tryd.ntmps87
  go_wp2
  rw [Lib.run_to_unsafe w ⟨b, 0, none⟩ Tryd.underlying109 Tryd.underlying121 hj (by rw [hjs]; decide) hsh (Nat.zero_lt_succ 1)]
  simp only [Result.andThen]
  rw [Oper.upon_value]
  go_wp2
  rw [run_callFunc_extern Tryd.func91 (by kernel_rfl) (by kernel_rfl) (by kernel_rfl) (e := Extern.AbiNoEscape.same) (by kernel_rfl)]
  rw [Lib.run_noEscape]
  simp only [Result.andThen]
  rw [Oper.upon_value]
  go_wp2
  rw [Lib.run_from_unsafe w ⟨b, 0, none⟩ Tryd.underlying121 Tryd.underlying109 hj hsh liesBuilder]
  simp only [Result.andThen]
  rw [Oper.upon_value]
  go_wp2
  go_end0
  exact ⟨rfl, rfl⟩

set_option maxRecDepth 100000 in
theorem check_any (B b : Nat) (bs : List Value) (w : World) (h : Lib.IsBuilder 111 5 B b bs w) :
    Calls Tryd.prog 87 #[.pointer (some ⟨b, 0, none⟩)] w fun e w' => e = .returned (.tuple #[]) ∧ (Lib.BuilderAt 111 5 B b (.pointer (some ⟨b, 0, none⟩)) bs w' ∧ Below B w w') := by
  rcases h with h | h
  · refine (check_fresh b w h.cell0 h.shape h.frozen0).mono ?_
    rintro e w' ⟨rfl, rfl⟩
    exact ⟨rfl, h.used _, (Below.refl B w).setCell (p := ⟨b, 0, none⟩) h.1 _⟩
  · refine (check_used b w h.cell0).mono ?_
    rintro e w' ⟨rfl, rfl⟩
    exact ⟨rfl, h, Below.refl B _⟩

set_option maxHeartbeats 1000000 in
set_option maxRecDepth 100000 in
theorem write_string (B b : Nat) (bs : List Value) (s : ByteArray) (w : World) (h : Lib.IsBuilder 111 5 B b bs w) (hlen : bs.length + s.size ≤ 140737488355328) (hBw : B ≤ w.heap.size) :
    Calls Tryd.prog 74 #[.pointer (some ⟨b, 0, none⟩), .string s] w fun e w' => e = .returned (.tuple #[.int .i64 s.size, .nilIface]) ∧ (Lib.BuilderAt 111 5 B b (.pointer (some ⟨b, 0, none⟩)) (bs ++ Lib.strCells s) w' ∧ Below B w w') := by
  obtain ⟨i0, hi, hz0, hz1, hz2⟩ := info_parts infoByte
  go_enter Tryd.func74, Tryd.ntmps74
  go_wp2_with (go_at_call 87; refine (check_any B b bs _ h).mono ?_)
  rintro e w1 ⟨rfl, h1, hb1⟩
  obtain ⟨hB, v, hbk, hown, hne⟩ := h1
  have c0 : w1.cell? ⟨b, 0, none⟩ = some (.pointer (some ⟨b, 0, none⟩)) := by rw [Lib.cell_of_heap hbk]; rfl
  have c1 : w1.cell? ⟨b, 1, none⟩ = some v := by rw [Lib.cell_of_heap hbk]; rfl
  go_wp2_with (at_builtin; refine Lib.wpList_append_own_string _ rfl _ _ 36 9 rfl B 5 i0 Tryd.underlying36 Tryd.underlying9 hi hz0 hz1 hz2 _ _ _ rfl hown s rfl ?c3 ?c4 ?c5 ?_)
  case c3 => unfold maxLen; omega
  case c4 => omega
  case c5 => have := hb1.size; omega
  intro v' w2 hown' hgrow _
  have hlt : b < w1.heap.size := lt_of_block hbk
  have hb2 : w2.heap[b]? = some (.cells #[.pointer (some ⟨b, 0, none⟩), v] 111 (0, 0)) := by
    rw [hgrow.block b hlt (fun e => hne e.symm)]
    exact hbk
  have d0 : w2.cell? ⟨b, 0, none⟩ = some (.pointer (some ⟨b, 0, none⟩)) := by rw [Lib.cell_of_heap hb2]; rfl
  have d1 : w2.cell? ⟨b, 1, none⟩ = some v := by rw [Lib.cell_of_heap hb2]; rfl
  have f1 : w2.frozen? ⟨b, 1, none⟩ = false := Lib.frozen_of_heap hb2 1
  obtain ⟨ao, n', cap, rfl⟩ : ∃ ao n' cap, v' = .slice ao n' cap := by
    rcases hown'.2 with ⟨hv, _⟩ | ⟨g, cap, cur, hv, _⟩
    · exact ⟨_, _, _, hv⟩
    · exact ⟨_, _, _, hv⟩
  go_wp2
  go_ret2
  refine ⟨rfl, ?_, ?_⟩
  · exact Lib.BuilderAt.put (T := 111) (e := 5) hB hb2 (bs' := bs ++ Lib.strCells s) (by simpa [Lib.strCells_length] using hown') (by decide)
  · exact (hb1.grown hgrow (by have := hb1.size; omega) (fun k hk => (hown.lt k hk).1)).setCell (p := ⟨b, 1, none⟩) hB _
end Go.Proofs.YtopjddmgejfalaaDoor.Bld
namespace Go.Proofs.YtopjddmgejfalaaDoor.Dig
open Go.ChangeShapes Go.WideShapes Go.ChangeAt Go.RowKit

/-- a list of texts of the call's own -/
def Texts (B : Nat) (v : Value) (L : List (List UInt8)) (w : World) : Prop := w.ownsRow B 9 1 v L.length (L.map sv)

/-- a list of texts that lies anywhere, to be read -/
def ReadsTexts (v : Value) (L : List (List UInt8)) (w : World) : Prop :=
  (L = [] ∧ ∃ a cap, v = .slice a 0 cap) ∨ ∃ g off cap, v = .slice (some ⟨g, off, none⟩) L.length cap ∧ g < w.heap.size ∧ ∀ i, i < L.length → w.cell? ⟨g, off + i, none⟩ = some (sv (L.getD i []))
theorem Texts.reads {B : Nat} {v : Value} {L : List (List UInt8)} {w : World} (h : Texts B v L w) : ReadsTexts v L w := by
  obtain ⟨hl, ⟨hv, h0⟩ | ⟨g, cap, cur, hv, hg, hh, hn, hc, hcs, hx⟩⟩ := h
  · left; exact ⟨List.length_eq_zero_iff.1 h0, none, 0, hv⟩
  · right
    refine ⟨g, 0, cap, hv, lt_of_block hh, fun i hi => ?_⟩
    have := congrArg (·[i]?) hx
    simp only [List.getElem?_take, List.getElem?_map] at this
    rw [if_pos (by omega), List.getElem?_eq_getElem hi] at this
    unfold World.cell?
    rw [hh]
    simp only [Option.isSome_none, Bool.false_eq_true, if_false, Nat.zero_add]
    rw [← Array.getElem?_toList, this]
    simp [List.getD, List.getElem?_eq_getElem hi]
theorem ReadsTexts.below {v : Value} {L : List (List UInt8)} {w w' : World} (h : ReadsTexts v L w) (hb : Below w.heap.size w w') : ReadsTexts v L w' := by
  rcases h with h | ⟨g, off, cap, hv, hg, hc⟩
  · exact .inl h
  · exact .inr ⟨g, off, cap, hv, Nat.lt_of_lt_of_le hg hb.size, fun i hi => by rw [hb.cell (p := ⟨g, off + i, none⟩) hg]; exact hc i hi⟩

/-- the same of an address and a length -/
def ReadsAt (a : Option Addr) (L : List (List UInt8)) (w : World) : Prop :=
  L = [] ∨ ∃ g off, a = some ⟨g, off, none⟩ ∧ g < w.heap.size ∧ ∀ i, i < L.length → w.cell? ⟨g, off + i, none⟩ = some (sv (L.getD i []))
theorem ReadsTexts.at_ {v : Value} {L : List (List UInt8)} {w : World} (h : ReadsTexts v L w) : ∃ a cap, v = .slice a L.length cap ∧ ReadsAt a L w := by
  rcases h with ⟨rfl, a, cap, hv⟩ | ⟨g, off, cap, hv, hg, hc⟩
  · exact ⟨a, cap, hv, .inl rfl⟩
  · exact ⟨_, cap, hv, .inr ⟨g, off, rfl, hg, hc⟩⟩
theorem ReadsAt.texts {a : Option Addr} {cap : Nat} {L : List (List UInt8)} {w : World} (h : ReadsAt a L w) : ReadsTexts (.slice a L.length cap) L w := by
  rcases h with rfl | ⟨g, off, rfl, hg, hc⟩
  · exact .inl ⟨rfl, a, cap, rfl⟩
  · exact .inr ⟨g, off, cap, rfl, hg, hc⟩
theorem ReadsAt.below {a : Option Addr} {L : List (List UInt8)} {w w' : World} (h : ReadsAt a L w) (hb : Below w.heap.size w w') : ReadsAt a L w' := by
  rcases h with h | ⟨g, off, hv, hg, hc⟩
  · exact .inl h
  · exact .inr ⟨g, off, hv, Nat.lt_of_lt_of_le hg hb.size, fun i hi => by rw [hb.cell (p := ⟨g, off + i, none⟩) hg]; exact hc i hi⟩
theorem ReadsAt.cell {a : Option Addr} {L : List (List UInt8)} {w : World} (h : ReadsAt a L w) (k : Nat) (hk : k < L.length) : ∃ g off, a = some ⟨g, off, none⟩ ∧ w.cell? ⟨g, off + k, none⟩ = some (.string ⟨L[k].toArray⟩) := by
  rcases h with h | ⟨g, off, hv, hg, hc⟩
  · subst h; simp at hk
  · exact ⟨g, off, hv, by rw [hc k hk]; simp [List.getD, sv, hk]⟩

theorem joinL_snoc (L : List (List UInt8)) (k : Nat) (h : k < L.length) : joinL (L.take (k + 1)) = (if 0 < k then joinL (L.take k) ++ [32] else []) ++ L[k] := by
  rw [List.take_succ_eq_append_getElem h]
  cases L with
  | nil => simp at h
  | cons x l =>
    cases k with
    | zero => simp [joinL]
    | succ k =>
      rw [if_pos (by omega), List.take_succ_cons, List.cons_append, joinL_eq, joinL_eq]
      rw [List.map_append, List.flatten_append]
      simp

theorem write_sv (B b : Nat) (l m : List UInt8) (w : World) (h : Lib.IsBuilder 111 5 B b (Lib.byteCells l) w) (hlen : l.length + m.length ≤ 140737488355328) (hBw : B ≤ w.heap.size) :
    Calls Tryd.prog 74 #[.pointer (some ⟨b, 0, none⟩), sv m] w fun e w' => e = .returned (.tuple #[.int .i64 m.length, .nilIface]) ∧ (Lib.IsBuilder 111 5 B b (Lib.byteCells (l ++ m)) w' ∧ Below B w w') :=
  (Bld.write_string B b (Lib.byteCells l) ⟨m.toArray⟩ w h (by rw [Lib.byteCells_length]; exact hlen) hBw).mono fun e w' ⟨he, hb, hbe⟩ => ⟨he, .inr (by rw [Lib.byteCells_append]; exact hb), hbe⟩

theorem fresh_builder (w : World) : Lib.IsBuilder 111 5 w.heap.size w.heap.size (Lib.byteCells []) (w.alloc (.cells #[.pointer none, .slice none 0 0] 111)) :=
  .inl ⟨Nat.le_refl _, _, heap_alloc_new _ _, World.ownsRow_nil _ _ _ _, by simp [Value.ownBlock]⟩

theorem joinL_le (L : List (List UInt8)) (k : Nat) : (joinL (L.take k)).length ≤ L.flatten.length + L.length := by
  have h := join_size (L.take k)
  have e : L = L.take k ++ L.drop k := (List.take_append_drop _ _).symm
  have h1 : L.flatten.length = (L.take k).flatten.length + (L.drop k).flatten.length := by
    rw [← List.length_append, ← List.flatten_append, List.take_append_drop]
  have h2 : (L.take k).length ≤ L.length := by rw [List.length_take]; omega
  omega
theorem elem_le (L : List (List UInt8)) (k : Nat) (h : k < L.length) : L[k].length ≤ L.flatten.length := by
  have h1 : L.flatten.length = (L.take k).flatten.length + (L.drop k).flatten.length := by
    rw [← List.length_append, ← List.flatten_append, List.take_append_drop]
  rw [List.drop_eq_getElem_cons h, List.flatten_cons, List.length_append] at h1
  omega

theorem join_empty (a : Option Addr) (cap : Nat) (w : World) :
    Calls Tryd.prog 60 #[.slice a 0 cap] w fun e w' => e = .returned (sv []) ∧ Below w.heap.size w w' := by
  have hb := fresh_builder w
  have HB := Lib.hid hb
  clear hb
  go_enter Tryd.func60, Tryd.ntmps60
  go_wp2
  refine wp_loop_rounds 1 ?_
  rw [rounds_succ]
  go_wp2_with fail
  refine (Tryd.Builder_String_any w.heap.size w.heap.size [] _ HB.out (by simp)).mono ?_
  rintro e w' ⟨rfl, hb⟩
  go_wp2_with fail
  go_ret
  exact ⟨rfl, ((Below.refl _ _).alloc (Nat.le_refl _) _).trans hb⟩

set_option maxHeartbeats 800000 in
theorem join_any (v : Value) (L : List (List UInt8)) (w : World) (h : ReadsTexts v L w) (hs : L.flatten.length + L.length ≤ 4194304) :
    Calls Tryd.prog 60 #[v] w fun e w' => e = .returned (sv (joinL L)) ∧ Below w.heap.size w w' := by
  rcases h with ⟨rfl, a, cap, rfl⟩ | ⟨g, off, cap, rfl, hg, hc⟩
  · exact join_empty a cap w
  have HC := Lib.hid hc
  clear hc
  have hb0 := fresh_builder w
  have HB0 := Lib.hid hb0
  clear hb0
  go_enter Tryd.func60, Tryd.ntmps60
  go_wp2
  go_loopw [8] (fun i wr => ∃ k : Nat, k ≤ L.length ∧ i = .int .i64 k ∧ Lib.IsBuilder 111 5 w.heap.size w.heap.size (Lib.byteCells (joinL (L.take k))) wr ∧ Below w.heap.size w wr) (fun i _ => L.length - (intOf i).toNat)
  case atStart => exact ⟨0, Nat.zero_le _, rfl, HB0.out, (Below.refl _ _).alloc (Nat.le_refl _) _⟩
  case round =>
    obtain ⟨k, hk, rfl, hB, hbel⟩ := hrel
    have hsz := hbel.size
    have hjl := joinL_le L k
    by_cases hlt : k < L.length
    · have hcell : wr.cell? ⟨g, off + k, none⟩ = some (sv (L.getD k [])) := by rw [hbel.cell (p := ⟨g, off + k, none⟩) hg]; exact HC.out k hlt
      have hel := elem_le L k hlt
      have hsn := joinL_snoc L k hlt
      have HSN := Lib.hid hsn
      have HBR := Lib.hid hB
      clear hsn hB
      by_cases h0 : 0 < k
      · go_wp2_with fail
        refine (write_sv w.heap.size w.heap.size (joinL (L.take k)) [32] wr HBR.out (by simp; omega) hsz).mono ?_
        rintro e w1 ⟨rfl, hb1, hbe1⟩
        have hsz1 := hbe1.size
        have HB1 := Lib.hid hb1
        clear hb1
        go_wp2_with fail
        refine (write_sv w.heap.size w.heap.size (joinL (L.take k) ++ [32]) L[k] w1 HB1.out (by simp; omega) (by omega)).mono ?_
        rintro e w2 ⟨rfl, hb2, hbe2⟩
        have HB2 : Hid (Lib.IsBuilder 111 5 w.heap.size w.heap.size (Lib.byteCells (joinL (L.take (k + 1)))) w2) := by
          rw [HSN.out, if_pos h0]; exact hb2
        clear hb2
        go_wp2
        go_roundw
        case rel => exact ⟨k + 1, by omega, by go_num, HB2.out, (hbel.trans hbe1).trans hbe2⟩
        case measure => simp [intOf]; omega
      · go_wp2_with fail
        refine (write_sv w.heap.size w.heap.size (joinL (L.take k)) L[k] wr HBR.out (by omega) hsz).mono ?_
        rintro e w2 ⟨rfl, hb2, hbe2⟩
        have HB2 : Hid (Lib.IsBuilder 111 5 w.heap.size w.heap.size (Lib.byteCells (joinL (L.take (k + 1)))) w2) := by
          rw [HSN.out, if_neg h0]
          obtain rfl : k = 0 := by omega
          exact hb2
        clear hb2
        go_wp2
        go_roundw
        case rel => exact ⟨k + 1, by omega, by go_num, HB2.out, hbel.trans hbe2⟩
        case measure => simp [intOf]; omega
    · have hkl : k = L.length := by omega
      rw [hkl, List.take_length] at hB
      have HBR := Lib.hid hB
      clear hB hkl
      go_wp2_with fail
      refine (Tryd.Builder_String_any w.heap.size w.heap.size (joinL L) _ HBR.out hsz).mono ?_
      rintro e w' ⟨rfl, hb⟩
      go_wp2_with fail
      go_ret
      exact ⟨rfl, hbel.trans hb⟩
end Go.Proofs.YtopjddmgejfalaaDoor.Dig
namespace Go.Proofs.YtopjddmgejfalaaDoor.Aag
open Go.ChangeShapes Go.WideShapes Go.ChangeAt Go.RowKit Dig Circ Cw

/-- w' is w but for block R, and new blocks -/
structure Ext (R : Nat) (w w' : World) : Prop where
  os : w'.os = w.os
  tape : w'.tape = w.tape
  output : w'.output = w.output
  size : w.heap.size ≤ w'.heap.size
  block : ∀ k, k < w.heap.size → k ≠ R → w'.heap[k]? = w.heap[k]?
theorem Ext.refl (R : Nat) (w : World) : Ext R w w := ⟨rfl, rfl, rfl, Nat.le_refl _, fun _ _ _ => rfl⟩
theorem Ext.trans {R : Nat} {a b c : World} (h : Ext R a b) (k : Ext R b c) : Ext R a c :=
  ⟨k.os.trans h.os, k.tape.trans h.tape, k.output.trans h.output, Nat.le_trans h.size k.size, fun i hi hr => (k.block i (Nat.lt_of_lt_of_le hi h.size) hr).trans (h.block i hi hr)⟩
theorem Ext.of {R : Nat} {w w' : World} (h : Below w.heap.size w w') : Ext R w w' := ⟨h.os, h.tape, h.output, h.size, fun k hk _ => h.block k hk⟩
theorem Ext.below {R : Nat} {w w' : World} (h : Ext R w w') : Below R w w' ∨ w.heap.size ≤ R := by
  by_cases hr : R < w.heap.size
  · exact .inl ⟨h.os, h.tape, h.output, h.size, fun k hk => h.block k (by omega) (by omega)⟩
  · exact .inr (by omega)
end Go.Proofs.YtopjddmgejfalaaDoor.Aag
namespace Go.Proofs.YtopjddmgejfalaaDoor.Cw
open Go.ChangeShapes Go.WideShapes Go.ChangeAt Go.RowKit Go.Maps Circ

theorem wpList_push {ops : Array Oper} {rest : List Oper} {o : Oper} {a : Act} {Q : Exit → Act → World → Prop} (w : World) (hgd : o.guard = none) (s x : Operand) (T : TypeId)
    (ho : o.op = .call { callee := .builtin .append, args := #[s, x], argTypes := #[T, T] })
    (e m bytes : Nat) (z : Value) (hT : Tryd.prog.underlying T = some (.slice e)) (hi : (Tryd.prog.info? e).map (fun i => (i.zero, i.size, i.bytes)) = some (some z, m, bytes)) (hzs : z.cells.size = m) (hm : 0 < m)
    (base : Nat) (v : Value) (xs : List (List Value)) (hown : OwnC w base e m v xs) (hs : a.eval s = v) (g : Nat) (c : Nat) (hx : a.eval x = .slice (some ⟨g, 0, none⟩) 1 c) (y : List Value) (hy : ∀ j u, y[j]? = some u → w.cell? ⟨g, j, none⟩ = some u)
    (hlen : y.length = m) (hone : ∀ u ∈ y, u.oneCell' = true) (hbytes : (xs.length + 1) * bytes ≤ 140737488355328) (hmax : xs.length + 1 ≤ 9223372036854775807) (hbase : base ≤ w.heap.size)
    (h : ∀ v' w', OwnC w' base e m v' (xs ++ [y]) → Below base w w' → (∀ k, k < w.heap.size → some k ≠ v.ownBlock → w'.heap[k]? = w.heap[k]?) → wpList Tryd.prog ops Q rest (a.put o.dst v') w') : wpList Tryd.prog ops Q (o :: rest) a w := by
  obtain ⟨i0, hi0, hz0, hz1, hz2⟩ := info_parts hi
  obtain ⟨v', w', h1, h2, h3, _, h5⟩ := run_append_own_at (P := Tryd.prog) w base T o.type e i0 z m bytes hT hi0 hz0 hz1 hz2 hzs hm v xs.length xs.flatten hown ⟨g, 0, none⟩ 1 c y (by rw [Nat.one_mul]; exact hlen) (fun j u hj => by
    have e : (⟨g, 0, none⟩ : Addr).add j = ⟨g, j, none⟩ := by unfold Addr.add; by_cases hz : j = 0 <;> simp [hz]
    rw [e]; exact hy j u hj) hone (by unfold maxLen; omega) hbytes hbase
  refine wpList_plain hgd fun K hK => ?_
  unfold Oper.wp execOp
  simp only [ho, resolve, invoke, builtin, Sem.run_bind, Sem.run_pure, Result.andThen_ok, List.map_toArray, List.map_cons, List.map_nil, hs, hx, h1]
  refine hK _ _ (h v' w' ?_ ?_ ?_)
  · unfold OwnC
    simpa using h2
  · exact ⟨h3.os, h3.tape, h3.output, h3.size, fun k hk => h3.block k (by omega) (fun e => by have := hown.block_lt k e.symm; omega)⟩
  · exact fun k hk hne => h3.block k hk hne
end Go.Proofs.YtopjddmgejfalaaDoor.Cw
namespace Go.Proofs.YtopjddmgejfalaaDoor.Aag
open Go.ChangeShapes Go.WideShapes Go.ChangeAt Go.RowKit Dig Circ Cw

theorem infoInt : (Tryd.prog.info? 3).map (fun i => (i.zero, i.size, i.bytes)) = some (some (.int .i64 0), 1, 8) := by kernel_rfl
theorem Ext.then {R : Nat} {w w' w'' : World} (h : Ext R w w') (hb : Below w.heap.size w' w'') : Ext R w w'' :=
  ⟨hb.os.trans h.os, hb.tape.trans h.tape, hb.output.trans h.output, Nat.le_trans h.size hb.size, fun k hk hr => (hb.block k hk).trans (h.block k hk hr)⟩
end Go.Proofs.YtopjddmgejfalaaDoor.Aag
namespace Go.Proofs.YtopjddmgejfalaaDoor.Aag
open Go.ChangeShapes Go.WideShapes Go.ChangeAt Go.RowKit Dig Circ Cw

theorem op_move (a : Act) (w : World) (t : Nat) (oo : Oper) (ho : oo.op = .move (.tmp t)) : (execOp a.eval oo).run Tryd.prog w = .ok (.value (a.tmps.getD t undef)) w := by
  unfold execOp
  rw [ho]
  go_simp
theorem op_assign (a : Act) (w : World) (t : Nat) (oo : Oper) (ho : oo.op = .assign (.tmp t)) : (execOp a.eval oo).run Tryd.prog w = .ok (.value (a.tmps.getD t undef)) w := by
  unfold execOp
  rw [ho]
  go_simp
theorem op_load_int (a : Act) (w : World) (A : Addr) (t : Nat) (v : Value) (h : a.tmps.getD t undef = .pointer (some A)) (hc : w.cell? A = some v) (oo : Oper) (ho : oo.op = .load 3 (.tmp t)) : (execOp a.eval oo).run Tryd.prog w = .ok (.value v) w := by
  have h' : a.tmps[t]?.getD undef = .pointer (some A) := by simpa using h
  unfold execOp
  rw [ho]
  go_simp
end Go.Proofs.YtopjddmgejfalaaDoor.Aag
namespace Go.Proofs.YtopjddmgejfalaaDoor.Aag
open Go.ChangeShapes Go.WideShapes Go.ChangeAt Go.RowKit Dig Circ Cw

def svs (l : List (List UInt8)) : List (List Value) := l.map fun s => [sv s]
theorem svs_length (l : List (List UInt8)) : (svs l).length = l.length := by simp [svs]
theorem svs_flatten (l : List (List UInt8)) : (svs l).flatten = l.map sv := by
  induction l with
  | nil => rfl
  | cons a l ih => unfold svs at ih ⊢; simp [ih]
theorem svs_texts {w : World} {B : Nat} {v : Value} {l : List (List UInt8)} (h : OwnC w B 9 1 v (svs l)) : Texts B v l w := by
  unfold OwnC at h
  rw [svs_length, svs_flatten] at h
  exact h
theorem svs_snoc (l : List (List UInt8)) (s : List UInt8) : svs l ++ [[sv s]] = svs (l ++ [s]) := by simp [svs]
theorem nums_take (l : List Int) (k : Nat) (h : k < l.length) : nums (l.take (k + 1)) = nums (l.take k) ++ [Lib.itoa l[k]] := by
  unfold nums; rw [List.take_succ_eq_append_getElem h, List.map_append, List.map_cons, List.map_nil]
end Go.Proofs.YtopjddmgejfalaaDoor.Aag
namespace Go.Proofs.YtopjddmgejfalaaDoor.Bldw
open Go.RowKit

theorem sizeBuilder : (Tryd.prog.info? 111).map (·.size) = some 2 := by kernel_rfl
theorem infoByte : (Tryd.prog.info? 5).map (fun i => (i.zero, i.size, i.bytes)) = some (some (.int .u8 0), 1, 1) := by kernel_rfl

/-- all blocks but b, and but those of bytes, are as they were -/
def KeptT (b : Nat) (w w' : World) : Prop := ∀ k, k < w.heap.size → k ≠ b → (∀ c f, w.heap[k]? ≠ some (.cells c 5 f)) → w'.heap[k]? = w.heap[k]?
theorem KeptT.trans {b : Nat} {w w1 w2 : World} (h : KeptT b w w1) (hz : w.heap.size ≤ w1.heap.size) (k : KeptT b w1 w2) : KeptT b w w2 := fun i hi hb hc => by
  have e := h i hi hb hc
  rw [← e]
  exact k i (Nat.lt_of_lt_of_le hi hz) hb (fun c f => by rw [e]; exact hc c f)
theorem KeptT.of {b : Nat} {w w' : World} (h : Below w.heap.size w w') : KeptT b w w' := fun k hk _ _ => h.block k hk
set_option maxRecDepth 100000 in
theorem check_used (b : Nat) (w : World) (h0 : w.cell? ⟨b, 0, none⟩ = some (.pointer (some ⟨b, 0, none⟩))) :
    Calls Tryd.prog 87 #[.pointer (some ⟨b, 0, none⟩)] w fun e w' => e = .returned (.tuple #[]) ∧ w = w' := by
  obtain ⟨j, hj, _⟩ := Option.map_eq_some_iff.1 sizeBuilder
  go_enter Tryd.func87, Tryd.ntmps87
  go_wp2
  rw [Lib.run_neq_ptr_same w _ Tryd.underlying109 hj]
  go_wp2
  go_end0
  exact ⟨rfl, rfl⟩

theorem cellsByte : Tryd.prog.cellsOf 5 = 1 := by kernel_rfl
end Go.Proofs.YtopjddmgejfalaaDoor.Bldw
namespace Go.Proofs.YtopjddmgejfalaaDoor.Dig
open Go.ChangeShapes Go.WideShapes Go.ChangeAt Go.RowKit

theorem itoa_len (n : Int) (h0 : -9223372036854775808 ≤ n) (h1 : n ≤ 9223372036854775807) : (Lib.itoa n).length ≤ 21 := by
  have h : ∀ u : Nat, u < 10 ^ 20 → (Lib.decDigits u).length ≤ 20 := fun u hu => by
    rw [Lib.decDigits_length]
    rcases Nat.lt_or_ge 20 (Lib.nDigits u) with h | h
    · exfalso
      have : ∀ k u : Nat, k + 1 ≤ Lib.nDigits u → 10 ^ k ≤ u ∨ k = 0 := by
        intro k
        induction k with
        | zero => intro u _; exact .inr rfl
        | succ k ih =>
          intro u hu
          left
          by_cases hs : u < 10
          · rw [Lib.nDigits_small hs] at hu; omega
          · rw [Lib.nDigits_big hs] at hu
            have := ih (u / 10) (by omega)
            rw [Nat.pow_succ]
            rcases this with h | h
            · omega
            · subst h; omega
      rcases this 20 u (by omega) with h | h
      · omega
      · omega
    · exact h
  unfold Lib.itoa
  split
  · simp only [List.length_cons]; have := h n.natAbs (by omega); omega
  · have := h n.toNat (by omega); omega

end Go.Proofs.YtopjddmgejfalaaDoor.Dig
namespace Go.Proofs.YtopjddmgejfalaaDoor.Aag
open Go.ChangeShapes Go.WideShapes Go.ChangeAt Go.RowKit Dig Circ Cw

theorem op_nil (a : Act) (w : World) (A : Addr) (t : Nat) (h : a.tmps.getD t undef = .pointer (some A)) (oo : Oper) (ho : oo.op = .nilCheck (.tmp t)) : (execOp a.eval oo).run Tryd.prog w = .ok (.value (.pointer (some A))) w := by
  have h' : a.tmps[t]?.getD undef = .pointer (some A) := by simpa using h
  unfold execOp
  rw [ho]
  go_simp
theorem op_call1 (a : Act) (w : World) (f t T : Nat) (hf : ∀ args w, (callFunc f args).run Tryd.prog w = .ok (.enter f args) w) (oo : Oper) (ho : oo.op = .call { callee := .value (.func f), args := #[.tmp t], argTypes := #[T] }) : (execOp a.eval oo).run Tryd.prog w = .ok (.enter f #[a.tmps.getD t undef]) w := by
  unfold execOp
  rw [ho]
  go_simp
theorem op_call2 (a : Act) (w : World) (f t s T S : Nat) (hf : ∀ args w, (callFunc f args).run Tryd.prog w = .ok (.enter f args) w) (oo : Oper) (ho : oo.op = .call { callee := .value (.func f), args := #[.tmp t, .tmp s], argTypes := #[T, S] }) : (execOp a.eval oo).run Tryd.prog w = .ok (.enter f #[a.tmps.getD t undef, a.tmps.getD s undef]) w := by
  unfold execOp
  rw [ho]
  go_simp
def lineM (j : Nat) : List Nat := if j < 5 then [4 + j] else []
theorem own_type {w : World} {base : Nat} {e : TypeId} {m : Nat} {v : Value} {xs : List (List Value)} (h : OwnC w base e m v xs) {g : Nat} (hg : v.ownBlock = some g) : ∃ cur, w.heap[g]? = some (.cells cur e (0, 0)) := by
  obtain ⟨_, h⟩ := h
  rcases h with ⟨rfl, h0⟩ | ⟨g', cap, cur, rfl, hb, hh, _⟩
  · simp [Value.ownBlock] at hg
  · have : g' = g := by simpa [Value.ownBlock] using hg
    subst this
    exact ⟨cur, hh⟩
theorem nl_snoc (l : List (List UInt8)) (x : List UInt8) : nlL (l ++ [x]) = nlL l ++ (x ++ [10]) := by rw [nl_append]; simp [nlL]
theorem one_text (w : World) (s : List UInt8) : ReadsTexts (.slice (some ⟨w.heap.size, 0, none⟩) 1 1) [s] (w.alloc (.cells #[sv s] 9)) :=
  .inr ⟨w.heap.size, 0, 1, rfl, by simp, fun i hi => by
    have : i = 0 := by simpa using hi
    subst this
    rw [Nat.add_zero, new_cell]; rfl⟩
theorem itoa_short (n : Int) (h : I64 n) : (Lib.itoa n).length ≤ 21 := itoa_len n h.1 h.2
theorem nl_lits (l : List Int) (h : ∀ x ∈ l, I64 x) : (nlL (l.map litL)).length ≤ 22 * l.length := by
  induction l with
  | nil => simp [nlL]
  | cons x l ih =>
    have h1 := ih fun y hy => h y (List.mem_cons_of_mem _ hy)
    have h2 := itoa_short x (h x List.mem_cons_self)
    have e : nlL ((x :: l).map litL) = (Lib.itoa x ++ [10]) ++ nlL (l.map litL) := by unfold nlL litL nums; rfl
    rw [e, List.length_append, List.length_append, List.length_cons]
    simp only [List.length_cons, List.length_nil]
    omega
end Go.Proofs.YtopjddmgejfalaaDoor.Aag
namespace Go.Proofs.YtopjddmgejfalaaDoor.Aag
open Go.ChangeShapes Go.WideShapes Go.ChangeAt Go.RowKit Dig Circ Cw

/-- the numbers that a call lays as a row -/
theorem ints_row (w : World) (l : List Int) (cs : Array Value) (T : TypeId) (h : cs.toList = l.map (Value.int .i64)) : LRow (w.alloc (.cells cs T)) (w.heap.size + 1) 1 (some ⟨w.heap.size, 0, none⟩) (ints l) :=
  .inr ⟨_, 0, rfl, Nat.lt_succ_self _, fun i ys hi j u hj => by
    have hil : i < l.length := by
      have := (List.getElem?_eq_some_iff.1 hi).1
      simpa [ints] using this
    have e : ys = [.int .i64 l[i]] := by
      unfold ints at hi
      rw [List.getElem?_map, List.getElem?_eq_getElem hil] at hi
      simpa using hi.symm
    subst e
    have hj0 : j = 0 := by
      have := (List.getElem?_eq_some_iff.1 hj).1
      simpa using this
    subst hj0
    rw [new_cell, Nat.zero_add, Nat.mul_one, Nat.add_zero, ← Array.getElem?_toList, h, List.getElem?_map, List.getElem?_eq_getElem hil]
    simpa using hj⟩
/-- a row of one that a call lays is its own -/
theorem own_one (w : World) (base : Nat) (T : TypeId) (u : Value) (hb : base ≤ w.heap.size) : OwnC (w.alloc (.cells #[u] T)) base T 1 (.slice (some ⟨w.heap.size, 0, none⟩) 1 1) [[u]] :=
  ⟨by simp, .inr ⟨w.heap.size, 1, #[u], rfl, hb, Array.getElem?_push_size, Nat.le_refl _, by decide, by simp, by simp⟩⟩
def headNs (c : Cir) : List Int := [c.max, c.ins.length, c.lats.length, c.outs.length, c.ands.length, c.bads.length, c.invs.length]
end Go.Proofs.YtopjddmgejfalaaDoor.Aag
namespace Go.Proofs.YtopjddmgejfalaaDoor.Aag
open Go.ChangeShapes Go.WideShapes Go.ChangeAt Go.RowKit Dig Circ Cw

theorem op_cat (a : Act) (w : World) (x y : ByteArray) (t s : Nat) (h1 : a.tmps.getD t undef = .string x) (h2 : a.tmps.getD s undef = .string y) (hl : x.size + y.size ≤ 140737488355328) (oo : Oper) (ho : oo.op = .binOp .add 9 (.tmp t) (.tmp s) 9) : (execOp a.eval oo).run Tryd.prog w = .ok (.value (.string (x ++ y))) w := by
  have h1' : a.tmps[t]?.getD undef = .string x := by simpa using h1
  have h2' : a.tmps[s]?.getD undef = .string y := by simpa using h2
  unfold execOp
  rw [ho]
  have hl2 : x.size + y.size ≤ 9223372036854775807 := by omega
  go_simp
theorem op_slice_two (a : Act) (w : World) (x y : ByteArray) (t s : Nat) (h1 : a.tmps.getD t undef = .string x) (h2 : a.tmps.getD s undef = .string y) (oo : Oper) (ho : oo.op = .buildSlice 92 2 #[(0, .tmp t), (1, .tmp s)]) : (execOp a.eval oo).run Tryd.prog w = .ok (.value (.slice (some ⟨w.heap.size, 0, none⟩) 2 2)) (w.alloc (.cells #[.string x, .string y] 9)) := by
  have h1' : a.tmps[t]?.getD undef = .string x := by simpa using h1
  have h2' : a.tmps[s]?.getD undef = .string y := by simpa using h2
  unfold execOp
  rw [ho]
  go_simp

theorem cat_eq (x : ByteArray) (l : List UInt8) : (x ++ ⟨l.toArray⟩ : ByteArray) = ⟨(x.data.toList ++ l).toArray⟩ := by
  have : (x ++ (⟨l.toArray⟩ : ByteArray)).data.toList = x.data.toList ++ l := by simp
  cases h : (x ++ (⟨l.toArray⟩ : ByteArray)) with
  | mk d => rw [h] at this; simp only at this; rw [← this]
theorem text_eq (x : ByteArray) : sv x.data.toList = .string x := by cases x; rfl
def catV (x : Nam) : ByteArray := x.kind ++ ⟨(Lib.itoa x.num).toArray⟩
theorem catV_eq (x : Nam) : Value.string (catV x) = sv (x.kind.data.toList ++ Lib.itoa x.num) := by unfold catV sv; rw [cat_eq]
theorem two_texts {w : World} {g : Nat} {x : Nam} (h : w.heap[g]? = some (.cells #[.string (catV x), .string x.text] 9 (0, 0))) : ReadsTexts (.slice (some ⟨g, 0, none⟩) 2 2) [x.kind.data.toList ++ Lib.itoa x.num, x.text.data.toList] w :=
  .inr ⟨g, 0, 2, rfl, lt_of_block h, fun i hi => by
    have hi2 : i < 2 := hi
    have e : w.cell? ⟨g, 0 + i, none⟩ = (#[.string (catV x), .string x.text] : Array Value)[i]? := by simp [World.cell?, h]
    rw [e]
    match i, hi2 with
    | 0, _ => exact congrArg some (catV_eq x)
    | 1, _ => exact congrArg some (text_eq x.text).symm⟩
end Go.Proofs.YtopjddmgejfalaaDoor.Aag
