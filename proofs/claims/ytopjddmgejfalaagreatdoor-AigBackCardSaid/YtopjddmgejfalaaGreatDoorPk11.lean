/- strings.Builder, written: copyCheck and WriteString at this translation; a builder that the call itself has made. The walks of Words, Lines, Join; bounds on sizes as they are stated. Lists of numbers that a call makes itself: what appending leaves; no condition. circuit.Kind, and the pages' own: what they tell of any circuit and variable; no condition. The pages' own words of circuits, walked: kinds, and literals that are known; no condition. -/
import Derived.Test.YtopjddmgejfalaaGreatDoorChecked
import Derived.Test.YtopjddmgejfalaaGreatDoorPk09
import Derived.Lib.Builder
import Derived.Lib.AppendStr
import Derived.Shelf.Strings.BuilderX
import Derived.WalkKit
import Derived.ProofKit
import Derived.WalkSpells
import Derived.Lib.Strings
import Derived.Lib.Walk
import Derived.Laws.Externs
import Derived.Test.YtopjddmgejfalaaGreatDoorPk10
import Derived.Test.YtopjddmgejfalaaGreatDoorPk06
import Derived.Maps.AppendAt
import Derived.OwnWalk
import Derived.Test.YtopjddmgejfalaaGreatDoorPk05
import Derived.Deep.Draws
import Derived.Laws.EntriesVeiled
import Derived.BigQuiet
namespace Go.Proofs.YtopjddmgejfalaaGreatDoor.Bld
open Go.RowKit

theorem sizeBuilder : (Tryz.prog.info? 105).map (·.size) = some 2 := by kernel_rfl
theorem liesBuilder : liesAt Tryz.prog Tryz.prog.depth 105 (2 / Tryz.prog.cellsOf 105) 0 105 1 = true := by kernel_rfl
theorem infoByte : (Tryz.prog.info? 5).map (fun i => (i.zero, i.size, i.bytes)) = some (some (.int .u8 0), 1, 1) := by kernel_rfl

set_option maxRecDepth 100000 in
theorem check_used (b : Nat) (w : World) (h0 : w.cell? ⟨b, 0, none⟩ = some (.pointer (some ⟨b, 0, none⟩))) :
    Calls Tryz.prog 83 #[.pointer (some ⟨b, 0, none⟩)] w fun e w' => e = .returned (.tuple #[]) ∧ w = w' := by
  obtain ⟨j, hj, _⟩ := Option.map_eq_some_iff.1 sizeBuilder
  go_enter Tryz.func83, Tryz.ntmps83
  go_wp2
  rw [Lib.run_neq_ptr_same w _ Tryz.underlying103 hj]
  go_wp2
  go_end0
  exact ⟨rfl, rfl⟩

set_option maxRecDepth 100000 in
theorem check_fresh (b : Nat) (w : World) (h0 : w.cell? ⟨b, 0, none⟩ = some (.pointer none)) (hsh : w.shape? b = some (105, 2)) (hfz : w.frozen? ⟨b, 0, none⟩ = false) :
    Calls Tryz.prog 83 #[.pointer (some ⟨b, 0, none⟩)] w fun e w' => e = .returned (.tuple #[]) ∧ w.setCell ⟨b, 0, none⟩ (.pointer (some ⟨b, 0, none⟩)) = w' := by
  obtain ⟨j, hj, hjs⟩ := Option.map_eq_some_iff.1 sizeBuilder
  go_enter Tryz.func83, Tryz.ntmps83
  go_wp2
  rw [Lib.run_to_unsafe w ⟨b, 0, none⟩ Tryz.underlying103 Tryz.underlying143 hj (by rw [hjs]; decide) hsh (Nat.zero_lt_succ 1)]
  simp only [Result.andThen]
  rw [Oper.upon_value]
  go_wp2
  rw [run_callFunc_extern Tryz.func101 (by kernel_rfl) (by kernel_rfl) (by kernel_rfl) (e := Extern.AbiNoEscape.same) (by kernel_rfl)]
  rw [Lib.run_noEscape]
  simp only [Result.andThen]
  rw [Oper.upon_value]
  go_wp2
  rw [Lib.run_from_unsafe w ⟨b, 0, none⟩ Tryz.underlying143 Tryz.underlying103 hj hsh liesBuilder]
  simp only [Result.andThen]
  rw [Oper.upon_value]
  go_wp2
  go_end0
  exact ⟨rfl, rfl⟩

set_option maxRecDepth 100000 in
theorem check_any (B b : Nat) (bs : List Value) (w : World) (h : Lib.IsBuilder 105 5 B b bs w) :
    Calls Tryz.prog 83 #[.pointer (some ⟨b, 0, none⟩)] w fun e w' => e = .returned (.tuple #[]) ∧ (Lib.BuilderAt 105 5 B b (.pointer (some ⟨b, 0, none⟩)) bs w' ∧ Below B w w') := by
  rcases h with h | h
  · refine (check_fresh b w h.cell0 h.shape h.frozen0).mono ?_
    rintro e w' ⟨rfl, rfl⟩
    exact ⟨rfl, h.used _, (Below.refl B w).setCell (p := ⟨b, 0, none⟩) h.1 _⟩
  · refine (check_used b w h.cell0).mono ?_
    rintro e w' ⟨rfl, rfl⟩
    exact ⟨rfl, h, Below.refl B _⟩

set_option maxHeartbeats 1000000 in
set_option maxRecDepth 100000 in
theorem write_string (B b : Nat) (bs : List Value) (s : ByteArray) (w : World) (h : Lib.IsBuilder 105 5 B b bs w) (hlen : bs.length + s.size ≤ 140737488355328) (hBw : B ≤ w.heap.size) :
    Calls Tryz.prog 53 #[.pointer (some ⟨b, 0, none⟩), .string s] w fun e w' => e = .returned (.tuple #[.int .i64 s.size, .nilIface]) ∧ (Lib.BuilderAt 105 5 B b (.pointer (some ⟨b, 0, none⟩)) (bs ++ Lib.strCells s) w' ∧ Below B w w') := by
  obtain ⟨i0, hi, hz0, hz1, hz2⟩ := info_parts infoByte
  go_enter Tryz.func53, Tryz.ntmps53
  go_wp2_with (go_at_call 83; refine (check_any B b bs _ h).mono ?_)
  rintro e w1 ⟨rfl, h1, hb1⟩
  obtain ⟨hB, v, hbk, hown, hne⟩ := h1
  have c0 : w1.cell? ⟨b, 0, none⟩ = some (.pointer (some ⟨b, 0, none⟩)) := by rw [Lib.cell_of_heap hbk]; rfl
  have c1 : w1.cell? ⟨b, 1, none⟩ = some v := by rw [Lib.cell_of_heap hbk]; rfl
  go_wp2_with (at_builtin; refine Lib.wpList_append_own_string _ rfl _ _ 28 9 rfl B 5 i0 Tryz.underlying28 Tryz.underlying9 hi hz0 hz1 hz2 _ _ _ rfl hown s rfl ?c3 ?c4 ?c5 ?_)
  case c3 => unfold maxLen; omega
  case c4 => omega
  case c5 => have := hb1.size; omega
  intro v' w2 hown' hgrow _
  have hlt : b < w1.heap.size := lt_of_block hbk
  have hb2 : w2.heap[b]? = some (.cells #[.pointer (some ⟨b, 0, none⟩), v] 105 (0, 0)) := by
    rw [hgrow.block b hlt (fun e => hne e.symm)]
    exact hbk
  have d0 : w2.cell? ⟨b, 0, none⟩ = some (.pointer (some ⟨b, 0, none⟩)) := by rw [Lib.cell_of_heap hb2]; rfl
  have d1 : w2.cell? ⟨b, 1, none⟩ = some v := by rw [Lib.cell_of_heap hb2]; rfl
  have f1 : w2.frozen? ⟨b, 1, none⟩ = false := Lib.frozen_of_heap hb2 1
  obtain ⟨ao, n', cap, rfl⟩ : ∃ ao n' cap, v' = .slice ao n' cap := by
    rcases hown'.2 with ⟨hv, _⟩ | ⟨g, cap, cur, hv, _⟩
    · exact ⟨_, _, _, hv⟩
    · exact ⟨_, _, _, hv⟩
  go_wp2
  go_ret2
  refine ⟨rfl, ?_, ?_⟩
  · exact Lib.BuilderAt.put (T := 105) (e := 5) hB hb2 (bs' := bs ++ Lib.strCells s) (by simpa [Lib.strCells_length] using hown') (by decide)
  · exact (hb1.grown hgrow (by have := hb1.size; omega) (fun k hk => (hown.lt k hk).1)).setCell (p := ⟨b, 1, none⟩) hB _
end Go.Proofs.YtopjddmgejfalaaGreatDoor.Bld
namespace Go.Proofs.YtopjddmgejfalaaGreatDoor.Dig
open Go.ChangeShapes Go.WideShapes Go.ChangeAt Go.RowKit

theorem isEmpty_data (s : ByteArray) : s.toList.isEmpty = s.data.toList.isEmpty := by rw [Lib.toList_data]

theorem words1 : Wants 108 (fun p _ => !p.isEmpty) := by
  intro p last w
  have he := isEmpty_data p
  have HE := Lib.hid he
  clear he
  go_enter Tryz.func108, Tryz.ntmps108
  go_wp2
  go_ret
  refine ⟨?_, rfl⟩
  rw [← HE.out]; rfl

/-- a list of texts of the call's own -/
def Texts (B : Nat) (v : Value) (L : List (List UInt8)) (w : World) : Prop := w.ownsRow B 9 1 v L.length (L.map sv)

theorem words_any (s : ByteArray) (w : World) (hs : s.size ≤ 4194304) (hm : MaxCell w) :
    Calls Tryz.prog 86 #[.string s] w fun e w' => ∃ v, e = .returned v ∧ Texts w.heap.size v (wordsL s.data.toList) w' ∧ Below w.heap.size w w' := by
  have hp := pieces_any s 32 108 _ w hs hm (enters_of Tryz.func108 (by kernel_rfl) rfl) words1
  have HP := Lib.hid hp
  clear hp hm
  go_enter Tryz.func86, Tryz.ntmps86
  go_wp2_with fail
  refine HP.out.mono ?_
  rintro e w1 ⟨v, rfl, ho, hb⟩
  have HO := Lib.hid ho
  clear ho
  go_wp2_with fail
  go_ret
  exact ⟨_, rfl, HO.out, hb⟩

/-- a list of texts that lies anywhere, to be read -/
def ReadsTexts (v : Value) (L : List (List UInt8)) (w : World) : Prop :=
  (L = [] ∧ ∃ a cap, v = .slice a 0 cap) ∨ ∃ g off cap, v = .slice (some ⟨g, off, none⟩) L.length cap ∧ g < w.heap.size ∧ ∀ i, i < L.length → w.cell? ⟨g, off + i, none⟩ = some (sv (L.getD i []))
theorem Texts.reads {B : Nat} {v : Value} {L : List (List UInt8)} {w : World} (h : Texts B v L w) : ReadsTexts v L w := by
  obtain ⟨hl, ⟨hv, h0⟩ | ⟨g, cap, cur, hv, hg, hh, hn, hc, hcs, hx⟩⟩ := h
  · left; exact ⟨List.length_eq_zero_iff.1 h0, none, 0, hv⟩
  · right
    refine ⟨g, 0, cap, hv, lt_of_block hh, fun i hi => ?_⟩
    have := congrArg (·[i]?) hx
    simp only [List.getElem?_take, List.getElem?_map] at this
    rw [if_pos (by omega), List.getElem?_eq_getElem hi] at this
    unfold World.cell?
    rw [hh]
    simp only [Option.isSome_none, Bool.false_eq_true, if_false, Nat.zero_add]
    rw [← Array.getElem?_toList, this]
    simp [List.getD, List.getElem?_eq_getElem hi]
theorem ReadsTexts.below {v : Value} {L : List (List UInt8)} {w w' : World} (h : ReadsTexts v L w) (hb : Below w.heap.size w w') : ReadsTexts v L w' := by
  rcases h with h | ⟨g, off, cap, hv, hg, hc⟩
  · exact .inl h
  · exact .inr ⟨g, off, cap, hv, Nat.lt_of_lt_of_le hg hb.size, fun i hi => by rw [hb.cell (p := ⟨g, off + i, none⟩) hg]; exact hc i hi⟩

/-- the same of an address and a length -/
def ReadsAt (a : Option Addr) (L : List (List UInt8)) (w : World) : Prop :=
  L = [] ∨ ∃ g off, a = some ⟨g, off, none⟩ ∧ g < w.heap.size ∧ ∀ i, i < L.length → w.cell? ⟨g, off + i, none⟩ = some (sv (L.getD i []))
theorem ReadsTexts.at_ {v : Value} {L : List (List UInt8)} {w : World} (h : ReadsTexts v L w) : ∃ a cap, v = .slice a L.length cap ∧ ReadsAt a L w := by
  rcases h with ⟨rfl, a, cap, hv⟩ | ⟨g, off, cap, hv, hg, hc⟩
  · exact ⟨a, cap, hv, .inl rfl⟩
  · exact ⟨_, cap, hv, .inr ⟨g, off, rfl, hg, hc⟩⟩
theorem ReadsAt.texts {a : Option Addr} {cap : Nat} {L : List (List UInt8)} {w : World} (h : ReadsAt a L w) : ReadsTexts (.slice a L.length cap) L w := by
  rcases h with rfl | ⟨g, off, rfl, hg, hc⟩
  · exact .inl ⟨rfl, a, cap, rfl⟩
  · exact .inr ⟨g, off, cap, rfl, hg, hc⟩
theorem ReadsAt.below {a : Option Addr} {L : List (List UInt8)} {w w' : World} (h : ReadsAt a L w) (hb : Below w.heap.size w w') : ReadsAt a L w' := by
  rcases h with h | ⟨g, off, hv, hg, hc⟩
  · exact .inl h
  · exact .inr ⟨g, off, hv, Nat.lt_of_lt_of_le hg hb.size, fun i hi => by rw [hb.cell (p := ⟨g, off + i, none⟩) hg]; exact hc i hi⟩
theorem ReadsAt.cell {a : Option Addr} {L : List (List UInt8)} {w : World} (h : ReadsAt a L w) (k : Nat) (hk : k < L.length) : ∃ g off, a = some ⟨g, off, none⟩ ∧ w.cell? ⟨g, off + k, none⟩ = some (.string ⟨L[k].toArray⟩) := by
  rcases h with h | ⟨g, off, hv, hg, hc⟩
  · subst h; simp at hk
  · exact ⟨g, off, hv, by rw [hc k hk]; simp [List.getD, sv, hk]⟩

theorem joinL_snoc (L : List (List UInt8)) (k : Nat) (h : k < L.length) : joinL (L.take (k + 1)) = (if 0 < k then joinL (L.take k) ++ [32] else []) ++ L[k] := by
  rw [List.take_succ_eq_append_getElem h]
  cases L with
  | nil => simp at h
  | cons x l =>
    cases k with
    | zero => simp [joinL]
    | succ k =>
      rw [if_pos (by omega), List.take_succ_cons, List.cons_append, joinL_eq, joinL_eq]
      rw [List.map_append, List.flatten_append]
      simp

theorem write_sv (B b : Nat) (l m : List UInt8) (w : World) (h : Lib.IsBuilder 105 5 B b (Lib.byteCells l) w) (hlen : l.length + m.length ≤ 140737488355328) (hBw : B ≤ w.heap.size) :
    Calls Tryz.prog 53 #[.pointer (some ⟨b, 0, none⟩), sv m] w fun e w' => e = .returned (.tuple #[.int .i64 m.length, .nilIface]) ∧ (Lib.IsBuilder 105 5 B b (Lib.byteCells (l ++ m)) w' ∧ Below B w w') :=
  (Bld.write_string B b (Lib.byteCells l) ⟨m.toArray⟩ w h (by rw [Lib.byteCells_length]; exact hlen) hBw).mono fun e w' ⟨he, hb, hbe⟩ => ⟨he, .inr (by rw [Lib.byteCells_append]; exact hb), hbe⟩

theorem fresh_builder (w : World) : Lib.IsBuilder 105 5 w.heap.size w.heap.size (Lib.byteCells []) (w.alloc (.cells #[.pointer none, .slice none 0 0] 105)) :=
  .inl ⟨Nat.le_refl _, _, heap_alloc_new _ _, World.ownsRow_nil _ _ _ _, by simp [Value.ownBlock]⟩

theorem joinL_le (L : List (List UInt8)) (k : Nat) : (joinL (L.take k)).length ≤ L.flatten.length + L.length := by
  have h := join_size (L.take k)
  have e : L = L.take k ++ L.drop k := (List.take_append_drop _ _).symm
  have h1 : L.flatten.length = (L.take k).flatten.length + (L.drop k).flatten.length := by
    rw [← List.length_append, ← List.flatten_append, List.take_append_drop]
  have h2 : (L.take k).length ≤ L.length := by rw [List.length_take]; omega
  omega
theorem elem_le (L : List (List UInt8)) (k : Nat) (h : k < L.length) : L[k].length ≤ L.flatten.length := by
  have h1 : L.flatten.length = (L.take k).flatten.length + (L.drop k).flatten.length := by
    rw [← List.length_append, ← List.flatten_append, List.take_append_drop]
  rw [List.drop_eq_getElem_cons h, List.flatten_cons, List.length_append] at h1
  omega

theorem join_empty (a : Option Addr) (cap : Nat) (w : World) :
    Calls Tryz.prog 26 #[.slice a 0 cap] w fun e w' => e = .returned (sv []) ∧ Below w.heap.size w w' := by
  have hb := fresh_builder w
  have HB := Lib.hid hb
  clear hb
  go_enter Tryz.func26, Tryz.ntmps26
  go_wp2
  refine wp_loop_rounds 1 ?_
  rw [rounds_succ]
  go_wp2_with fail
  refine (Tryz.Builder_String_any w.heap.size w.heap.size [] _ HB.out (by simp)).mono ?_
  rintro e w' ⟨rfl, hb⟩
  go_wp2_with fail
  go_ret
  exact ⟨rfl, ((Below.refl _ _).alloc (Nat.le_refl _) _).trans hb⟩

set_option maxHeartbeats 800000 in
theorem join_any (v : Value) (L : List (List UInt8)) (w : World) (h : ReadsTexts v L w) (hs : L.flatten.length + L.length ≤ 4194304) :
    Calls Tryz.prog 26 #[v] w fun e w' => e = .returned (sv (joinL L)) ∧ Below w.heap.size w w' := by
  rcases h with ⟨rfl, a, cap, rfl⟩ | ⟨g, off, cap, rfl, hg, hc⟩
  · exact join_empty a cap w
  have HC := Lib.hid hc
  clear hc
  have hb0 := fresh_builder w
  have HB0 := Lib.hid hb0
  clear hb0
  go_enter Tryz.func26, Tryz.ntmps26
  go_wp2
  go_loopw [8] (fun i wr => ∃ k : Nat, k ≤ L.length ∧ i = .int .i64 k ∧ Lib.IsBuilder 105 5 w.heap.size w.heap.size (Lib.byteCells (joinL (L.take k))) wr ∧ Below w.heap.size w wr) (fun i _ => L.length - (intOf i).toNat)
  case atStart => exact ⟨0, Nat.zero_le _, rfl, HB0.out, (Below.refl _ _).alloc (Nat.le_refl _) _⟩
  case round =>
    obtain ⟨k, hk, rfl, hB, hbel⟩ := hrel
    have hsz := hbel.size
    have hjl := joinL_le L k
    by_cases hlt : k < L.length
    · have hcell : wr.cell? ⟨g, off + k, none⟩ = some (sv (L.getD k [])) := by rw [hbel.cell (p := ⟨g, off + k, none⟩) hg]; exact HC.out k hlt
      have hel := elem_le L k hlt
      have hsn := joinL_snoc L k hlt
      have HSN := Lib.hid hsn
      have HBR := Lib.hid hB
      clear hsn hB
      by_cases h0 : 0 < k
      · go_wp2_with fail
        refine (write_sv w.heap.size w.heap.size (joinL (L.take k)) [32] wr HBR.out (by simp; omega) hsz).mono ?_
        rintro e w1 ⟨rfl, hb1, hbe1⟩
        have hsz1 := hbe1.size
        have HB1 := Lib.hid hb1
        clear hb1
        go_wp2_with fail
        refine (write_sv w.heap.size w.heap.size (joinL (L.take k) ++ [32]) L[k] w1 HB1.out (by simp; omega) (by omega)).mono ?_
        rintro e w2 ⟨rfl, hb2, hbe2⟩
        have HB2 : Hid (Lib.IsBuilder 105 5 w.heap.size w.heap.size (Lib.byteCells (joinL (L.take (k + 1)))) w2) := by
          rw [HSN.out, if_pos h0]; exact hb2
        clear hb2
        go_wp2
        go_roundw
        case rel => exact ⟨k + 1, by omega, by go_num, HB2.out, (hbel.trans hbe1).trans hbe2⟩
        case measure => simp [intOf]; omega
      · go_wp2_with fail
        refine (write_sv w.heap.size w.heap.size (joinL (L.take k)) L[k] wr HBR.out (by omega) hsz).mono ?_
        rintro e w2 ⟨rfl, hb2, hbe2⟩
        have HB2 : Hid (Lib.IsBuilder 105 5 w.heap.size w.heap.size (Lib.byteCells (joinL (L.take (k + 1)))) w2) := by
          rw [HSN.out, if_neg h0]
          obtain rfl : k = 0 := by omega
          exact hb2
        clear hb2
        go_wp2
        go_roundw
        case rel => exact ⟨k + 1, by omega, by go_num, HB2.out, hbel.trans hbe2⟩
        case measure => simp [intOf]; omega
    · have hkl : k = L.length := by omega
      rw [hkl, List.take_length] at hB
      have HBR := Lib.hid hB
      clear hB hkl
      go_wp2_with fail
      refine (Tryz.Builder_String_any w.heap.size w.heap.size (joinL L) _ HBR.out hsz).mono ?_
      rintro e w' ⟨rfl, hb⟩
      go_wp2_with fail
      go_ret
      exact ⟨rfl, hbel.trans hb⟩
end Go.Proofs.YtopjddmgejfalaaGreatDoor.Dig
namespace Go.Proofs.YtopjddmgejfalaaGreatDoor.Cw
open Go.ChangeShapes Go.WideShapes Go.ChangeAt Go.RowKit Go.Maps Circ

/-- the slice v, made from block base on, holds the numbers xs -/
def OwnI (w : World) (base : Nat) (v : Value) (xs : List Int) : Prop := w.ownsRow base 3 1 v xs.length (xs.map (Value.int .i64))
theorem OwnI.nil (w : World) (base : Nat) : OwnI w base (.slice none 0 0) [] := ⟨rfl, .inl ⟨rfl, rfl⟩⟩
theorem OwnI.row {w : World} {base : Nat} {v : Value} {xs : List Int} (h : OwnI w base v xs) : ∃ A q, v = .slice A xs.length q ∧ LRow w w.heap.size 1 A (ints xs) ∧ xs.length ≤ q ∧ q ≤ 9223372036854775807 := by
  obtain ⟨_, h⟩ := h
  rcases h with ⟨rfl, h0⟩ | ⟨g, cap, cur, rfl, _, hg, hn, hm, hs, ht⟩
  · have hx : xs = [] := List.eq_nil_of_length_eq_zero h0
    subst hx
    exact ⟨none, 0, rfl, .inl rfl, Nat.le_refl _, by decide⟩
  · refine ⟨_, cap, rfl, .inr ⟨g, 0, rfl, (Array.getElem?_eq_some_iff.1 hg).1, fun i ys hi j u hj => ?_⟩, hn, by unfold maxLen at hm; exact hm⟩
    obtain ⟨hi', rfl⟩ : ∃ h : i < xs.length, [Value.int .i64 xs[i]] = ys := by
      unfold ints at hi
      rw [List.getElem?_map] at hi
      cases hq : xs[i]? with
      | none => rw [hq] at hi; cases hi
      | some x =>
        rw [hq] at hi
        obtain ⟨h1, h2⟩ := List.getElem?_eq_some_iff.1 hq
        refine ⟨h1, ?_⟩
        rw [h2]; exact Option.some.inj hi
    match j, hj with
    | 0, hj =>
      obtain rfl : Value.int .i64 xs[i] = u := by simpa using hj
      have e := congrArg (fun l : List Value => l[i]?) ht
      simp only [List.getElem?_take] at e
      rw [if_pos (by omega), List.getElem?_map, List.getElem?_eq_getElem hi'] at e
      simp [World.cell?, hg]
      simpa using e
theorem OwnI.block_lt {w : World} {base : Nat} {v : Value} {xs : List Int} (h : OwnI w base v xs) (g : Nat) (hg : v.ownBlock = some g) : base ≤ g ∧ g < w.heap.size := by
  obtain ⟨_, h⟩ := h
  rcases h with ⟨rfl, h0⟩ | ⟨g', cap, cur, rfl, hb, hh, _⟩
  · simp [Value.ownBlock] at hg
  · have : g' = g := by simpa [Value.ownBlock] using hg
    subst this
    exact ⟨hb, (Array.getElem?_eq_some_iff.1 hh).1⟩
theorem OwnI.keep {w w' : World} {base : Nat} {v : Value} {xs : List Int} (h : OwnI w base v xs) (hb : Below w.heap.size w w') : OwnI w' base v xs := by
  obtain ⟨h0, h⟩ := h
  refine ⟨h0, ?_⟩
  rcases h with h | ⟨g, cap, cur, hv, hg, hh, r⟩
  · exact .inl h
  · exact .inr ⟨g, cap, cur, hv, hg, (hb.block g (Array.getElem?_eq_some_iff.1 hh).1).trans hh, r⟩

theorem info3 : (Tryz.prog.info? 3).map (fun i => (i.zero, i.size, i.bytes)) = some (some (.int .i64 0), 1, 8) := by kernel_rfl
theorem under22 : Tryz.prog.underlying 22 = some (.slice 3) := Tryz.underlying22

theorem run_append_nil (w : World) (base : Nat) (ty : TypeId) (v : Value) (xs : List Int) (hown : OwnI w base v xs) (c : Nat) : (Builtin.append_ #[22, 22] ty #[v, .slice none 0 c]).run Tryz.prog w = .ok v w := by
  obtain ⟨i0, hi0, hz0, hz1, hz2⟩ := info_parts info3
  rcases hown.2 with ⟨rfl, _⟩ | ⟨g, cap, cur, rfl, _, _, hnc, _⟩
  · simp [Builtin.append_, run_underlying under22, sizeOf, typeInfo, hi0, Builtin.lenOf, Builtin.firstCells]
  · simp [Builtin.append_, run_underlying under22, sizeOf, typeInfo, hi0, Builtin.lenOf, Builtin.firstCells, hnc, storeCells]

theorem run_append_ints (w : World) (base B : Nat) (ty : TypeId) (v : Value) (xs l : List Int) (hown : OwnI w base v xs) (A : Option Addr) (c : Nat) (hr : LRow w B 1 A (ints l))
    (hbytes : (xs.length + l.length) * 8 ≤ 140737488355328) (hbase : base ≤ w.heap.size) :
    ∃ v' w', (Builtin.append_ #[22, 22] ty #[v, .slice A l.length c]).run Tryz.prog w = .ok v' w' ∧ OwnI w' base v' (xs ++ l) ∧ w.grownBy w' v.ownBlock ∧ (v'.ownBlock = v.ownBlock ∨ v'.ownBlock = some w.heap.size) := by
  obtain ⟨i0, hi0, hz0, hz1, hz2⟩ := info_parts info3
  have go : ∀ ad : Addr, A = some ad → (∀ j u, (l.map (Value.int .i64))[j]? = some u → w.cell? (ad.add j) = some u) → ∃ v' w', (Builtin.append_ #[22, 22] ty #[v, .slice A l.length c]).run Tryz.prog w = .ok v' w' ∧ OwnI w' base v' (xs ++ l) ∧ w.grownBy w' v.ownBlock ∧ (v'.ownBlock = v.ownBlock ∨ v'.ownBlock = some w.heap.size) := fun ad hA hc => by
    obtain ⟨v', w', h1, h2, h3, _, h5⟩ := run_append_own_at (P := Tryz.prog) w base 22 ty 3 i0 (.int .i64 0) 1 8 under22 hi0 hz0 hz1 hz2 rfl (by decide) v xs.length (xs.map (Value.int .i64)) hown ad l.length c (l.map (Value.int .i64)) (by simp) hc (fun u hu => by
      obtain ⟨x, _, rfl⟩ := List.mem_map.1 hu; rfl) (by unfold maxLen; omega) hbytes hbase
    refine ⟨v', w', by rw [hA]; exact h1, ?_, h3, h5⟩
    unfold OwnI
    rw [List.length_append, List.map_append]
    exact h2
  rcases hr with h0 | ⟨b, o, e, hb, hc⟩
  · have hl : l = [] := by simpa [ints] using h0
    subst hl
    rcases A with _ | ad
    · exact ⟨v, w, run_append_nil w base ty v xs hown c, by simpa using hown, World.grownBy.refl w _, .inl rfl⟩
    · exact go ad rfl (fun j u hj => by simp at hj)
  · refine go _ e (fun j u hj => ?_)
    have hj' : j < l.length := by
      have := (List.getElem?_eq_some_iff.1 hj).1; simpa using this
    have h1 := hc j [Value.int .i64 l[j]] (by simp [ints, hj']) 0 _ rfl
    have h2 : u = Value.int .i64 l[j] := by
      rw [List.getElem?_map, List.getElem?_eq_getElem hj'] at hj
      exact (Option.some.inj hj).symm
    subst h2
    have h3 : (⟨b, o, none⟩ : Addr).add j = ⟨b, o + (j * 1 + 0), none⟩ := by
      unfold Addr.add
      by_cases hz : j = 0
      · simp [hz]
      · simp [hz]
    rw [h3]; exact h1

theorem wpList_app {ops : Array Oper} {rest : List Oper} {o : Oper} {a : Act} {Q : Exit → Act → World → Prop} (w : World) (hgd : o.guard = none) (s x : Operand)
    (ho : o.op = .call { callee := .builtin .append, args := #[s, x], argTypes := #[22, 22] })
    (base B : Nat) (v : Value) (xs l : List Int) (hs : a.eval s = v) (hown : OwnI w base v xs) (A : Option Addr) (m c : Nat) (hm : m = l.length) (hx : a.eval x = .slice A m c) (hr : LRow w B 1 A (ints l))
    (hbytes : (xs.length + l.length) * 8 ≤ 140737488355328) (hbase : base ≤ w.heap.size)
    (h : ∀ v' w', OwnI w' base v' (xs ++ l) → w.grownBy w' v.ownBlock → (v'.ownBlock = v.ownBlock ∨ v'.ownBlock = some w.heap.size) → wpList Tryz.prog ops Q rest (a.put o.dst v') w') : wpList Tryz.prog ops Q (o :: rest) a w := by
  subst hm
  obtain ⟨v', w', hr', h2, h3, h4⟩ := run_append_ints w base B o.type v xs l hown A c hr hbytes hbase
  refine wpList_plain hgd fun K hK => ?_
  unfold Oper.wp execOp
  simp only [ho, resolve, invoke, builtin, Sem.run_bind, Sem.run_pure, Result.andThen_ok, List.map_toArray, List.map_cons, List.map_nil, hs, hx, hr']
  exact hK _ _ (h v' w' h2 h3 h4)
end Go.Proofs.YtopjddmgejfalaaGreatDoor.Cw
namespace Go.Proofs.YtopjddmgejfalaaGreatDoor.Cw
open Go.ChangeShapes Go.WideShapes Go.ChangeAt Go.RowKit Circ

end Go.Proofs.YtopjddmgejfalaaGreatDoor.Cw
namespace Go.Proofs.YtopjddmgejfalaaGreatDoor.Cw
open Go.ChangeShapes Go.WideShapes Go.ChangeAt Go.RowKit Circ

set_option maxHeartbeats 1000000 in
theorem kindref_any (c : Cir) (s : Places) (v : Int) (w : World) (h : CLies w w.heap.size c s) (hf : CFits c s) :
    Calls Tryz.prog 58 #[cirV c s, .int .i64 v] w fun e w' => e = .returned (.string (kindOf c v)) ∧ Below w.heap.size w w' := by
  have li := hf.li
  have ll := hf.ll
  have la := hf.la
  have hbel : Below w.heap.size w (w.alloc (.cells (cirC c s) 27)) := (Below.refl _ _).alloc (Nat.le_refl _) _
  have H := Lib.hid h
  have HI := Lib.hid hf
  clear h hf
  unfold cirV cirC at *
  by_cases hv : v = 0
  · subst hv
    go_enter Tryz.func58, Tryz.ntmps58
    go_wp2
    go_ret
    exact ⟨by simp [kindOf], hbel⟩
  · have hv1 : (v == 0) = false := by simpa using hv
    go_enter Tryz.func58, Tryz.ntmps58
    go_wp2
    go_loop [5] (fun i => ∃ k : Nat, k ≤ c.ins.length ∧ i = .int .i64 k ∧ hasVar (c.ins.take k) v = false) (fun i => c.ins.length - (intOf i).toNat)
    case atStart => exact ⟨0, Nat.zero_le _, rfl, rfl⟩
    case round =>
      obtain ⟨k, hk, rfl, hno⟩ := hrel
      have HN := Lib.hid hno; clear hno
      by_cases hlt : k < c.ins.length
      · obtain ⟨b, o, ha, hb, hc⟩ := H.out.ins.int hlt
        have hx := HI.out.ins c.ins[k] (List.getElem_mem _)
        have HX := Lib.hid (hasVar_take c.ins v k hlt)
        have HS := Lib.hid (hasVar_some c.ins v k hlt)
        obtain ⟨x0, x1⟩ := hx
        generalize c.ins[k] = x at *
        go_wp2
        · go_ret
          exact ⟨ret_str (by unfold kindOf; rw [if_neg hv, if_pos (HS.out (by assumption) (beq_iff_eq.1 (by assumption)))]), by rw [← ha]; exact hbel⟩
        all_goals
          refine ⟨⟨k + 1, by omega, rfl, ?_⟩, by simp [intOf]; omega⟩
          rw [HX.out, HN.out]; first | (have hq := ‹(x / 2 == v) = false›; rw [beq_eq_false_iff_ne] at hq; simp [hq]) | (simp; omega)
      · obtain rfl : k = c.ins.length := by omega
        rw [List.take_of_length_le (Nat.le_refl _)] at HN
        go_wp2
        have HN1 := HN; clear HN
        go_loop [6] (fun i => ∃ k : Nat, k ≤ c.lats.length ∧ i = .int .i64 k ∧ hasTri (c.lats.take k) v = false) (fun i => c.lats.length - (intOf i).toNat)
        case atStart => exact ⟨0, Nat.zero_le _, rfl, rfl⟩
        case round =>
          obtain ⟨k, hk, rfl, hno⟩ := hrel
          have HN := Lib.hid hno; clear hno
          by_cases hlt : k < c.lats.length
          · obtain ⟨b, o, ha, hb, hc, _, _⟩ := H.out.lats.tri hlt
            have hx := HI.out.lats c.lats[k] (List.getElem_mem _)
            have HX := Lib.hid (hasTri_take c.lats v k hlt)
            have HS := Lib.hid (hasTri_some c.lats v k hlt)
            obtain ⟨⟨x0, x1⟩, _, _⟩ := hx
            generalize c.lats[k].a = x at *
            go_wp2
            · go_ret
              exact ⟨ret_str (by unfold kindOf; rw [if_neg hv, if_neg (by rw [HN1.out]; simp), if_pos (HS.out (by assumption) (beq_iff_eq.1 (by assumption)))]), by rw [← ha]; exact hbel⟩
            all_goals
              refine ⟨⟨k + 1, by omega, rfl, ?_⟩, by simp [intOf]; omega⟩
              rw [HX.out, HN.out]; first | (have hq := ‹(x / 2 == v) = false›; rw [beq_eq_false_iff_ne] at hq; simp [hq]) | (simp; omega)
          · obtain rfl : k = c.lats.length := by omega
            rw [List.take_of_length_le (Nat.le_refl _)] at HN
            go_wp2
            have HN2 := HN; clear HN
            go_loop [7] (fun i => ∃ k : Nat, k ≤ c.ands.length ∧ i = .int .i64 k ∧ hasTri (c.ands.take k) v = false) (fun i => c.ands.length - (intOf i).toNat)
            case atStart => exact ⟨0, Nat.zero_le _, rfl, rfl⟩
            case round =>
              obtain ⟨k, hk, rfl, hno⟩ := hrel
              have HN := Lib.hid hno; clear hno
              by_cases hlt : k < c.ands.length
              · obtain ⟨b, o, ha, hb, hc, _, _⟩ := H.out.ands.tri hlt
                have hx := HI.out.ands c.ands[k] (List.getElem_mem _)
                have HX := Lib.hid (hasTri_take c.ands v k hlt)
                have HS := Lib.hid (hasTri_some c.ands v k hlt)
                obtain ⟨⟨x0, x1⟩, _, _⟩ := hx
                generalize c.ands[k].a = x at *
                go_wp2
                · go_ret
                  exact ⟨ret_str (by unfold kindOf; rw [if_neg hv, if_neg (by rw [HN1.out]; simp), if_neg (by rw [HN2.out]; simp), if_pos (HS.out (by assumption) (beq_iff_eq.1 (by assumption)))]), by rw [← ha]; exact hbel⟩
                all_goals
                  refine ⟨⟨k + 1, by omega, rfl, ?_⟩, by simp [intOf]; omega⟩
                  rw [HX.out, HN.out]; first | (have hq := ‹(x / 2 == v) = false›; rw [beq_eq_false_iff_ne] at hq; simp [hq]) | (simp; omega)
              · obtain rfl : k = c.ands.length := by omega
                rw [List.take_of_length_le (Nat.le_refl _)] at HN
                go_wp2
                go_ret
                exact ⟨ret_str (by unfold kindOf; rw [if_neg hv, if_neg (by rw [HN1.out]; simp), if_neg (by rw [HN2.out]; simp), if_neg (by rw [HN.out]; simp)]), hbel⟩

end Go.Proofs.YtopjddmgejfalaaGreatDoor.Cw
