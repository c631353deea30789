/- The walks of Words, Lines, Join; bounds on sizes as they are stated. -/
import Derived.Test.YtckdlbfndmmjjaaGreatDoorDigPieces
import Derived.Test.YtckdlbfndmmjjaaGreatDoorBuilder
namespace Go.Proofs.YtckdlbfndmmjjaaGreatDoor.Dig
open Go.ChangeShapes Go.WideShapes Go.ChangeAt Go.RowKit

theorem isEmpty_data (s : ByteArray) : s.toList.isEmpty = s.data.toList.isEmpty := by rw [Lib.toList_data]

theorem words1 : Wants 96 (fun p _ => !p.isEmpty) := by
  intro p last w
  have he := isEmpty_data p
  have HE := Lib.hid he
  clear he
  go_enter Tryz.func96, Tryz.ntmps96
  go_wp2
  go_ret
  refine ⟨?_, rfl⟩
  rw [← HE.out]; rfl

theorem lines1 : Wants 36 (fun p last => !p.isEmpty || !last) := by
  intro p last w
  have he := isEmpty_data p
  cases hb : p.toList.isEmpty
  · rw [hb] at he
    have HE := Lib.hid he
    clear he
    go_enter Tryz.func36, Tryz.ntmps36
    go_wp2
    go_ret
    refine ⟨?_, rfl⟩
    rw [← HE.out]; rfl
  · rw [hb] at he
    have HE := Lib.hid he
    clear he
    go_enter Tryz.func36, Tryz.ntmps36
    go_wp2
    go_ret
    refine ⟨?_, rfl⟩
    rw [← HE.out]; rfl

/-- a list of texts of the call's own -/
def Texts (B : Nat) (v : Value) (L : List (List UInt8)) (w : World) : Prop := w.ownsRow B 9 1 v L.length (L.map sv)

theorem words_any (s : ByteArray) (w : World) (hs : s.size ≤ 4194304) (hm : MaxCell w) :
    Calls Tryz.prog 84 #[.string s] w fun e w' => ∃ v, e = .returned v ∧ Texts w.heap.size v (wordsL s.data.toList) w' ∧ Below w.heap.size w w' := by
  have hp := pieces_any s 32 96 _ w hs hm (enters_of Tryz.func96 (by kernel_rfl) rfl) words1
  have HP := Lib.hid hp
  clear hp hm
  go_enter Tryz.func84, Tryz.ntmps84
  go_wp2_with fail
  refine HP.out.mono ?_
  rintro e w1 ⟨v, rfl, ho, hb⟩
  have HO := Lib.hid ho
  clear ho
  go_wp2_with fail
  go_ret
  exact ⟨_, rfl, HO.out, hb⟩

theorem lines_any (s : ByteArray) (w : World) (hs : s.size ≤ 4194304) (hm : MaxCell w) :
    Calls Tryz.prog 20 #[.string s] w fun e w' => ∃ v, e = .returned v ∧ Texts w.heap.size v (linesL s.data.toList) w' ∧ Below w.heap.size w w' := by
  have hp := pieces_any s 10 36 _ w hs hm (enters_of Tryz.func36 (by kernel_rfl) rfl) lines1
  have HP := Lib.hid hp
  clear hp hm
  go_enter Tryz.func20, Tryz.ntmps20
  go_wp2_with fail
  refine HP.out.mono ?_
  rintro e w1 ⟨v, rfl, ho, hb⟩
  have HO := Lib.hid ho
  clear ho
  go_wp2_with fail
  go_ret
  exact ⟨_, rfl, HO.out, hb⟩

/-- a list of texts that lies anywhere, to be read -/
def ReadsTexts (v : Value) (L : List (List UInt8)) (w : World) : Prop :=
  (L = [] ∧ ∃ a cap, v = .slice a 0 cap) ∨ ∃ g off cap, v = .slice (some ⟨g, off, none⟩) L.length cap ∧ g < w.heap.size ∧ ∀ i, i < L.length → w.cell? ⟨g, off + i, none⟩ = some (sv (L.getD i []))
theorem Texts.reads {B : Nat} {v : Value} {L : List (List UInt8)} {w : World} (h : Texts B v L w) : ReadsTexts v L w := by
  obtain ⟨hl, ⟨hv, h0⟩ | ⟨g, cap, cur, hv, hg, hh, hn, hc, hcs, hx⟩⟩ := h
  · left; exact ⟨List.length_eq_zero_iff.1 h0, none, 0, hv⟩
  · right
    refine ⟨g, 0, cap, hv, lt_of_block hh, fun i hi => ?_⟩
    have := congrArg (·[i]?) hx
    simp only [List.getElem?_take, List.getElem?_map] at this
    rw [if_pos (by omega), List.getElem?_eq_getElem hi] at this
    unfold World.cell?
    rw [hh]
    simp only [Option.isSome_none, Bool.false_eq_true, if_false, Nat.zero_add]
    rw [← Array.getElem?_toList, this]
    simp [List.getD, List.getElem?_eq_getElem hi]
theorem ReadsTexts.below {v : Value} {L : List (List UInt8)} {w w' : World} (h : ReadsTexts v L w) (hb : Below w.heap.size w w') : ReadsTexts v L w' := by
  rcases h with h | ⟨g, off, cap, hv, hg, hc⟩
  · exact .inl h
  · exact .inr ⟨g, off, cap, hv, Nat.lt_of_lt_of_le hg hb.size, fun i hi => by rw [hb.cell (p := ⟨g, off + i, none⟩) hg]; exact hc i hi⟩

/-- the same of an address and a length -/
def ReadsAt (a : Option Addr) (L : List (List UInt8)) (w : World) : Prop :=
  L = [] ∨ ∃ g off, a = some ⟨g, off, none⟩ ∧ g < w.heap.size ∧ ∀ i, i < L.length → w.cell? ⟨g, off + i, none⟩ = some (sv (L.getD i []))
theorem ReadsTexts.at_ {v : Value} {L : List (List UInt8)} {w : World} (h : ReadsTexts v L w) : ∃ a cap, v = .slice a L.length cap ∧ ReadsAt a L w := by
  rcases h with ⟨rfl, a, cap, hv⟩ | ⟨g, off, cap, hv, hg, hc⟩
  · exact ⟨a, cap, hv, .inl rfl⟩
  · exact ⟨_, cap, hv, .inr ⟨g, off, rfl, hg, hc⟩⟩
theorem ReadsAt.texts {a : Option Addr} {cap : Nat} {L : List (List UInt8)} {w : World} (h : ReadsAt a L w) : ReadsTexts (.slice a L.length cap) L w := by
  rcases h with rfl | ⟨g, off, rfl, hg, hc⟩
  · exact .inl ⟨rfl, a, cap, rfl⟩
  · exact .inr ⟨g, off, cap, rfl, hg, hc⟩
theorem ReadsAt.below {a : Option Addr} {L : List (List UInt8)} {w w' : World} (h : ReadsAt a L w) (hb : Below w.heap.size w w') : ReadsAt a L w' := by
  rcases h with h | ⟨g, off, hv, hg, hc⟩
  · exact .inl h
  · exact .inr ⟨g, off, hv, Nat.lt_of_lt_of_le hg hb.size, fun i hi => by rw [hb.cell (p := ⟨g, off + i, none⟩) hg]; exact hc i hi⟩
theorem ReadsAt.cell {a : Option Addr} {L : List (List UInt8)} {w : World} (h : ReadsAt a L w) (k : Nat) (hk : k < L.length) : ∃ g off, a = some ⟨g, off, none⟩ ∧ w.cell? ⟨g, off + k, none⟩ = some (.string ⟨L[k].toArray⟩) := by
  rcases h with h | ⟨g, off, hv, hg, hc⟩
  · subst h; simp at hk
  · exact ⟨g, off, hv, by rw [hc k hk]; simp [List.getD, sv, hk]⟩

theorem words_at (s : ByteArray) (w : World) (hs : s.size ≤ 4194304) (hm : MaxCell w) :
    Calls Tryz.prog 84 #[.string s] w fun e w' => ∃ a cap, e = .returned (.slice a (wordsL s.data.toList).length cap) ∧ ReadsAt a (wordsL s.data.toList) w' ∧ Below w.heap.size w w' :=
  (words_any s w hs hm).mono fun e w' ⟨v, he, hv, hb⟩ => by
    obtain ⟨a, cap, h1, h2⟩ := hv.reads.at_
    exact ⟨a, cap, by rw [he, h1], h2, hb⟩
theorem lines_at (s : ByteArray) (w : World) (hs : s.size ≤ 4194304) (hm : MaxCell w) :
    Calls Tryz.prog 20 #[.string s] w fun e w' => ∃ a cap, e = .returned (.slice a (linesL s.data.toList).length cap) ∧ ReadsAt a (linesL s.data.toList) w' ∧ Below w.heap.size w w' :=
  (lines_any s w hs hm).mono fun e w' ⟨v, he, hv, hb⟩ => by
    obtain ⟨a, cap, h1, h2⟩ := hv.reads.at_
    exact ⟨a, cap, by rw [he, h1], h2, hb⟩

theorem joinL_snoc (L : List (List UInt8)) (k : Nat) (h : k < L.length) : joinL (L.take (k + 1)) = (if 0 < k then joinL (L.take k) ++ [32] else []) ++ L[k] := by
  rw [List.take_succ_eq_append_getElem h]
  cases L with
  | nil => simp at h
  | cons x l =>
    cases k with
    | zero => simp [joinL]
    | succ k =>
      rw [if_pos (by omega), List.take_succ_cons, List.cons_append, joinL_eq, joinL_eq]
      rw [List.map_append, List.flatten_append]
      simp

theorem write_sv (B b : Nat) (l m : List UInt8) (w : World) (h : Lib.IsBuilder 42 5 B b (Lib.byteCells l) w) (hlen : l.length + m.length ≤ 140737488355328) (hBw : B ≤ w.heap.size) :
    Calls Tryz.prog 32 #[.pointer (some ⟨b, 0, none⟩), sv m] w fun e w' => e = .returned (.tuple #[.int .i64 m.length, .nilIface]) ∧ (Lib.IsBuilder 42 5 B b (Lib.byteCells (l ++ m)) w' ∧ Below B w w') :=
  (Bld.write_string B b (Lib.byteCells l) ⟨m.toArray⟩ w h (by rw [Lib.byteCells_length]; exact hlen) hBw).mono fun e w' ⟨he, hb, hbe⟩ => ⟨he, .inr (by rw [Lib.byteCells_append]; exact hb), hbe⟩

theorem fresh_builder (w : World) : Lib.IsBuilder 42 5 w.heap.size w.heap.size (Lib.byteCells []) (w.alloc (.cells #[.pointer none, .slice none 0 0] 42)) :=
  .inl ⟨Nat.le_refl _, _, heap_alloc_new _ _, World.ownsRow_nil _ _ _ _, by simp [Value.ownBlock]⟩

theorem joinL_le (L : List (List UInt8)) (k : Nat) : (joinL (L.take k)).length ≤ L.flatten.length + L.length := by
  have h := join_size (L.take k)
  have e : L = L.take k ++ L.drop k := (List.take_append_drop _ _).symm
  have h1 : L.flatten.length = (L.take k).flatten.length + (L.drop k).flatten.length := by
    rw [← List.length_append, ← List.flatten_append, List.take_append_drop]
  have h2 : (L.take k).length ≤ L.length := by rw [List.length_take]; omega
  omega
theorem elem_le (L : List (List UInt8)) (k : Nat) (h : k < L.length) : L[k].length ≤ L.flatten.length := by
  have h1 : L.flatten.length = (L.take k).flatten.length + (L.drop k).flatten.length := by
    rw [← List.length_append, ← List.flatten_append, List.take_append_drop]
  rw [List.drop_eq_getElem_cons h, List.flatten_cons, List.length_append] at h1
  omega

theorem join_empty (a : Option Addr) (cap : Nat) (w : World) :
    Calls Tryz.prog 33 #[.slice a 0 cap] w fun e w' => e = .returned (sv []) ∧ Below w.heap.size w w' := by
  have hb := fresh_builder w
  have HB := Lib.hid hb
  clear hb
  go_enter Tryz.func33, Tryz.ntmps33
  go_wp2
  refine wp_loop_rounds 1 ?_
  rw [rounds_succ]
  go_wp2_with fail
  refine (Tryz.Builder_String_any w.heap.size w.heap.size [] _ HB.out (by simp)).mono ?_
  rintro e w' ⟨rfl, hb⟩
  go_wp2_with fail
  go_ret
  exact ⟨rfl, ((Below.refl _ _).alloc (Nat.le_refl _) _).trans hb⟩

set_option maxHeartbeats 800000 in
theorem join_any (v : Value) (L : List (List UInt8)) (w : World) (h : ReadsTexts v L w) (hs : L.flatten.length + L.length ≤ 4194304) :
    Calls Tryz.prog 33 #[v] w fun e w' => e = .returned (sv (joinL L)) ∧ Below w.heap.size w w' := by
  rcases h with ⟨rfl, a, cap, rfl⟩ | ⟨g, off, cap, rfl, hg, hc⟩
  · exact join_empty a cap w
  have HC := Lib.hid hc
  clear hc
  have hb0 := fresh_builder w
  have HB0 := Lib.hid hb0
  clear hb0
  go_enter Tryz.func33, Tryz.ntmps33
  go_wp2
  go_loopw [8] (fun i wr => ∃ k : Nat, k ≤ L.length ∧ i = .int .i64 k ∧ Lib.IsBuilder 42 5 w.heap.size w.heap.size (Lib.byteCells (joinL (L.take k))) wr ∧ Below w.heap.size w wr) (fun i _ => L.length - (intOf i).toNat)
  case atStart => exact ⟨0, Nat.zero_le _, rfl, HB0.out, (Below.refl _ _).alloc (Nat.le_refl _) _⟩
  case round =>
    obtain ⟨k, hk, rfl, hB, hbel⟩ := hrel
    have hsz := hbel.size
    have hjl := joinL_le L k
    by_cases hlt : k < L.length
    · have hcell : wr.cell? ⟨g, off + k, none⟩ = some (sv (L.getD k [])) := by rw [hbel.cell (p := ⟨g, off + k, none⟩) hg]; exact HC.out k hlt
      have hel := elem_le L k hlt
      have hsn := joinL_snoc L k hlt
      have HSN := Lib.hid hsn
      have HBR := Lib.hid hB
      clear hsn hB
      by_cases h0 : 0 < k
      · go_wp2_with fail
        refine (write_sv w.heap.size w.heap.size (joinL (L.take k)) [32] wr HBR.out (by simp; omega) hsz).mono ?_
        rintro e w1 ⟨rfl, hb1, hbe1⟩
        have hsz1 := hbe1.size
        have HB1 := Lib.hid hb1
        clear hb1
        go_wp2_with fail
        refine (write_sv w.heap.size w.heap.size (joinL (L.take k) ++ [32]) L[k] w1 HB1.out (by simp; omega) (by omega)).mono ?_
        rintro e w2 ⟨rfl, hb2, hbe2⟩
        have HB2 : Hid (Lib.IsBuilder 42 5 w.heap.size w.heap.size (Lib.byteCells (joinL (L.take (k + 1)))) w2) := by
          rw [HSN.out, if_pos h0]; exact hb2
        clear hb2
        go_wp2
        go_roundw
        case rel => exact ⟨k + 1, by omega, by go_num, HB2.out, (hbel.trans hbe1).trans hbe2⟩
        case measure => simp [intOf]; omega
      · go_wp2_with fail
        refine (write_sv w.heap.size w.heap.size (joinL (L.take k)) L[k] wr HBR.out (by omega) hsz).mono ?_
        rintro e w2 ⟨rfl, hb2, hbe2⟩
        have HB2 : Hid (Lib.IsBuilder 42 5 w.heap.size w.heap.size (Lib.byteCells (joinL (L.take (k + 1)))) w2) := by
          rw [HSN.out, if_neg h0]
          obtain rfl : k = 0 := by omega
          exact hb2
        clear hb2
        go_wp2
        go_roundw
        case rel => exact ⟨k + 1, by omega, by go_num, HB2.out, hbel.trans hbe2⟩
        case measure => simp [intOf]; omega
    · have hkl : k = L.length := by omega
      rw [hkl, List.take_length] at hB
      have HBR := Lib.hid hB
      clear hB hkl
      go_wp2_with fail
      refine (Tryz.Builder_String_any w.heap.size w.heap.size (joinL L) _ HBR.out hsz).mono ?_
      rintro e w' ⟨rfl, hb⟩
      go_wp2_with fail
      go_ret
      exact ⟨rfl, hbel.trans hb⟩
end Go.Proofs.YtckdlbfndmmjjaaGreatDoor.Dig
