/- The walks of package digits' number functions: every, canonical, value, Parse, Print; no condition but a text's length. The walks of package digits' texts: pieces, Words, Lines, Join; bounds on sizes as they are stated. strings.Builder, written: copyCheck and WriteString at this translation; a builder that the call itself has made. The walks of Words, Lines, Join; bounds on sizes as they are stated. -/
import Derived.Test.YtpbggngeopjefaaDoorChecked
import Derived.Test.YtpbggngeopjefaaDoorPk10
import Derived.Test.YtpbggngeopjefaaDoorPk17
import Derived.WalkKit
import Derived.ProofKit
import Derived.WalkSpells
import Derived.WalkLawsBesides
import Derived.Outline
import Derived.Lib.Hide
import Derived.LoopTactic
import Derived.OneCell
import Derived.OwnWalk
import Derived.Lib.Builder
import Derived.Lib.AppendStr
import Derived.Shelf.Strings.BuilderX
import Derived.Lib.Strings
import Derived.Lib.Walk
import Derived.Laws.Externs
namespace Go.Proofs.YtpbggngeopjefaaDoor.Dig
open Go.ChangeShapes Go.WideShapes Go.ChangeAt Go.RowKit

def EveryPost (I : Nat → World → Prop) (F : World → Prop) (n : Nat) (e : Ending) (w : World) : Prop := (e = .returned (.bool true) ∧ I n w) ∨ (e = .returned (.bool false) ∧ F w)
def EveryStep (k : FuncId) (cap : Array Value) (s : ByteArray) (I : Nat → World → Prop) (F : World → Prop) : Prop :=
  ∀ (i : Nat) (h : i < s.size) (w : World), I i w → Calls Tryd.prog k (#[.int .u8 s[i].toNat] ++ cap) w (EveryPost I F (i + 1))

/-- value: the digits added up -/
def ValI (s : ByteArray) (B : Nat) (W : World) (i : Nat) (w : World) : Prop := ∃ v : Nat, v ≤ far ∧ val 0 (s.data.toList.take i) = some v ∧ w.heap[B]? = some (.cells #[.int .i64 v] 3 (0, 0)) ∧ Below B W w
def ValF (s : ByteArray) (B : Nat) (W : World) (w : World) : Prop := val 0 s.data.toList = none ∧ (∃ v : Int, w.heap[B]? = some (.cells #[.int .i64 v] 3 (0, 0))) ∧ Below B W w

theorem take_snoc (s : ByteArray) (k : Nat) (h : k < s.size) : s.data.toList.take (k + 1) = s.data.toList.take k ++ [s[k]] := by
  rw [List.take_succ_eq_append_getElem (by simpa using h)]; rfl
theorem val_stop (l m : List UInt8) (h : val 0 l = none) : val 0 (l ++ m) = none := by rw [val_append, h]; rfl

def valOut (l : List UInt8) : Value := match val 0 l with
  | some v => .tuple #[.int .i64 v, .bool true]
  | none => .tuple #[.int .i64 0, .bool false]

def parseOut (l : List UInt8) : Value := .tuple #[.int .i64 (parseL l).1, .int .i64 (parseL l).2]

theorem below_grow (w : World) (k : Nat) (os : Array Obj) : Below w.heap.size w (Sort.grow (w.drewN k) os) :=
  ⟨rfl, rfl, rfl, by show w.heap.size ≤ (w.heap ++ os).size; rw [Array.size_append]; omega, fun j hj => by show (w.heap ++ os)[j]? = _; exact Array.getElem?_append_left hj⟩

/-- the table of powers of ten, whatever the call does at blocks of its own -/
def Tab (W : World) : Prop := ∀ w', Below W.heap.size W w' → Lib.TabIs Tryd.prog w' "internal/strconv.uint64pow10" .u64 Lib.pow10Tab

theorem print_any (n : Int) (h0 : -9223372036854775808 ≤ n) (h1 : n ≤ 9223372036854775807) (w : World) (htab : Lib.TabIs Tryd.prog w "internal/strconv.uint64pow10" .u64 Lib.pow10Tab) :
    Calls Tryd.prog 27 #[.int .i64 n] w fun e w' => e = .returned (.string ⟨(Lib.itoa n).toArray⟩) ∧ Below w.heap.size w w' := by
  go_enter Tryd.func27, Tryd.ntmps27
  go_wp2_with fail
  refine (Tryd.strconv_Itoa n h0 h1 _ htab).mono ?_
  rintro e w' ⟨rfl, k, os, hw⟩
  have HW := Lib.hid hw; clear hw
  go_wp2_with fail
  go_ret
  refine ⟨rfl, ?_⟩
  rw [HW.out]
  exact below_grow w k os
end Go.Proofs.YtpbggngeopjefaaDoor.Dig
namespace Go.Proofs.YtpbggngeopjefaaDoor.Dig
open Go.ChangeShapes Go.WideShapes Go.ChangeAt Go.RowKit

def sv (l : List UInt8) : Value := .string ⟨l.toArray⟩

theorem info9 : (Tryd.prog.info? 9).map (fun i => (i.zero, i.size, i.bytes)) = some (some (.string ⟨#[]⟩), 1, 16) := by kernel_rfl

theorem ownsRow_below {w w' : World} {base : Nat} {e : TypeId} {size : Nat} {v : Value} {n : Nat} {xs : List Value} (h : w.ownsRow base e size v n xs) (hb : Below w.heap.size w w') : w'.ownsRow base e size v n xs := by
  obtain ⟨hl, h0 | ⟨g, cap, cur, hv, hg, hh, r⟩⟩ := h
  · exact ⟨hl, .inl h0⟩
  · exact ⟨hl, .inr ⟨g, cap, cur, hv, hg, by rw [hb.block g (lt_of_block hh)]; exact hh, r⟩⟩

theorem clone_any (s : ByteArray) (w : World) (hs : s.size ≤ 281474976710656) :
    Calls Tryd.prog 55 #[.string s] w fun e w' => e = .returned (.string s) ∧ Below w.heap.size w w' := by
  have hc := fun w => Tryd.stringslite_Clone s w hs
  have HC := Lib.hid hc
  clear hc
  go_enter Tryd.func55, Tryd.ntmps55
  go_wp2_with fail
  refine (HC.out _).mono ?_
  rintro e w1 ⟨rfl, hb⟩
  go_wp2_with fail
  go_ret
  exact ⟨rfl, hb⟩

/-- how a closure answers that wants some pieces -/
def Wants (k : FuncId) (want : List UInt8 → Bool → Bool) : Prop :=
  ∀ (p : ByteArray) (last : Bool) (w : World), Calls Tryd.prog k #[.string p, .bool last] w fun e w' => e = .returned (.bool (want p.data.toList last)) ∧ w = w'

/-- where a loop over pieces stands -/
def PSt (c : UInt8) (want : List UInt8 → Bool → Bool) (s0 : ByteArray) (B : Nat) (W : World) (last : Bool) (r : ByteArray) (v : Value) (w : World) : Prop :=
  ∃ L : List (List UInt8), w.ownsRow B 9 1 v L.length (L.map sv) ∧ Below B W w ∧
    match last with
    | true => L = piecesL c want s0.data.toList
    | false => ∃ done, splitOn c s0.data.toList = done ++ splitOn c r.data.toList ∧ L = done.filter (fun p => want p false) ∧ done.length + r.size ≤ s0.size
def pm (s last : Value) : Nat := match last, s with
  | .bool true, _ => 0
  | _, .string r => r.size + 1
  | _, _ => 0

theorem pst_next {c : UInt8} {want : List UInt8 → Bool → Bool} {s0 : ByteArray} {B : Nat} {W w : World} {x p q : ByteArray} {f : Bool} {v : Value} {done : List (List UInt8)}
    (hsp : splitOn c s0.data.toList = done ++ splitOn c x.data.toList) (hdl : done.length + x.size ≤ s0.size)
    (h0 : f = false → p = x ∧ splitOn c x.data.toList = [x.data.toList]) (h1 : f = true → splitOn c x.data.toList = p.data.toList :: splitOn c q.data.toList ∧ q.size + 1 ≤ x.size)
    (hown : w.ownsRow B 9 1 v (done.filter (fun p => want p false) ++ (if want p.data.toList (!f) then [p.data.toList] else [])).length ((done.filter (fun p => want p false) ++ (if want p.data.toList (!f) then [p.data.toList] else [])).map sv))
    (hb : Below B W w) : PSt c want s0 B W (!f) q v w := by
  refine ⟨_, hown, hb, ?_⟩
  cases f
  · obtain ⟨rfl, h2⟩ := h0 rfl
    rw [h2] at hsp
    exact (piecesL_of hsp).symm
  · obtain ⟨h2, h3⟩ := h1 rfl
    refine ⟨done ++ [p.data.toList], ?_, ?_, ?_⟩
    · rw [hsp, h2, List.append_assoc]; rfl
    · rw [List.filter_append]
      congr 1
      by_cases hw : want p.data.toList false <;> simp [hw]
    · rw [List.length_append, List.length_singleton]; omega

theorem pm_next {c : UInt8} {p q x : ByteArray} {f : Bool} (h1 : f = true → splitOn c x.data.toList = p.data.toList :: splitOn c q.data.toList ∧ q.size + 1 ≤ x.size) :
    pm (.string q) (.bool !f) < pm (.string x) (.bool false) := by
  cases f
  · show 0 < x.size + 1; omega
  · have := (h1 rfl).2; show q.size + 1 < x.size + 1; omega

end Go.Proofs.YtpbggngeopjefaaDoor.Dig
namespace Go.Proofs.YtpbggngeopjefaaDoor.Bld
open Go.RowKit

theorem sizeBuilder : (Tryd.prog.info? 111).map (·.size) = some 2 := by kernel_rfl
theorem liesBuilder : liesAt Tryd.prog Tryd.prog.depth 111 (2 / Tryd.prog.cellsOf 111) 0 111 1 = true := by kernel_rfl
theorem infoByte : (Tryd.prog.info? 5).map (fun i => (i.zero, i.size, i.bytes)) = some (some (.int .u8 0), 1, 1) := by kernel_rfl

set_option maxRecDepth 100000 in
theorem check_used (b : Nat) (w : World) (h0 : w.cell? ⟨b, 0, none⟩ = some (.pointer (some ⟨b, 0, none⟩))) :
    Calls Tryd.prog 87 #[.pointer (some ⟨b, 0, none⟩)] w fun e w' => e = .returned (.tuple #[]) ∧ w = w' := by
  obtain ⟨j, hj, _⟩ := Option.map_eq_some_iff.1 sizeBuilder
  go_enter Tryd.func87, Tryd.ntmps87
  go_wp2
  rw [Lib.run_neq_ptr_same w _ Tryd.underlying109 hj]
  go_wp2
  go_end0
  exact ⟨rfl, rfl⟩

set_option maxRecDepth 100000 in
theorem check_fresh (b : Nat) (w : World) (h0 : w.cell? ⟨b, 0, none⟩ = some (.pointer none)) (hsh : w.shape? b = some (111, 2)) (hfz : w.frozen? ⟨b, 0, none⟩ = false) :
    Calls Tryd.prog 87 #[.pointer (some ⟨b, 0, none⟩)] w fun e w' => e = .returned (.tuple #[]) ∧ w.setCell ⟨b, 0, none⟩ (.pointer (some ⟨b, 0, none⟩)) = w' := by
  obtain ⟨j, hj, hjs⟩ := Option.map_eq_some_iff.1 sizeBuilder
  go_enter Tryd.func87, Tryd.ntmps87
  go_wp2
  rw [Lib.run_to_unsafe w ⟨b, 0, none⟩ Tryd.underlying109 Tryd.underlying121 hj (by rw [hjs]; decide) hsh (Nat.zero_lt_succ 1)]
  simp only [Result.andThen]
  rw [Oper.upon_value]
  go_wp2
  rw [run_callFunc_extern Tryd.func91 (by kernel_rfl) (by kernel_rfl) (by kernel_rfl) (e := Extern.AbiNoEscape.same) (by kernel_rfl)]
  rw [Lib.run_noEscape]
  simp only [Result.andThen]
  rw [Oper.upon_value]
  go_wp2
  rw [Lib.run_from_unsafe w ⟨b, 0, none⟩ Tryd.underlying121 Tryd.underlying109 hj hsh liesBuilder]
  simp only [Result.andThen]
  rw [Oper.upon_value]
  go_wp2
  go_end0
  exact ⟨rfl, rfl⟩

set_option maxRecDepth 100000 in
theorem check_any (B b : Nat) (bs : List Value) (w : World) (h : Lib.IsBuilder 111 5 B b bs w) :
    Calls Tryd.prog 87 #[.pointer (some ⟨b, 0, none⟩)] w fun e w' => e = .returned (.tuple #[]) ∧ (Lib.BuilderAt 111 5 B b (.pointer (some ⟨b, 0, none⟩)) bs w' ∧ Below B w w') := by
  rcases h with h | h
  · refine (check_fresh b w h.cell0 h.shape h.frozen0).mono ?_
    rintro e w' ⟨rfl, rfl⟩
    exact ⟨rfl, h.used _, (Below.refl B w).setCell (p := ⟨b, 0, none⟩) h.1 _⟩
  · refine (check_used b w h.cell0).mono ?_
    rintro e w' ⟨rfl, rfl⟩
    exact ⟨rfl, h, Below.refl B _⟩

set_option maxHeartbeats 1000000 in
set_option maxRecDepth 100000 in
theorem write_string (B b : Nat) (bs : List Value) (s : ByteArray) (w : World) (h : Lib.IsBuilder 111 5 B b bs w) (hlen : bs.length + s.size ≤ 140737488355328) (hBw : B ≤ w.heap.size) :
    Calls Tryd.prog 74 #[.pointer (some ⟨b, 0, none⟩), .string s] w fun e w' => e = .returned (.tuple #[.int .i64 s.size, .nilIface]) ∧ (Lib.BuilderAt 111 5 B b (.pointer (some ⟨b, 0, none⟩)) (bs ++ Lib.strCells s) w' ∧ Below B w w') := by
  obtain ⟨i0, hi, hz0, hz1, hz2⟩ := info_parts infoByte
  go_enter Tryd.func74, Tryd.ntmps74
  go_wp2_with (go_at_call 87; refine (check_any B b bs _ h).mono ?_)
  rintro e w1 ⟨rfl, h1, hb1⟩
  obtain ⟨hB, v, hbk, hown, hne⟩ := h1
  have c0 : w1.cell? ⟨b, 0, none⟩ = some (.pointer (some ⟨b, 0, none⟩)) := by rw [Lib.cell_of_heap hbk]; rfl
  have c1 : w1.cell? ⟨b, 1, none⟩ = some v := by rw [Lib.cell_of_heap hbk]; rfl
  go_wp2_with (at_builtin; refine Lib.wpList_append_own_string _ rfl _ _ 36 9 rfl B 5 i0 Tryd.underlying36 Tryd.underlying9 hi hz0 hz1 hz2 _ _ _ rfl hown s rfl ?c3 ?c4 ?c5 ?_)
  case c3 => unfold maxLen; omega
  case c4 => omega
  case c5 => have := hb1.size; omega
  intro v' w2 hown' hgrow _
  have hlt : b < w1.heap.size := lt_of_block hbk
  have hb2 : w2.heap[b]? = some (.cells #[.pointer (some ⟨b, 0, none⟩), v] 111 (0, 0)) := by
    rw [hgrow.block b hlt (fun e => hne e.symm)]
    exact hbk
  have d0 : w2.cell? ⟨b, 0, none⟩ = some (.pointer (some ⟨b, 0, none⟩)) := by rw [Lib.cell_of_heap hb2]; rfl
  have d1 : w2.cell? ⟨b, 1, none⟩ = some v := by rw [Lib.cell_of_heap hb2]; rfl
  have f1 : w2.frozen? ⟨b, 1, none⟩ = false := Lib.frozen_of_heap hb2 1
  obtain ⟨ao, n', cap, rfl⟩ : ∃ ao n' cap, v' = .slice ao n' cap := by
    rcases hown'.2 with ⟨hv, _⟩ | ⟨g, cap, cur, hv, _⟩
    · exact ⟨_, _, _, hv⟩
    · exact ⟨_, _, _, hv⟩
  go_wp2
  go_ret2
  refine ⟨rfl, ?_, ?_⟩
  · exact Lib.BuilderAt.put (T := 111) (e := 5) hB hb2 (bs' := bs ++ Lib.strCells s) (by simpa [Lib.strCells_length] using hown') (by decide)
  · exact (hb1.grown hgrow (by have := hb1.size; omega) (fun k hk => (hown.lt k hk).1)).setCell (p := ⟨b, 1, none⟩) hB _
end Go.Proofs.YtpbggngeopjefaaDoor.Bld
namespace Go.Proofs.YtpbggngeopjefaaDoor.Dig
open Go.ChangeShapes Go.WideShapes Go.ChangeAt Go.RowKit

theorem isEmpty_data (s : ByteArray) : s.toList.isEmpty = s.data.toList.isEmpty := by rw [Lib.toList_data]

/-- a list of texts of the call's own -/
def Texts (B : Nat) (v : Value) (L : List (List UInt8)) (w : World) : Prop := w.ownsRow B 9 1 v L.length (L.map sv)

/-- a list of texts that lies anywhere, to be read -/
def ReadsTexts (v : Value) (L : List (List UInt8)) (w : World) : Prop :=
  (L = [] ∧ ∃ a cap, v = .slice a 0 cap) ∨ ∃ g off cap, v = .slice (some ⟨g, off, none⟩) L.length cap ∧ g < w.heap.size ∧ ∀ i, i < L.length → w.cell? ⟨g, off + i, none⟩ = some (sv (L.getD i []))
theorem Texts.reads {B : Nat} {v : Value} {L : List (List UInt8)} {w : World} (h : Texts B v L w) : ReadsTexts v L w := by
  obtain ⟨hl, ⟨hv, h0⟩ | ⟨g, cap, cur, hv, hg, hh, hn, hc, hcs, hx⟩⟩ := h
  · left; exact ⟨List.length_eq_zero_iff.1 h0, none, 0, hv⟩
  · right
    refine ⟨g, 0, cap, hv, lt_of_block hh, fun i hi => ?_⟩
    have := congrArg (·[i]?) hx
    simp only [List.getElem?_take, List.getElem?_map] at this
    rw [if_pos (by omega), List.getElem?_eq_getElem hi] at this
    unfold World.cell?
    rw [hh]
    simp only [Option.isSome_none, Bool.false_eq_true, if_false, Nat.zero_add]
    rw [← Array.getElem?_toList, this]
    simp [List.getD, List.getElem?_eq_getElem hi]
theorem ReadsTexts.below {v : Value} {L : List (List UInt8)} {w w' : World} (h : ReadsTexts v L w) (hb : Below w.heap.size w w') : ReadsTexts v L w' := by
  rcases h with h | ⟨g, off, cap, hv, hg, hc⟩
  · exact .inl h
  · exact .inr ⟨g, off, cap, hv, Nat.lt_of_lt_of_le hg hb.size, fun i hi => by rw [hb.cell (p := ⟨g, off + i, none⟩) hg]; exact hc i hi⟩

/-- the same of an address and a length -/
def ReadsAt (a : Option Addr) (L : List (List UInt8)) (w : World) : Prop :=
  L = [] ∨ ∃ g off, a = some ⟨g, off, none⟩ ∧ g < w.heap.size ∧ ∀ i, i < L.length → w.cell? ⟨g, off + i, none⟩ = some (sv (L.getD i []))
theorem ReadsTexts.at_ {v : Value} {L : List (List UInt8)} {w : World} (h : ReadsTexts v L w) : ∃ a cap, v = .slice a L.length cap ∧ ReadsAt a L w := by
  rcases h with ⟨rfl, a, cap, hv⟩ | ⟨g, off, cap, hv, hg, hc⟩
  · exact ⟨a, cap, hv, .inl rfl⟩
  · exact ⟨_, cap, hv, .inr ⟨g, off, rfl, hg, hc⟩⟩
theorem ReadsAt.texts {a : Option Addr} {cap : Nat} {L : List (List UInt8)} {w : World} (h : ReadsAt a L w) : ReadsTexts (.slice a L.length cap) L w := by
  rcases h with rfl | ⟨g, off, rfl, hg, hc⟩
  · exact .inl ⟨rfl, a, cap, rfl⟩
  · exact .inr ⟨g, off, cap, rfl, hg, hc⟩
theorem ReadsAt.below {a : Option Addr} {L : List (List UInt8)} {w w' : World} (h : ReadsAt a L w) (hb : Below w.heap.size w w') : ReadsAt a L w' := by
  rcases h with h | ⟨g, off, hv, hg, hc⟩
  · exact .inl h
  · exact .inr ⟨g, off, hv, Nat.lt_of_lt_of_le hg hb.size, fun i hi => by rw [hb.cell (p := ⟨g, off + i, none⟩) hg]; exact hc i hi⟩
theorem ReadsAt.cell {a : Option Addr} {L : List (List UInt8)} {w : World} (h : ReadsAt a L w) (k : Nat) (hk : k < L.length) : ∃ g off, a = some ⟨g, off, none⟩ ∧ w.cell? ⟨g, off + k, none⟩ = some (.string ⟨L[k].toArray⟩) := by
  rcases h with h | ⟨g, off, hv, hg, hc⟩
  · subst h; simp at hk
  · exact ⟨g, off, hv, by rw [hc k hk]; simp [List.getD, sv, hk]⟩

theorem joinL_snoc (L : List (List UInt8)) (k : Nat) (h : k < L.length) : joinL (L.take (k + 1)) = (if 0 < k then joinL (L.take k) ++ [32] else []) ++ L[k] := by
  rw [List.take_succ_eq_append_getElem h]
  cases L with
  | nil => simp at h
  | cons x l =>
    cases k with
    | zero => simp [joinL]
    | succ k =>
      rw [if_pos (by omega), List.take_succ_cons, List.cons_append, joinL_eq, joinL_eq]
      rw [List.map_append, List.flatten_append]
      simp

theorem write_sv (B b : Nat) (l m : List UInt8) (w : World) (h : Lib.IsBuilder 111 5 B b (Lib.byteCells l) w) (hlen : l.length + m.length ≤ 140737488355328) (hBw : B ≤ w.heap.size) :
    Calls Tryd.prog 74 #[.pointer (some ⟨b, 0, none⟩), sv m] w fun e w' => e = .returned (.tuple #[.int .i64 m.length, .nilIface]) ∧ (Lib.IsBuilder 111 5 B b (Lib.byteCells (l ++ m)) w' ∧ Below B w w') :=
  (Bld.write_string B b (Lib.byteCells l) ⟨m.toArray⟩ w h (by rw [Lib.byteCells_length]; exact hlen) hBw).mono fun e w' ⟨he, hb, hbe⟩ => ⟨he, .inr (by rw [Lib.byteCells_append]; exact hb), hbe⟩

theorem fresh_builder (w : World) : Lib.IsBuilder 111 5 w.heap.size w.heap.size (Lib.byteCells []) (w.alloc (.cells #[.pointer none, .slice none 0 0] 111)) :=
  .inl ⟨Nat.le_refl _, _, heap_alloc_new _ _, World.ownsRow_nil _ _ _ _, by simp [Value.ownBlock]⟩

theorem joinL_le (L : List (List UInt8)) (k : Nat) : (joinL (L.take k)).length ≤ L.flatten.length + L.length := by
  have h := join_size (L.take k)
  have e : L = L.take k ++ L.drop k := (List.take_append_drop _ _).symm
  have h1 : L.flatten.length = (L.take k).flatten.length + (L.drop k).flatten.length := by
    rw [← List.length_append, ← List.flatten_append, List.take_append_drop]
  have h2 : (L.take k).length ≤ L.length := by rw [List.length_take]; omega
  omega
theorem elem_le (L : List (List UInt8)) (k : Nat) (h : k < L.length) : L[k].length ≤ L.flatten.length := by
  have h1 : L.flatten.length = (L.take k).flatten.length + (L.drop k).flatten.length := by
    rw [← List.length_append, ← List.flatten_append, List.take_append_drop]
  rw [List.drop_eq_getElem_cons h, List.flatten_cons, List.length_append] at h1
  omega

theorem join_empty (a : Option Addr) (cap : Nat) (w : World) :
    Calls Tryd.prog 60 #[.slice a 0 cap] w fun e w' => e = .returned (sv []) ∧ Below w.heap.size w w' := by
  have hb := fresh_builder w
  have HB := Lib.hid hb
  clear hb
  go_enter Tryd.func60, Tryd.ntmps60
  go_wp2
  refine wp_loop_rounds 1 ?_
  rw [rounds_succ]
  go_wp2_with fail
  refine (Tryd.Builder_String_any w.heap.size w.heap.size [] _ HB.out (by simp)).mono ?_
  rintro e w' ⟨rfl, hb⟩
  go_wp2_with fail
  go_ret
  exact ⟨rfl, ((Below.refl _ _).alloc (Nat.le_refl _) _).trans hb⟩

set_option maxHeartbeats 800000 in
theorem join_any (v : Value) (L : List (List UInt8)) (w : World) (h : ReadsTexts v L w) (hs : L.flatten.length + L.length ≤ 4194304) :
    Calls Tryd.prog 60 #[v] w fun e w' => e = .returned (sv (joinL L)) ∧ Below w.heap.size w w' := by
  rcases h with ⟨rfl, a, cap, rfl⟩ | ⟨g, off, cap, rfl, hg, hc⟩
  · exact join_empty a cap w
  have HC := Lib.hid hc
  clear hc
  have hb0 := fresh_builder w
  have HB0 := Lib.hid hb0
  clear hb0
  go_enter Tryd.func60, Tryd.ntmps60
  go_wp2
  go_loopw [8] (fun i wr => ∃ k : Nat, k ≤ L.length ∧ i = .int .i64 k ∧ Lib.IsBuilder 111 5 w.heap.size w.heap.size (Lib.byteCells (joinL (L.take k))) wr ∧ Below w.heap.size w wr) (fun i _ => L.length - (intOf i).toNat)
  case atStart => exact ⟨0, Nat.zero_le _, rfl, HB0.out, (Below.refl _ _).alloc (Nat.le_refl _) _⟩
  case round =>
    obtain ⟨k, hk, rfl, hB, hbel⟩ := hrel
    have hsz := hbel.size
    have hjl := joinL_le L k
    by_cases hlt : k < L.length
    · have hcell : wr.cell? ⟨g, off + k, none⟩ = some (sv (L.getD k [])) := by rw [hbel.cell (p := ⟨g, off + k, none⟩) hg]; exact HC.out k hlt
      have hel := elem_le L k hlt
      have hsn := joinL_snoc L k hlt
      have HSN := Lib.hid hsn
      have HBR := Lib.hid hB
      clear hsn hB
      by_cases h0 : 0 < k
      · go_wp2_with fail
        refine (write_sv w.heap.size w.heap.size (joinL (L.take k)) [32] wr HBR.out (by simp; omega) hsz).mono ?_
        rintro e w1 ⟨rfl, hb1, hbe1⟩
        have hsz1 := hbe1.size
        have HB1 := Lib.hid hb1
        clear hb1
        go_wp2_with fail
        refine (write_sv w.heap.size w.heap.size (joinL (L.take k) ++ [32]) L[k] w1 HB1.out (by simp; omega) (by omega)).mono ?_
        rintro e w2 ⟨rfl, hb2, hbe2⟩
        have HB2 : Hid (Lib.IsBuilder 111 5 w.heap.size w.heap.size (Lib.byteCells (joinL (L.take (k + 1)))) w2) := by
          rw [HSN.out, if_pos h0]; exact hb2
        clear hb2
        go_wp2
        go_roundw
        case rel => exact ⟨k + 1, by omega, by go_num, HB2.out, (hbel.trans hbe1).trans hbe2⟩
        case measure => simp [intOf]; omega
      · go_wp2_with fail
        refine (write_sv w.heap.size w.heap.size (joinL (L.take k)) L[k] wr HBR.out (by omega) hsz).mono ?_
        rintro e w2 ⟨rfl, hb2, hbe2⟩
        have HB2 : Hid (Lib.IsBuilder 111 5 w.heap.size w.heap.size (Lib.byteCells (joinL (L.take (k + 1)))) w2) := by
          rw [HSN.out, if_neg h0]
          obtain rfl : k = 0 := by omega
          exact hb2
        clear hb2
        go_wp2
        go_roundw
        case rel => exact ⟨k + 1, by omega, by go_num, HB2.out, hbel.trans hbe2⟩
        case measure => simp [intOf]; omega
    · have hkl : k = L.length := by omega
      rw [hkl, List.take_length] at hB
      have HBR := Lib.hid hB
      clear hB hkl
      go_wp2_with fail
      refine (Tryd.Builder_String_any w.heap.size w.heap.size (joinL L) _ HBR.out hsz).mono ?_
      rintro e w' ⟨rfl, hb⟩
      go_wp2_with fail
      go_ret
      exact ⟨rfl, hbel.trans hb⟩
end Go.Proofs.YtpbggngeopjefaaDoor.Dig
