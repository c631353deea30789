/- The walks of package digits' number functions: every, canonical, value, Parse, Print; no condition but a text's length. The walks of package digits' texts: pieces, Words, Lines, Join; bounds on sizes as they are stated. -/
import Derived.Test.YtopjddmgejfalaaGreatDoorChecked
import Derived.Test.YtopjddmgejfalaaGreatDoorPk00
import Derived.Test.YtopjddmgejfalaaGreatDoorPk09
import Derived.WalkKit
import Derived.ProofKit
import Derived.WalkSpells
import Derived.WalkLawsBesides
import Derived.Outline
import Derived.Lib.Hide
import Derived.LoopTactic
import Derived.OneCell
import Derived.OwnWalk
namespace Go.Proofs.YtopjddmgejfalaaGreatDoor.Dig
open Go.ChangeShapes Go.WideShapes Go.ChangeAt Go.RowKit

/-- canonical$1: a byte is a digit -/
theorem dig_any (b : Int) (w : World) (h0 : 0 ≤ b) (h1 : b ≤ 255) : Calls Tryz.prog 134 #[.int .u8 b] w fun e w' => e = .returned (.bool (decide (48 ≤ b) && decide (b ≤ 57))) ∧ w = w' := by
  go_enter Tryz.func134, Tryz.ntmps134
  go_wp2
  all_goals go_ret
  · rename_i h
    exact ⟨by simp [h], rfl⟩
  · rename_i h
    exact ⟨by simp; omega, rfl⟩

def EveryPost (I : Nat → World → Prop) (F : World → Prop) (n : Nat) (e : Ending) (w : World) : Prop := (e = .returned (.bool true) ∧ I n w) ∨ (e = .returned (.bool false) ∧ F w)
def EveryStep (k : FuncId) (cap : Array Value) (s : ByteArray) (I : Nat → World → Prop) (F : World → Prop) : Prop :=
  ∀ (i : Nat) (h : i < s.size) (w : World), I i w → Calls Tryz.prog k (#[.int .u8 s[i].toNat] ++ cap) w (EveryPost I F (i + 1))

set_option maxHeartbeats 400000 in
theorem every_any (k : FuncId) (cap : Array Value) (s : ByteArray) (I : Nat → World → Prop) (F : World → Prop) (w : World) (hs : s.size ≤ maxLen)
    (hk : ∀ args w, (callFunc k args).run Tryz.prog w = .ok (.enter k args) w)
    (hI : I 0 w) (hstep : EveryStep k cap s I F) :
    Calls Tryz.prog 133 #[.string s, .func (.func k) #[] cap] w (EveryPost I F s.size) := by
  unfold maxLen at hs
  go_enter Tryz.func133, Tryz.ntmps133
  go_wp2
  go_loopw [5] (fun i wr => ∃ k : Nat, k ≤ s.size ∧ i = .int .i64 k ∧ I k wr) (fun i _ => s.size - (intOf i).toNat)
  case atStart => exact ⟨0, Nat.zero_le _, rfl, hI⟩
  case round =>
    obtain ⟨j, hj, rfl, hIj⟩ := hrel
    have HI := Lib.hid hIj; clear hIj hI
    by_cases hlt : j < s.size
    · go_wp2_with fail
      refine (hstep j hlt wr HI.out).mono ?_
      rintro e w' (⟨rfl, hn⟩ | ⟨rfl, hF⟩)
      · have HN := Lib.hid hn; clear hn
        go_wp2
        go_roundw
        case rel => exact ⟨j + 1, by omega, by go_num, HN.out⟩
        case measure => simp [intOf]; omega
      · have HN := Lib.hid hF; clear hF
        go_wp2
        go_ret
        exact Or.inr ⟨rfl, HN.out⟩
    · go_wp2
      go_ret
      obtain rfl : j = s.size := by omega
      exact Or.inl ⟨rfl, HI.out⟩

/-- value$1: one digit more -/
theorem val1_any (b : Int) (B : Nat) (n : Int) (w : World) (h0 : 48 ≤ b) (h1 : b ≤ 57) (hn0 : 0 ≤ n) (hn1 : n ≤ 1099511627776) (hB : w.heap[B]? = some (.cells #[.int .i64 n] 3 (0, 0))) :
    Calls Tryz.prog 135 #[.int .u8 b, .pointer (some ⟨B, 0, none⟩)] w fun e w' => e = .returned (.bool (decide (n * 10 + (b - 48) ≤ 1099511627776))) ∧ w' = w.setCell ⟨B, 0, none⟩ (.int .i64 (n * 10 + (b - 48))) := by
  have hc := cell_of_one hB
  have hf := free_of_one hB
  go_enter Tryz.func135, Tryz.ntmps135
  go_wp2
  go_ret
  exact ⟨rfl, rfl⟩

/-- value: the digits added up -/
def ValI (s : ByteArray) (B : Nat) (W : World) (i : Nat) (w : World) : Prop := ∃ v : Nat, v ≤ far ∧ val 0 (s.data.toList.take i) = some v ∧ w.heap[B]? = some (.cells #[.int .i64 v] 3 (0, 0)) ∧ Below B W w
def ValF (s : ByteArray) (B : Nat) (W : World) (w : World) : Prop := val 0 s.data.toList = none ∧ (∃ v : Int, w.heap[B]? = some (.cells #[.int .i64 v] 3 (0, 0))) ∧ Below B W w

theorem take_snoc (s : ByteArray) (k : Nat) (h : k < s.size) : s.data.toList.take (k + 1) = s.data.toList.take k ++ [s[k]] := by
  rw [List.take_succ_eq_append_getElem (by simpa using h)]; rfl
theorem val_stop (l m : List UInt8) (h : val 0 l = none) : val 0 (l ++ m) = none := by rw [val_append, h]; rfl

theorem val_step (s : ByteArray) (B : Nat) (W : World) (hd : s.data.toList.all isDig = true) :
    EveryStep 135 #[.pointer (some ⟨B, 0, none⟩)] s (ValI s B W) (ValF s B W) := by
  intro i h w ⟨v, hv, hval, hB, hbel⟩
  have hdi : isDig s[i] = true := List.all_eq_true.1 hd _ (by
    have : s[i] = s.data.toList[i]'(by simpa using h) := rfl
    rw [this]; exact List.getElem_mem _)
  unfold isDig at hdi
  simp only [Bool.and_eq_true, decide_eq_true_eq] at hdi
  have hts := take_snoc s i h
  have hsplit : s.data.toList = s.data.toList.take (i + 1) ++ s.data.toList.drop (i + 1) := (List.take_append_drop _ _).symm
  unfold far at hv
  refine (val1_any s[i].toNat B v w (by omega) (by omega) (by omega) (by omega) hB).mono ?_
  rintro e w' ⟨rfl, rfl⟩
  have hnew : (v : Int) * 10 + ((s[i].toNat : Int) - 48) = ((v * 10 + (s[i].toNat - 48) : Nat) : Int) := by omega
  rw [hnew]
  have hone : val 0 (s.data.toList.take (i + 1)) = if v * 10 + (s[i].toNat - 48) ≤ far then some (v * 10 + (s[i].toNat - 48)) else none := by
    rw [hts, val_append, hval]; rfl
  by_cases hle : v * 10 + (s[i].toNat - 48) ≤ 1099511627776
  · left
    refine ⟨by rw [decide_eq_true (by omega)], _, hle, ?_, one_setCell hB, hbel.setCell (Nat.le_refl _) _⟩
    rw [hone, if_pos (show _ ≤ far from hle)]
  · right
    refine ⟨by rw [decide_eq_false (by omega)], ?_, ⟨_, one_setCell hB⟩, hbel.setCell (Nat.le_refl _) _⟩
    rw [hsplit]
    exact val_stop _ _ (by rw [hone, if_neg (show ¬ _ ≤ far from hle)])

def valOut (l : List UInt8) : Value := match val 0 l with
  | some v => .tuple #[.int .i64 v, .bool true]
  | none => .tuple #[.int .i64 0, .bool false]

set_option maxHeartbeats 400000 in
theorem value_any (s : ByteArray) (w : World) (hs : s.size ≤ maxLen) (hd : s.data.toList.all isDig = true) :
    Calls Tryz.prog 112 #[.string s] w fun e w' => e = .returned (valOut s.data.toList) ∧ Below w.heap.size w w' := by
  have hmf : ∀ (fn : Fn) (first cap : Array Value) (w : World), (Instr.makeFunc fn first cap).run Tryz.prog w = .ok (.func fn first cap) w := fun _ _ _ _ => rfl
  have hE := every_any 135 #[.pointer (some ⟨w.heap.size, 0, none⟩)] s (ValI s w.heap.size w) (ValF s w.heap.size w) (w.alloc (.cells #[.int .i64 0] 3)) hs (enters_of Tryz.func135 (by kernel_rfl) rfl)
    ⟨0, by decide, rfl, heap_alloc_new _ _, (Below.refl _ _).alloc (Nat.le_refl _) _⟩ (val_step s w.heap.size w hd)
  have HE := Lib.hid hE; clear hE
  go_enter Tryz.func112, Tryz.ntmps112
  go_wp2_with fail
  refine HE.out.mono ?_
  rintro e w' (⟨rfl, hI⟩ | ⟨rfl, hF⟩)
  · obtain ⟨v, hv, hval, hB, hbel⟩ := hI
    rw [List.take_of_length_le (by simp)] at hval
    have hout : valOut s.data.toList = .tuple #[.int .i64 v, .bool true] := by unfold valOut; rw [hval]
    have hc := cell_of_one hB
    have HV := Lib.hid hval
    have HO := Lib.hid hout
    clear hval hout hB
    go_wp2
    go_ret2
    exact ⟨by rw [HO.out]; rfl, hbel⟩
  · obtain ⟨hval, ⟨v, hB⟩, hbel⟩ := hF
    have hout : valOut s.data.toList = .tuple #[.int .i64 0, .bool false] := by unfold valOut; rw [hval]
    have hc := cell_of_one hB
    have HV := Lib.hid hval
    have HO := Lib.hid hout
    clear hval hout hB
    go_wp2
    go_ret2
    exact ⟨by rw [HO.out]; rfl, hbel⟩

theorem canon_step (s : ByteArray) (W : World) :
    EveryStep 134 #[] s (fun i w => w = W ∧ (s.data.toList.take i).all isDig = true) (fun w => w = W ∧ s.data.toList.all isDig = false) := by
  intro i h w ⟨rfl, ht⟩
  have hts := take_snoc s i h
  have hl : s[i].toNat < 256 := s[i].toNat_lt
  refine (dig_any s[i].toNat w (by omega) (by omega)).mono ?_
  rintro e w' ⟨rfl, rfl⟩
  have hd : (decide (48 ≤ (s[i].toNat : Int)) && decide ((s[i].toNat : Int) ≤ 57)) = isDig s[i] := by
    unfold isDig
    congr 1
    · exact decide_eq_decide.2 (by omega)
    · exact decide_eq_decide.2 (by omega)
  rw [hd]
  cases hi : isDig s[i]
  · right
    refine ⟨rfl, rfl, ?_⟩
    rw [← List.take_append_drop (i + 1) s.data.toList, List.all_append, hts, List.all_append]
    simp [hi]
  · left
    refine ⟨rfl, rfl, ?_⟩
    rw [hts, List.all_append, ht]
    simp [hi]

theorem canon_any (s : ByteArray) (neg : Bool) (w : World) (hs : s.size ≤ maxLen) :
    Calls Tryz.prog 111 #[.string s, .bool neg] w fun e w' => e = .returned (.bool (canonB s.data.toList neg)) ∧ w = w' := by
  by_cases h0 : s.data.toList = [48]
  · have hq : (s.toList == [48]) = true := by rw [Lib.toList_data, h0]; rfl
    have hc : canonB s.data.toList neg = !neg := by unfold canonB; rw [if_pos h0]
    rw [hc]
    clear h0 hc
    go_enter Tryz.func111, Tryz.ntmps111
    go_wp2
    go_ret
    exact ⟨rfl, rfl⟩
  · have hq : (s.toList == [48]) = false := by rw [Lib.toList_data]; simpa using h0
    by_cases h1 : s.data.toList = []
    · have he : s.toList = [] := by rw [Lib.toList_data, h1]
      have hc : canonB s.data.toList neg = false := by unfold canonB; rw [if_neg h0, if_pos (Or.inl h1)]
      rw [hc]
      clear h0 h1 hc
      go_enter Tryz.func111, Tryz.ntmps111
      go_wp2
      go_ret
      exact ⟨rfl, rfl⟩
    · have he : s.toList.isEmpty = false := by rw [Lib.toList_data]; simpa using h1
      have he2 : ¬ s.toList = [] := by rw [Lib.toList_data]; exact h1
      have hz : 0 < s.size := by
        rcases Nat.eq_zero_or_pos s.size with e | e
        · exact absurd (List.length_eq_zero_iff.1 e) h1
        · exact e
      have hhead : s.data.toList.head? = some s[0] := by
        rw [List.head?_eq_getElem?, List.getElem?_eq_getElem (by simpa using hz)]; rfl
      by_cases h2 : s[0] = 48
      · have hb : ((s[0].toNat : Int) == 48) = true := by rw [h2]; rfl
        have hc : canonB s.data.toList neg = false := by unfold canonB; rw [if_neg h0, if_pos (Or.inr (by rw [hhead, h2]))]
        rw [hc]
        clear h0 h1 hc h2 hhead
        go_enter Tryz.func111, Tryz.ntmps111
        go_wp2
        go_ret
        exact ⟨rfl, rfl⟩
      · have hb : ((s[0].toNat : Int) == 48) = false := by
          simp only [beq_eq_false_iff_ne, ne_eq]
          intro e
          exact h2 (UInt8.toNat_inj.1 (by have : (48 : UInt8).toNat = 48 := rfl; omega))
        have hc : canonB s.data.toList neg = s.data.toList.all isDig := by
          unfold canonB
          rw [if_neg h0, if_neg (by rintro (e | e); exact h1 e; rw [hhead] at e; exact h2 (Option.some.inj e))]
        rw [hc]
        have hE := every_any 134 #[] s _ _ w hs (enters_of Tryz.func134 (by kernel_rfl) rfl) ⟨rfl, by simp⟩ (canon_step s w)
        have HE := Lib.hid hE
        clear hE h0 h1 hc h2 hhead
        go_enter Tryz.func111, Tryz.ntmps111
        go_wp2_with fail
        refine HE.out.mono ?_
        rintro e w' (⟨rfl, rfl, hI⟩ | ⟨rfl, rfl, hF⟩)
        · rw [List.take_of_length_le (by simp)] at hI
          have HI := Lib.hid hI; clear hI
          go_wp2
          go_ret
          exact ⟨by rw [HI.out]; rfl, rfl⟩
        · have HI := Lib.hid hF; clear hF
          go_wp2
          go_ret
          exact ⟨by rw [HI.out]; rfl, rfl⟩

def parseOut (l : List UInt8) : Value := .tuple #[.int .i64 (parseL l).1, .int .i64 (parseL l).2]

set_option maxHeartbeats 800000 in
theorem parse_any (s : ByteArray) (w : World) (hs : s.size ≤ maxLen) :
    Calls Tryz.prog 88 #[.string s] w fun e w' => e = .returned (parseOut s.data.toList) ∧ Below w.heap.size w w' := by
  obtain ⟨d, hd⟩ : ∃ d : ByteArray, d = ⟨(Lib.trimPrefix s.data.toList [45]).toArray⟩ := ⟨_, rfl⟩
  have hdl : d.data.toList = Lib.trimPrefix s.data.toList [45] := by rw [hd]
  have hds : d.size ≤ maxLen := by
    have h1 : d.size = d.data.toList.length := rfl
    have h2 : s.size = s.data.toList.length := rfl
    rw [h1, hdl]; rw [h2] at hs
    unfold Lib.trimPrefix
    split
    · rw [List.length_drop]; omega
    · exact hs
  obtain ⟨neg, hneg⟩ : ∃ neg : Bool, neg = Lib.hasPrefix s.data.toList [45] := ⟨_, rfl⟩
  have hP : parseL s.data.toList = (if canonB d.data.toList neg then (match val 0 d.data.toList with
      | some v => (if neg then -(v : Int) else v, 0)
      | none => (0, 4)) else (0, 33) : Int × Int) := by unfold parseL; rw [hdl, hneg]; rfl
  have hcut : ∀ w : World, Calls Tryz.prog 110 #[.string s, .string ⟨#[45]⟩] w fun e w' => e = .returned (.tuple #[.string d, .bool neg]) ∧ w' = w := fun w => by
    rw [hd, hneg]; exact Tryz.strings_CutPrefix s ⟨#[45]⟩ w
  have HC := Lib.hid hcut
  have HP := Lib.hid hP
  clear hcut hP hd hneg
  cases hcan : canonB d.data.toList neg
  · have hcn : ∀ w : World, Calls Tryz.prog 111 #[.string d, .bool neg] w fun e w' => e = .returned (.bool false) ∧ w = w' := fun w => by
      rw [← hcan]; exact canon_any d neg w hds
    have HN := Lib.hid hcn
    have HK := Lib.hid hcan
    clear hcn hcan hdl
    go_enter Tryz.func88, Tryz.ntmps88
    go_wp2_with fail
    refine (HC.out _).mono ?_
    rintro e w' ⟨rfl, rfl⟩
    go_wp2_with fail
    refine (HN.out _).mono ?_
    rintro e w' ⟨rfl, rfl⟩
    go_wp2_with fail
    go_ret2
    refine ⟨?_, Below.refl _ _⟩
    unfold parseOut; rw [HP.out, HK.out]; rfl
  · have hcn : ∀ w : World, Calls Tryz.prog 111 #[.string d, .bool neg] w fun e w' => e = .returned (.bool true) ∧ w = w' := fun w => by
      rw [← hcan]; exact canon_any d neg w hds
    have hall : d.data.toList.all isDig = true := by
      unfold canonB at hcan
      split at hcan
      · rename_i h; rw [h]; rfl
      · split at hcan
        · cases hcan
        · exact hcan
    have HN := Lib.hid hcn
    have HK := Lib.hid hcan
    clear hcn hcan hdl
    cases hval : val 0 d.data.toList with
    | none =>
      have hvl : ∀ w : World, Calls Tryz.prog 112 #[.string d] w fun e w' => e = .returned (.tuple #[.int .i64 0, .bool false]) ∧ Below w.heap.size w w' := fun w =>
        (value_any d w hds hall).mono fun e w' ⟨he, hb⟩ => ⟨by rw [he]; unfold valOut; rw [hval], hb⟩
      have HV := Lib.hid hvl
      have HW := Lib.hid hval
      clear hvl hval hall
      go_enter Tryz.func88, Tryz.ntmps88
      go_wp2_with fail
      refine (HC.out _).mono ?_
      rintro e w' ⟨rfl, rfl⟩
      go_wp2_with fail
      refine (HN.out _).mono ?_
      rintro e w' ⟨rfl, rfl⟩
      go_wp2_with fail
      refine (HV.out _).mono ?_
      rintro e w1 ⟨rfl, hb⟩
      go_wp2_with fail
      go_ret2
      refine ⟨?_, hb⟩
      unfold parseOut; rw [HP.out, HK.out, HW.out]; rfl
    | some v =>
      have hle := val_le _ 0 v (by decide) hval
      unfold far at hle
      have hvl : ∀ w : World, Calls Tryz.prog 112 #[.string d] w fun e w' => e = .returned (.tuple #[.int .i64 v, .bool true]) ∧ Below w.heap.size w w' := fun w =>
        (value_any d w hds hall).mono fun e w' ⟨he, hb⟩ => ⟨by rw [he]; unfold valOut; rw [hval], hb⟩
      have HV := Lib.hid hvl
      have HW := Lib.hid hval
      clear hvl hval hall
      cases neg
      all_goals
        go_enter Tryz.func88, Tryz.ntmps88
        go_wp2_with fail
        refine (HC.out _).mono ?_
        rintro e w' ⟨rfl, rfl⟩
        go_wp2_with fail
        refine (HN.out _).mono ?_
        rintro e w' ⟨rfl, rfl⟩
        go_wp2_with fail
        refine (HV.out _).mono ?_
        rintro e w1 ⟨rfl, hb⟩
        go_wp2_with fail
        go_ret2
        refine ⟨?_, hb⟩
        unfold parseOut; rw [HP.out, HK.out, HW.out]; rfl

theorem below_grow (w : World) (k : Nat) (os : Array Obj) : Below w.heap.size w (Sort.grow (w.drewN k) os) :=
  ⟨rfl, rfl, rfl, by show w.heap.size ≤ (w.heap ++ os).size; rw [Array.size_append]; omega, fun j hj => by show (w.heap ++ os)[j]? = _; exact Array.getElem?_append_left hj⟩

/-- the table of powers of ten, whatever the call does at blocks of its own -/
def Tab (W : World) : Prop := ∀ w', Below W.heap.size W w' → Lib.TabIs Tryz.prog w' "internal/strconv.uint64pow10" .u64 Lib.pow10Tab

theorem print_any (n : Int) (h0 : -9223372036854775808 ≤ n) (h1 : n ≤ 9223372036854775807) (w : World) (htab : Lib.TabIs Tryz.prog w "internal/strconv.uint64pow10" .u64 Lib.pow10Tab) :
    Calls Tryz.prog 15 #[.int .i64 n] w fun e w' => e = .returned (.string ⟨(Lib.itoa n).toArray⟩) ∧ Below w.heap.size w w' := by
  go_enter Tryz.func15, Tryz.ntmps15
  go_wp2_with fail
  refine (Tryz.strconv_Itoa n h0 h1 _ htab).mono ?_
  rintro e w' ⟨rfl, k, os, hw⟩
  have HW := Lib.hid hw; clear hw
  go_wp2_with fail
  go_ret
  refine ⟨rfl, ?_⟩
  rw [HW.out]
  exact below_grow w k os
end Go.Proofs.YtopjddmgejfalaaGreatDoor.Dig
namespace Go.Proofs.YtopjddmgejfalaaGreatDoor.Dig
open Go.ChangeShapes Go.WideShapes Go.ChangeAt Go.RowKit

def sv (l : List UInt8) : Value := .string ⟨l.toArray⟩

theorem info9 : (Tryz.prog.info? 9).map (fun i => (i.zero, i.size, i.bytes)) = some (some (.string ⟨#[]⟩), 1, 16) := by kernel_rfl

theorem ownsRow_below {w w' : World} {base : Nat} {e : TypeId} {size : Nat} {v : Value} {n : Nat} {xs : List Value} (h : w.ownsRow base e size v n xs) (hb : Below w.heap.size w w') : w'.ownsRow base e size v n xs := by
  obtain ⟨hl, h0 | ⟨g, cap, cur, hv, hg, hh, r⟩⟩ := h
  · exact ⟨hl, .inl h0⟩
  · exact ⟨hl, .inr ⟨g, cap, cur, hv, hg, by rw [hb.block g (lt_of_block hh)]; exact hh, r⟩⟩

/-- the cell of internal/bytealg.MaxLen -/
def MaxCell (W : World) : Prop := ∃ m, W.cell? ⟨2, 0, none⟩ = some (.int .i64 m)
theorem MaxCell.below {W w : World} {B : Nat} (h : MaxCell W) (hB1 : 2 < B) (hb : Below B W w) : MaxCell w := by
  obtain ⟨m, hm⟩ := h
  exact ⟨m, by rw [hb.cell (p := ⟨2, 0, none⟩) hB1]; exact hm⟩
theorem MaxCell.lt {W : World} (h : MaxCell W) : 2 < W.heap.size := by
  obtain ⟨m, hc⟩ := h
  rcases Nat.lt_or_ge 2 W.heap.size with h | h
  · exact h
  · unfold World.cell? at hc; rw [Array.getElem?_eq_none h] at hc; cases hc

theorem clone_any (s : ByteArray) (w : World) (hs : s.size ≤ 281474976710656) :
    Calls Tryz.prog 79 #[.string s] w fun e w' => e = .returned (.string s) ∧ Below w.heap.size w w' := by
  have hc := fun w => Tryz.stringslite_Clone s w hs
  have HC := Lib.hid hc
  clear hc
  go_enter Tryz.func79, Tryz.ntmps79
  go_wp2_with fail
  refine (HC.out _).mono ?_
  rintro e w1 ⟨rfl, hb⟩
  go_wp2_with fail
  go_ret
  exact ⟨rfl, hb⟩

/-- how a closure answers that wants some pieces -/
def Wants (k : FuncId) (want : List UInt8 → Bool → Bool) : Prop :=
  ∀ (p : ByteArray) (last : Bool) (w : World), Calls Tryz.prog k #[.string p, .bool last] w fun e w' => e = .returned (.bool (want p.data.toList last)) ∧ w = w'

/-- where a loop over pieces stands -/
def PSt (c : UInt8) (want : List UInt8 → Bool → Bool) (s0 : ByteArray) (B : Nat) (W : World) (last : Bool) (r : ByteArray) (v : Value) (w : World) : Prop :=
  ∃ L : List (List UInt8), w.ownsRow B 9 1 v L.length (L.map sv) ∧ Below B W w ∧
    match last with
    | true => L = piecesL c want s0.data.toList
    | false => ∃ done, splitOn c s0.data.toList = done ++ splitOn c r.data.toList ∧ L = done.filter (fun p => want p false) ∧ done.length + r.size ≤ s0.size
def pm (s last : Value) : Nat := match last, s with
  | .bool true, _ => 0
  | _, .string r => r.size + 1
  | _, _ => 0

theorem cut_any (r : ByteArray) (c : UInt8) (w : World) (hs : r.size ≤ 4194304) (hm : MaxCell w) :
    Calls Tryz.prog 131 #[.string r, .string ⟨#[c]⟩] w fun e w' => (∃ p q : ByteArray, ∃ f : Bool, e = .returned (.tuple #[.string p, .string q, .bool f]) ∧ p.size ≤ r.size ∧
      (f = false → p = r ∧ splitOn c r.data.toList = [r.data.toList]) ∧ (f = true → splitOn c r.data.toList = p.data.toList :: splitOn c q.data.toList ∧ q.size + 1 ≤ r.size)) ∧ (∃ n, w' = w.drewN n) := by
  obtain ⟨m, hm⟩ := hm
  refine (Tryz.strings_Cut r ⟨#[c]⟩ m w (by omega) hm).mono ?_
  rintro e w' ⟨rfl, hn⟩
  have hr : r.size = r.data.toList.length := rfl
  refine ⟨?_, hn⟩
  rcases split_cases c r.data.toList with h | ⟨p, q, h1, h2⟩
  · refine ⟨r, ⟨#[]⟩, false, ?_, Nat.le_refl _, fun _ => ⟨rfl, splitOn_none h⟩, fun h => by cases h⟩
    show Ending.returned (Value.tuple #[.string ⟨(Lib.cut r.data.toList [c]).1.toArray⟩, .string ⟨(Lib.cut r.data.toList [c]).2.1.toArray⟩, .bool (Lib.cut r.data.toList [c]).2.2]) = _
    rw [cut_none1 h]
  · refine ⟨⟨p.toArray⟩, ⟨q.toArray⟩, true, ?_, ?_, fun h => (by cases h), fun _ => ⟨?_, ?_⟩⟩
    · show Ending.returned (Value.tuple #[.string ⟨(Lib.cut r.data.toList [c]).1.toArray⟩, .string ⟨(Lib.cut r.data.toList [c]).2.1.toArray⟩, .bool (Lib.cut r.data.toList [c]).2.2]) = _
      rw [h1, cut_some1 h2]
    · show p.length ≤ _
      rw [hr, h1, List.length_append]; omega
    · rw [h1]; exact splitOn_some h2
    · show q.length + 1 ≤ _
      rw [hr, h1, List.length_append, List.length_cons]; omega

theorem pst_next {c : UInt8} {want : List UInt8 → Bool → Bool} {s0 : ByteArray} {B : Nat} {W w : World} {x p q : ByteArray} {f : Bool} {v : Value} {done : List (List UInt8)}
    (hsp : splitOn c s0.data.toList = done ++ splitOn c x.data.toList) (hdl : done.length + x.size ≤ s0.size)
    (h0 : f = false → p = x ∧ splitOn c x.data.toList = [x.data.toList]) (h1 : f = true → splitOn c x.data.toList = p.data.toList :: splitOn c q.data.toList ∧ q.size + 1 ≤ x.size)
    (hown : w.ownsRow B 9 1 v (done.filter (fun p => want p false) ++ (if want p.data.toList (!f) then [p.data.toList] else [])).length ((done.filter (fun p => want p false) ++ (if want p.data.toList (!f) then [p.data.toList] else [])).map sv))
    (hb : Below B W w) : PSt c want s0 B W (!f) q v w := by
  refine ⟨_, hown, hb, ?_⟩
  cases f
  · obtain ⟨rfl, h2⟩ := h0 rfl
    rw [h2] at hsp
    exact (piecesL_of hsp).symm
  · obtain ⟨h2, h3⟩ := h1 rfl
    refine ⟨done ++ [p.data.toList], ?_, ?_, ?_⟩
    · rw [hsp, h2, List.append_assoc]; rfl
    · rw [List.filter_append]
      congr 1
      by_cases hw : want p.data.toList false <;> simp [hw]
    · rw [List.length_append, List.length_singleton]; omega

theorem pm_next {c : UInt8} {p q x : ByteArray} {f : Bool} (h1 : f = true → splitOn c x.data.toList = p.data.toList :: splitOn c q.data.toList ∧ q.size + 1 ≤ x.size) :
    pm (.string q) (.bool !f) < pm (.string x) (.bool false) := by
  cases f
  · show 0 < x.size + 1; omega
  · have := (h1 rfl).2; show q.size + 1 < x.size + 1; omega

set_option maxHeartbeats 1600000 in
theorem pieces_any (s : ByteArray) (c : UInt8) (k : FuncId) (want : List UInt8 → Bool → Bool) (w : World) (hs : s.size ≤ 4194304) (hm : MaxCell w)
    (hk : ∀ args w, (callFunc k args).run Tryz.prog w = .ok (.enter k args) w) (hw : Wants k want) :
    Calls Tryz.prog 107 #[.string s, .string ⟨#[c]⟩, .func (.func k) #[] #[]] w fun e w' =>
      ∃ v, e = .returned v ∧ w'.ownsRow w.heap.size 9 1 v (piecesL c want s.data.toList).length ((piecesL c want s.data.toList).map sv) ∧ Below w.heap.size w w' := by
  obtain ⟨i0, hi, hz0, hz1, hz2⟩ := info_parts info9
  have hmlt := hm.lt
  have HM := Lib.hid hm
  clear hm
  go_enter Tryz.func107, Tryz.ntmps107
  go_wp2
  go_loopw [0, 7, 8] (fun r v last wr => ∃ (b : Bool) (x : ByteArray), r = .string x ∧ last = .bool b ∧ PSt c want s w.heap.size w b x v wr) (fun r _ last _ => pm r last)
  case atStart => exact ⟨false, s, rfl, rfl, [], World.ownsRow_nil _ _ _ _, Below.refl _ _, [], rfl, rfl, by simp⟩
  case round =>
    obtain ⟨b, x, rfl, rfl, L, hown, hbel, hst⟩ := hrel
    cases b
    · obtain ⟨done, hsp, hL, hdl⟩ := hst
      have hmr : MaxCell wr := HM.out.below hmlt hbel
      have hcut := cut_any x c wr (by omega) hmr
      have HC := Lib.hid hcut
      have HS := Lib.hid hsp
      have HL := Lib.hid hL
      have HW := Lib.hid hw
      clear hcut hsp hL hmr
      go_wp2_with fail
      refine HC.out.mono ?_
      rintro e w1 ⟨⟨p, q, f, rfl, hpr, hf0, hf1⟩, n, hn⟩
      have HN := Lib.hid hn
      have H0 := Lib.hid hf0
      have H1 := Lib.hid hf1
      clear hn hf0 hf1
      have hw1 : w1.ownsRow w.heap.size 9 1 u7 L.length (L.map sv) := by rw [HN.out]; exact hown
      have hb1 : Below w.heap.size w w1 := by rw [HN.out]; exact below_drewN hbel n
      go_wp2_with fail
      obtain ⟨wb, hwb⟩ : ∃ wb : Bool, wb = want p.data.toList (!f) := ⟨_, rfl⟩
      have hcall := HW.out p (!f) w1
      rw [← hwb] at hcall
      refine hcall.mono ?_
      rintro e w' ⟨rfl, rfl⟩
      have hLl : L.length ≤ done.length := by rw [HL.out]; exact List.length_filter_le _ _
      have HB := Lib.hid hwb
      clear hcall hwb
      cases wb
      · have R := pst_next (want := want) (v := u7) (w := w1) HS.out hdl H0.out H1.out (by rw [← HB.out, ← HL.out]; simpa using hw1) hb1
        have M := pm_next H1.out
        have HR := Lib.hid R
        have HM2 := Lib.hid M
        clear R M
        go_wp2
        go_roundw
        case rel => exact ⟨_, _, rfl, rfl, HR.out⟩
        case measure => exact HM2.out
      · go_wp2_with fail
        refine (clone_any p w1 (by omega)).mono ?_
        rintro e w2 ⟨rfl, hb2⟩
        have hsz := hb1.size
        have hsz2 := hb2.size
        have hw2 : w2.ownsRow w.heap.size 9 1 u7 L.length (L.map sv) := ownsRow_below hw1 hb2
        go_wp2_with (at_builtin; refine wpList_append_own _ rfl _ _ 71 rfl w.heap.size 9 i0 (.string ⟨#[]⟩) 1 16 Tryz.underlying71 hi hz0 hz1 hz2 rfl (by decide) _ _ _ rfl (hw2.alloc _) ⟨w2.heap.size, 0, none⟩ 1 1 [.string p] rfl rfl ?c1 ?c2 ?c3 ?c4 ?c5 ?_)
        case c1 => exact cell_one_new _ _ _
        case c2 => intro u hu; simp at hu; subst hu; rfl
        case c3 => unfold maxLen; omega
        case c4 => omega
        case c5 => simp; omega
        intro v' w3 hown' hgrow _
        have hb3 : Below w.heap.size w w3 := (((hb1.trans (hb2.mono hsz)).alloc (by omega) _).grown hgrow (by simp; omega) (by
          intro k hk
          obtain ⟨_, h0 | ⟨g, cap, cur, hv, hg, _⟩⟩ := hw2
          · rw [h0.1] at hk; simp [Value.ownBlock] at hk
          · rw [hv] at hk; simp [Value.ownBlock] at hk; omega))
        have R := pst_next (want := want) (v := v') (w := w3) HS.out hdl H0.out H1.out (by rw [← HB.out, ← HL.out]; simpa [sv] using hown') hb3
        have M := pm_next H1.out
        have HR := Lib.hid R
        have HM2 := Lib.hid M
        clear R M hown' hgrow
        go_wp2
        go_roundw
        case rel => exact ⟨_, _, rfl, rfl, HR.out⟩
        case measure => exact HM2.out
    · go_wp2
      go_ret
      refine ⟨_, rfl, ?_, hbel⟩
      rw [← hst]; exact hown
end Go.Proofs.YtopjddmgejfalaaGreatDoor.Dig
