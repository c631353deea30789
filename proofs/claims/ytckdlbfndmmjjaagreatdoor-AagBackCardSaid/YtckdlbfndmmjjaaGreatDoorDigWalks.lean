/- The walks of package digits' number functions: every, canonical, value, Parse, Print; no condition but a text's length. -/
import Derived.Test.YtckdlbfndmmjjaaGreatDoorChecked
import Derived.Test.YtckdlbfndmmjjaaGreatDoorDigPlain
import Derived.Test.YtckdlbfndmmjjaaGreatDoorShelf
import Derived.WalkKit
import Derived.ProofKit
import Derived.WalkSpells
import Derived.WalkLawsBesides
import Derived.Outline
import Derived.Lib.Hide
import Derived.LoopTactic
import Derived.OneCell
namespace Go.Proofs.YtckdlbfndmmjjaaGreatDoor.Dig
open Go.ChangeShapes Go.WideShapes Go.ChangeAt Go.RowKit

/-- canonical$1: a byte is a digit -/
theorem dig_any (b : Int) (w : World) (h0 : 0 ≤ b) (h1 : b ≤ 255) : Calls Tryz.prog 108 #[.int .u8 b] w fun e w' => e = .returned (.bool (decide (48 ≤ b) && decide (b ≤ 57))) ∧ w = w' := by
  go_enter Tryz.func108, Tryz.ntmps108
  go_wp2
  all_goals go_ret
  · rename_i h
    exact ⟨by simp [h], rfl⟩
  · rename_i h
    exact ⟨by simp; omega, rfl⟩

def EveryPost (I : Nat → World → Prop) (F : World → Prop) (n : Nat) (e : Ending) (w : World) : Prop := (e = .returned (.bool true) ∧ I n w) ∨ (e = .returned (.bool false) ∧ F w)
def EveryStep (k : FuncId) (cap : Array Value) (s : ByteArray) (I : Nat → World → Prop) (F : World → Prop) : Prop :=
  ∀ (i : Nat) (h : i < s.size) (w : World), I i w → Calls Tryz.prog k (#[.int .u8 s[i].toNat] ++ cap) w (EveryPost I F (i + 1))

set_option maxHeartbeats 400000 in
theorem every_any (k : FuncId) (cap : Array Value) (s : ByteArray) (I : Nat → World → Prop) (F : World → Prop) (w : World) (hs : s.size ≤ maxLen)
    (hk : ∀ args w, (callFunc k args).run Tryz.prog w = .ok (.enter k args) w)
    (hI : I 0 w) (hstep : EveryStep k cap s I F) :
    Calls Tryz.prog 107 #[.string s, .func (.func k) #[] cap] w (EveryPost I F s.size) := by
  unfold maxLen at hs
  go_enter Tryz.func107, Tryz.ntmps107
  go_wp2
  go_loopw [5] (fun i wr => ∃ k : Nat, k ≤ s.size ∧ i = .int .i64 k ∧ I k wr) (fun i _ => s.size - (intOf i).toNat)
  case atStart => exact ⟨0, Nat.zero_le _, rfl, hI⟩
  case round =>
    obtain ⟨j, hj, rfl, hIj⟩ := hrel
    have HI := Lib.hid hIj; clear hIj hI
    by_cases hlt : j < s.size
    · go_wp2_with fail
      refine (hstep j hlt wr HI.out).mono ?_
      rintro e w' (⟨rfl, hn⟩ | ⟨rfl, hF⟩)
      · have HN := Lib.hid hn; clear hn
        go_wp2
        go_roundw
        case rel => exact ⟨j + 1, by omega, by go_num, HN.out⟩
        case measure => simp [intOf]; omega
      · have HN := Lib.hid hF; clear hF
        go_wp2
        go_ret
        exact Or.inr ⟨rfl, HN.out⟩
    · go_wp2
      go_ret
      obtain rfl : j = s.size := by omega
      exact Or.inl ⟨rfl, HI.out⟩

/-- value$1: one digit more -/
theorem val1_any (b : Int) (B : Nat) (n : Int) (w : World) (h0 : 48 ≤ b) (h1 : b ≤ 57) (hn0 : 0 ≤ n) (hn1 : n ≤ 1099511627776) (hB : w.heap[B]? = some (.cells #[.int .i64 n] 3 (0, 0))) :
    Calls Tryz.prog 109 #[.int .u8 b, .pointer (some ⟨B, 0, none⟩)] w fun e w' => e = .returned (.bool (decide (n * 10 + (b - 48) ≤ 1099511627776))) ∧ w' = w.setCell ⟨B, 0, none⟩ (.int .i64 (n * 10 + (b - 48))) := by
  have hc := cell_of_one hB
  have hf := free_of_one hB
  go_enter Tryz.func109, Tryz.ntmps109
  go_wp2
  go_ret
  exact ⟨rfl, rfl⟩

/-- value: the digits added up -/
def ValI (s : ByteArray) (B : Nat) (W : World) (i : Nat) (w : World) : Prop := ∃ v : Nat, v ≤ far ∧ val 0 (s.data.toList.take i) = some v ∧ w.heap[B]? = some (.cells #[.int .i64 v] 3 (0, 0)) ∧ Below B W w
def ValF (s : ByteArray) (B : Nat) (W : World) (w : World) : Prop := val 0 s.data.toList = none ∧ (∃ v : Int, w.heap[B]? = some (.cells #[.int .i64 v] 3 (0, 0))) ∧ Below B W w

theorem take_snoc (s : ByteArray) (k : Nat) (h : k < s.size) : s.data.toList.take (k + 1) = s.data.toList.take k ++ [s[k]] := by
  rw [List.take_succ_eq_append_getElem (by simpa using h)]; rfl
theorem val_stop (l m : List UInt8) (h : val 0 l = none) : val 0 (l ++ m) = none := by rw [val_append, h]; rfl

theorem val_step (s : ByteArray) (B : Nat) (W : World) (hd : s.data.toList.all isDig = true) :
    EveryStep 109 #[.pointer (some ⟨B, 0, none⟩)] s (ValI s B W) (ValF s B W) := by
  intro i h w ⟨v, hv, hval, hB, hbel⟩
  have hdi : isDig s[i] = true := List.all_eq_true.1 hd _ (by
    have : s[i] = s.data.toList[i]'(by simpa using h) := rfl
    rw [this]; exact List.getElem_mem _)
  unfold isDig at hdi
  simp only [Bool.and_eq_true, decide_eq_true_eq] at hdi
  have hts := take_snoc s i h
  have hsplit : s.data.toList = s.data.toList.take (i + 1) ++ s.data.toList.drop (i + 1) := (List.take_append_drop _ _).symm
  unfold far at hv
  refine (val1_any s[i].toNat B v w (by omega) (by omega) (by omega) (by omega) hB).mono ?_
  rintro e w' ⟨rfl, rfl⟩
  have hnew : (v : Int) * 10 + ((s[i].toNat : Int) - 48) = ((v * 10 + (s[i].toNat - 48) : Nat) : Int) := by omega
  rw [hnew]
  have hone : val 0 (s.data.toList.take (i + 1)) = if v * 10 + (s[i].toNat - 48) ≤ far then some (v * 10 + (s[i].toNat - 48)) else none := by
    rw [hts, val_append, hval]; rfl
  by_cases hle : v * 10 + (s[i].toNat - 48) ≤ 1099511627776
  · left
    refine ⟨by rw [decide_eq_true (by omega)], _, hle, ?_, one_setCell hB, hbel.setCell (Nat.le_refl _) _⟩
    rw [hone, if_pos (show _ ≤ far from hle)]
  · right
    refine ⟨by rw [decide_eq_false (by omega)], ?_, ⟨_, one_setCell hB⟩, hbel.setCell (Nat.le_refl _) _⟩
    rw [hsplit]
    exact val_stop _ _ (by rw [hone, if_neg (show ¬ _ ≤ far from hle)])

def valOut (l : List UInt8) : Value := match val 0 l with
  | some v => .tuple #[.int .i64 v, .bool true]
  | none => .tuple #[.int .i64 0, .bool false]

set_option maxHeartbeats 400000 in
theorem value_any (s : ByteArray) (w : World) (hs : s.size ≤ maxLen) (hd : s.data.toList.all isDig = true) :
    Calls Tryz.prog 100 #[.string s] w fun e w' => e = .returned (valOut s.data.toList) ∧ Below w.heap.size w w' := by
  have hmf : ∀ (fn : Fn) (first cap : Array Value) (w : World), (Instr.makeFunc fn first cap).run Tryz.prog w = .ok (.func fn first cap) w := fun _ _ _ _ => rfl
  have hE := every_any 109 #[.pointer (some ⟨w.heap.size, 0, none⟩)] s (ValI s w.heap.size w) (ValF s w.heap.size w) (w.alloc (.cells #[.int .i64 0] 3)) hs (enters_of Tryz.func109 (by kernel_rfl) rfl)
    ⟨0, by decide, rfl, heap_alloc_new _ _, (Below.refl _ _).alloc (Nat.le_refl _) _⟩ (val_step s w.heap.size w hd)
  have HE := Lib.hid hE; clear hE
  go_enter Tryz.func100, Tryz.ntmps100
  go_wp2_with fail
  refine HE.out.mono ?_
  rintro e w' (⟨rfl, hI⟩ | ⟨rfl, hF⟩)
  · obtain ⟨v, hv, hval, hB, hbel⟩ := hI
    rw [List.take_of_length_le (by simp)] at hval
    have hout : valOut s.data.toList = .tuple #[.int .i64 v, .bool true] := by unfold valOut; rw [hval]
    have hc := cell_of_one hB
    have HV := Lib.hid hval
    have HO := Lib.hid hout
    clear hval hout hB
    go_wp2
    go_ret2
    exact ⟨by rw [HO.out]; rfl, hbel⟩
  · obtain ⟨hval, ⟨v, hB⟩, hbel⟩ := hF
    have hout : valOut s.data.toList = .tuple #[.int .i64 0, .bool false] := by unfold valOut; rw [hval]
    have hc := cell_of_one hB
    have HV := Lib.hid hval
    have HO := Lib.hid hout
    clear hval hout hB
    go_wp2
    go_ret2
    exact ⟨by rw [HO.out]; rfl, hbel⟩

theorem canon_step (s : ByteArray) (W : World) :
    EveryStep 108 #[] s (fun i w => w = W ∧ (s.data.toList.take i).all isDig = true) (fun w => w = W ∧ s.data.toList.all isDig = false) := by
  intro i h w ⟨rfl, ht⟩
  have hts := take_snoc s i h
  have hl : s[i].toNat < 256 := s[i].toNat_lt
  refine (dig_any s[i].toNat w (by omega) (by omega)).mono ?_
  rintro e w' ⟨rfl, rfl⟩
  have hd : (decide (48 ≤ (s[i].toNat : Int)) && decide ((s[i].toNat : Int) ≤ 57)) = isDig s[i] := by
    unfold isDig
    congr 1
    · exact decide_eq_decide.2 (by omega)
    · exact decide_eq_decide.2 (by omega)
  rw [hd]
  cases hi : isDig s[i]
  · right
    refine ⟨rfl, rfl, ?_⟩
    rw [← List.take_append_drop (i + 1) s.data.toList, List.all_append, hts, List.all_append]
    simp [hi]
  · left
    refine ⟨rfl, rfl, ?_⟩
    rw [hts, List.all_append, ht]
    simp [hi]

theorem canon_any (s : ByteArray) (neg : Bool) (w : World) (hs : s.size ≤ maxLen) :
    Calls Tryz.prog 99 #[.string s, .bool neg] w fun e w' => e = .returned (.bool (canonB s.data.toList neg)) ∧ w = w' := by
  by_cases h0 : s.data.toList = [48]
  · have hq : (s.toList == [48]) = true := by rw [Lib.toList_data, h0]; rfl
    have hc : canonB s.data.toList neg = !neg := by unfold canonB; rw [if_pos h0]
    rw [hc]
    clear h0 hc
    go_enter Tryz.func99, Tryz.ntmps99
    go_wp2
    go_ret
    exact ⟨rfl, rfl⟩
  · have hq : (s.toList == [48]) = false := by rw [Lib.toList_data]; simpa using h0
    by_cases h1 : s.data.toList = []
    · have he : s.toList = [] := by rw [Lib.toList_data, h1]
      have hc : canonB s.data.toList neg = false := by unfold canonB; rw [if_neg h0, if_pos (Or.inl h1)]
      rw [hc]
      clear h0 h1 hc
      go_enter Tryz.func99, Tryz.ntmps99
      go_wp2
      go_ret
      exact ⟨rfl, rfl⟩
    · have he : s.toList.isEmpty = false := by rw [Lib.toList_data]; simpa using h1
      have he2 : ¬ s.toList = [] := by rw [Lib.toList_data]; exact h1
      have hz : 0 < s.size := by
        rcases Nat.eq_zero_or_pos s.size with e | e
        · exact absurd (List.length_eq_zero_iff.1 e) h1
        · exact e
      have hhead : s.data.toList.head? = some s[0] := by
        rw [List.head?_eq_getElem?, List.getElem?_eq_getElem (by simpa using hz)]; rfl
      by_cases h2 : s[0] = 48
      · have hb : ((s[0].toNat : Int) == 48) = true := by rw [h2]; rfl
        have hc : canonB s.data.toList neg = false := by unfold canonB; rw [if_neg h0, if_pos (Or.inr (by rw [hhead, h2]))]
        rw [hc]
        clear h0 h1 hc h2 hhead
        go_enter Tryz.func99, Tryz.ntmps99
        go_wp2
        go_ret
        exact ⟨rfl, rfl⟩
      · have hb : ((s[0].toNat : Int) == 48) = false := by
          simp only [beq_eq_false_iff_ne, ne_eq]
          intro e
          exact h2 (UInt8.toNat_inj.1 (by have : (48 : UInt8).toNat = 48 := rfl; omega))
        have hc : canonB s.data.toList neg = s.data.toList.all isDig := by
          unfold canonB
          rw [if_neg h0, if_neg (by rintro (e | e); exact h1 e; rw [hhead] at e; exact h2 (Option.some.inj e))]
        rw [hc]
        have hE := every_any 108 #[] s _ _ w hs (enters_of Tryz.func108 (by kernel_rfl) rfl) ⟨rfl, by simp⟩ (canon_step s w)
        have HE := Lib.hid hE
        clear hE h0 h1 hc h2 hhead
        go_enter Tryz.func99, Tryz.ntmps99
        go_wp2_with fail
        refine HE.out.mono ?_
        rintro e w' (⟨rfl, rfl, hI⟩ | ⟨rfl, rfl, hF⟩)
        · rw [List.take_of_length_le (by simp)] at hI
          have HI := Lib.hid hI; clear hI
          go_wp2
          go_ret
          exact ⟨by rw [HI.out]; rfl, rfl⟩
        · have HI := Lib.hid hF; clear hF
          go_wp2
          go_ret
          exact ⟨by rw [HI.out]; rfl, rfl⟩

def parseOut (l : List UInt8) : Value := .tuple #[.int .i64 (parseL l).1, .int .i64 (parseL l).2]

set_option maxHeartbeats 800000 in
theorem parse_any (s : ByteArray) (w : World) (hs : s.size ≤ maxLen) :
    Calls Tryz.prog 86 #[.string s] w fun e w' => e = .returned (parseOut s.data.toList) ∧ Below w.heap.size w w' := by
  obtain ⟨d, hd⟩ : ∃ d : ByteArray, d = ⟨(Lib.trimPrefix s.data.toList [45]).toArray⟩ := ⟨_, rfl⟩
  have hdl : d.data.toList = Lib.trimPrefix s.data.toList [45] := by rw [hd]
  have hds : d.size ≤ maxLen := by
    have h1 : d.size = d.data.toList.length := rfl
    have h2 : s.size = s.data.toList.length := rfl
    rw [h1, hdl]; rw [h2] at hs
    unfold Lib.trimPrefix
    split
    · rw [List.length_drop]; omega
    · exact hs
  obtain ⟨neg, hneg⟩ : ∃ neg : Bool, neg = Lib.hasPrefix s.data.toList [45] := ⟨_, rfl⟩
  have hP : parseL s.data.toList = (if canonB d.data.toList neg then (match val 0 d.data.toList with
      | some v => (if neg then -(v : Int) else v, 0)
      | none => (0, 4)) else (0, 33) : Int × Int) := by unfold parseL; rw [hdl, hneg]; rfl
  have hcut : ∀ w : World, Calls Tryz.prog 98 #[.string s, .string ⟨#[45]⟩] w fun e w' => e = .returned (.tuple #[.string d, .bool neg]) ∧ w' = w := fun w => by
    rw [hd, hneg]; exact Tryz.strings_CutPrefix s ⟨#[45]⟩ w
  have HC := Lib.hid hcut
  have HP := Lib.hid hP
  clear hcut hP hd hneg
  cases hcan : canonB d.data.toList neg
  · have hcn : ∀ w : World, Calls Tryz.prog 99 #[.string d, .bool neg] w fun e w' => e = .returned (.bool false) ∧ w = w' := fun w => by
      rw [← hcan]; exact canon_any d neg w hds
    have HN := Lib.hid hcn
    have HK := Lib.hid hcan
    clear hcn hcan hdl
    go_enter Tryz.func86, Tryz.ntmps86
    go_wp2_with fail
    refine (HC.out _).mono ?_
    rintro e w' ⟨rfl, rfl⟩
    go_wp2_with fail
    refine (HN.out _).mono ?_
    rintro e w' ⟨rfl, rfl⟩
    go_wp2_with fail
    go_ret2
    refine ⟨?_, Below.refl _ _⟩
    unfold parseOut; rw [HP.out, HK.out]; rfl
  · have hcn : ∀ w : World, Calls Tryz.prog 99 #[.string d, .bool neg] w fun e w' => e = .returned (.bool true) ∧ w = w' := fun w => by
      rw [← hcan]; exact canon_any d neg w hds
    have hall : d.data.toList.all isDig = true := by
      unfold canonB at hcan
      split at hcan
      · rename_i h; rw [h]; rfl
      · split at hcan
        · cases hcan
        · exact hcan
    have HN := Lib.hid hcn
    have HK := Lib.hid hcan
    clear hcn hcan hdl
    cases hval : val 0 d.data.toList with
    | none =>
      have hvl : ∀ w : World, Calls Tryz.prog 100 #[.string d] w fun e w' => e = .returned (.tuple #[.int .i64 0, .bool false]) ∧ Below w.heap.size w w' := fun w =>
        (value_any d w hds hall).mono fun e w' ⟨he, hb⟩ => ⟨by rw [he]; unfold valOut; rw [hval], hb⟩
      have HV := Lib.hid hvl
      have HW := Lib.hid hval
      clear hvl hval hall
      go_enter Tryz.func86, Tryz.ntmps86
      go_wp2_with fail
      refine (HC.out _).mono ?_
      rintro e w' ⟨rfl, rfl⟩
      go_wp2_with fail
      refine (HN.out _).mono ?_
      rintro e w' ⟨rfl, rfl⟩
      go_wp2_with fail
      refine (HV.out _).mono ?_
      rintro e w1 ⟨rfl, hb⟩
      go_wp2_with fail
      go_ret2
      refine ⟨?_, hb⟩
      unfold parseOut; rw [HP.out, HK.out, HW.out]; rfl
    | some v =>
      have hle := val_le _ 0 v (by decide) hval
      unfold far at hle
      have hvl : ∀ w : World, Calls Tryz.prog 100 #[.string d] w fun e w' => e = .returned (.tuple #[.int .i64 v, .bool true]) ∧ Below w.heap.size w w' := fun w =>
        (value_any d w hds hall).mono fun e w' ⟨he, hb⟩ => ⟨by rw [he]; unfold valOut; rw [hval], hb⟩
      have HV := Lib.hid hvl
      have HW := Lib.hid hval
      clear hvl hval hall
      cases neg
      all_goals
        go_enter Tryz.func86, Tryz.ntmps86
        go_wp2_with fail
        refine (HC.out _).mono ?_
        rintro e w' ⟨rfl, rfl⟩
        go_wp2_with fail
        refine (HN.out _).mono ?_
        rintro e w' ⟨rfl, rfl⟩
        go_wp2_with fail
        refine (HV.out _).mono ?_
        rintro e w1 ⟨rfl, hb⟩
        go_wp2_with fail
        go_ret2
        refine ⟨?_, hb⟩
        unfold parseOut; rw [HP.out, HK.out, HW.out]; rfl

theorem below_grow (w : World) (k : Nat) (os : Array Obj) : Below w.heap.size w (Sort.grow (w.drewN k) os) :=
  ⟨rfl, rfl, rfl, by show w.heap.size ≤ (w.heap ++ os).size; rw [Array.size_append]; omega, fun j hj => by show (w.heap ++ os)[j]? = _; exact Array.getElem?_append_left hj⟩

/-- the table of powers of ten, whatever the call does at blocks of its own -/
def Tab (W : World) : Prop := ∀ w', Below W.heap.size W w' → Lib.TabIs Tryz.prog w' "internal/strconv.uint64pow10" .u64 Lib.pow10Tab

theorem print_any (n : Int) (h0 : -9223372036854775808 ≤ n) (h1 : n ≤ 9223372036854775807) (w : World) (htab : Lib.TabIs Tryz.prog w "internal/strconv.uint64pow10" .u64 Lib.pow10Tab) :
    Calls Tryz.prog 17 #[.int .i64 n] w fun e w' => e = .returned (.string ⟨(Lib.itoa n).toArray⟩) ∧ Below w.heap.size w w' := by
  go_enter Tryz.func17, Tryz.ntmps17
  go_wp2_with fail
  refine (Tryz.strconv_Itoa n h0 h1 _ htab).mono ?_
  rintro e w' ⟨rfl, k, os, hw⟩
  have HW := Lib.hid hw; clear hw
  go_wp2_with fail
  go_ret
  refine ⟨rfl, ?_⟩
  rw [HW.out]
  exact below_grow w k os
end Go.Proofs.YtckdlbfndmmjjaaGreatDoor.Dig
