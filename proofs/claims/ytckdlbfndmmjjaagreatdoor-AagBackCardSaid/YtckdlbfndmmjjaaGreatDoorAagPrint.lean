/- The walks of aag's printing: numbers as words; condition: the table of powers of ten is as it is laid. -/
import Derived.Test.YtckdlbfndmmjjaaGreatDoorAagAnds
namespace Go.Proofs.YtckdlbfndmmjjaaGreatDoor.Aag
open Go.ChangeShapes Go.WideShapes Go.ChangeAt Go.RowKit Dig Circ Cw

def svs (l : List (List UInt8)) : List (List Value) := l.map fun s => [sv s]
theorem svs_length (l : List (List UInt8)) : (svs l).length = l.length := by simp [svs]
theorem svs_flatten (l : List (List UInt8)) : (svs l).flatten = l.map sv := by
  induction l with
  | nil => rfl
  | cons a l ih => unfold svs at ih ⊢; simp [ih]
theorem svs_texts {w : World} {B : Nat} {v : Value} {l : List (List UInt8)} (h : OwnC w B 9 1 v (svs l)) : Texts B v l w := by
  unfold OwnC at h
  rw [svs_length, svs_flatten] at h
  exact h
theorem svs_snoc (l : List (List UInt8)) (s : List UInt8) : svs l ++ [[sv s]] = svs (l ++ [s]) := by simp [svs]
theorem nums_take (l : List Int) (k : Nat) (h : k < l.length) : nums (l.take (k + 1)) = nums (l.take k) ++ [Lib.itoa l[k]] := by
  unfold nums; rw [List.take_succ_eq_append_getElem h, List.map_append, List.map_cons, List.map_nil]
set_option maxHeartbeats 2000000 in
set_option maxRecDepth 100000 in
theorem printed_any (l : List Int) (A : Option Addr) (q B : Nat) (w : World) (hl : l.length ≤ 65537) (hr : LRow w B 1 A (ints l)) (hB : B ≤ w.heap.size) (hI : ∀ x ∈ l, I64 x) (htab : Tab w) :
    Calls Tryz.prog 16 #[.slice A l.length q] w fun e w' => ∃ v, e = .returned v ∧ OwnC w' w.heap.size 9 1 v (svs (nums l)) ∧ Below w.heap.size w w' := by
  have HR := Lib.hid hr
  have HI := Lib.hid hI
  have HT := Lib.hid htab
  clear hr hI htab
  go_enter Tryz.func16, Tryz.ntmps16
  go_wp2
  go_loopw [8, 3] (fun i v wr => ∃ (j : Nat) (vv : Value), j ≤ l.length ∧ i = .int .i64 j ∧ vv = v ∧ OwnC wr w.heap.size 9 1 vv (svs (nums (l.take j))) ∧ Below w.heap.size w wr) (fun i _ _ => l.length - (intOf i).toNat)
  case atStart => exact ⟨0, _, Nat.zero_le _, rfl, rfl, OwnC.nil _ _ _ _, Below.refl _ _⟩
  case round =>
    obtain ⟨j, v, hj, rfl, rfl, how, hb⟩ := hrel
    have HO := Lib.hid how
    have HB := Lib.hid hb
    clear how hb
    by_cases hlt : j < l.length
    · obtain ⟨b, o, rfl, hbb, hx⟩ := (HR.out.below (HB.out.mono hB)).int hlt
      have HX := Lib.hid (nums_take l j hlt)
      obtain ⟨i1, i2⟩ := HI.out l[j] (List.getElem_mem _)
      generalize l[j] = x at *
      have PR := Lib.hid (print_any x i1 i2 wr (HT.out wr HB.out))
      go_wp2_with fail
      refine PR.out.mono ?_
      rintro e w2 ⟨rfl, hb2⟩
      have hal2 : Below w2.heap.size w2 (w2.alloc (.cells #[.string ⟨(Lib.itoa x).toArray⟩] 9)) := (Below.refl _ _).alloc (Nat.le_refl _) _
      have O3 := Lib.hid ((HO.out.keep hb2).keep hal2)
      have B3 : Hid (Below w.heap.size w (w2.alloc (.cells #[.string ⟨(Lib.itoa x).toArray⟩] 9))) := HB.out.trans ((hb2.mono HB.out.size).trans (hal2.mono (Nat.le_trans HB.out.size hb2.size)))
      have HC : Hid (∀ (j : Nat) u, [Value.string ⟨(Lib.itoa x).toArray⟩][j]? = some u → (w2.alloc (.cells #[.string ⟨(Lib.itoa x).toArray⟩] 9)).cell? ⟨w2.heap.size, j, none⟩ = some u) := fun j u hu => by
        rw [new_cell]; simpa using hu
      have HONE : Hid (∀ u ∈ [Value.string ⟨(Lib.itoa x).toArray⟩], u.oneCell' = true) := fun u hu => by
        simp only [List.mem_singleton] at hu
        subst hu; rfl
      have HL : Hid ((svs (nums (l.take j))).length ≤ 65537) := by unfold Hid; rw [svs_length]; simp [nums]; omega
      clear hb2 hal2 PR
      go_wp2_with (at_builtin; refine wpList_push _ rfl (.tmp 12) (.tmp 15) 53 rfl 9 1 16 (.string ⟨#[]⟩) Tryz.underlying53 info9 rfl (by decide) w.heap.size v _ O3.out rfl w2.heap.size 1 rfl [.string ⟨(Lib.itoa x).toArray⟩] HC.out rfl HONE.out (by have := HL.out; omega) (by have := HL.out; omega) B3.out.size ?_)
      intro v2 w3 hown hbel _
      have HO4 := Lib.hid hown
      have HB4 := Lib.hid (B3.out.trans hbel)
      clear hown hbel
      go_wp2
      go_roundw
      case rel => exact ⟨j + 1, _, by omega, by go_num, rfl, by rw [HX.out, ← svs_snoc]; exact HO4.out, HB4.out⟩
      case measure => simp [intOf]; omega
    · obtain rfl : j = l.length := by omega
      rw [List.take_length] at HO
      go_wp2
      go_ret
      exact ⟨v, rfl, HO.out, HB.out⟩
end Go.Proofs.YtckdlbfndmmjjaaGreatDoor.Aag
