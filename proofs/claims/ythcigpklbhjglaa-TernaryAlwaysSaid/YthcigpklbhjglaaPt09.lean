/- What stands for a literal, walked; no condition. -/
import Derived.Test.YthcigpklbhjglaaPt08
import Derived.Test.YthcigpklbhjglaaPt04
namespace Go.Proofs.Ythcigpklbhjglaa.Str
open Go.ChangeShapes Go.WideShapes Go.ChangeAt Go.RowKit Go.Maps Circ Cw

theorem two_cells {w : World} {p : Nat} {a b c : Value} {T : TypeId} (h : w.heap[p]? = some (.cells #[a, b, c] T (0, 0))) : w.cell? ⟨p, 0, none⟩ = some a ∧ w.cell? ⟨p, 1, none⟩ = some b ∧ w.cell? ⟨p, 2, none⟩ = some c := by
  simp [World.cell?, h]
set_option maxHeartbeats 4000000 in
theorem of_any (p m1 N : Nat) (F : Int → Option Int) (x : Int) (w : World) (hc : w.cell? ⟨p, 0, none⟩ = some (.map (some m1))) (hF : IsVars w m1 F N) (hx : I64 x) (hs : ∀ v s, F v = some s → I64 s) :
    Calls Try.prog 54 #[.pointer (some ⟨p, 0, none⟩), .int .i64 x] w fun e w' => e = .returned (.int .i64 (ofM F x)) ∧ w = w' := by
  have hk : I64 (cnt x / 2) := by obtain ⟨b0, b1⟩ := cnt_bd x hx.2; unfold I64; omega
  obtain ⟨u, hl, hu⟩ := hF.look hk
  have CV := Lib.hid (var_any x w hx.2)
  have CN := Lib.hid (neg_any x w hx.2)
  clear hF
  cases hq : F (cnt x / 2) with
  | none =>
    rw [hq] at hl
    rw [of_none hq]
    generalize cnt x / 2 = r at *
    simp only [Option.isSome_none] at hl
    clear hu hq
    go_enter Try.func54, Try.ntmps54
    go_wp2_with fail
    refine CV.out.mono ?_
    rintro e w' ⟨rfl, rfl⟩
    go_wp2
    go_ret
    exact ⟨rfl, rfl⟩
  | some s =>
    have hsi := hs _ _ hq
    rw [of_some hq]
    obtain rfl := hu s hq
    have CO := Lib.hid (not_any u w hsi.2)
    rw [hq] at hl
    generalize cnt x / 2 = r at *
    simp only [Option.isSome_some] at hl
    clear hu hq
    by_cases hn : cnt x % 2 = 1
    · have hd : decide (cnt x % 2 = 1) = true := by simpa using hn
      rw [hd] at CN
      rw [if_pos hn]
      go_enter Try.func54, Try.ntmps54
      go_wp2_with fail
      refine CV.out.mono ?_
      rintro e w' ⟨rfl, rfl⟩
      go_wp2_with fail
      refine CN.out.mono ?_
      rintro e w' ⟨rfl, rfl⟩
      go_wp2_with fail
      refine CO.out.mono ?_
      rintro e w' ⟨rfl, rfl⟩
      go_wp2
      go_ret
      exact ⟨rfl, rfl⟩
    · have hd : decide (cnt x % 2 = 1) = false := by simpa using hn
      rw [hd] at CN
      rw [if_neg hn]
      go_enter Try.func54, Try.ntmps54
      go_wp2_with fail
      refine CV.out.mono ?_
      rintro e w' ⟨rfl, rfl⟩
      go_wp2_with fail
      refine CN.out.mono ?_
      rintro e w' ⟨rfl, rfl⟩
      go_wp2
      go_ret
      exact ⟨rfl, rfl⟩
end Go.Proofs.Ythcigpklbhjglaa.Str
