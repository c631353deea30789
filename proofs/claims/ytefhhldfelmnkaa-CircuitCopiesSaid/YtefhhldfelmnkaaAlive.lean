/- The page's example of circuits, as the laws call it: it holds. No condition. -/
import Derived.Test.YtefhhldfelmnkaaCheck
import Derived.Test.YtefhhldfelmnkaaKind
namespace Go.Proofs.Ytefhhldfelmnkaa.Cw
open Go.ChangeShapes Go.WideShapes Go.ChangeAt Go.RowKit Go.Maps Circ

theorem num_any (x : Int) (w : World) : Calls Try.prog 21 #[.int .i64 x] w fun e w' => e = .returned (.int .i64 x) ∧ w = w' := by
  go_enter Try.func21, Try.ntmps21
  go_wp2
  go_ret
  exact ⟨rfl, rfl⟩

def c0 : Cir := ⟨1, [], [⟨2, 2, 0⟩], [], [], [], [], []⟩
def s0 (b : Nat) : Places := ⟨none, some ⟨b, 0, none⟩, none, none, none, none, none, 0, 1, 0, 0, 0, 0, 0⟩
theorem c0_fits (b : Nat) : CFits c0 (s0 b) := by
  constructor <;> simp [c0, s0, I64, Tri.fits]
theorem c0_chk : chkV c0 = 0 := by decide +kernel
theorem c0_kind : kindOf c0 1 = ⟨#[108]⟩ := by decide +kernel
theorem c0_lies (w w' : World) (hb : Below (w.heap.size + 1) (w.alloc (.cells #[.int .i64 2, .int .i64 2, .int .i64 0] 47)) w') : CLies w' (w.heap.size + 1) c0 (s0 w.heap.size) := by
  refine ⟨.inl rfl, .inr ⟨_, 0, rfl, Nat.lt_succ_self _, fun i ys hi j u hj => ?_⟩, .inl rfl, .inl rfl, .inl rfl, .inl rfl, .inl rfl⟩
  match i, hi with
  | 0, hi =>
    obtain rfl : [Value.int .i64 2, .int .i64 2, .int .i64 0] = ys := by simpa [tris, c0, Tri.cells] using hi
    rw [hb.cell (by exact Nat.lt_succ_self _), new_cell]
    match j, hj with
    | 0, hj => simpa using hj
    | 1, hj => simpa using hj
    | 2, hj => simpa using hj

set_option maxHeartbeats 1000000 in
theorem alive_any (w : World) : Calls Try.prog 7 #[] w fun e w' => e = .returned (.bool true) ∧ Below w.heap.size w w' := by
  have hb1 : Below w.heap.size w (w.alloc (.cells #[.int .i64 2, .int .i64 2, .int .i64 0] 47)) := (Below.refl _ _).alloc (Nat.le_refl _) _
  have hs1 : (w.alloc (.cells #[.int .i64 2, .int .i64 2, .int .i64 0] 47)).heap.size = w.heap.size + 1 := by simp
  have hb2 := hb1.alloc hb1.size (.cells (cirC c0 (s0 w.heap.size)) 27)
  have hs2 : ((w.alloc (.cells #[.int .i64 2, .int .i64 2, .int .i64 0] 47)).alloc (.cells (cirC c0 (s0 w.heap.size)) 27)).heap.size = w.heap.size + 2 := by simp
  have hl : ∀ w', Below (w.heap.size + 2) ((w.alloc (.cells #[.int .i64 2, .int .i64 2, .int .i64 0] 47)).alloc (.cells (cirC c0 (s0 w.heap.size)) 27)) w' → CLies w' w'.heap.size c0 (s0 w.heap.size) := fun w' hb =>
    (c0_lies w w' (((Below.refl (w.heap.size + 1) _).alloc (Nat.le_of_eq hs1.symm) _).trans (hb.mono (by omega)))).more (by have := hb.size; rw [hs2] at this; omega)
  have CK := check_any c0 (s0 w.heap.size) _ (hl _ (Below.refl _ _)) (c0_fits _)
  have KD := fun w' hb => kind_any c0 (s0 w.heap.size) 1 w' (hl w' hb) (c0_fits _)
  have hbx := Box.made (w.alloc (.cells #[.int .i64 2, .int .i64 2, .int .i64 0] 47)) c0 (s0 w.heap.size)
  rw [hs1] at hbx
  rw [c0_chk] at CK
  rw [c0_kind] at KD
  have HC := Lib.hid CK
  have HK := Lib.hid KD
  have HX := Lib.hid hbx
  clear CK KD hl hbx
  have hcv : cirV c0 (s0 w.heap.size) = .agg #[.int .i64 1, .slice none 0 0, .slice (some ⟨w.heap.size, 0, none⟩) 1 1, .slice none 0 0, .slice none 0 0, .slice none 0 0, .slice none 0 0, .slice none 0 0] := rfl
  have hcc : cirC c0 (s0 w.heap.size) = #[.int .i64 1, .slice none 0 0, .slice (some ⟨w.heap.size, 0, none⟩) 1 1, .slice none 0 0, .slice none 0 0, .slice none 0 0, .slice none 0 0, .slice none 0 0] := rfl
  rw [hcv, hcc] at HC
  rw [hcv, hcc] at HK
  have HCC := Lib.hid hcc
  clear hcv hcc
  go_enter Try.func7, Try.ntmps7
  go_wp2_with fail
  refine HC.out.mono ?_
  rintro e w1 ⟨rfl, hb⟩
  have hb' : Below (w.heap.size + 2) ((w.alloc (.cells #[.int .i64 2, .int .i64 2, .int .i64 0] 47)).alloc (.cells (cirC c0 (s0 w.heap.size)) 27)) w1 := by
    rw [HCC.out]; exact hb.mono (by simp)
  obtain ⟨e0, e1, e2, e3, e4, e5, e6, e7⟩ := (HX.out.keep hb' (by omega)).cells
  have D := Lib.hid (HK.out w1 (by rw [← HCC.out]; exact hb'))
  have hbw := hb2.trans (hb'.mono (by omega))
  simp only [c0, s0] at e0 e1 e2 e3 e4 e5 e6 e7
  go_wp2_with (go_at_call 21; refine (num_any _ _).mono ?_; rintro e w' ⟨rfl, rfl⟩)
  refine D.out.mono ?_
  rintro e w2 ⟨rfl, hb2'⟩
  go_wp2
  go_ret
  exact ⟨ret_bool (by decide), hbw.trans (hb2'.mono hbw.size)⟩
end Go.Proofs.Ytefhhldfelmnkaa.Cw
