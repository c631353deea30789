/- The walk of circuit's look at names; no condition. -/
import Derived.Test.YtfglgapocmnfpaaPt09
import Derived.Deep.Draws
namespace Go.Proofs.Ytfglgapocmnfpaa.Cw
open Go.ChangeShapes Go.WideShapes Go.ChangeAt Go.RowKit Go.Maps Circ

def nameStep (c : Cir) (p : Int × Int) (n : Nam) : Option (Int × Int) :=
  if ((decide (p.1 < rankV n.kind) || (decide (rankV n.kind = p.1) && decide (p.2 < n.num))) && (decide (0 ≤ n.num) && decide (n.num < ((kindLits c n.kind).length : Int))) && textOk n.text) = true then some (rankV n.kind, n.num) else none
def namesOk (c : Cir) : Bool := (through (nameStep c) (0, -1) c.names).isSome

theorem nam_cells (w : World) (k : ByteArray) (b : Int) (x : ByteArray) (t : TypeId) (w' : World) (hb : Below (w.alloc (.cells #[.string k, .int .i64 b, .string x] t)).heap.size (w.alloc (.cells #[.string k, .int .i64 b, .string x] t)) w') :
    w'.cell? ⟨w.heap.size, 0, none⟩ = some (.string k) ∧ w'.cell? ⟨w.heap.size, 1, none⟩ = some (.int .i64 b) ∧ w'.cell? ⟨w.heap.size, 2, none⟩ = some (.string x) := by
  have hs : (w.alloc (.cells #[.string k, .int .i64 b, .string x] t)).heap.size = w.heap.size + 1 := by simp
  have h : ∀ i, w'.cell? ⟨w.heap.size, i, none⟩ = (#[.string k, .int .i64 b, .string x] : Array Value)[i]? := fun i => by
    rw [hb.cell (by rw [hs]; exact Nat.lt_succ_self _), new_cell]
  exact ⟨h 0, h 1, h 2⟩

theorem below_drewN {B : Nat} {a w : World} (h : Below B a w) (n : Nat) : Below B a (w.drewN n) := ⟨h.os, h.tape, h.output, h.size, h.block⟩

set_option maxHeartbeats 4000000 in
set_option maxRecDepth 100000 in
theorem names_any (c : Cir) (s : Places) (w : World) (h : CLies w w.heap.size c s) (hf : CFits c s) :
    Calls Try.prog 86 #[cirV c s] w fun e w' => e = told (namesOk c) ∧ Below w.heap.size w w' := by
  have ln := hf.ln
  have H := Lib.hid h
  have HF := Lib.hid hf
  have PP := Lib.hid (fun x w1 hb => pins_any c s x w1 hb hf)
  clear h hf
  unfold cirV cirC at *
  go_enter Try.func86, Try.ntmps86
  go_wp2
  go_loopw [2, 3, 12] (fun p a i wr => ∃ (k : Nat) (r q : Int), k ≤ c.names.length ∧ i = .int .i64 k ∧ p = .int .i64 r ∧ a = .int .i64 q ∧ through (nameStep c) (0, -1) (c.names.take k) = some (r, q) ∧ Below (w.heap.size + 1) (w.alloc (.cells (cirC c s) 27)) wr) (fun _ _ i _ => c.names.length - (intOf i).toNat)
  case atStart => exact ⟨0, 0, -1, Nat.zero_le _, rfl, rfl, rfl, rfl, Below.refl _ _⟩
  case round =>
    obtain ⟨k, r, a, hk, rfl, rfl, rfl, hno, hb⟩ := hrel
    have HN := Lib.hid hno; clear hno
    have HB0 : Hid (Below w.heap.size w (w.alloc (.cells (cirC c s) 27))) := (Below.refl _ _).alloc (Nat.le_refl _) _
    have hbw : Below w.heap.size w wr := HB0.out.trans (hb.mono (by omega))
    have hwz : w.heap.size + 1 ≤ wr.heap.size := by have := hb.size; rw [show (w.alloc (.cells (cirC c s) 27)).heap.size = w.heap.size + 1 by simp] at this; exact this
    by_cases hlt : k < c.names.length
    · obtain ⟨b, o, ha, hbb, hx0, hx1, hx2⟩ := (H.out.names.below hbw).nam hlt
      obtain ⟨fa, fb, fc⟩ := HF.out.names c.names[k] (List.getElem_mem _)
      have hX := through_snoc (nameStep c) (0, -1) (r, a) c.names k hlt HN.out
      have hS := through_stop (nameStep c) (0, -1) c.names (k + 1)
      have hok : nameStep c (r, a) c.names[k] = if ((decide (r < rankV c.names[k].kind) || (decide (rankV c.names[k].kind = r) && decide (a < c.names[k].num))) && (decide (0 ≤ c.names[k].num) && decide (c.names[k].num < ((kindLits c c.names[k].kind).length : Int))) && textOk c.names[k].text) = true then some (rankV c.names[k].kind, c.names[k].num) else none := rfl
      rw [hok] at hX
      have HX := Lib.hid hX
      have HS := Lib.hid hS
      clear hok hX hS
      have HAn : Hid (s.an = some ⟨b, o, none⟩) := ha
      rw [ha]
      clear ha
      generalize c.names[k].kind = x at *
      generalize c.names[k].num = y at *
      generalize c.names[k].text = z at *
      have hb1 := hb.alloc hwz (.cells #[.string x, .int .i64 y, .string z] 85)
      have HC : Hid (z.size ≤ 9223372036854775807) := by unfold Hid; omega
      clear fa fb fc
      obtain ⟨L, hLn⟩ : ∃ L, ((kindLits c x).length : Int) = L := ⟨_, rfl⟩
      rw [hLn] at HX
      have HLn := Lib.hid hLn; clear hLn
      go_wp2_with fail
      refine (rankof_any x _).mono ?_
      rintro e w1 ⟨rfl, hb'⟩
      generalize rankV x = rk at *
      obtain ⟨n0, n1, n2⟩ := nam_cells wr x y z 85 w1 hb'
      have hb2 := hb1.trans (hb'.mono (show w.heap.size + 1 ≤ _ by have := hb1.size; simp at this ⊢; omega))
      obtain ⟨e0, e1, e2, e3, e4, e5, e6, e7⟩ := ((Box.made w c s).keep hb2 (Nat.lt_succ_self _)).cells
      rw [HAn.out] at e7
      have P := PP.out x w1 ((H.out.below (HB0.out.trans (hb2.mono (by omega)))).more (by have := hb2.size; simp at this; omega))
      rw [HAn.out] at P
      have HP := Lib.hid P
      clear P
      rename Hid (Calls _ _ _ _ _) => P
      have hF : ∀ (_ : ¬ (((decide (r < rk) || (decide (rk = r) && decide (a < y))) && (decide (0 ≤ y) && decide (y < L)) && textOk z) = true)), told (namesOk c) = .panicked fault := fun e => by
        unfold namesOk; rw [HS.out (by rw [HX.out, if_neg e])]; rfl
      have HF' := Lib.hid hF
      clear hF
      by_cases c1 : r < rk
      · have g : Hid (decide (r < rk) = true) := decide_eq_true c1
        have HY : Hid (¬ ((decide (0 ≤ y) && decide (y < L) && textOk z) = true) → told (namesOk c) = .panicked fault) := fun e => HF'.out (by
          rw [g.out, Bool.true_or]; simp only [Bool.true_and]; simpa using e)
        have HZ : Hid ((decide (0 ≤ y) && decide (y < L) && textOk z) = true → through (nameStep c) (0, -1) (c.names.take (k + 1)) = some (rk, y)) := fun e => by
          rw [HX.out, g.out, Bool.true_or]; simp only [Bool.true_and]; rw [if_pos e]
        clear HX HF'
        go_wp2_with fail
        refine (need_t _ _ ?_).mono ?_
        · simp; try omega
        rintro e w' ⟨rfl, rfl⟩
        go_wp2_with fail
        refine (P.out).mono ?_
        rintro e w2 ⟨kf, cap, rfl, hbp, -, -⟩
        rw [HLn.out]
        obtain ⟨m0, m1, m2⟩ := nam_cells wr x y z 85 w2 (hb'.trans (hbp.mono hb'.size))
        have hb3 := hb2.trans (hbp.mono (show w.heap.size + 1 ≤ w1.heap.size by have := hb'.size; simp at this; omega))
        have hz3 := hbp.size
        by_cases c1 : 0 ≤ y
        case neg =>
          have d1 : decide (0 ≤ y) = false := by simpa using c1
          have HQ := Lib.hid (HY.out (by rw [d1]; simp))
          clear d1
          go_wp2_with fail
          refine (need_f _ _ ?_).mono ?_
          · simp; try omega
          rintro e w3 ⟨rfl, rfl⟩
          go_wp2
          exact ⟨rfl, by rw [HQ.out], HB0.out.trans (hb3.mono (by omega))⟩
        case pos =>
        by_cases c2 : y < L
        case neg =>
          have d1 : decide (y < L) = false := by simpa using c2
          have HQ := Lib.hid (HY.out (by rw [d1]; simp))
          clear d1
          go_wp2_with fail
          refine (need_f _ _ ?_).mono ?_
          · simp; try omega
          rintro e w3 ⟨rfl, rfl⟩
          go_wp2
          exact ⟨rfl, by rw [HQ.out], HB0.out.trans (hb3.mono (by omega))⟩
        case pos =>
        rw [decide_eq_true c1, decide_eq_true c2] at HY HZ
        go_wp2_with fail
        refine (need_t _ _ ?_).mono ?_
        · simp; try omega
        rintro e w' ⟨rfl, rfl⟩
        go_wp2_with fail
        refine (text_any z _ HC.out).mono ?_
        rintro e w3 ⟨he, hbt⟩
        obtain ⟨l0, l1, l2⟩ := nam_cells wr x y z 85 w3 ((hb'.trans (hbp.mono hb'.size)).trans (hbt.mono (Nat.le_trans hb'.size hz3)))
        have hb4 := hb3.trans (hbt.mono (show w.heap.size + 1 ≤ w2.heap.size by have := hb'.size; simp at this; omega))
        cases hn : textOk z
        · have he' : e = .panicked fault := by rw [he, hn]; rfl
          clear he
          subst he'
          have HQ := Lib.hid (HY.out (by rw [hn]; simp))
          clear hn
          go_wp2
          exact ⟨rfl, by rw [HQ.out], HB0.out.trans (hb4.mono (by omega))⟩
        have he' : e = .returned (.tuple #[]) := by rw [he, hn]; rfl
        clear he
        subst he'
        have HQ := Lib.hid (HZ.out (by rw [hn]; rfl))
        clear hn
        go_wp2
        go_quiet (fail)
        go_wp2
        go_roundw
        case rel => exact ⟨k + 1, rk, y, by omega, by go_num, rfl, rfl, HQ.out, below_drewN hb4 _⟩
        case measure => simp [intOf]; omega
      · have c1' : Hid (decide (r < rk) = false) := decide_eq_false c1
        by_cases c2 : rk = r
        · have c2' : Hid (decide (rk = r) = true) := decide_eq_true c2
          have t2 : (rk == r) = true := by simpa using c2
          clear c2
          by_cases c3 : a < y
          · have c3' : Hid (decide (a < y) = true) := decide_eq_true c3
            have HY : Hid (¬ ((decide (0 ≤ y) && decide (y < L) && textOk z) = true) → told (namesOk c) = .panicked fault) := fun e => HF'.out (by
              rw [c1'.out, c2'.out, c3'.out, Bool.false_or, Bool.true_and]; simp only [Bool.true_and]; simpa using e)
            have HZ : Hid ((decide (0 ≤ y) && decide (y < L) && textOk z) = true → through (nameStep c) (0, -1) (c.names.take (k + 1)) = some (rk, y)) := fun e => by
              rw [HX.out, c1'.out, c2'.out, c3'.out, Bool.false_or, Bool.true_and]; simp only [Bool.true_and]; rw [if_pos e]
            clear HX HF'
            go_wp2_with fail
            refine (need_t _ _ ?_).mono ?_
            · simp; try omega
            rintro e w' ⟨rfl, rfl⟩
            go_wp2_with fail
            refine (P.out).mono ?_
            rintro e w2 ⟨kf, cap, rfl, hbp, -, -⟩
            rw [HLn.out]
            obtain ⟨m0, m1, m2⟩ := nam_cells wr x y z 85 w2 (hb'.trans (hbp.mono hb'.size))
            have hb3 := hb2.trans (hbp.mono (show w.heap.size + 1 ≤ w1.heap.size by have := hb'.size; simp at this; omega))
            have hz3 := hbp.size
            by_cases c1 : 0 ≤ y
            case neg =>
              have d1 : decide (0 ≤ y) = false := by simpa using c1
              have HQ := Lib.hid (HY.out (by rw [d1]; simp))
              clear d1
              go_wp2_with fail
              refine (need_f _ _ ?_).mono ?_
              · simp; try omega
              rintro e w3 ⟨rfl, rfl⟩
              go_wp2
              exact ⟨rfl, by rw [HQ.out], HB0.out.trans (hb3.mono (by omega))⟩
            case pos =>
            by_cases c2 : y < L
            case neg =>
              have d1 : decide (y < L) = false := by simpa using c2
              have HQ := Lib.hid (HY.out (by rw [d1]; simp))
              clear d1
              go_wp2_with fail
              refine (need_f _ _ ?_).mono ?_
              · simp; try omega
              rintro e w3 ⟨rfl, rfl⟩
              go_wp2
              exact ⟨rfl, by rw [HQ.out], HB0.out.trans (hb3.mono (by omega))⟩
            case pos =>
            rw [decide_eq_true c1, decide_eq_true c2] at HY HZ
            go_wp2_with fail
            refine (need_t _ _ ?_).mono ?_
            · simp; try omega
            rintro e w' ⟨rfl, rfl⟩
            go_wp2_with fail
            refine (text_any z _ HC.out).mono ?_
            rintro e w3 ⟨he, hbt⟩
            obtain ⟨l0, l1, l2⟩ := nam_cells wr x y z 85 w3 ((hb'.trans (hbp.mono hb'.size)).trans (hbt.mono (Nat.le_trans hb'.size hz3)))
            have hb4 := hb3.trans (hbt.mono (show w.heap.size + 1 ≤ w2.heap.size by have := hb'.size; simp at this; omega))
            cases hn : textOk z
            · have he' : e = .panicked fault := by rw [he, hn]; rfl
              clear he
              subst he'
              have HQ := Lib.hid (HY.out (by rw [hn]; simp))
              clear hn
              go_wp2
              exact ⟨rfl, by rw [HQ.out], HB0.out.trans (hb4.mono (by omega))⟩
            have he' : e = .returned (.tuple #[]) := by rw [he, hn]; rfl
            clear he
            subst he'
            have HQ := Lib.hid (HZ.out (by rw [hn]; rfl))
            clear hn
            go_wp2
            go_quiet (fail)
            go_wp2
            go_roundw
            case rel => exact ⟨k + 1, rk, y, by omega, by go_num, rfl, rfl, HQ.out, below_drewN hb4 _⟩
            case measure => simp [intOf]; omega
          · have d3 : decide (a < y) = false := decide_eq_false c3
            have HQ := Lib.hid (HF'.out (by rw [c1'.out, d3]; simp))
            clear d3
            go_wp2_with fail
            refine (need_f _ _ ?_).mono ?_
            · simp; try omega
            rintro e w3 ⟨rfl, rfl⟩
            go_wp2
            exact ⟨rfl, by rw [HQ.out], HB0.out.trans (hb2.mono (by omega))⟩
        · have d2 : decide (rk = r) = false := decide_eq_false c2
          have t2 : (rk == r) = false := by simpa using c2
          have HQ := Lib.hid (HF'.out (by rw [c1'.out, d2]; simp))
          clear d2 c2
          go_wp2_with fail
          refine (need_f _ _ ?_).mono ?_
          · simp; try omega
          rintro e w3 ⟨rfl, rfl⟩
          go_wp2
          exact ⟨rfl, by rw [HQ.out], HB0.out.trans (hb2.mono (by omega))⟩
    · obtain rfl : k = c.names.length := by omega
      rw [List.take_of_length_le (Nat.le_refl _)] at HN
      go_wp2
      go_end0
      exact ⟨by unfold namesOk; rw [HN.out]; rfl, hbw⟩
end Go.Proofs.Ytfglgapocmnfpaa.Cw
