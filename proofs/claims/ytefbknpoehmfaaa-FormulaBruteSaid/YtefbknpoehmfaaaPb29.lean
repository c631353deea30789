/- slices.Concat of lists of clauses. Condition: together no more than Go lays (2^48 octets). -/
import Derived.Test.YtefbknpoehmfaaaPb24
import Derived.Test.YtefbknpoehmfaaaPb09
import Derived.Test.YtefbknpoehmfaaaPb06
import Derived.Lib.AppendZeros
import Derived.Laws.OwnMore
namespace Go.Proofs.Ytefbknpoehmfaaa.For
open Go.ChangeShapes Go.WideShapes Go.ChangeAt Go.RowKit Go.Maps Circ Cw Cla Rep

theorem cinfo : (Try.prog.info? 25).map (fun i => (i.zero, i.size, i.bytes)) = some (some (.slice none 0 0), 1, 24) := by kernel_rfl
def clz (L : List Clz) : List (List Value) := L.map Clz.cells
theorem clz_len (L : List Clz) : (clz L).length = L.length := by simp [clz]
theorem clz_app (L M : List Clz) : clz (L ++ M) = clz L ++ clz M := by simp [clz]
theorem clz_each (L : List Clz) : ∀ y ∈ clz L, y.length = 1 := fun y hy => by
  obtain ⟨z, -, rfl⟩ := List.mem_map.1 hy
  rfl
theorem clz_one (L : List Clz) : ∀ y ∈ clz L, ∀ u ∈ y, u.oneCell' = true := fun y hy u hu => by
  obtain ⟨z, -, rfl⟩ := List.mem_map.1 hy
  simp only [Clz.cells, List.mem_singleton] at hu
  subst hu; rfl
/-- there is room for all -/
def Room (T : Nat) (v : Value) (n : Nat) : Prop := T = 0 ∨ ∃ g cap, v = .slice (some ⟨g, 0, none⟩) n cap ∧ T ≤ cap
set_option maxHeartbeats 4000000 in
theorem cgrow_any (n : Nat) (hn : n * 24 ≤ 281474976710656) (w : World) :
    Calls Try.prog 55 #[.slice none 0 0, .int .i64 n] w fun e w' => (∃ v, e = .returned v ∧ OwnC w' w.heap.size 25 1 v [] ∧ Room n v 0) ∧ Below w.heap.size w w' := by
  have h0 : decide ((n : Int) < 0) = false := by simp
  by_cases hz : n = 0
  · subst hz
    go_enter Try.func55, Try.ntmps55
    go_wp2
    go_ret
    exact ⟨⟨_, rfl, OwnC.nil _ _ _ _, .inl rfl⟩, Below.refl _ _⟩
  · obtain ⟨i0, hi0, hz0, hz1, hz2⟩ := info_parts cinfo
    have hrun := fun ty => Lib.run_append_nil_zeros (P := Try.prog) w 22 3 ty 25 i0 (.slice none 0 0) .i64 .i64 Try.underlying22 Try.underlying3 hi0 hz0 n (by omega) (by rw [hz1]; decide) (by omega) (by rw [hz2]; exact hn)
    have hge := grownCap_ge w n 0 25
    have hle := grownCap_le_maxLen w n 0 25 (by unfold maxLen; omega)
    have hown : OwnC (w.drew.alloc (.cells (Builtin.zeroCells (Value.slice none 0 0).cells n ++ Builtin.zeroCells (Value.slice none 0 0).cells (grownCap w n 0 25 - n)) 25)) w.heap.size 25 1 (.slice (some ⟨w.heap.size, 0, none⟩) 0 (grownCap w n 0 25)) [] :=
      World.ownsRow_made w.drew _ _ (Nat.le_refl _) hle (by simp [Builtin.zeroCells, Value.cells]; omega)
    have hb : Below w.heap.size w (w.drew.alloc (.cells (Builtin.zeroCells (Value.slice none 0 0).cells n ++ Builtin.zeroCells (Value.slice none 0 0).cells (grownCap w n 0 25 - n)) 25)) := ((Below.refl _ _).drew).alloc (Nat.le_refl _) _
    have HRUN := Lib.hid hrun
    have HOW := Lib.hid hown
    have HB := Lib.hid hb
    have HGE := Lib.hid hge
    unfold maxLen at hle
    generalize grownCap w n 0 25 = cp at *
    generalize w.drew.alloc (.cells (Builtin.zeroCells (Value.slice none 0 0).cells n ++ Builtin.zeroCells (Value.slice none 0 0).cells (cp - n)) 25) = W1 at *
    clear hrun hown hb hi0 hz0 hz1 hz2
    have hpos : 0 < n := by omega
    have hn63 : n ≤ 11728124029610 := by omega
    clear hn
    go_enter Try.func55, Try.ntmps55
    go_wp2_with (at_builtin; refine Lib.wpList_append_run _ rfl (.tmp 20) (.tmp 21) 22 3 rfl (.slice none 0 0) (.int .i64 n) rfl rfl _ _ (HRUN.out _) ?_)
    go_wp2
    go_ret
    exact ⟨⟨_, rfl, HOW.out, .inr ⟨_, _, rfl, HGE.out⟩⟩, HB.out⟩
theorem cat_run (w : World) (base B : Nat) (v : Value) (xs L : List Clz) (A : Option Addr) (q T : Nat) (ho : OwnC w base 25 1 v (clz xs)) (hcap : Room T v xs.length) (hle : xs.length + L.length ≤ T) (hA : LRow w B 1 A (clz L)) (hb : base ≤ w.heap.size) :
    ∃ v' w', (∀ ty, (Builtin.append_ #[22, 22] ty #[v, .slice A L.length q]).run Try.prog w = .ok v' w') ∧ OwnC w' base 25 1 v' (clz (xs ++ L)) ∧ Below base w w' ∧ Room T v' (xs ++ L).length := by
  have hu : Try.prog.underlying 22 = some (.slice 25) := Try.underlying22
  rcases hcap with h0 | ⟨g, cap, rfl, hcp⟩
  · have hr : LRow w B 1 A (clz L) := hA
    obtain ⟨v', w', h1, h2, h3, -⟩ := run_append_row w base B 22 25 0 1 24 (.slice none 0 0) hu cinfo rfl (by decide) v (clz xs) (clz L) ho A q hr (clz_each L) (clz_one L) (by rw [clz_len, clz_len]; omega) (by rw [clz_len, clz_len]; omega) hb
    have hall := fun ty => run_append_row w base B 22 25 ty 1 24 (.slice none 0 0) hu cinfo rfl (by decide) v (clz xs) (clz L) ho A q hr (clz_each L) (clz_one L) (by rw [clz_len, clz_len]; omega) (by rw [clz_len, clz_len]; omega) hb
    rw [clz_len] at h1
    refine ⟨v', w', fun ty => ?_, by rw [clz_app]; exact h2, h3, .inl h0⟩
    exact h1
  · obtain ⟨i0, hi0, hz0, hz1, hz2⟩ := info_parts cinfo
    rcases A with _ | ad
    · have hL : L = [] := by
        rcases hA with h | ⟨b, o, h, -⟩
        · simpa [clz] using h
        · cases h
      subst hL
      refine ⟨_, w, fun ty => run_append_none w base 22 25 ty 1 24 (.slice none 0 0) hu cinfo _ (clz xs) ho q, by rw [List.append_nil]; exact ho, Below.refl _ _, .inr ⟨g, cap, by rw [List.append_nil], hcp⟩⟩
    · have hnews : ∀ j u, (clz L).flatten[j]? = some u → w.cell? (ad.add j) = some u := fun j u hj => by
        rcases hA with h | ⟨b, o, e, -, hc⟩
        · rw [h] at hj; simp at hj
        · obtain rfl := Option.some.inj e
          rw [flatten_at 1 (by decide) _ (clz_each L)] at hj
          cases hq : (clz L)[j / 1]? with
          | none => rw [hq] at hj; cases hj
          | some y =>
            rw [hq] at hj
            have h1 := hc (j / 1) y hq (j % 1) u hj
            have h3 : (⟨b, o, none⟩ : Addr).add j = ⟨b, o + (j / 1 * 1 + j % 1), none⟩ := by
              rw [show j / 1 * 1 + j % 1 = j by simp [Nat.mod_one]]
              unfold Addr.add
              by_cases hz : j = 0 <;> simp [hz]
            rw [h3]; exact h1
      have ho' := ho
      unfold OwnC at ho'
      rw [clz_len] at ho'
      have run := fun ty => run_append_fits (P := Try.prog) w base 22 ty 25 i0 1 hu hi0 hz1 g xs.length cap (clz xs).flatten ho' ad L.length q (clz L).flatten (by rw [flatten_len 1 _ (clz_each L), clz_len]) hnews (fun u hu => by
        obtain ⟨y, hy, hu'⟩ := List.mem_flatten.1 hu
        exact clz_one L y hy u hu') (by omega)
      obtain ⟨w', h1, h2, h3⟩ := run 0
      refine ⟨_, w', fun ty => h1, ?_, ?_, .inr ⟨g, cap, by rw [List.length_append], hcp⟩⟩
      · unfold OwnC
        rw [clz_len, clz_app, List.flatten_append, List.length_append]
        exact h2
      · exact (Below.refl _ _).grown h3 hb (fun j e => by cases e; exact (ho.block_lt g rfl).1)
/-- a list of clauses where it lies -/
structure RowC where
  A : Option Addr
  L : List Clz
  q : Nat
def RowC.val (r : RowC) : Value := .slice r.A r.L.length r.q
def allC (R : List RowC) : List Clz := (R.map RowC.L).flatten
theorem allC_snoc (R : List RowC) (k : Nat) (h : k < R.length) : allC (R.take (k + 1)) = allC (R.take k) ++ R[k].L := by
  unfold allC
  rw [List.take_succ_eq_append_getElem h, List.map_append, List.flatten_append]
  simp
theorem allC_le (R : List RowC) (k : Nat) : (allC (R.take k)).length ≤ (allC R).length := by
  have e : allC R = allC (R.take k) ++ allC (R.drop k) := by unfold allC; rw [← List.flatten_append, ← List.map_append, List.take_append_drop]
  rw [e, List.length_append]; omega
set_option maxHeartbeats 8000000 in
set_option maxRecDepth 100000 in
theorem cconcat_any (R : List RowC) (g c : Nat) (w : World) (hg : ∀ (i : Nat) (h : i < R.length), w.cell? ⟨g, i, none⟩ = some R[i].val) (hgl : g < w.heap.size) (hr : ∀ r ∈ R, LRow w w.heap.size 1 r.A (clz r.L)) (hL : R.length ≤ 1000) (hn : (allC R).length * 24 ≤ 281474976710656) :
    Calls Try.prog 41 #[.slice (some ⟨g, 0, none⟩) R.length c] w fun e w' => (∃ v, e = .returned v ∧ OwnC w' w.heap.size 25 1 v (clz (allC R))) ∧ Below w.heap.size w w' := by
  have HG : Hid (∀ x, Below w.heap.size w x → ∀ (i : Nat) (h : i < R.length), x.cell? ⟨g, i, none⟩ = some R[i].val) := fun x hx i h => (hx.cell hgl).trans (hg i h)
  have HR : Hid (∀ x, Below w.heap.size w x → ∀ r ∈ R, LRow x w.heap.size 1 r.A (clz r.L)) := fun x hx r hm => (hr r hm).below hx
  have hT : (allC R).length ≤ 11728124029610 := by omega
  have HN := Lib.hid hn
  clear hg hgl hr hn
  go_enter Try.func41, Try.ntmps41
  go_wp2
  go_loopw [11, 3] (fun i z wr => ∃ k : Nat, k ≤ R.length ∧ i = .int .i64 k ∧ z = .int .i64 (allC (R.take k)).length ∧ wr = w) (fun i _ _ => R.length - (intOf i).toNat)
  case atStart => exact ⟨0, Nat.zero_le _, rfl, rfl, rfl⟩
  case round =>
    obtain ⟨k, hk, rfl, rfl, rfl⟩ := hrel
    by_cases hlt : k < R.length
    · have hx := HG.out _ (Below.refl _ _) k hlt
      have HS := Lib.hid (allC_snoc R k hlt)
      have hle := allC_le R (k + 1)
      rw [HS.out, List.length_append] at hle
      generalize R[k] = r at *
      obtain ⟨A, l, q⟩ := r
      unfold RowC.val at hx
      simp only at hx hle
      generalize hsz : (allC (R.take k)).length = sz at *
      have hnn : decide (((sz : Int) + l.length) < 0) = false := by simp; omega
      go_wp2
      go_roundw
      case rel => exact ⟨k + 1, hlt, by go_num, by rw [HS.out, List.length_append, hsz]; simp, trivial⟩
      case measure => simp [intOf]; omega
    · obtain rfl : k = R.length := by omega
      rw [List.take_length]
      have GR := Lib.hid (cgrow_any (allC R).length HN.out wr)
      clear hlt hk
      go_wp2_with fail
      refine GR.out.mono ?_
      rintro e w1 ⟨⟨v0, rfl, how, hrm⟩, hb⟩
      have HO := Lib.hid how
      have HRM := Lib.hid hrm
      have HB := Lib.hid hb
      clear how hb GR hrm
      go_wp2
      obtain ⟨w0, rfl⟩ : ∃ x, x = wr := ⟨_, rfl⟩
      go_loopw [27, 6] (fun i z wr => ∃ (k : Nat) (v : Value), k ≤ R.length ∧ i = .int .i64 k ∧ z = v ∧ OwnC wr w0.heap.size 25 1 v (clz (allC (R.take k))) ∧ Room (allC R).length v (allC (R.take k)).length ∧ Below w0.heap.size w0 wr) (fun i _ _ => R.length - (intOf i).toNat)
      case atStart => exact ⟨0, v0, Nat.zero_le _, rfl, rfl, HO.out, HRM.out, HB.out⟩
      case round =>
        obtain ⟨k, v, hk, rfl, hzv, how, hrm, hb⟩ := hrel
        obtain rfl := hzv.symm
        have HOW := Lib.hid how
        have HRW := Lib.hid hrm
        have HBR := Lib.hid hb
        clear how hb hrm
        by_cases hlt : k < R.length
        · have hx := HG.out _ HBR.out k hlt
          have hrow := HR.out _ HBR.out R[k] (List.getElem_mem _)
          have HS := Lib.hid (allC_snoc R k hlt)
          have hle := allC_le R (k + 1)
          rw [HS.out, List.length_append] at hle
          generalize R[k] = r at *
          obtain ⟨A, l, q⟩ := r
          unfold RowC.val at hx
          simp only at hx hle hrow
          obtain ⟨v2, w2, hrun, hown2, hb2, hrm2⟩ := cat_run wr w0.heap.size w0.heap.size v (allC (R.take k)) l A q (allC R).length HOW.out HRW.out hle hrow HBR.out.size
          have HRUN := Lib.hid hrun
          have HO2 : Hid (OwnC w2 w0.heap.size 25 1 v2 (clz (allC (R.take (k + 1))))) := by unfold Hid; rw [HS.out]; exact hown2
          have HRM2 : Hid (Room (allC R).length v2 (allC (R.take (k + 1))).length) := by unfold Hid; rw [HS.out]; exact hrm2
          have HB2 : Hid (Below w0.heap.size w0 w2) := HBR.out.trans hb2
          clear hown2 hb2 hrm2 hrow hrun
          go_wp2_with (at_builtin; refine Lib.wpList_append_run _ rfl (.tmp 31) (.tmp 32) 22 22 rfl v (.slice A l.length q) rfl rfl _ _ (HRUN.out _) ?_)
          go_wp2
          go_roundw
          case rel => exact ⟨k + 1, v2, hlt, by go_num, rfl, HO2.out, HRM2.out, HB2.out⟩
          case measure => simp [intOf]; omega
        · obtain rfl : k = R.length := by omega
          have HE : Hid (OwnC wr w0.heap.size 25 1 v (clz (allC R))) := by have := HOW.out; rw [List.take_length] at this; exact this
          clear HOW
          go_wp2
          go_ret
          exact ⟨⟨v, rfl, HE.out⟩, HBR.out⟩
end Go.Proofs.Ytefbknpoehmfaaa.For
