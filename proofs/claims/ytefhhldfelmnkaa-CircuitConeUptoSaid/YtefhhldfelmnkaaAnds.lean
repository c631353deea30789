/- The gates by their variables, as a map holds them: of several of one variable the first. No condition. -/
import Derived.Test.YtefhhldfelmnkaaCone
import Derived.Test.YtefhhldfelmnkaaGates
namespace Go.Proofs.Ytefhhldfelmnkaa.Cw
open Go.ChangeShapes Go.WideShapes Go.ChangeAt Go.RowKit Go.Maps Circ

def triD {H : Type} (t : Tri) : DataW H := .agg [.lit (.int .i64 t.a), .lit (.int .i64 t.b), .lit (.int .i64 t.c)]
def triElem {H : Type} : Value → Option (DataW H × List MemPlace)
  | .agg cs => match cs.toList with
    | [.int .i64 a, .int .i64 b, .int .i64 c] => some (triD ⟨a, b, c⟩, [])
    | _ => none
  | _ => none
theorem triElem_mk {H : Type} (t : Tri) : triElem (H := H) (triV t) = some (triD t, []) := rfl
theorem triElem_inv {H : Type} {v : Value} {z : DataW H × List MemPlace} (h : triElem v = some z) : ∃ t, v = triV t ∧ z = (triD t, []) := by
  unfold triElem at h
  split at h
  · split at h
    · rename_i cs a b c he
      refine ⟨⟨a, b, c⟩, ?_, (Option.some.inj h).symm⟩
      unfold triV
      congr 1
      exact Array.toList_inj.1 (by simpa using he)
    · cases h
  · cases h
theorem triD_inj {H : Type} {s t : Tri} (h : triD (H := H) s = triD t) : s = t := by
  unfold triD at h
  cases s; cases t
  simp at h
  simp [h]
theorem zero40 (w : World) : (zeroValue 40).run Try.prog w = .ok (triV ⟨0, 0, 0⟩) w := by kernel_rfl

/-- block B is a map of what F tells -/
def IsAnds (w : World) (B : Nat) (F : Int → Option Tri) (N : Nat) : Prop :=
  ∃ n D, w.ownsMap Try.prog 3 (triElem (H := Unit)) B n D ∧ n ≤ N ∧ ∀ x, I64 x → Maps.has D (.int .i64 x) = (F x).isSome ∧ ∀ t, F x = some t → ∀ zd, D.atKey (.int .i64 x) zd = triD t
theorem IsAnds.made (w : World) : IsAnds (w.alloc (.map #[] 0)) w.heap.size (fun _ => none) 0 :=
  ⟨0, _, World.ownsMap_made w _ _ _, Nat.le_refl _, fun _ _ => ⟨rfl, fun _ h => by cases h⟩⟩
theorem IsAnds.lt {w : World} {B N : Nat} {F : Int → Option Tri} (h : IsAnds w B F N) : B < w.heap.size := by
  obtain ⟨n, D, h1, _⟩ := h; exact h1.lt
theorem IsAnds.keep {w w' : World} {B N : Nat} {F : Int → Option Tri} (h : IsAnds w B F N) (hb : w'.heap[B]? = w.heap[B]?) : IsAnds w' B F N := by
  obtain ⟨n, D, ⟨es, cl, h0, r⟩, h2⟩ := h
  exact ⟨n, D, ⟨es, cl, hb.trans h0, r⟩, h2⟩
theorem IsAnds.below {w w' : World} {B C N : Nat} {F : Int → Option Tri} (h : IsAnds w B F N) (hb : Below C w w') (hC : B < C) : IsAnds w' B F N := h.keep (hb.block B hC)
theorem IsAnds.alloc {w : World} {B N : Nat} {F : Int → Option Tri} (h : IsAnds w B F N) (o : Obj) : IsAnds (w.alloc o) B F N := h.keep (Below.heap_alloc w o B h.lt)
theorem IsAnds.drew {w : World} {B N : Nat} {F : Int → Option Tri} (h : IsAnds w B F N) : IsAnds w.drew B F N := h
theorem IsAnds.same {w : World} {B N : Nat} {F G : Int → Option Tri} (h : IsAnds w B F N) (e : ∀ x, G x = F x) {M : Nat} (hM : N ≤ M) : IsAnds w B G M := by
  obtain ⟨n, D, h1, h2, h3⟩ := h
  exact ⟨n, D, h1, Nat.le_trans h2 hM, fun x hx => by rw [e x]; exact h3 x hx⟩
theorem IsAnds.look {w : World} {B N : Nat} {F : Int → Option Tri} (h : IsAnds w B F N) {x : Int} (hx : I64 x) :
    ∃ u, (Instr.lookup 62 (.map (some B)) (.int .i64 x) true).run Try.prog w = .ok (.tuple #[triV u, .bool (F x).isSome]) w ∧ ∀ t, F x = some t → u = t := by
  obtain ⟨n, D, h1, _, h3⟩ := h
  obtain ⟨v, ps, hr, hv⟩ := h1.look_ok key3 Try.underlying62 (zero40 w) (triElem_mk ⟨0, 0, 0⟩) (key_of hx)
  obtain ⟨u, rfl, hz⟩ := triElem_inv hv
  rw [(h3 x hx).1] at hr
  refine ⟨u, hr, fun t ht => ?_⟩
  have e := (h3 x hx).2 t ht
  have e2 := congrArg Prod.fst hz
  simp only [e] at e2
  exact (triD_inj e2).symm
theorem IsAnds.store {w : World} {B N : Nat} {F : Int → Option Tri} (h : IsAnds w B F N) {x : Int} (hx : I64 x) (t : Tri) (hn : N < 9223372036854775807) :
    ∃ w', (Instr.mapUpdate 62 (.map (some B)) (.int .i64 x) (triV t)).run Try.prog w = .ok () w' ∧ IsAnds w' B (fun y => if y = x then some t else F y) (N + 1) ∧ w.grownBy w' (some B) := by
  obtain ⟨n, D, h1, h2, h3⟩ := h
  obtain ⟨w', hr, h4, h5⟩ := h1.store key3 Try.underlying62 (by unfold maxLen; omega) (key_of hx) (triElem_mk t)
  refine ⟨w', hr, ⟨n + 1, _, h4, by omega, fun y hy => ?_⟩, h5.grown⟩
  by_cases e : y = x
  · subst e
    refine ⟨?_, fun t' ht' zd => ?_⟩
    · rw [has_put_same h1.isMap (key3.key (key_of hx))]; simp
    · rw [atKey_put_same h1.isMap (key3.key (key_of hx))]
      simp at ht'; rw [ht']
  · refine ⟨?_, fun t' ht' zd => ?_⟩
    · rw [has_put_other (by simpa using e), (h3 y hy).1]; simp [e]
    · rw [atKey_put_other (by simpa using e)]
      simp only [if_neg e] at ht'
      exact (h3 y hy).2 t' ht' zd
theorem IsAnds.ne_ {w : World} {B N g o : Nat} {F : Int → Option Tri} {v : Value} (h : IsAnds w B F N) (hc : w.cell? ⟨g, o, none⟩ = some v) : g ≠ B := by
  rintro rfl
  obtain ⟨n, D, ⟨es, cl, h0, _⟩, _⟩ := h
  simp [World.cell?, h0] at hc

set_option maxHeartbeats 2000000 in
set_option maxRecDepth 100000 in
theorem first_any (c : Cir) (s : Places) (w : World) (h : CLies w w.heap.size c s) (hf : CFits c s) :
    Calls Try.prog 36 #[cirV c s] w fun e w' => (∃ B, e = .returned (.map (some B)) ∧ w.heap.size ≤ B ∧ IsAnds w' B (andOf c.ands) c.ands.length) ∧ Below w.heap.size w w' := by
  have hmm := @run_makeMap Try.prog
  have la := hf.la
  have hb1 : Below w.heap.size w (w.alloc (.cells (cirC c s) 27)) := (Below.refl _ _).alloc (Nat.le_refl _) _
  have hs1 : (w.alloc (.cells (cirC c s) 27)).heap.size = w.heap.size + 1 := by simp
  have hA := IsAnds.made (w.alloc (.cells (cirC c s) 27))
  rw [hs1] at hA
  have HA := Lib.hid (hA.same (G := andOf (c.ands.take 0)) (fun _ => rfl) (Nat.le_refl _))
  have HB := Lib.hid (hb1.alloc hb1.size (.map #[] 0))
  have c6 : ((w.alloc (.cells (cirC c s) 27)).alloc (.map #[] 0)).cell? ⟨w.heap.size, 6, none⟩ = some (.slice s.aa c.ands.length s.ka) := by
    rw [World.cell?_alloc_lt _ _ _ (by rw [hs1]; exact Nat.lt_succ_self _), new_cell]; rfl
  have H := Lib.hid h
  have HF := Lib.hid hf
  clear h hf hA hb1 hs1
  unfold cirV cirC at *
  go_enter Try.func36, Try.ntmps36
  go_wp2
  go_loopw [12] (fun i wr => ∃ k : Nat, k ≤ c.ands.length ∧ i = .int .i64 k ∧ IsAnds wr (w.heap.size + 1) (andOf (c.ands.take k)) k ∧ Below w.heap.size w wr) (fun i _ => c.ands.length - (intOf i).toNat)
  case atStart => exact ⟨0, Nat.zero_le _, rfl, HA.out, HB.out⟩
  case round =>
    obtain ⟨k, hk, rfl, hAn, hb⟩ := hrel
    have HAn := Lib.hid hAn; clear hAn
    have HBn := Lib.hid hb; clear hb
    by_cases hlt : k < c.ands.length
    · obtain ⟨b, o, ha, hbb, hx0, hx1, hx2⟩ := (H.out.ands.below HBn.out).tri hlt
      have HX := Lib.hid (andOf_snoc c.ands k hlt)
      have hfit := HF.out.ands c.ands[k] (List.getElem_mem _)
      have hfa := hfit.1
      have hk1 : I64 (cnt c.ands[k].a / 2) := by obtain ⟨b0, b1⟩ := cnt_bd _ hfa.2; unfold I64; omega
      have V := Lib.hid (fun w => var_any c.ands[k].a w hfa.2)
      generalize hF : andOf (c.ands.take k) = F at *
      generalize s.aa = A at *
      subst ha
      generalize ht : c.ands[k] = t at *
      have HTT := Lib.hid ht
      obtain ⟨x, y, z⟩ := t
      clear hfit hfa ht
      simp only [] at hx0 hx1 hx2 hk1 V HX
      have HA2 := Lib.hid (HAn.out.alloc (.cells #[.int .i64 x, .int .i64 y, .int .i64 z] 40))
      obtain ⟨u, hl, hu⟩ := HA2.out.look hk1
      obtain ⟨n0, n1, n2⟩ := tri_cells wr x y z 40 _ (Below.refl _ _)
      have HB2 := Lib.hid (HBn.out.alloc HBn.out.size (.cells #[.int .i64 x, .int .i64 y, .int .i64 z] 40))
      obtain ⟨ux, uy, uz⟩ := u
      have HA3 := Lib.hid (HA2.out.alloc (.cells #[.int .i64 ux, .int .i64 uy, .int .i64 uz] 40))
      have HB3 := Lib.hid (HB2.out.alloc HB2.out.size (.cells #[.int .i64 ux, .int .i64 uy, .int .i64 uz] 40))
      cases hq : F (cnt x / 2)
      case some t0 =>
        have HN : Hid (∀ v, andOf (c.ands.take (k + 1)) v = F v) := fun v => by
          rw [HX.out v]
          by_cases e : cnt x / 2 = v
          · rw [← e, hq]; rfl
          · simp [e]
        rw [hq] at hl
        simp only [triV, Option.isSome_some] at hl
        clear hq hu
        generalize cnt x / 2 = r at *
        go_wp2_with (go_at_call 38; refine (V.out _).mono ?_; rintro e w' ⟨rfl, rfl⟩)
        go_roundw
        case rel => exact ⟨k + 1, by omega, by go_num, HA3.out.same HN.out (by omega), HB3.out⟩
        case measure => simp [intOf]; omega
      case none =>
        have HN : Hid (∀ v, andOf (c.ands.take (k + 1)) v = if v = cnt x / 2 then some ⟨x, y, z⟩ else F v) := fun v => by
          rw [HX.out v]
          by_cases e : cnt x / 2 = v
          · rw [← e, hq]; simp
          · rw [if_neg e, if_neg (fun e' => e e'.symm)]; simp
        rw [hq] at hl
        simp only [triV, Option.isSome_none] at hl
        clear hq hu
        generalize cnt x / 2 = r at *
        obtain ⟨w4, hst, hA4, hg4⟩ := IsAnds.store HA3.out.drew hk1 ⟨x, y, z⟩ (by omega)
        simp only [triV] at hst
        have hal : ∀ {p u}, (wr.alloc (.cells #[.int .i64 x, .int .i64 y, .int .i64 z] 40)).cell? p = some u → ((wr.alloc (.cells #[.int .i64 x, .int .i64 y, .int .i64 z] 40)).alloc (.cells #[.int .i64 ux, .int .i64 uy, .int .i64 uz] 40)).cell? p = some u := fun h => cell_later ((Below.refl _ _).alloc (Nat.le_refl _) _) h
        have m0 := hal n0
        have m1 := hal n1
        have m2 := hal n2
        have g0 := grow_cell hg4 m0 (HA3.out.ne_ m0)
        have g1 := grow_cell hg4 m1 (HA3.out.ne_ m1)
        have g2 := grow_cell hg4 m2 (HA3.out.ne_ m2)
        have HA4 := Lib.hid (hA4.same HN.out (Nat.le_refl _))
        have HB4 : Hid (Below w.heap.size w w4) := HB3.out.drew.trans (grown_below hg4 (by omega) HB3.out.drew.size)
        clear hal hA4 hg4
        go_wp2_with (go_at_call 38; refine (V.out _).mono ?_; rintro e w' ⟨rfl, rfl⟩)
        go_region_held3 (fun w' => w'.cell? ⟨wr.heap.size, 0, none⟩ = some (.int .i64 x) ∧ w'.cell? ⟨wr.heap.size, 1, none⟩ = some (.int .i64 y) ∧ w'.cell? ⟨wr.heap.size, 2, none⟩ = some (.int .i64 z))
          (first | exact ⟨m0, m1, m2⟩ | exact ⟨g0, g1, g2⟩)
          (first | (go_at_call 38; refine (V.out _).mono ?_; rintro e w' ⟨rfl, rfl⟩))
        all_goals
          go_wp2
          go_roundw
          case rel => exact ⟨k + 1, by omega, by go_num, HA4.out, HB4.out⟩
          case measure => simp [intOf]; omega
    · obtain rfl : k = c.ands.length := by omega
      rw [List.take_of_length_le (Nat.le_refl _)] at HAn
      have HD := Lib.hid (⟨⟨_, rfl, by omega, HAn.out⟩, HBn.out⟩ : (∃ B, Ending.returned (.map (some (w.heap.size + 1))) = .returned (.map (some B)) ∧ w.heap.size ≤ B ∧ IsAnds wr B (andOf c.ands) c.ands.length) ∧ Below w.heap.size w wr)
      clear HAn
      go_wp2
      go_ret
      exact HD.out
end Go.Proofs.Ytefhhldfelmnkaa.Cw
