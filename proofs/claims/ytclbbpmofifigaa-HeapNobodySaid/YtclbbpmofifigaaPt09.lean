/- heap's move by up and by down, empty, kept. Condition: what is told of the way holds of the places that it comes to. The landed heap as HeapRuns asks: what it holds, which blocks are its own, what its moves leave. Condition: at most 2^18 numbers. -/
import Derived.Test.YtclbbpmofifigaaPt08
namespace Go.Proofs.Ytclbbpmofifigaa.Hep
open Go.ChangeShapes Go.WideShapes Go.ChangeAt Go.RowKit Go.Maps Circ Cw Cla

set_option maxHeartbeats 8000000 in
set_option maxRecDepth 100000 in
theorem move_up {t : Nat} {vc vo : Value} {sc : List Int} (stp : List Int → Nat → Nat) (J : List Int → List Int → Nat → Prop) (mea : Nat → Nat)
    (hway : ∀ (w : World) (pl od : List Int) (a : Nat), Tree w t vc vo sc pl od → J pl od a → Calls Try.prog 22 #[.pointer (some ⟨t, 0, none⟩), .int .i64 (a : Int)] w fun e w' => e = .returned (.int .i64 (stp od a : Int)) ∧ Below w.heap.size w w')
    (hstep : ∀ (pl od : List Int) (a : Nat), J pl od a → stp od a ≠ 0 → a < od.length ∧ stp od a < od.length ∧ (0 ≤ at0 od a ∧ at0 od a < (sc.length : Int)) ∧ (0 ≤ at0 od (stp od a) ∧ at0 od (stp od a) < (sc.length : Int)) ∧ J ((pl.set (at0 od (stp od a)).toNat (a : Int)).set (at0 od a).toNat (stp od a : Int)) (swapL od a (stp od a)) (stp od a) ∧ mea (stp od a) < mea a)
    (a0 : Nat) (w : World) (pl od : List Int) (h : Tree w t vc vo sc pl od) (hJ : J pl od a0) :
    Calls Try.prog 21 #[.pointer (some ⟨t, 0, none⟩), .int .i64 (a0 : Int), .func (.func 22) #[] #[]] w fun e w' => e = .returned (.tuple #[]) ∧ ∃ pl' od' a', Tree w' t vc vo sc pl' od' ∧ J pl' od' a' ∧ stp od' a' = 0 ∧ Chg (TOwn t vc vo) w w' := by
  have HW := Lib.hid hway
  have HS := Lib.hid hstep
  have W0 := HW.out w pl od a0 h hJ
  have H0 := Lib.hid h
  have J0 := Lib.hid hJ
  clear hway hstep h hJ
  go_enter Try.func21, Try.ntmps21
  go_wp2_with fail
  refine W0.mono ?_
  rintro e w1 ⟨rfl, hb1⟩
  have H1 := Lib.hid (H0.out.below hb1)
  have K1 : Hid (Chg (TOwn t vc vo) w w1) := Chg.of_below hb1
  clear hb1 W0 H0
  go_wp2
  go_loopw [1, 6] (fun x y wr => ∃ (pl od : List Int) (a : Nat), x = .int .i64 (a : Int) ∧ y = .int .i64 (stp od a : Int) ∧ Tree wr t vc vo sc pl od ∧ J pl od a ∧ Chg (TOwn t vc vo) w wr) (fun x _ _ => mea (intOf x).toNat)
  case atStart => exact ⟨pl, od, a0, rfl, rfl, H1.out, J0.out, K1.out⟩
  case round =>
    clear H1 K1 J0
    obtain ⟨pl, od, a, rfl, rfl, h, hJ, hC⟩ := hrel
    have HR := Lib.hid h
    have JR := Lib.hid hJ
    have CR := Lib.hid hC
    clear h hJ hC
    by_cases hs : stp od a = 0
    · have HZ := Lib.hid hs
      rw [hs]
      clear hs
      go_wp2
      go_end0
      exact ⟨rfl, pl, od, a, HR.out, JR.out, HZ.out, CR.out⟩
    · obtain ⟨q1, q2, q3, q4, q5, q6⟩ := HS.out pl od a JR.out hs
      have SW := Lib.hid (swap_any HR.out a (stp od a) q1 q2 q3 q4)
      have JN := Lib.hid q5
      have MN := Lib.hid q6
      clear q1 q2 q3 q4 q5 q6
      obtain ⟨b, hb⟩ : ∃ b, stp od a = b := ⟨_, rfl⟩
      rw [hb] at SW JN MN hs ⊢
      have hp : (0 : Int) < (b : Int) := by omega
      clear hb hs
      go_wp2_with fail
      refine SW.out.mono ?_
      rintro e w2 ⟨rfl, T2, C2⟩
      have H2 := Lib.hid T2
      have K2 := Lib.hid (CR.out.trans C2 fun i hi => .inl hi)
      have WN := HW.out w2 _ _ b T2 JN.out
      clear T2 C2 SW
      go_wp2_with fail
      refine WN.mono ?_
      rintro e w3 ⟨rfl, hb3⟩
      have H3 := Lib.hid (H2.out.below hb3)
      have K3 : Hid (Chg (TOwn t vc vo) w w3) := K2.out.trans (Chg.of_below hb3 : Chg (TOwn t vc vo) w2 w3) fun i hi => .inl hi
      clear hb3 WN
      go_wp2
      go_roundw
      case rel => exact ⟨_, _, b, rfl, rfl, H3.out, JN.out, K3.out⟩
      case measure => simpa [intOf] using MN.out
set_option maxHeartbeats 8000000 in
set_option maxRecDepth 100000 in
theorem move_down {t : Nat} {vc vo : Value} {sc : List Int} (stp : List Int → Nat → Nat) (J : List Int → List Int → Nat → Prop) (mea : Nat → Nat)
    (hway : ∀ (w : World) (pl od : List Int) (a : Nat), Tree w t vc vo sc pl od → J pl od a → Calls Try.prog 24 #[.pointer (some ⟨t, 0, none⟩), .int .i64 (a : Int)] w fun e w' => e = .returned (.int .i64 (stp od a : Int)) ∧ Below w.heap.size w w')
    (hstep : ∀ (pl od : List Int) (a : Nat), J pl od a → stp od a ≠ 0 → a < od.length ∧ stp od a < od.length ∧ (0 ≤ at0 od a ∧ at0 od a < (sc.length : Int)) ∧ (0 ≤ at0 od (stp od a) ∧ at0 od (stp od a) < (sc.length : Int)) ∧ J ((pl.set (at0 od (stp od a)).toNat (a : Int)).set (at0 od a).toNat (stp od a : Int)) (swapL od a (stp od a)) (stp od a) ∧ mea (stp od a) < mea a)
    (a0 : Nat) (w : World) (pl od : List Int) (h : Tree w t vc vo sc pl od) (hJ : J pl od a0) :
    Calls Try.prog 21 #[.pointer (some ⟨t, 0, none⟩), .int .i64 (a0 : Int), .func (.func 24) #[] #[]] w fun e w' => e = .returned (.tuple #[]) ∧ ∃ pl' od' a', Tree w' t vc vo sc pl' od' ∧ J pl' od' a' ∧ stp od' a' = 0 ∧ Chg (TOwn t vc vo) w w' := by
  have HW := Lib.hid hway
  have HS := Lib.hid hstep
  have W0 := HW.out w pl od a0 h hJ
  have H0 := Lib.hid h
  have J0 := Lib.hid hJ
  clear hway hstep h hJ
  go_enter Try.func21, Try.ntmps21
  go_wp2_with fail
  refine W0.mono ?_
  rintro e w1 ⟨rfl, hb1⟩
  have H1 := Lib.hid (H0.out.below hb1)
  have K1 : Hid (Chg (TOwn t vc vo) w w1) := Chg.of_below hb1
  clear hb1 W0 H0
  go_wp2
  go_loopw [1, 6] (fun x y wr => ∃ (pl od : List Int) (a : Nat), x = .int .i64 (a : Int) ∧ y = .int .i64 (stp od a : Int) ∧ Tree wr t vc vo sc pl od ∧ J pl od a ∧ Chg (TOwn t vc vo) w wr) (fun x _ _ => mea (intOf x).toNat)
  case atStart => exact ⟨pl, od, a0, rfl, rfl, H1.out, J0.out, K1.out⟩
  case round =>
    clear H1 K1 J0
    obtain ⟨pl, od, a, rfl, rfl, h, hJ, hC⟩ := hrel
    have HR := Lib.hid h
    have JR := Lib.hid hJ
    have CR := Lib.hid hC
    clear h hJ hC
    by_cases hs : stp od a = 0
    · have HZ := Lib.hid hs
      rw [hs]
      clear hs
      go_wp2
      go_end0
      exact ⟨rfl, pl, od, a, HR.out, JR.out, HZ.out, CR.out⟩
    · obtain ⟨q1, q2, q3, q4, q5, q6⟩ := HS.out pl od a JR.out hs
      have SW := Lib.hid (swap_any HR.out a (stp od a) q1 q2 q3 q4)
      have JN := Lib.hid q5
      have MN := Lib.hid q6
      clear q1 q2 q3 q4 q5 q6
      obtain ⟨b, hb⟩ : ∃ b, stp od a = b := ⟨_, rfl⟩
      rw [hb] at SW JN MN hs ⊢
      have hp : (0 : Int) < (b : Int) := by omega
      clear hb hs
      go_wp2_with fail
      refine SW.out.mono ?_
      rintro e w2 ⟨rfl, T2, C2⟩
      have H2 := Lib.hid T2
      have K2 := Lib.hid (CR.out.trans C2 fun i hi => .inl hi)
      have WN := HW.out w2 _ _ b T2 JN.out
      clear T2 C2 SW
      go_wp2_with fail
      refine WN.mono ?_
      rintro e w3 ⟨rfl, hb3⟩
      have H3 := Lib.hid (H2.out.below hb3)
      have K3 : Hid (Chg (TOwn t vc vo) w w3) := K2.out.trans (Chg.of_below hb3 : Chg (TOwn t vc vo) w2 w3) fun i hi => .inl hi
      clear hb3 WN
      go_wp2
      go_roundw
      case rel => exact ⟨_, _, b, rfl, rfl, H3.out, JN.out, K3.out⟩
      case measure => simpa [intOf] using MN.out
theorem make1 (w : World) : (Instr.makeSlice 26 (.int .i64 1) (.int .i64 1)).run Try.prog w = .ok (.slice (some ⟨w.heap.size, 0, none⟩) 1 1) (w.alloc (.cells #[.int .i64 0] 3)) := by
  obtain ⟨i, hi, hz, hs, hb⟩ := info_parts info3
  have := run_make (P := Try.prog) w 26 3 i (.int .i64 0) Try.underlying26 hi hz .i64 .i64 1 1 (by omega) (by omega) (by rw [hb]; omega) (by omega)
  have e : madeCells #[.int .i64 0] 1 = #[.int .i64 0] := Array.toList_inj.1 (toList_madeCells_one _ _)
  rw [this, hs, ← e]
  rfl
theorem full1 (w : World) : OwnI (w.alloc (.cells #[.int .i64 0] 3)) 0 (.slice (some ⟨w.heap.size, 0, none⟩) 1 1) [0] :=
  World.ownsRow_lit (base := 0) (e := 3) (size := 1) w #[.int .i64 0] 1 (Nat.zero_le _) (by decide) rfl
set_option maxHeartbeats 4000000 in
set_option maxRecDepth 100000 in
/-- a tree of nothing, just made -/
theorem empty_any (w : World) : Calls Try.prog 17 #[] w fun e w' => ∃ t vo, e = .returned (.pointer (some ⟨t, 0, none⟩)) ∧ Tree w' t (.slice none 0 0) vo [] [] [0] ∧ w.heap.size ≤ t ∧ (∀ g, vo.ownBlock = some g → w.heap.size ≤ g) ∧ Below w.heap.size w w' := by
  obtain ⟨W1, hW1⟩ : ∃ y, w.alloc (.cells #[.int .i64 0] 3) = y := ⟨_, rfl⟩
  obtain ⟨W2, hW2⟩ : ∃ y, W1.alloc (.cells #[.slice none 0 0, .slice (some ⟨w.heap.size, 0, none⟩) 1 1] 49) = y := ⟨_, rfl⟩
  have b1 : Below w.heap.size w W1 := by rw [← hW1]; exact (Below.refl _ _).alloc (Nat.le_refl _) _
  have b2 : Below W1.heap.size W1 W2 := by rw [← hW2]; exact (Below.refl _ _).alloc (Nat.le_refl _) _
  have o1 : OwnI W1 0 (.slice (some ⟨w.heap.size, 0, none⟩) 1 1) [0] := by rw [← hW1]; exact full1 w
  have HT : Hid (Tree W2 W1.heap.size (.slice none 0 0) (.slice (some ⟨w.heap.size, 0, none⟩) 1 1) [] [] [0]) := by
    refine ⟨?_, rfl, World.ownsRow_nil _ _ _ _, o1.keep b2⟩
    rw [← hW2]
    exact Array.getElem?_push_size
  have HB : Hid (Below w.heap.size w W2) := b1.trans (b2.mono b1.size)
  have HS := Lib.hid b1.size
  have HZ : Hid (W1.heap.size = w.heap.size + 1) := by rw [← hW1]; exact World.size_alloc _ _
  have hmk := make1 w
  rw [hW1] at hmk
  clear b1 b2 o1
  go_enter Try.func17, Try.ntmps17
  go_wp2
  go_ret
  refine ⟨W1.heap.size, _, rfl, HT.out, HS.out, fun g hg => ?_, HB.out⟩
  have e : w.heap.size = g := by simpa [Value.ownBlock] using hg
  omega
/-- nobody's heap: none, or a struct of zeros -/
def NobH (w : World) (p : Value) : Prop := p = .pointer none ∨ ∃ g, p = .pointer (some ⟨g, 0, none⟩) ∧ w.heap[g]? = some (.cells #[.pointer none] 42 (0, 0))
set_option maxHeartbeats 4000000 in
set_option maxRecDepth 100000 in
theorem kept_nob (w : World) (p : Value) (h : NobH w p) : Calls Try.prog 18 #[p] w fun e w' => ∃ t vo, e = .returned (.pointer (some ⟨t, 0, none⟩)) ∧ Tree w' t (.slice none 0 0) vo [] [] [0] ∧ w.heap.size ≤ t ∧ (∀ g, vo.ownBlock = some g → w.heap.size ≤ g) ∧ Below w.heap.size w w' := by
  have EM := Lib.hid (empty_any w)
  rcases h with rfl | ⟨g, rfl, hg⟩
  · go_enter Try.func18, Try.ntmps18
    go_wp2_with fail
    refine EM.out.mono ?_
    rintro e w' ⟨t, vo, rfl, hr⟩
    have HR := Lib.hid hr
    clear hr
    go_wp2
    go_ret
    exact ⟨t, vo, rfl, HR.out⟩
  · have hc : w.cell? ⟨g, 0, none⟩ = some (.pointer none) := by rw [Lib.cell_of_heap hg]; rfl
    clear hg
    go_enter Try.func18, Try.ntmps18
    go_wp2_with fail
    refine EM.out.mono ?_
    rintro e w' ⟨t, vo, rfl, hr⟩
    have HR := Lib.hid hr
    clear hr
    go_wp2
    go_ret
    exact ⟨t, vo, rfl, HR.out⟩
set_option maxHeartbeats 4000000 in
set_option maxRecDepth 100000 in
theorem kept_any (w : World) (b t : Nat) (hg : w.heap[b]? = some (.cells #[.pointer (some ⟨t, 0, none⟩)] 42 (0, 0))) : Calls Try.prog 18 #[.pointer (some ⟨b, 0, none⟩)] w fun e w' => e = .returned (.pointer (some ⟨t, 0, none⟩)) ∧ w' = w := by
  have hc : w.cell? ⟨b, 0, none⟩ = some (.pointer (some ⟨t, 0, none⟩)) := by rw [Lib.cell_of_heap hg]; rfl
  clear hg
  go_enter Try.func18, Try.ntmps18
  go_wp2
  go_ret
  exact ⟨rfl, rfl⟩
end Go.Proofs.Ytclbbpmofifigaa.Hep
namespace Go.Proofs.Ytclbbpmofifigaa.Hep
open Go.ChangeShapes Go.WideShapes Go.ChangeAt Go.RowKit Go.Maps Circ Cw Cla

def BoxH (w : World) (b t : Nat) : Prop := w.heap[b]? = some (.cells #[.pointer (some ⟨t, 0, none⟩)] 42 (0, 0))
theorem BoxH.one {w : World} {b t s : Nat} (h : BoxH w b t) (k : BoxH w b s) : t = s := by
  unfold BoxH at *
  rw [h] at k
  injection k with k
  injection k with k
  simpa using k
def ownH (w : World) (b k : Nat) : Prop := ∃ t vc vo, BoxH w b t ∧ w.heap[t]? = some (.cells #[vc, vo] 49 (0, 0)) ∧ (k = b ∨ TOwn t vc vo k)
structure Holds (sc pl h ins : List Int) : Prop where
  g : Good sc.length pl (0 :: h)
  o : Ord sc h
  p : h.Perm ins
  n : sc.length ≤ 262144
  s : ∀ i, 0 ≤ at0 sc i ∧ at0 sc i ≤ 1125899906842624
def AtH (w : World) (b : Nat) (sc ins : List Int) : Prop := ∃ t vc vo pl h, BoxH w b t ∧ Tree w t vc vo sc pl (0 :: h) ∧ Holds sc pl h ins
def I14 : HeapI := ⟨AtH, ownH⟩
section
variable {w w' : World} {b t : Nat} {vc vo vc' vo' : Value} {sc pl od sc' pl' od' h ins : List Int}
theorem tree_one {vc2 vo2 : Value} (T : Tree w t vc vo sc pl od) (k : w.heap[t]? = some (.cells #[vc2, vo2] 49 (0, 0))) : vc2 = vc ∧ vo2 = vo := by
  have := T.box
  rw [k] at this
  injection this with this
  injection this with this
  injection this with this
  injection this with h1 h2
  injection h2 with h2
  exact ⟨h1, h2⟩
theorem own_iff (hb : BoxH w b t) (T : Tree w t vc vo sc pl od) (k : Nat) : ownH w b k ↔ (k = b ∨ TOwn t vc vo k) := by
  constructor
  · rintro ⟨t2, vc2, vo2, h1, h2, h3⟩
    obtain rfl := hb.one h1
    obtain ⟨rfl, rfl⟩ := tree_one T h2
    exact h3
  · exact fun h => ⟨t, vc, vo, hb, T.box, h⟩
theorem box_not (hb : BoxH w b t) (T : Tree w t vc vo sc pl od) : ¬ TOwn t vc vo b := by
  rintro (h | h | h)
  · exact types_apart hb T.box (by decide) h
  · obtain ⟨cur, hc⟩ := own_type T.oc h
    exact types_apart hb hc (by decide) rfl
  · obtain ⟨cur, hc⟩ := own_type T.oo h
    exact types_apart hb hc (by decide) rfl
theorem box_later (hb : BoxH w b t) (T : Tree w t vc vo sc pl od) (C : Chg (TOwn t vc vo) w w') : BoxH w' b t :=
  (C.other b (Array.getElem?_eq_some_iff.1 hb).1 (box_not hb T)).trans hb
theorem eff_of (hb : BoxH w b t) (T : Tree w t vc vo sc pl od) (C : Chg (TOwn t vc vo) w w') (T' : Tree w' t vc' vo' sc' pl' od')
    (hc : ∀ k, vc'.ownBlock = some k → vc.ownBlock = some k ∨ w.heap.size ≤ k) (ho : ∀ k, vo'.ownBlock = some k → vo.ownBlock = some k ∨ w.heap.size ≤ k) : Eff I14 w b w' := by
  refine ⟨C.os, C.tape, C.output, C.size, fun k hk hn => C.other k hk fun e => hn ((own_iff hb T k).2 (.inr e)), fun k hk => ?_⟩
  have hk' : ownH w' b k := hk
  rw [own_iff (box_later hb T C) T' k] at hk'
  show ownH w b k ∨ _
  rw [own_iff hb T k]
  rcases hk' with e | e | e | e
  · exact .inl (.inl e)
  · exact .inl (.inr (.inl e))
  · rcases hc k e with e | e
    · exact .inl (.inr (.inr (.inl e)))
    · exact .inr e
  · rcases ho k e with e | e
    · exact .inl (.inr (.inr (.inr e)))
    · exact .inr e
theorem eff_refl (I : HeapI) (w : World) (b : Nat) : Eff I w b w := ⟨rfl, rfl, rfl, Nat.le_refl _, fun _ _ _ => rfl, fun _ h => .inl h⟩
theorem at_keep (h : AtH w b sc ins) (hk : ∀ k, ownH w b k → w'.heap[k]? = w.heap[k]?) : AtH w' b sc ins ∧ ∀ k, ownH w' b k → ownH w b k := by
  obtain ⟨t, vc, vo, pl, h, hb, T, hh⟩ := h
  have hk' := fun k (e : k = b ∨ TOwn t vc vo k) => hk k ((own_iff hb T k).2 e)
  have hb' : BoxH w' b t := (hk' b (.inl rfl)).trans hb
  have T' := T.keep (w' := w') fun k e => hk' k (.inr e)
  exact ⟨⟨t, vc, vo, pl, h, hb', T', hh⟩, fun k e => (own_iff hb T k).2 ((own_iff hb' T' k).1 e)⟩
theorem at_lt (h : AtH w b sc ins) {k : Nat} (hk : ownH w b k) : k < w.heap.size := by
  obtain ⟨t, vc, vo, pl, h, hb, T, hh⟩ := h
  rcases (own_iff hb T k).1 hk with rfl | e
  · exact (Array.getElem?_eq_some_iff.1 hb).1
  · exact T.lt k e
theorem Holds.rng (H : Holds sc pl h ins) : Rng sc (0 :: h) := fun i hi il => ⟨(H.g.num i hi il).1, (H.g.num i hi il).2.1⟩
theorem has_perm {l : List Int} (hp : h.Perm l) (x : Int) : hasM h x = hasM l x := by
  unfold hasM
  rw [Bool.eq_iff_iff, List.any_eq_true, List.any_eq_true]
  exact ⟨fun ⟨y, hy, e⟩ => ⟨y, hp.mem_iff.1 hy, e⟩, fun ⟨y, hy, e⟩ => ⟨y, hp.mem_iff.2 hy, e⟩⟩
theorem Holds.has (H : Holds sc pl h ins) {m : Nat} (hm : m < sc.length) : hasM ins (m : Int) = decide (0 < at0 pl m) := by rw [← has_perm H.p, H.g.has hm]
theorem Holds.out (H : Holds sc pl h ins) {x : Int} (hx : ¬ (0 ≤ x ∧ x < (sc.length : Int))) : hasM ins x = false := by
  rw [← has_perm H.p]
  unfold hasM
  rw [List.any_eq_false]
  intro y hy e
  have := H.g.range y hy
  have : y = x := by simpa using e
  omega
theorem Holds.few (H : Holds sc pl h ins) : h.length ≤ 262144 := by
  have h1 := H.g.few
  have h2 := H.n
  rw [List.length_cons] at h1
  omega
end
theorem up_all {t : Nat} {vc vo : Value} {sc : List Int} (a : Nat) (w : World) (pl h : List Int) (T : Tree w t vc vo sc pl (0 :: h)) (G : Good sc.length pl (0 :: h)) (hn : sc.length ≤ 262144) (hu : (a = 0 ∧ Ord sc h) ∨ (0 < a ∧ a < h.length + 1 ∧ Up sc h (a - 1))) :
    Calls Try.prog 21 #[.pointer (some ⟨t, 0, none⟩), .int .i64 (a : Int), .func (.func 22) #[] #[]] w fun e w' => e = .returned (.tuple #[]) ∧ ∃ pl' h', Tree w' t vc vo sc pl' (0 :: h') ∧ Good sc.length pl' (0 :: h') ∧ Ord sc h' ∧ h'.Perm h ∧ Chg (TOwn t vc vo) w w' := by
  have key := move_up (t := t) (vc := vc) (vo := vo) (sc := sc) (upM sc) (fun pl od a => Good sc.length pl od ∧ ∃ h', od = 0 :: h' ∧ h'.Perm h ∧ ((a = 0 ∧ Ord sc h') ∨ (0 < a ∧ a < h'.length + 1 ∧ Up sc h' (a - 1)))) id
    (fun w pl od a T J => by
      obtain ⟨G, h', rfl, -, J⟩ := J
      have := G.few
      exact up_any T a (by rw [List.length_cons]; omega) (by omega) fun i hi il => ⟨(G.num i hi il).1, (G.num i hi il).2.1⟩)
    (fun pl od a J hs => by
      obtain ⟨G, h', rfl, hp, J⟩ := J
      rcases J with ⟨rfl, -⟩ | ⟨a0, al, u⟩
      · exact absurd (by unfold upM; rw [if_neg (by simp)]) hs
      · obtain ⟨e, e0, u'⟩ := up_step a0 al u hs
        rw [e]
        have r1 := G.num a a0 (by rw [List.length_cons]; exact al)
        have r2 := G.num (a / 2) e0 (by rw [List.length_cons]; omega)
        refine ⟨by rw [List.length_cons]; exact al, by rw [List.length_cons]; omega, ⟨r1.1, r1.2.1⟩, ⟨r2.1, r2.2.1⟩, ⟨G.swap a0 (by rw [List.length_cons]; exact al) e0 (by rw [List.length_cons]; omega), swapL h' (a - 1) (a / 2 - 1), ?_, (swap_perm (by omega) (by omega)).trans hp, .inr ⟨e0, by rw [swap_len]; omega, u'⟩⟩, by show a / 2 < a; omega⟩
        obtain ⟨k, rfl⟩ : ∃ k, a = k + 1 := ⟨a - 1, by omega⟩
        obtain ⟨j, hj⟩ : ∃ j, (k + 1) / 2 = j + 1 := ⟨(k + 1) / 2 - 1, by omega⟩
        rw [hj]
        rfl)
    a w pl (0 :: h) T ⟨G, h, rfl, List.Perm.refl _, hu⟩
  refine key.mono ?_
  rintro e w' ⟨rfl, pl', od', a', T', ⟨G', h', rfl, hp, J⟩, hz, C⟩
  refine ⟨rfl, pl', h', T', G', ?_, hp, C⟩
  rcases J with ⟨-, o⟩ | ⟨a0, al, u⟩
  · exact o
  · exact up_end a0 u hz
theorem down_all {t : Nat} {vc vo : Value} {sc : List Int} (a : Nat) (w : World) (pl h : List Int) (T : Tree w t vc vo sc pl (0 :: h)) (G : Good sc.length pl (0 :: h)) (hn : sc.length ≤ 262144) (a0 : 0 < a) (al : a < 262146) (hd : Down sc h (a - 1)) :
    Calls Try.prog 21 #[.pointer (some ⟨t, 0, none⟩), .int .i64 (a : Int), .func (.func 24) #[] #[]] w fun e w' => e = .returned (.tuple #[]) ∧ ∃ pl' h', Tree w' t vc vo sc pl' (0 :: h') ∧ Good sc.length pl' (0 :: h') ∧ Ord sc h' ∧ h'.Perm h ∧ Chg (TOwn t vc vo) w w' := by
  have key := move_down (t := t) (vc := vc) (vo := vo) (sc := sc) (downM sc) (fun pl od a => Good sc.length pl od ∧ ∃ h', od = 0 :: h' ∧ h'.Perm h ∧ 0 < a ∧ a < 262146 ∧ Down sc h' (a - 1)) (fun a => 262146 - a)
    (fun w pl od a T J => by
      obtain ⟨G, h', rfl, -, a0, al, -⟩ := J
      have := G.few
      exact down_any T a a0 al (by omega) (by simp) fun i hi il => ⟨(G.num i hi il).1, (G.num i hi il).2.1⟩)
    (fun pl od a J hs => by
      obtain ⟨G, h', rfl, hp, a0, al, d⟩ := J
      obtain ⟨e, e0, e1, d'⟩ := down_step a0 d hs
      rw [e]
      have hf := G.few
      rw [List.length_cons] at hf
      generalize down2 sc (0 :: h') a = c at *
      have r1 := G.num a a0 (by rw [List.length_cons]; omega)
      have r2 := G.num c (by omega) (by rw [List.length_cons]; omega)
      refine ⟨by rw [List.length_cons]; omega, by rw [List.length_cons]; omega, ⟨r1.1, r1.2.1⟩, ⟨r2.1, r2.2.1⟩, ⟨G.swap a0 (by rw [List.length_cons]; omega) (by omega) (by rw [List.length_cons]; omega), swapL h' (a - 1) (c - 1), ?_, (swap_perm (by omega) (by omega)).trans hp, by omega, by omega, d'⟩, by show 262146 - c < 262146 - a; omega⟩
      obtain ⟨k, rfl⟩ : ∃ k, a = k + 1 := ⟨a - 1, by omega⟩
      obtain ⟨j, rfl⟩ : ∃ j, c = j + 1 := ⟨c - 1, by omega⟩
      rfl)
    a w pl (0 :: h) T ⟨G, h, rfl, List.Perm.refl _, a0, al, hd⟩
  refine key.mono ?_
  rintro e w' ⟨rfl, pl', od', a', T', ⟨G', h', rfl, hp, a1, -, d⟩, hz, C⟩
  exact ⟨rfl, pl', h', T', G', down_end a1 d hz, hp, C⟩
end Go.Proofs.Ytclbbpmofifigaa.Hep
