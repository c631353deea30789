/- The gates by their variables, as a map holds them: of several of one variable the first. No condition. What ands have come to, as two maps hold it: of variables, and of pairs of literals. No condition. The walk of circuit's look at names; no condition. -/
import Derived.Test.YtbgcoeejmnejdaaPt03
import Derived.Test.YtbgcoeejmnejdaaPt07
import Derived.WideKeyArr
import Derived.Deep.Draws
namespace Go.Proofs.Ytbgcoeejmnejdaa.Cw
open Go.ChangeShapes Go.WideShapes Go.ChangeAt Go.RowKit Go.Maps Circ

def triD {H : Type} (t : Tri) : DataW H := .agg [.lit (.int .i64 t.a), .lit (.int .i64 t.b), .lit (.int .i64 t.c)]
def triElem {H : Type} : Value → Option (DataW H × List MemPlace)
  | .agg cs => match cs.toList with
    | [.int .i64 a, .int .i64 b, .int .i64 c] => some (triD ⟨a, b, c⟩, [])
    | _ => none
  | _ => none
theorem triElem_mk {H : Type} (t : Tri) : triElem (H := H) (triV t) = some (triD t, []) := rfl
theorem triElem_inv {H : Type} {v : Value} {z : DataW H × List MemPlace} (h : triElem v = some z) : ∃ t, v = triV t ∧ z = (triD t, []) := by
  unfold triElem at h
  split at h
  · split at h
    · rename_i cs a b c he
      refine ⟨⟨a, b, c⟩, ?_, (Option.some.inj h).symm⟩
      unfold triV
      congr 1
      exact Array.toList_inj.1 (by simpa using he)
    · cases h
  · cases h
theorem triD_inj {H : Type} {s t : Tri} (h : triD (H := H) s = triD t) : s = t := by
  unfold triD at h
  cases s; cases t
  simp at h
  simp [h]
theorem zero40 (w : World) : (zeroValue 43).run Try.prog w = .ok (triV ⟨0, 0, 0⟩) w := by kernel_rfl

/-- block B is a map of what F tells -/
def IsAnds (w : World) (B : Nat) (F : Int → Option Tri) (N : Nat) : Prop :=
  ∃ n D, w.ownsMap Try.prog 3 (triElem (H := Unit)) B n D ∧ n ≤ N ∧ ∀ x, I64 x → Maps.has D (.int .i64 x) = (F x).isSome ∧ ∀ t, F x = some t → ∀ zd, D.atKey (.int .i64 x) zd = triD t
theorem IsAnds.made (w : World) : IsAnds (w.alloc (.map #[] 0)) w.heap.size (fun _ => none) 0 :=
  ⟨0, _, World.ownsMap_made w _ _ _, Nat.le_refl _, fun _ _ => ⟨rfl, fun _ h => by cases h⟩⟩
theorem IsAnds.lt {w : World} {B N : Nat} {F : Int → Option Tri} (h : IsAnds w B F N) : B < w.heap.size := by
  obtain ⟨n, D, h1, _⟩ := h; exact h1.lt
theorem IsAnds.keep {w w' : World} {B N : Nat} {F : Int → Option Tri} (h : IsAnds w B F N) (hb : w'.heap[B]? = w.heap[B]?) : IsAnds w' B F N := by
  obtain ⟨n, D, ⟨es, cl, h0, r⟩, h2⟩ := h
  exact ⟨n, D, ⟨es, cl, hb.trans h0, r⟩, h2⟩
theorem IsAnds.below {w w' : World} {B C N : Nat} {F : Int → Option Tri} (h : IsAnds w B F N) (hb : Below C w w') (hC : B < C) : IsAnds w' B F N := h.keep (hb.block B hC)
theorem IsAnds.alloc {w : World} {B N : Nat} {F : Int → Option Tri} (h : IsAnds w B F N) (o : Obj) : IsAnds (w.alloc o) B F N := h.keep (Below.heap_alloc w o B h.lt)
theorem IsAnds.drew {w : World} {B N : Nat} {F : Int → Option Tri} (h : IsAnds w B F N) : IsAnds w.drew B F N := h
theorem IsAnds.same {w : World} {B N : Nat} {F G : Int → Option Tri} (h : IsAnds w B F N) (e : ∀ x, G x = F x) {M : Nat} (hM : N ≤ M) : IsAnds w B G M := by
  obtain ⟨n, D, h1, h2, h3⟩ := h
  exact ⟨n, D, h1, Nat.le_trans h2 hM, fun x hx => by rw [e x]; exact h3 x hx⟩
theorem IsAnds.look {w : World} {B N : Nat} {F : Int → Option Tri} (h : IsAnds w B F N) {x : Int} (hx : I64 x) :
    ∃ u, (Instr.lookup 155 (.map (some B)) (.int .i64 x) true).run Try.prog w = .ok (.tuple #[triV u, .bool (F x).isSome]) w ∧ ∀ t, F x = some t → u = t := by
  obtain ⟨n, D, h1, _, h3⟩ := h
  obtain ⟨v, ps, hr, hv⟩ := h1.look_ok key3 Try.underlying155 (zero40 w) (triElem_mk ⟨0, 0, 0⟩) (key_of hx)
  obtain ⟨u, rfl, hz⟩ := triElem_inv hv
  rw [(h3 x hx).1] at hr
  refine ⟨u, hr, fun t ht => ?_⟩
  have e := (h3 x hx).2 t ht
  have e2 := congrArg Prod.fst hz
  simp only [e] at e2
  exact (triD_inj e2).symm
theorem IsAnds.store {w : World} {B N : Nat} {F : Int → Option Tri} (h : IsAnds w B F N) {x : Int} (hx : I64 x) (t : Tri) (hn : N < 9223372036854775807) :
    ∃ w', (Instr.mapUpdate 155 (.map (some B)) (.int .i64 x) (triV t)).run Try.prog w = .ok () w' ∧ IsAnds w' B (fun y => if y = x then some t else F y) (N + 1) ∧ w.grownBy w' (some B) := by
  obtain ⟨n, D, h1, h2, h3⟩ := h
  obtain ⟨w', hr, h4, h5⟩ := h1.store key3 Try.underlying155 (by unfold maxLen; omega) (key_of hx) (triElem_mk t)
  refine ⟨w', hr, ⟨n + 1, _, h4, by omega, fun y hy => ?_⟩, h5.grown⟩
  by_cases e : y = x
  · subst e
    refine ⟨?_, fun t' ht' zd => ?_⟩
    · rw [has_put_same h1.isMap (key3.key (key_of hx))]; simp
    · rw [atKey_put_same h1.isMap (key3.key (key_of hx))]
      simp at ht'; rw [ht']
  · refine ⟨?_, fun t' ht' zd => ?_⟩
    · rw [has_put_other (by simpa using e), (h3 y hy).1]; simp [e]
    · rw [atKey_put_other (by simpa using e)]
      simp only [if_neg e] at ht'
      exact (h3 y hy).2 t' ht' zd
theorem IsAnds.ne_ {w : World} {B N g o : Nat} {F : Int → Option Tri} {v : Value} (h : IsAnds w B F N) (hc : w.cell? ⟨g, o, none⟩ = some v) : g ≠ B := by
  rintro rfl
  obtain ⟨n, D, ⟨es, cl, h0, _⟩, _⟩ := h
  simp [World.cell?, h0] at hc

set_option maxHeartbeats 2000000 in
set_option maxRecDepth 100000 in
theorem first_any (c : Cir) (s : Places) (w : World) (h : CLies w w.heap.size c s) (hf : CFits c s) :
    Calls Try.prog 132 #[cirV c s] w fun e w' => (∃ B, e = .returned (.map (some B)) ∧ w.heap.size ≤ B ∧ IsAnds w' B (andOf c.ands) c.ands.length) ∧ Below w.heap.size w w' := by
  have hmm := @run_makeMap Try.prog
  have la := hf.la
  have hb1 : Below w.heap.size w (w.alloc (.cells (cirC c s) 27)) := (Below.refl _ _).alloc (Nat.le_refl _) _
  have hs1 : (w.alloc (.cells (cirC c s) 27)).heap.size = w.heap.size + 1 := by simp
  have hA := IsAnds.made (w.alloc (.cells (cirC c s) 27))
  rw [hs1] at hA
  have HA := Lib.hid (hA.same (G := andOf (c.ands.take 0)) (fun _ => rfl) (Nat.le_refl _))
  have HB := Lib.hid (hb1.alloc hb1.size (.map #[] 0))
  have c6 : ((w.alloc (.cells (cirC c s) 27)).alloc (.map #[] 0)).cell? ⟨w.heap.size, 6, none⟩ = some (.slice s.aa c.ands.length s.ka) := by
    rw [World.cell?_alloc_lt _ _ _ (by rw [hs1]; exact Nat.lt_succ_self _), new_cell]; rfl
  have H := Lib.hid h
  have HF := Lib.hid hf
  clear h hf hA hb1 hs1
  unfold cirV cirC at *
  go_enter Try.func132, Try.ntmps132
  go_wp2
  go_loopw [12] (fun i wr => ∃ k : Nat, k ≤ c.ands.length ∧ i = .int .i64 k ∧ IsAnds wr (w.heap.size + 1) (andOf (c.ands.take k)) k ∧ Below w.heap.size w wr) (fun i _ => c.ands.length - (intOf i).toNat)
  case atStart => exact ⟨0, Nat.zero_le _, rfl, HA.out, HB.out⟩
  case round =>
    obtain ⟨k, hk, rfl, hAn, hb⟩ := hrel
    have HAn := Lib.hid hAn; clear hAn
    have HBn := Lib.hid hb; clear hb
    by_cases hlt : k < c.ands.length
    · obtain ⟨b, o, ha, hbb, hx0, hx1, hx2⟩ := (H.out.ands.below HBn.out).tri hlt
      have HX := Lib.hid (andOf_snoc c.ands k hlt)
      have hfit := HF.out.ands c.ands[k] (List.getElem_mem _)
      have hfa := hfit.1
      have hk1 : I64 (cnt c.ands[k].a / 2) := by obtain ⟨b0, b1⟩ := cnt_bd _ hfa.2; unfold I64; omega
      have V := Lib.hid (fun w => var_any c.ands[k].a w hfa.2)
      generalize hF : andOf (c.ands.take k) = F at *
      generalize s.aa = A at *
      subst ha
      generalize ht : c.ands[k] = t at *
      have HTT := Lib.hid ht
      obtain ⟨x, y, z⟩ := t
      clear hfit hfa ht
      simp only [] at hx0 hx1 hx2 hk1 V HX
      have HA2 := Lib.hid (HAn.out.alloc (.cells #[.int .i64 x, .int .i64 y, .int .i64 z] 43))
      obtain ⟨u, hl, hu⟩ := HA2.out.look hk1
      obtain ⟨n0, n1, n2⟩ := tri_cells wr x y z 43 _ (Below.refl _ _)
      have HB2 := Lib.hid (HBn.out.alloc HBn.out.size (.cells #[.int .i64 x, .int .i64 y, .int .i64 z] 43))
      obtain ⟨ux, uy, uz⟩ := u
      have HA3 := Lib.hid (HA2.out.alloc (.cells #[.int .i64 ux, .int .i64 uy, .int .i64 uz] 43))
      have HB3 := Lib.hid (HB2.out.alloc HB2.out.size (.cells #[.int .i64 ux, .int .i64 uy, .int .i64 uz] 43))
      cases hq : F (cnt x / 2)
      case some t0 =>
        have HN : Hid (∀ v, andOf (c.ands.take (k + 1)) v = F v) := fun v => by
          rw [HX.out v]
          by_cases e : cnt x / 2 = v
          · rw [← e, hq]; rfl
          · simp [e]
        rw [hq] at hl
        simp only [triV, Option.isSome_some] at hl
        clear hq hu
        generalize cnt x / 2 = r at *
        go_wp2_with (go_at_call 59; refine (V.out _).mono ?_; rintro e w' ⟨rfl, rfl⟩)
        go_roundw
        case rel => exact ⟨k + 1, by omega, by go_num, HA3.out.same HN.out (by omega), HB3.out⟩
        case measure => simp [intOf]; omega
      case none =>
        have HN : Hid (∀ v, andOf (c.ands.take (k + 1)) v = if v = cnt x / 2 then some ⟨x, y, z⟩ else F v) := fun v => by
          rw [HX.out v]
          by_cases e : cnt x / 2 = v
          · rw [← e, hq]; simp
          · rw [if_neg e, if_neg (fun e' => e e'.symm)]; simp
        rw [hq] at hl
        simp only [triV, Option.isSome_none] at hl
        clear hq hu
        generalize cnt x / 2 = r at *
        obtain ⟨w4, hst, hA4, hg4⟩ := IsAnds.store HA3.out.drew hk1 ⟨x, y, z⟩ (by omega)
        simp only [triV] at hst
        have hal : ∀ {p u}, (wr.alloc (.cells #[.int .i64 x, .int .i64 y, .int .i64 z] 43)).cell? p = some u → ((wr.alloc (.cells #[.int .i64 x, .int .i64 y, .int .i64 z] 43)).alloc (.cells #[.int .i64 ux, .int .i64 uy, .int .i64 uz] 43)).cell? p = some u := fun h => cell_later ((Below.refl _ _).alloc (Nat.le_refl _) _) h
        have m0 := hal n0
        have m1 := hal n1
        have m2 := hal n2
        have g0 := grow_cell hg4 m0 (HA3.out.ne_ m0)
        have g1 := grow_cell hg4 m1 (HA3.out.ne_ m1)
        have g2 := grow_cell hg4 m2 (HA3.out.ne_ m2)
        have HA4 := Lib.hid (hA4.same HN.out (Nat.le_refl _))
        have HB4 : Hid (Below w.heap.size w w4) := HB3.out.drew.trans (grown_below hg4 (by omega) HB3.out.drew.size)
        clear hal hA4 hg4
        go_wp2_with (go_at_call 59; refine (V.out _).mono ?_; rintro e w' ⟨rfl, rfl⟩)
        go_region_held3 (fun w' => w'.cell? ⟨wr.heap.size, 0, none⟩ = some (.int .i64 x) ∧ w'.cell? ⟨wr.heap.size, 1, none⟩ = some (.int .i64 y) ∧ w'.cell? ⟨wr.heap.size, 2, none⟩ = some (.int .i64 z))
          (first | exact ⟨m0, m1, m2⟩ | exact ⟨g0, g1, g2⟩)
          (first | (go_at_call 59; refine (V.out _).mono ?_; rintro e w' ⟨rfl, rfl⟩))
        all_goals
          go_wp2
          go_roundw
          case rel => exact ⟨k + 1, by omega, by go_num, HA4.out, HB4.out⟩
          case measure => simp [intOf]; omega
    · obtain rfl : k = c.ands.length := by omega
      rw [List.take_of_length_le (Nat.le_refl _)] at HAn
      have HD := Lib.hid (⟨⟨_, rfl, by omega, HAn.out⟩, HBn.out⟩ : (∃ B, Ending.returned (.map (some (w.heap.size + 1))) = .returned (.map (some B)) ∧ w.heap.size ≤ B ∧ IsAnds wr B (andOf c.ands) c.ands.length) ∧ Below w.heap.size w wr)
      clear HAn
      go_wp2
      go_ret
      exact HD.out
end Go.Proofs.Ytbgcoeejmnejdaa.Cw
namespace Go.Proofs.Ytbgcoeejmnejdaa.Str
open Go.ChangeShapes Go.WideShapes Go.ChangeAt Go.RowKit Go.Maps Circ Cw

def litD {H : Type} (s : Int) : DataW H := .lit (.int .i64 s)
theorem litD_inj {H : Type} {s t : Int} (h : litD (H := H) s = litD t) : s = t := by unfold litD at h; simpa using h
noncomputable def litE {H : Type} : Value → Option (DataW H × List MemPlace) := plainElem Try.prog 3
theorem litE_mk {H : Type} {s : Int} (hs : I64 s) : litE (H := H) (.int .i64 s) = some (litD s, []) := plainElem_int Try.underlying3 (wf64 hs)
theorem litE_inv {H : Type} {v : Value} {z : DataW H × List MemPlace} (h : litE v = some z) : ∃ s, v = .int .i64 s ∧ z = (litD s, []) := by
  obtain ⟨a, h1, h2, _⟩ := plainElem_int_inv Try.underlying3 h
  exact ⟨a, h1, h2⟩
theorem zero3 (w : World) : (zeroValue 3).run Try.prog w = .ok (.int .i64 0) w := by kernel_rfl

/-- block B is a map of what F tells of variables -/
def IsVars (w : World) (B : Nat) (F : Int → Option Int) (N : Nat) : Prop :=
  ∃ n D, w.ownsMap Try.prog 3 (litE (H := Unit)) B n D ∧ n ≤ N ∧ ∀ x, I64 x → Maps.has D (.int .i64 x) = (F x).isSome ∧ ∀ t, F x = some t → ∀ zd, D.atKey (.int .i64 x) zd = litD t
theorem IsVars.made (w : World) : IsVars (w.alloc (.map #[] 0)) w.heap.size (fun _ => none) 0 :=
  ⟨0, _, World.ownsMap_made w _ _ _, Nat.le_refl _, fun _ _ => ⟨rfl, fun _ h => by cases h⟩⟩
theorem IsVars.lt {w : World} {B N : Nat} {F : Int → Option Int} (h : IsVars w B F N) : B < w.heap.size := by
  obtain ⟨n, D, h1, _⟩ := h; exact h1.lt
theorem IsVars.keep {w w' : World} {B N : Nat} {F : Int → Option Int} (h : IsVars w B F N) (hb : w'.heap[B]? = w.heap[B]?) : IsVars w' B F N := by
  obtain ⟨n, D, ⟨es, cl, h0, r⟩, h2⟩ := h
  exact ⟨n, D, ⟨es, cl, hb.trans h0, r⟩, h2⟩
theorem IsVars.look {w : World} {B N : Nat} {F : Int → Option Int} (h : IsVars w B F N) {x : Int} (hx : I64 x) :
    ∃ u, (Instr.lookup 74 (.map (some B)) (.int .i64 x) true).run Try.prog w = .ok (.tuple #[.int .i64 u, .bool (F x).isSome]) w ∧ ∀ t, F x = some t → u = t := by
  obtain ⟨n, D, h1, _, h3⟩ := h
  obtain ⟨v, ps, hr, hv⟩ := h1.look_ok key3 Try.underlying74 (zero3 w) (litE_mk ⟨by omega, by omega⟩) (key_of hx)
  obtain ⟨u, rfl, hz⟩ := litE_inv hv
  rw [(h3 x hx).1] at hr
  refine ⟨u, hr, fun t ht => ?_⟩
  have e := (h3 x hx).2 t ht
  have e2 := congrArg Prod.fst hz
  simp only [e] at e2
  exact (litD_inj e2).symm
theorem IsVars.store {w : World} {B N : Nat} {F : Int → Option Int} (h : IsVars w B F N) {x : Int} (hx : I64 x) (t : Int) (ht : I64 t) (hn : N < 9223372036854775807) :
    ∃ w', (Instr.mapUpdate 74 (.map (some B)) (.int .i64 x) (.int .i64 t)).run Try.prog w = .ok () w' ∧ IsVars w' B (fun y => if y = x then some t else F y) (N + 1) ∧ w.grownBy w' (some B) := by
  obtain ⟨n, D, h1, h2, h3⟩ := h
  obtain ⟨w', hr, h4, h5⟩ := h1.store key3 Try.underlying74 (by unfold maxLen; omega) (key_of hx) (litE_mk ht)
  refine ⟨w', hr, ⟨n + 1, _, h4, by omega, fun y hy => ?_⟩, h5.grown⟩
  by_cases e : y = x
  · subst e
    refine ⟨?_, fun t' ht' zd => ?_⟩
    · rw [has_put_same h1.isMap (key3.key (key_of hx))]; simp
    · rw [atKey_put_same h1.isMap (key3.key (key_of hx))]
      simp at ht'; rw [ht']
  · refine ⟨?_, fun t' ht' zd => ?_⟩
    · rw [has_put_other (by simpa using e), (h3 y hy).1]; simp [e]
    · rw [atKey_put_other (by simpa using e)]
      simp only [if_neg e] at ht'
      exact (h3 y hy).2 t' ht' zd
theorem IsVars.ne_ {w : World} {B N g o : Nat} {F : Int → Option Int} {v : Value} (h : IsVars w B F N) (hc : w.cell? ⟨g, o, none⟩ = some v) : g ≠ B := by
  rintro rfl
  obtain ⟨n, D, ⟨es, cl, h0, _⟩, _⟩ := h
  simp [World.cell?, h0] at hc

/- pairs of literals as keys -/
theorem pcells : Try.prog.cellsOf 154 = 2 := by kernel_rfl
theorem icells : Try.prog.cellsOf 3 = 1 := by kernel_rfl
theorem keyP : Keyed Try.prog 154 := Keyed.of_law (WideMaps.ArrKey.law (e := 3) (n := 2) ⟨Try.underlying154, by kernel_rfl, icells, pcells⟩)
def pairV (a b : Int) : Value := .agg #[.int .i64 a, .int .i64 b]
def pairK (a b : Int) : Lit := .string (keyBytes [.int .i64 a, .int .i64 b])
theorem pair_formed (a b : Int) : (pairV a b).formed Try.prog 154 = true := by simp [pairV, Value.formed, Try.underlying154, pcells]
theorem pair_key {a b : Int} (ha : I64 a) (hb : I64 b) : keyOf Try.prog 154 (pairV a b) = some (pairK a b) := by
  have hkt : Try.prog.keyType 154 = true := by kernel_rfl
  have hm : ∃ m, Try.prog.types.size + 1 = m + 2 := ⟨Try.prog.types.size - 1, by have : 1 ≤ Try.prog.types.size := of_decide_eq_true (by kernel_rfl); omega⟩
  obtain ⟨m, hm⟩ := hm
  have wa := wf64 ha
  have wb := wf64 hb
  have one : ∀ x : Int, (Lit.int .i64 x).wf = true → Try.prog.keyLits (m + 1) 3 [.int .i64 x] = some [.int .i64 x] := fun x hx => by
    unfold Program.keyLits
    rw [Try.underlying3]
    simp [hx]
  have two : Try.prog.keyLits (m + 2) 154 [.int .i64 a, .int .i64 b] = some [.int .i64 a, .int .i64 b] := by
    unfold Program.keyLits
    rw [Try.underlying154]
    simp only [pcells, icells, List.length_cons, List.length_nil]
    rw [if_pos trivial]
    have e0 := one a wa
    have e1 := one b wb
    simp [List.range, List.range.loop, e0, e1]
  unfold keyOf
  rw [Try.underlying154]
  simp only
  rw [hkt, pair_formed, hm]
  simp only [Bool.and_self, if_true]
  rw [show (pairV a b).cells.toList = [.int .i64 a, .int .i64 b] from rfl, two]
  rfl
theorem pair_inj {a b c d : Int} (ha : I64 a) (hb : I64 b) (hc : I64 c) (hd : I64 d) (h : pairK a b = pairK c d) : a = c ∧ b = d := by
  have := keyP.inj (pair_key ha hb) (h ▸ pair_key hc hd)
  simp [pairV] at this
  exact this
/-- block B is a map of what G tells of pairs -/
def IsPairs (w : World) (B : Nat) (G : Int × Int → Option Int) (N : Nat) : Prop :=
  ∃ n D, w.ownsMap Try.prog 154 (litE (H := Unit)) B n D ∧ n ≤ N ∧ ∀ x y, I64 x → I64 y → Maps.has D (pairK x y) = (G (x, y)).isSome ∧ ∀ t, G (x, y) = some t → ∀ zd, D.atKey (pairK x y) zd = litD t
theorem IsPairs.made (w : World) : IsPairs (w.alloc (.map #[] 0)) w.heap.size (fun _ => none) 0 :=
  ⟨0, _, World.ownsMap_made w _ _ _, Nat.le_refl _, fun _ _ _ _ => ⟨rfl, fun _ h => by cases h⟩⟩
theorem IsPairs.lt {w : World} {B N : Nat} {G : Int × Int → Option Int} (h : IsPairs w B G N) : B < w.heap.size := by
  obtain ⟨n, D, h1, _⟩ := h; exact h1.lt
theorem IsPairs.keep {w w' : World} {B N : Nat} {G : Int × Int → Option Int} (h : IsPairs w B G N) (hb : w'.heap[B]? = w.heap[B]?) : IsPairs w' B G N := by
  obtain ⟨n, D, ⟨es, cl, h0, r⟩, h2⟩ := h
  exact ⟨n, D, ⟨es, cl, hb.trans h0, r⟩, h2⟩
theorem IsPairs.look {w : World} {B N : Nat} {G : Int × Int → Option Int} (h : IsPairs w B G N) {x y : Int} (hx : I64 x) (hy : I64 y) :
    ∃ u, (Instr.lookup 75 (.map (some B)) (pairV x y) true).run Try.prog w = .ok (.tuple #[.int .i64 u, .bool (G (x, y)).isSome]) w ∧ ∀ t, G (x, y) = some t → u = t := by
  obtain ⟨n, D, h1, _, h3⟩ := h
  obtain ⟨v, ps, hr, hv⟩ := h1.look_ok keyP Try.underlying75 (zero3 w) (litE_mk ⟨by omega, by omega⟩) (pair_key hx hy)
  obtain ⟨u, rfl, hz⟩ := litE_inv hv
  rw [(h3 x y hx hy).1] at hr
  refine ⟨u, hr, fun t ht => ?_⟩
  have e := (h3 x y hx hy).2 t ht
  have e2 := congrArg Prod.fst hz
  simp only [e] at e2
  exact (litD_inj e2).symm
theorem IsPairs.store {w : World} {B N : Nat} {G : Int × Int → Option Int} (h : IsPairs w B G N) {x y : Int} (hx : I64 x) (hy : I64 y) (t : Int) (ht : I64 t) (hn : N < 9223372036854775807) :
    ∃ w', (Instr.mapUpdate 75 (.map (some B)) (pairV x y) (.int .i64 t)).run Try.prog w = .ok () w' ∧ IsPairs w' B (fun p => if p = (x, y) then some t else G p) (N + 1) ∧ w.grownBy w' (some B) := by
  obtain ⟨n, D, h1, h2, h3⟩ := h
  obtain ⟨w', hr, h4, h5⟩ := h1.store keyP Try.underlying75 (by unfold maxLen; omega) (pair_key hx hy) (litE_mk ht)
  refine ⟨w', hr, ⟨n + 1, _, h4, by omega, fun a b ha hb => ?_⟩, h5.grown⟩
  by_cases e : (a, b) = (x, y)
  · simp only [Prod.mk.injEq] at e
    obtain ⟨rfl, rfl⟩ := e
    refine ⟨?_, fun t' ht' zd => ?_⟩
    · rw [has_put_same h1.isMap (keyP.key (pair_key hx hy))]; simp
    · rw [atKey_put_same h1.isMap (keyP.key (pair_key hx hy))]
      simp at ht'; rw [ht']
  · have hne : pairK a b ≠ pairK x y := fun h => e (by obtain ⟨h1, h2⟩ := pair_inj ha hb hx hy h; rw [h1, h2])
    refine ⟨?_, fun t' ht' zd => ?_⟩
    · rw [has_put_other hne, (h3 a b ha hb).1]
      show _ = (if (a, b) = (x, y) then some t else G (a, b)).isSome
      rw [if_neg e]
    · rw [atKey_put_other hne]
      simp only [if_neg e] at ht'
      exact (h3 a b ha hb).2 t' ht' zd
theorem IsPairs.ne_ {w : World} {B N g o : Nat} {G : Int × Int → Option Int} {v : Value} (h : IsPairs w B G N) (hc : w.cell? ⟨g, o, none⟩ = some v) : g ≠ B := by
  rintro rfl
  obtain ⟨n, D, ⟨es, cl, h0, _⟩, _⟩ := h
  simp [World.cell?, h0] at hc
end Go.Proofs.Ytbgcoeejmnejdaa.Str
namespace Go.Proofs.Ytbgcoeejmnejdaa.Cw
open Go.ChangeShapes Go.WideShapes Go.ChangeAt Go.RowKit Go.Maps Circ

def nameStep (c : Cir) (p : Int × Int) (n : Nam) : Option (Int × Int) :=
  if ((decide (p.1 < rankV n.kind) || (decide (rankV n.kind = p.1) && decide (p.2 < n.num))) && (decide (0 ≤ n.num) && decide (n.num < ((kindLits c n.kind).length : Int))) && textOk n.text) = true then some (rankV n.kind, n.num) else none
def namesOk (c : Cir) : Bool := (through (nameStep c) (0, -1) c.names).isSome

theorem nam_cells (w : World) (k : ByteArray) (b : Int) (x : ByteArray) (t : TypeId) (w' : World) (hb : Below (w.alloc (.cells #[.string k, .int .i64 b, .string x] t)).heap.size (w.alloc (.cells #[.string k, .int .i64 b, .string x] t)) w') :
    w'.cell? ⟨w.heap.size, 0, none⟩ = some (.string k) ∧ w'.cell? ⟨w.heap.size, 1, none⟩ = some (.int .i64 b) ∧ w'.cell? ⟨w.heap.size, 2, none⟩ = some (.string x) := by
  have hs : (w.alloc (.cells #[.string k, .int .i64 b, .string x] t)).heap.size = w.heap.size + 1 := by simp
  have h : ∀ i, w'.cell? ⟨w.heap.size, i, none⟩ = (#[.string k, .int .i64 b, .string x] : Array Value)[i]? := fun i => by
    rw [hb.cell (by rw [hs]; exact Nat.lt_succ_self _), new_cell]
  exact ⟨h 0, h 1, h 2⟩

theorem below_drewN {B : Nat} {a w : World} (h : Below B a w) (n : Nat) : Below B a (w.drewN n) := ⟨h.os, h.tape, h.output, h.size, h.block⟩

set_option maxHeartbeats 4000000 in
set_option maxRecDepth 100000 in
theorem names_any (c : Cir) (s : Places) (w : World) (h : CLies w w.heap.size c s) (hf : CFits c s) :
    Calls Try.prog 91 #[cirV c s] w fun e w' => e = told (namesOk c) ∧ Below w.heap.size w w' := by
  have ln := hf.ln
  have H := Lib.hid h
  have HF := Lib.hid hf
  have PP := Lib.hid (fun x w1 hb => pins_any c s x w1 hb hf)
  clear h hf
  unfold cirV cirC at *
  go_enter Try.func91, Try.ntmps91
  go_wp2
  go_loopw [2, 3, 12] (fun p a i wr => ∃ (k : Nat) (r q : Int), k ≤ c.names.length ∧ i = .int .i64 k ∧ p = .int .i64 r ∧ a = .int .i64 q ∧ through (nameStep c) (0, -1) (c.names.take k) = some (r, q) ∧ Below (w.heap.size + 1) (w.alloc (.cells (cirC c s) 27)) wr) (fun _ _ i _ => c.names.length - (intOf i).toNat)
  case atStart => exact ⟨0, 0, -1, Nat.zero_le _, rfl, rfl, rfl, rfl, Below.refl _ _⟩
  case round =>
    obtain ⟨k, r, a, hk, rfl, rfl, rfl, hno, hb⟩ := hrel
    have HN := Lib.hid hno; clear hno
    have HB0 : Hid (Below w.heap.size w (w.alloc (.cells (cirC c s) 27))) := (Below.refl _ _).alloc (Nat.le_refl _) _
    have hbw : Below w.heap.size w wr := HB0.out.trans (hb.mono (by omega))
    have hwz : w.heap.size + 1 ≤ wr.heap.size := by have := hb.size; rw [show (w.alloc (.cells (cirC c s) 27)).heap.size = w.heap.size + 1 by simp] at this; exact this
    by_cases hlt : k < c.names.length
    · obtain ⟨b, o, ha, hbb, hx0, hx1, hx2⟩ := (H.out.names.below hbw).nam hlt
      obtain ⟨fa, fb, fc⟩ := HF.out.names c.names[k] (List.getElem_mem _)
      have hX := through_snoc (nameStep c) (0, -1) (r, a) c.names k hlt HN.out
      have hS := through_stop (nameStep c) (0, -1) c.names (k + 1)
      have hok : nameStep c (r, a) c.names[k] = if ((decide (r < rankV c.names[k].kind) || (decide (rankV c.names[k].kind = r) && decide (a < c.names[k].num))) && (decide (0 ≤ c.names[k].num) && decide (c.names[k].num < ((kindLits c c.names[k].kind).length : Int))) && textOk c.names[k].text) = true then some (rankV c.names[k].kind, c.names[k].num) else none := rfl
      rw [hok] at hX
      have HX := Lib.hid hX
      have HS := Lib.hid hS
      clear hok hX hS
      have HAn : Hid (s.an = some ⟨b, o, none⟩) := ha
      rw [ha]
      clear ha
      generalize c.names[k].kind = x at *
      generalize c.names[k].num = y at *
      generalize c.names[k].text = z at *
      have hb1 := hb.alloc hwz (.cells #[.string x, .int .i64 y, .string z] 84)
      have HC : Hid (z.size ≤ 9223372036854775807) := by unfold Hid; omega
      clear fa fb fc
      obtain ⟨L, hLn⟩ : ∃ L, ((kindLits c x).length : Int) = L := ⟨_, rfl⟩
      rw [hLn] at HX
      have HLn := Lib.hid hLn; clear hLn
      go_wp2_with fail
      refine (rankof_any x _).mono ?_
      rintro e w1 ⟨rfl, hb'⟩
      generalize rankV x = rk at *
      obtain ⟨n0, n1, n2⟩ := nam_cells wr x y z 84 w1 hb'
      have hb2 := hb1.trans (hb'.mono (show w.heap.size + 1 ≤ _ by have := hb1.size; simp at this ⊢; omega))
      obtain ⟨e0, e1, e2, e3, e4, e5, e6, e7⟩ := ((Box.made w c s).keep hb2 (Nat.lt_succ_self _)).cells
      rw [HAn.out] at e7
      have P := PP.out x w1 ((H.out.below (HB0.out.trans (hb2.mono (by omega)))).more (by have := hb2.size; simp at this; omega))
      rw [HAn.out] at P
      have HP := Lib.hid P
      clear P
      rename Hid (Calls _ _ _ _ _) => P
      have hF : ∀ (_ : ¬ (((decide (r < rk) || (decide (rk = r) && decide (a < y))) && (decide (0 ≤ y) && decide (y < L)) && textOk z) = true)), told (namesOk c) = .panicked fault := fun e => by
        unfold namesOk; rw [HS.out (by rw [HX.out, if_neg e])]; rfl
      have HF' := Lib.hid hF
      clear hF
      by_cases c1 : r < rk
      · have g : Hid (decide (r < rk) = true) := decide_eq_true c1
        have HY : Hid (¬ ((decide (0 ≤ y) && decide (y < L) && textOk z) = true) → told (namesOk c) = .panicked fault) := fun e => HF'.out (by
          rw [g.out, Bool.true_or]; simp only [Bool.true_and]; simpa using e)
        have HZ : Hid ((decide (0 ≤ y) && decide (y < L) && textOk z) = true → through (nameStep c) (0, -1) (c.names.take (k + 1)) = some (rk, y)) := fun e => by
          rw [HX.out, g.out, Bool.true_or]; simp only [Bool.true_and]; rw [if_pos e]
        clear HX HF'
        go_wp2_with fail
        refine (need_t _ _ ?_).mono ?_
        · simp; try omega
        rintro e w' ⟨rfl, rfl⟩
        go_wp2_with fail
        refine (P.out).mono ?_
        rintro e w2 ⟨kf, cap, rfl, hbp, -, -⟩
        rw [HLn.out]
        obtain ⟨m0, m1, m2⟩ := nam_cells wr x y z 84 w2 (hb'.trans (hbp.mono hb'.size))
        have hb3 := hb2.trans (hbp.mono (show w.heap.size + 1 ≤ w1.heap.size by have := hb'.size; simp at this; omega))
        have hz3 := hbp.size
        by_cases c1 : 0 ≤ y
        case neg =>
          have d1 : decide (0 ≤ y) = false := by simpa using c1
          have HQ := Lib.hid (HY.out (by rw [d1]; simp))
          clear d1
          go_wp2_with fail
          refine (need_f _ _ ?_).mono ?_
          · simp; try omega
          rintro e w3 ⟨rfl, rfl⟩
          go_wp2
          exact ⟨rfl, by rw [HQ.out], HB0.out.trans (hb3.mono (by omega))⟩
        case pos =>
        by_cases c2 : y < L
        case neg =>
          have d1 : decide (y < L) = false := by simpa using c2
          have HQ := Lib.hid (HY.out (by rw [d1]; simp))
          clear d1
          go_wp2_with fail
          refine (need_f _ _ ?_).mono ?_
          · simp; try omega
          rintro e w3 ⟨rfl, rfl⟩
          go_wp2
          exact ⟨rfl, by rw [HQ.out], HB0.out.trans (hb3.mono (by omega))⟩
        case pos =>
        rw [decide_eq_true c1, decide_eq_true c2] at HY HZ
        go_wp2_with fail
        refine (need_t _ _ ?_).mono ?_
        · simp; try omega
        rintro e w' ⟨rfl, rfl⟩
        go_wp2_with fail
        refine (text_any z _ HC.out).mono ?_
        rintro e w3 ⟨he, hbt⟩
        obtain ⟨l0, l1, l2⟩ := nam_cells wr x y z 84 w3 ((hb'.trans (hbp.mono hb'.size)).trans (hbt.mono (Nat.le_trans hb'.size hz3)))
        have hb4 := hb3.trans (hbt.mono (show w.heap.size + 1 ≤ w2.heap.size by have := hb'.size; simp at this; omega))
        cases hn : textOk z
        · have he' : e = .panicked fault := by rw [he, hn]; rfl
          clear he
          subst he'
          have HQ := Lib.hid (HY.out (by rw [hn]; simp))
          clear hn
          go_wp2
          exact ⟨rfl, by rw [HQ.out], HB0.out.trans (hb4.mono (by omega))⟩
        have he' : e = .returned (.tuple #[]) := by rw [he, hn]; rfl
        clear he
        subst he'
        have HQ := Lib.hid (HZ.out (by rw [hn]; rfl))
        clear hn
        go_wp2
        go_quiet (fail)
        go_wp2
        go_roundw
        case rel => exact ⟨k + 1, rk, y, by omega, by go_num, rfl, rfl, HQ.out, below_drewN hb4 _⟩
        case measure => simp [intOf]; omega
      · have c1' : Hid (decide (r < rk) = false) := decide_eq_false c1
        by_cases c2 : rk = r
        · have c2' : Hid (decide (rk = r) = true) := decide_eq_true c2
          have t2 : (rk == r) = true := by simpa using c2
          clear c2
          by_cases c3 : a < y
          · have c3' : Hid (decide (a < y) = true) := decide_eq_true c3
            have HY : Hid (¬ ((decide (0 ≤ y) && decide (y < L) && textOk z) = true) → told (namesOk c) = .panicked fault) := fun e => HF'.out (by
              rw [c1'.out, c2'.out, c3'.out, Bool.false_or, Bool.true_and]; simp only [Bool.true_and]; simpa using e)
            have HZ : Hid ((decide (0 ≤ y) && decide (y < L) && textOk z) = true → through (nameStep c) (0, -1) (c.names.take (k + 1)) = some (rk, y)) := fun e => by
              rw [HX.out, c1'.out, c2'.out, c3'.out, Bool.false_or, Bool.true_and]; simp only [Bool.true_and]; rw [if_pos e]
            clear HX HF'
            go_wp2_with fail
            refine (need_t _ _ ?_).mono ?_
            · simp; try omega
            rintro e w' ⟨rfl, rfl⟩
            go_wp2_with fail
            refine (P.out).mono ?_
            rintro e w2 ⟨kf, cap, rfl, hbp, -, -⟩
            rw [HLn.out]
            obtain ⟨m0, m1, m2⟩ := nam_cells wr x y z 84 w2 (hb'.trans (hbp.mono hb'.size))
            have hb3 := hb2.trans (hbp.mono (show w.heap.size + 1 ≤ w1.heap.size by have := hb'.size; simp at this; omega))
            have hz3 := hbp.size
            by_cases c1 : 0 ≤ y
            case neg =>
              have d1 : decide (0 ≤ y) = false := by simpa using c1
              have HQ := Lib.hid (HY.out (by rw [d1]; simp))
              clear d1
              go_wp2_with fail
              refine (need_f _ _ ?_).mono ?_
              · simp; try omega
              rintro e w3 ⟨rfl, rfl⟩
              go_wp2
              exact ⟨rfl, by rw [HQ.out], HB0.out.trans (hb3.mono (by omega))⟩
            case pos =>
            by_cases c2 : y < L
            case neg =>
              have d1 : decide (y < L) = false := by simpa using c2
              have HQ := Lib.hid (HY.out (by rw [d1]; simp))
              clear d1
              go_wp2_with fail
              refine (need_f _ _ ?_).mono ?_
              · simp; try omega
              rintro e w3 ⟨rfl, rfl⟩
              go_wp2
              exact ⟨rfl, by rw [HQ.out], HB0.out.trans (hb3.mono (by omega))⟩
            case pos =>
            rw [decide_eq_true c1, decide_eq_true c2] at HY HZ
            go_wp2_with fail
            refine (need_t _ _ ?_).mono ?_
            · simp; try omega
            rintro e w' ⟨rfl, rfl⟩
            go_wp2_with fail
            refine (text_any z _ HC.out).mono ?_
            rintro e w3 ⟨he, hbt⟩
            obtain ⟨l0, l1, l2⟩ := nam_cells wr x y z 84 w3 ((hb'.trans (hbp.mono hb'.size)).trans (hbt.mono (Nat.le_trans hb'.size hz3)))
            have hb4 := hb3.trans (hbt.mono (show w.heap.size + 1 ≤ w2.heap.size by have := hb'.size; simp at this; omega))
            cases hn : textOk z
            · have he' : e = .panicked fault := by rw [he, hn]; rfl
              clear he
              subst he'
              have HQ := Lib.hid (HY.out (by rw [hn]; simp))
              clear hn
              go_wp2
              exact ⟨rfl, by rw [HQ.out], HB0.out.trans (hb4.mono (by omega))⟩
            have he' : e = .returned (.tuple #[]) := by rw [he, hn]; rfl
            clear he
            subst he'
            have HQ := Lib.hid (HZ.out (by rw [hn]; rfl))
            clear hn
            go_wp2
            go_quiet (fail)
            go_wp2
            go_roundw
            case rel => exact ⟨k + 1, rk, y, by omega, by go_num, rfl, rfl, HQ.out, below_drewN hb4 _⟩
            case measure => simp [intOf]; omega
          · have d3 : decide (a < y) = false := decide_eq_false c3
            have HQ := Lib.hid (HF'.out (by rw [c1'.out, d3]; simp))
            clear d3
            go_wp2_with fail
            refine (need_f _ _ ?_).mono ?_
            · simp; try omega
            rintro e w3 ⟨rfl, rfl⟩
            go_wp2
            exact ⟨rfl, by rw [HQ.out], HB0.out.trans (hb2.mono (by omega))⟩
        · have d2 : decide (rk = r) = false := decide_eq_false c2
          have t2 : (rk == r) = false := by simpa using c2
          have HQ := Lib.hid (HF'.out (by rw [c1'.out, d2]; simp))
          clear d2 c2
          go_wp2_with fail
          refine (need_f _ _ ?_).mono ?_
          · simp; try omega
          rintro e w3 ⟨rfl, rfl⟩
          go_wp2
          exact ⟨rfl, by rw [HQ.out], HB0.out.trans (hb2.mono (by omega))⟩
    · obtain rfl : k = c.names.length := by omega
      rw [List.take_of_length_le (Nat.le_refl _)] at HN
      go_wp2
      go_end0
      exact ⟨by unfold namesOk; rw [HN.out]; rfl, hbw⟩
end Go.Proofs.Ytbgcoeejmnejdaa.Cw
