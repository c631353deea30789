/- The walks of circuit's looks at latches and at ands; no condition. The gates by their variables, as a map holds them: of several of one variable the first. No condition. What ands have come to, as two maps hold it: of variables, and of pairs of literals. No condition. -/
import Derived.Test.YtfglgapocmnfpaaPt08
import Derived.Test.YtfglgapocmnfpaaPt03
import Derived.WideKeyArr
namespace Go.Proofs.Ytfglgapocmnfpaa.Cw
open Go.ChangeShapes Go.WideShapes Go.ChangeAt Go.RowKit Go.Maps Circ

/-- a state that goes from element to element, as long as each may be there -/
def through {σ α : Type} (f : σ → α → Option σ) : σ → List α → Option σ
  | p, [] => some p
  | p, x :: l => (f p x).bind fun q => through f q l
theorem through_append {σ α : Type} (f : σ → α → Option σ) : ∀ (a b : List α) (p : σ), through f p (a ++ b) = (through f p a).bind fun q => through f q b
  | [], _, _ => rfl
  | x :: a, b, p => by
    simp only [List.cons_append, through]
    cases f p x with
    | none => rfl
    | some q => exact through_append f a b q
theorem through_snoc {σ α : Type} (f : σ → α → Option σ) (p q : σ) (l : List α) (k : Nat) (hk : k < l.length) (h : through f p (l.take k) = some q) : through f p (l.take (k + 1)) = f q l[k] := by
  rw [List.take_succ_eq_append_getElem hk, through_append, h]
  simp only [Option.bind_some, through]
  cases f q l[k] <;> rfl
theorem through_stop {σ α : Type} (f : σ → α → Option σ) (p : σ) (l : List α) (k : Nat) (h : through f p (l.take k) = none) : through f p l = none := by
  rw [← List.take_append_drop k l, through_append, h]; rfl

def Box (w : World) (g : Nat) (c : Cir) (s : Places) : Prop := ∀ (i : Nat) v, (cirC c s)[i]? = some v → w.cell? ⟨g, i, none⟩ = some v
theorem Box.made (w : World) (c : Cir) (s : Places) : Box (w.alloc (.cells (cirC c s) 27)) w.heap.size c s := fun i v h => by rw [new_cell]; exact h
theorem Box.keep {w w' : World} {g C : Nat} {c : Cir} {s : Places} (h : Box w g c s) (hb : Below C w w') (hg : g < C) : Box w' g c s := fun i v hv => (hb.cell hg).trans (h i v hv)
theorem Box.cells {w : World} {g : Nat} {c : Cir} {s : Places} (h : Box w g c s) : w.cell? ⟨g, 0, none⟩ = some (.int .i64 c.max) ∧ w.cell? ⟨g, 1, none⟩ = some (.slice s.ai c.ins.length s.ki) ∧ w.cell? ⟨g, 2, none⟩ = some (.slice s.al c.lats.length s.kl) ∧
    w.cell? ⟨g, 3, none⟩ = some (.slice s.ao c.outs.length s.ko) ∧ w.cell? ⟨g, 4, none⟩ = some (.slice s.ab c.bads.length s.kb) ∧ w.cell? ⟨g, 5, none⟩ = some (.slice s.ac c.invs.length s.kc) ∧ w.cell? ⟨g, 6, none⟩ = some (.slice s.aa c.ands.length s.ka) ∧ w.cell? ⟨g, 7, none⟩ = some (.slice s.an c.names.length s.kn) :=
  ⟨h 0 _ rfl, h 1 _ rfl, h 2 _ rfl, h 3 _ rfl, h 4 _ rfl, h 5 _ rfl, h 6 _ rfl, h 7 _ rfl⟩

/-- the set that named looks into is there -/
structure Has (w : World) (g B : Nat) (S : List Int) : Prop where
  cm : w.cell? ⟨g, 0, none⟩ = some (.map (some B))
  hS : IsSet w B S
theorem Has.below {w w' : World} {g B C : Nat} {S : List Int} (h : Has w g B S) (hb : Below C w w') (hC : C = w.heap.size) : Has w' g B S := by
  subst hC; exact ⟨cell_later hb h.cm, h.hS.below hb h.hS.lt⟩

theorem named64_any (B : Nat) (w : World) : Calls Try.prog 82 #[.map (some B)] w fun e w' => e = .returned (.func (.func 111) #[] #[.pointer (some ⟨w.heap.size, 0, none⟩)]) ∧ w.alloc (.cells #[.map (some B)] 113) = w' := by
  have hmf : ∀ (fn : Fn) (first cap : Array Value) (w : World), (Instr.makeFunc fn first cap).run Try.prog w = .ok (.func fn first cap) w := fun _ _ _ _ => rfl
  go_enter Try.func82, Try.ntmps82
  go_wp2
  go_ret
  exact ⟨rfl, rfl⟩

def latOk (S : List Int) (t : Tri) : Bool := namedOk S t.b && (decide (t.c = 0) || decide (t.c = 1) || decide (t.c = t.a))

theorem tri_cells (w : World) (a b c : Int) (t : TypeId) (w' : World) (hb : Below (w.alloc (.cells #[.int .i64 a, .int .i64 b, .int .i64 c] t)).heap.size (w.alloc (.cells #[.int .i64 a, .int .i64 b, .int .i64 c] t)) w') :
    w'.cell? ⟨w.heap.size, 0, none⟩ = some (.int .i64 a) ∧ w'.cell? ⟨w.heap.size, 1, none⟩ = some (.int .i64 b) ∧ w'.cell? ⟨w.heap.size, 2, none⟩ = some (.int .i64 c) := by
  have hs : (w.alloc (.cells #[.int .i64 a, .int .i64 b, .int .i64 c] t)).heap.size = w.heap.size + 1 := by simp
  have h : ∀ i, w'.cell? ⟨w.heap.size, i, none⟩ = (#[.int .i64 a, .int .i64 b, .int .i64 c] : Array Value)[i]? := fun i => by
    rw [hb.cell (by rw [hs]; exact Nat.lt_succ_self _), new_cell]
  exact ⟨h 0, h 1, h 2⟩

set_option maxHeartbeats 2000000 in
theorem lats_any (c : Cir) (s : Places) (g B : Nat) (S : List Int) (w : World) (h : CLies w w.heap.size c s) (hf : CFits c s) (hh : Has w g B S) :
    Calls Try.prog 84 #[cirV c s, .func (.func 111) #[] #[.pointer (some ⟨g, 0, none⟩)]] w fun e w' => e = told (c.lats.all (latOk S)) ∧ Below w.heap.size w w' := by
  have ll := hf.ll
  have hb0 : Below w.heap.size w (w.alloc (.cells (cirC c s) 27)) := (Below.refl _ _).alloc (Nat.le_refl _) _
  have H := Lib.hid h
  have HF := Lib.hid hf.lats
  have HH := Lib.hid hh
  clear h hf hh
  unfold cirV cirC at *
  go_enter Try.func84, Try.ntmps84
  go_wp2
  go_loopw [9] (fun i wr => ∃ k : Nat, k ≤ c.lats.length ∧ i = .int .i64 k ∧ (c.lats.take k).all (latOk S) = true ∧ Below w.heap.size w wr) (fun i _ => c.lats.length - (intOf i).toNat)
  case atStart => exact ⟨0, Nat.zero_le _, rfl, rfl, hb0⟩
  case round =>
    obtain ⟨k, hk, rfl, hno, hb⟩ := hrel
    have HN := Lib.hid hno; clear hno
    by_cases hlt : k < c.lats.length
    · obtain ⟨b, o, ha, hbb, hx0, hx1, hx2⟩ := (H.out.lats.below hb).tri hlt
      obtain ⟨fa, fb, fc⟩ := HF.out c.lats[k] (List.getElem_mem _)
      have HB := Lib.hid fb
      have HX := Lib.hid (all_take c.lats (latOk S) k hlt)
      have HS := Lib.hid (all_not c.lats (latOk S) k hlt)
      have hok : latOk S c.lats[k] = (namedOk S c.lats[k].b && (decide (c.lats[k].c = 0) || decide (c.lats[k].c = 1) || decide (c.lats[k].c = c.lats[k].a))) := rfl
      have HK := Lib.hid hok
      clear fa fb fc hok
      generalize s.al = A at *
      subst ha
      generalize latOk S c.lats[k] = q at *
      generalize c.lats[k].a = x at *
      generalize c.lats[k].b = y at *
      generalize c.lats[k].c = z at *
      have hb1 := hb.alloc hb.size (.cells #[.int .i64 x, .int .i64 y, .int .i64 z] 39)
      go_wp2_with fail
      refine (named1_any y g B S _ HB.out (HH.out.below hb1 rfl).cm (HH.out.below hb1 rfl).hS).mono ?_
      rintro e w' ⟨he, hbw⟩
      obtain ⟨d0, d1, d2⟩ := tri_cells wr x y z 39 w' hbw
      have hb2 := hb1.trans (hbw.mono hb1.size)
      clear hbw
      cases hn : namedOk S y
      · have he' : e = .panicked fault := by rw [he, hn]; rfl
        clear he
        subst he'
        have hq : q = false := by rw [HK.out, hn]; rfl
        have HQ := Lib.hid (HS.out hq)
        clear hq hn
        go_wp2
        exact ⟨rfl, by rw [HQ.out]; rfl, hb2⟩
      · have he' : e = .returned (.tuple #[]) := by rw [he, hn]; rfl
        clear he
        subst he'
        rw [hn] at HK
        clear hn
        by_cases z0 : z = 0
        · have hq := HK.out; rw [decide_eq_true z0] at hq
          have HQ := Lib.hid (show q = true from hq)
          have z0' : (z == 0) = true := by simpa using z0
          clear z0 hq
          go_wp2_with fail
          refine (need_t _ _ ?_).mono ?_
          · simp
          rintro e w3 ⟨rfl, rfl⟩
          go_wp2
          go_roundw
          case rel => exact ⟨k + 1, by omega, by go_num, by rw [HX.out, HN.out, HQ.out]; rfl, hb2⟩
          case measure => simp [intOf]; omega
        · have z0' : (z == 0) = false := by simpa using z0
          by_cases z1 : z = 1
          · have hq := HK.out; rw [decide_eq_true z1] at hq
            have HQ := Lib.hid (show q = true by rw [hq]; simp)
            have z1' : (z == 1) = true := by simpa using z1
            clear z0 z1 hq
            go_wp2_with fail
            refine (need_t _ _ ?_).mono ?_
            · simp
            rintro e w3 ⟨rfl, rfl⟩
            go_wp2
            go_roundw
            case rel => exact ⟨k + 1, by omega, by go_num, by rw [HX.out, HN.out, HQ.out]; rfl, hb2⟩
            case measure => simp [intOf]; omega
          · have z1' : (z == 1) = false := by simpa using z1
            by_cases z2 : z = x
            · have hq := HK.out; rw [decide_eq_true z2] at hq
              have HQ := Lib.hid (show q = true by rw [hq]; simp)
              have z2' : (z == x) = true := by simpa using z2
              clear z0 z1 z2 hq
              go_wp2_with fail
              refine (need_t _ _ ?_).mono ?_
              · simp
              rintro e w3 ⟨rfl, rfl⟩
              go_wp2
              go_roundw
              case rel => exact ⟨k + 1, by omega, by go_num, by rw [HX.out, HN.out, HQ.out]; rfl, hb2⟩
              case measure => simp [intOf]; omega
            · have z2' : (z == x) = false := by simpa using z2
              have hq : q = false := by rw [HK.out, decide_eq_false z0, decide_eq_false z1, decide_eq_false z2]; rfl
              have HQ := Lib.hid (HS.out hq)
              clear z0 z1 z2 hq
              go_wp2_with fail
              refine (need_f _ _ ?_).mono ?_
              · simp
              rintro e w3 ⟨rfl, rfl⟩
              go_wp2
              exact ⟨rfl, by rw [HQ.out]; rfl, hb2⟩
    · obtain rfl : k = c.lats.length := by omega
      rw [List.take_of_length_le (Nat.le_refl _)] at HN
      go_wp2
      go_end0
      exact ⟨by rw [HN.out]; rfl, hb⟩

/-- one and behind another one; the state is the literal of the one ahead -/
def andStep (S : List Int) (p : Int) (t : Tri) : Option Int :=
  if (decide (p < t.a) && decide (t.b < t.a) && decide (t.c < t.a) && namedOk S t.b && namedOk S t.c) = true then some t.a else none
def andsOk (S : List Int) (l : List Tri) : Bool := (through (andStep S) 0 l).isSome
set_option maxHeartbeats 2000000 in
theorem ands_any (c : Cir) (s : Places) (g B : Nat) (S : List Int) (w : World) (h : CLies w w.heap.size c s) (hf : CFits c s) (hh : Has w g B S) :
    Calls Try.prog 85 #[cirV c s, .func (.func 111) #[] #[.pointer (some ⟨g, 0, none⟩)]] w fun e w' => e = told (andsOk S c.ands) ∧ Below w.heap.size w w' := by
  have la := hf.la
  have hb0 : Below w.heap.size w (w.alloc (.cells (cirC c s) 27)) := (Below.refl _ _).alloc (Nat.le_refl _) _
  have H := Lib.hid h
  have HF := Lib.hid hf.ands
  have HH := Lib.hid hh
  clear h hf hh
  unfold cirV cirC at *
  go_enter Try.func85, Try.ntmps85
  go_wp2
  go_loopw [4, 10] (fun p i wr => ∃ (k : Nat) (q : Int), k ≤ c.ands.length ∧ i = .int .i64 k ∧ p = .int .i64 q ∧ through (andStep S) 0 (c.ands.take k) = some q ∧ Below w.heap.size w wr) (fun _ i _ => c.ands.length - (intOf i).toNat)
  case atStart => exact ⟨0, 0, Nat.zero_le _, rfl, rfl, rfl, hb0⟩
  case round =>
    obtain ⟨k, q, hk, rfl, rfl, hno, hb⟩ := hrel
    have HN := Lib.hid hno; clear hno
    by_cases hlt : k < c.ands.length
    · obtain ⟨b, o, ha, hbb, hx0, hx1, hx2⟩ := (H.out.ands.below hb).tri hlt
      obtain ⟨fa, fb, fc⟩ := HF.out c.ands[k] (List.getElem_mem _)
      have HB := Lib.hid fb
      have HC := Lib.hid fc
      have hX := through_snoc (andStep S) 0 q c.ands k hlt HN.out
      have hS := through_stop (andStep S) 0 c.ands (k + 1)
      have hok : andStep S q c.ands[k] = if (decide (q < c.ands[k].a) && decide (c.ands[k].b < c.ands[k].a) && decide (c.ands[k].c < c.ands[k].a) && namedOk S c.ands[k].b && namedOk S c.ands[k].c) = true then some c.ands[k].a else none := rfl
      rw [hok] at hX
      have HX := Lib.hid hX
      have HS := Lib.hid hS
      clear fa fb fc hok hX hS
      generalize s.aa = A at *
      subst ha
      generalize c.ands[k].a = x at *
      generalize c.ands[k].b = y at *
      generalize c.ands[k].c = z at *
      have hb1 := hb.alloc hb.size (.cells #[.int .i64 x, .int .i64 y, .int .i64 z] 43)
      have hF : ∀ (_ : (decide (q < x) && decide (y < x) && decide (z < x) && namedOk S y && namedOk S z) = false), told (andsOk S c.ands) = .panicked fault := fun e => by
        unfold andsOk; rw [HS.out (by rw [HX.out, e]; rfl)]; rfl
      have HF' := Lib.hid hF
      clear hF
      by_cases c1 : q < x
      case neg =>
        have d1 : decide (q < x) = false := by simpa using c1
        have HQ := Lib.hid (HF'.out (by rw [d1]; rfl))
        clear d1
        go_wp2_with fail
        refine (need_f _ _ ?_).mono ?_
        · simp; try omega
        rintro e w3 ⟨rfl, rfl⟩
        go_wp2
        exact ⟨rfl, by rw [HQ.out], hb1⟩
      case pos =>
      by_cases c2 : y < x
      case neg =>
        have d1 : decide (y < x) = false := by simpa using c2
        have HQ := Lib.hid (HF'.out (by rw [d1]; simp))
        clear d1
        go_wp2_with fail
        refine (need_f _ _ ?_).mono ?_
        · simp; try omega
        rintro e w3 ⟨rfl, rfl⟩
        go_wp2
        exact ⟨rfl, by rw [HQ.out], hb1⟩
      case pos =>
      by_cases c3 : z < x
      case neg =>
        have d1 : decide (z < x) = false := by simpa using c3
        have HQ := Lib.hid (HF'.out (by rw [d1]; simp))
        clear d1
        go_wp2_with fail
        refine (need_f _ _ ?_).mono ?_
        · simp; try omega
        rintro e w3 ⟨rfl, rfl⟩
        go_wp2
        exact ⟨rfl, by rw [HQ.out], hb1⟩
      case pos =>
      go_wp2_with fail
      refine (need_t _ _ ?_).mono ?_
      · simp; try omega
      rintro e w3 ⟨rfl, rfl⟩
      go_wp2_with fail
      refine (named1_any y g B S _ HB.out (HH.out.below hb1 rfl).cm (HH.out.below hb1 rfl).hS).mono ?_
      rintro e w' ⟨he, hbw⟩
      obtain ⟨d0, d1, d2⟩ := tri_cells wr x y z 43 w' hbw
      have hb2 := hb1.trans (hbw.mono hb1.size)
      cases hn : namedOk S y
      · have he' : e = .panicked fault := by rw [he, hn]; rfl
        clear he
        subst he'
        have HQ := Lib.hid (HF'.out (by rw [hn]; simp))
        clear hn
        go_wp2
        exact ⟨rfl, by rw [HQ.out], hb2⟩
      have he' : e = .returned (.tuple #[]) := by rw [he, hn]; rfl
      clear he
      subst he'
      rw [hn] at HX HF'
      clear hn
      go_wp2_with fail
      refine (named1_any z g B S _ HC.out (HH.out.below hb2 rfl).cm (HH.out.below hb2 rfl).hS).mono ?_
      rintro e w2 ⟨he, hbw2⟩
      obtain ⟨d3, d4, d5⟩ := tri_cells wr x y z 43 w2 (hbw.trans (hbw2.mono hbw.size))
      have hb3 := hb2.trans (hbw2.mono hb2.size)
      clear hbw hbw2
      cases hn : namedOk S z
      · have he' : e = .panicked fault := by rw [he, hn]; rfl
        clear he
        subst he'
        have HQ := Lib.hid (HF'.out (by rw [hn]; simp))
        clear hn
        go_wp2
        exact ⟨rfl, by rw [HQ.out], hb3⟩
      have he' : e = .returned (.tuple #[]) := by rw [he, hn]; rfl
      clear he
      subst he'
      have HY : Hid (through (andStep S) 0 (c.ands.take (k + 1)) = some x) := by unfold Hid; rw [HX.out, hn, decide_eq_true c1, decide_eq_true c2, decide_eq_true c3]; rfl
      clear hn
      go_wp2
      go_roundw
      case rel => exact ⟨k + 1, x, by omega, by go_num, rfl, HY.out, hb3⟩
      case measure => simp [intOf]; omega
    · obtain rfl : k = c.ands.length := by omega
      rw [List.take_of_length_le (Nat.le_refl _)] at HN
      go_wp2
      go_end0
      exact ⟨by unfold andsOk; rw [HN.out]; rfl, hb⟩
end Go.Proofs.Ytfglgapocmnfpaa.Cw
namespace Go.Proofs.Ytfglgapocmnfpaa.Cw
open Go.ChangeShapes Go.WideShapes Go.ChangeAt Go.RowKit Go.Maps Circ

def triD {H : Type} (t : Tri) : DataW H := .agg [.lit (.int .i64 t.a), .lit (.int .i64 t.b), .lit (.int .i64 t.c)]
def triElem {H : Type} : Value → Option (DataW H × List MemPlace)
  | .agg cs => match cs.toList with
    | [.int .i64 a, .int .i64 b, .int .i64 c] => some (triD ⟨a, b, c⟩, [])
    | _ => none
  | _ => none
theorem triElem_mk {H : Type} (t : Tri) : triElem (H := H) (triV t) = some (triD t, []) := rfl
theorem triElem_inv {H : Type} {v : Value} {z : DataW H × List MemPlace} (h : triElem v = some z) : ∃ t, v = triV t ∧ z = (triD t, []) := by
  unfold triElem at h
  split at h
  · split at h
    · rename_i cs a b c he
      refine ⟨⟨a, b, c⟩, ?_, (Option.some.inj h).symm⟩
      unfold triV
      congr 1
      exact Array.toList_inj.1 (by simpa using he)
    · cases h
  · cases h
theorem triD_inj {H : Type} {s t : Tri} (h : triD (H := H) s = triD t) : s = t := by
  unfold triD at h
  cases s; cases t
  simp at h
  simp [h]
theorem zero40 (w : World) : (zeroValue 43).run Try.prog w = .ok (triV ⟨0, 0, 0⟩) w := by kernel_rfl

/-- block B is a map of what F tells -/
def IsAnds (w : World) (B : Nat) (F : Int → Option Tri) (N : Nat) : Prop :=
  ∃ n D, w.ownsMap Try.prog 3 (triElem (H := Unit)) B n D ∧ n ≤ N ∧ ∀ x, I64 x → Maps.has D (.int .i64 x) = (F x).isSome ∧ ∀ t, F x = some t → ∀ zd, D.atKey (.int .i64 x) zd = triD t
theorem IsAnds.made (w : World) : IsAnds (w.alloc (.map #[] 0)) w.heap.size (fun _ => none) 0 :=
  ⟨0, _, World.ownsMap_made w _ _ _, Nat.le_refl _, fun _ _ => ⟨rfl, fun _ h => by cases h⟩⟩
theorem IsAnds.lt {w : World} {B N : Nat} {F : Int → Option Tri} (h : IsAnds w B F N) : B < w.heap.size := by
  obtain ⟨n, D, h1, _⟩ := h; exact h1.lt
theorem IsAnds.keep {w w' : World} {B N : Nat} {F : Int → Option Tri} (h : IsAnds w B F N) (hb : w'.heap[B]? = w.heap[B]?) : IsAnds w' B F N := by
  obtain ⟨n, D, ⟨es, cl, h0, r⟩, h2⟩ := h
  exact ⟨n, D, ⟨es, cl, hb.trans h0, r⟩, h2⟩
theorem IsAnds.below {w w' : World} {B C N : Nat} {F : Int → Option Tri} (h : IsAnds w B F N) (hb : Below C w w') (hC : B < C) : IsAnds w' B F N := h.keep (hb.block B hC)
theorem IsAnds.alloc {w : World} {B N : Nat} {F : Int → Option Tri} (h : IsAnds w B F N) (o : Obj) : IsAnds (w.alloc o) B F N := h.keep (Below.heap_alloc w o B h.lt)
theorem IsAnds.drew {w : World} {B N : Nat} {F : Int → Option Tri} (h : IsAnds w B F N) : IsAnds w.drew B F N := h
theorem IsAnds.same {w : World} {B N : Nat} {F G : Int → Option Tri} (h : IsAnds w B F N) (e : ∀ x, G x = F x) {M : Nat} (hM : N ≤ M) : IsAnds w B G M := by
  obtain ⟨n, D, h1, h2, h3⟩ := h
  exact ⟨n, D, h1, Nat.le_trans h2 hM, fun x hx => by rw [e x]; exact h3 x hx⟩
theorem IsAnds.look {w : World} {B N : Nat} {F : Int → Option Tri} (h : IsAnds w B F N) {x : Int} (hx : I64 x) :
    ∃ u, (Instr.lookup 151 (.map (some B)) (.int .i64 x) true).run Try.prog w = .ok (.tuple #[triV u, .bool (F x).isSome]) w ∧ ∀ t, F x = some t → u = t := by
  obtain ⟨n, D, h1, _, h3⟩ := h
  obtain ⟨v, ps, hr, hv⟩ := h1.look_ok key3 Try.underlying151 (zero40 w) (triElem_mk ⟨0, 0, 0⟩) (key_of hx)
  obtain ⟨u, rfl, hz⟩ := triElem_inv hv
  rw [(h3 x hx).1] at hr
  refine ⟨u, hr, fun t ht => ?_⟩
  have e := (h3 x hx).2 t ht
  have e2 := congrArg Prod.fst hz
  simp only [e] at e2
  exact (triD_inj e2).symm
theorem IsAnds.store {w : World} {B N : Nat} {F : Int → Option Tri} (h : IsAnds w B F N) {x : Int} (hx : I64 x) (t : Tri) (hn : N < 9223372036854775807) :
    ∃ w', (Instr.mapUpdate 151 (.map (some B)) (.int .i64 x) (triV t)).run Try.prog w = .ok () w' ∧ IsAnds w' B (fun y => if y = x then some t else F y) (N + 1) ∧ w.grownBy w' (some B) := by
  obtain ⟨n, D, h1, h2, h3⟩ := h
  obtain ⟨w', hr, h4, h5⟩ := h1.store key3 Try.underlying151 (by unfold maxLen; omega) (key_of hx) (triElem_mk t)
  refine ⟨w', hr, ⟨n + 1, _, h4, by omega, fun y hy => ?_⟩, h5.grown⟩
  by_cases e : y = x
  · subst e
    refine ⟨?_, fun t' ht' zd => ?_⟩
    · rw [has_put_same h1.isMap (key3.key (key_of hx))]; simp
    · rw [atKey_put_same h1.isMap (key3.key (key_of hx))]
      simp at ht'; rw [ht']
  · refine ⟨?_, fun t' ht' zd => ?_⟩
    · rw [has_put_other (by simpa using e), (h3 y hy).1]; simp [e]
    · rw [atKey_put_other (by simpa using e)]
      simp only [if_neg e] at ht'
      exact (h3 y hy).2 t' ht' zd
theorem IsAnds.ne_ {w : World} {B N g o : Nat} {F : Int → Option Tri} {v : Value} (h : IsAnds w B F N) (hc : w.cell? ⟨g, o, none⟩ = some v) : g ≠ B := by
  rintro rfl
  obtain ⟨n, D, ⟨es, cl, h0, _⟩, _⟩ := h
  simp [World.cell?, h0] at hc

end Go.Proofs.Ytfglgapocmnfpaa.Cw
namespace Go.Proofs.Ytfglgapocmnfpaa.Str
open Go.ChangeShapes Go.WideShapes Go.ChangeAt Go.RowKit Go.Maps Circ Cw

def litD {H : Type} (s : Int) : DataW H := .lit (.int .i64 s)
theorem litD_inj {H : Type} {s t : Int} (h : litD (H := H) s = litD t) : s = t := by unfold litD at h; simpa using h
noncomputable def litE {H : Type} : Value → Option (DataW H × List MemPlace) := plainElem Try.prog 3
theorem litE_mk {H : Type} {s : Int} (hs : I64 s) : litE (H := H) (.int .i64 s) = some (litD s, []) := plainElem_int Try.underlying3 (wf64 hs)
theorem litE_inv {H : Type} {v : Value} {z : DataW H × List MemPlace} (h : litE v = some z) : ∃ s, v = .int .i64 s ∧ z = (litD s, []) := by
  obtain ⟨a, h1, h2, _⟩ := plainElem_int_inv Try.underlying3 h
  exact ⟨a, h1, h2⟩
theorem zero3 (w : World) : (zeroValue 3).run Try.prog w = .ok (.int .i64 0) w := by kernel_rfl

/-- block B is a map of what F tells of variables -/
def IsVars (w : World) (B : Nat) (F : Int → Option Int) (N : Nat) : Prop :=
  ∃ n D, w.ownsMap Try.prog 3 (litE (H := Unit)) B n D ∧ n ≤ N ∧ ∀ x, I64 x → Maps.has D (.int .i64 x) = (F x).isSome ∧ ∀ t, F x = some t → ∀ zd, D.atKey (.int .i64 x) zd = litD t
theorem IsVars.made (w : World) : IsVars (w.alloc (.map #[] 0)) w.heap.size (fun _ => none) 0 :=
  ⟨0, _, World.ownsMap_made w _ _ _, Nat.le_refl _, fun _ _ => ⟨rfl, fun _ h => by cases h⟩⟩
theorem IsVars.lt {w : World} {B N : Nat} {F : Int → Option Int} (h : IsVars w B F N) : B < w.heap.size := by
  obtain ⟨n, D, h1, _⟩ := h; exact h1.lt
theorem IsVars.keep {w w' : World} {B N : Nat} {F : Int → Option Int} (h : IsVars w B F N) (hb : w'.heap[B]? = w.heap[B]?) : IsVars w' B F N := by
  obtain ⟨n, D, ⟨es, cl, h0, r⟩, h2⟩ := h
  exact ⟨n, D, ⟨es, cl, hb.trans h0, r⟩, h2⟩
theorem IsVars.look {w : World} {B N : Nat} {F : Int → Option Int} (h : IsVars w B F N) {x : Int} (hx : I64 x) :
    ∃ u, (Instr.lookup 75 (.map (some B)) (.int .i64 x) true).run Try.prog w = .ok (.tuple #[.int .i64 u, .bool (F x).isSome]) w ∧ ∀ t, F x = some t → u = t := by
  obtain ⟨n, D, h1, _, h3⟩ := h
  obtain ⟨v, ps, hr, hv⟩ := h1.look_ok key3 Try.underlying75 (zero3 w) (litE_mk ⟨by omega, by omega⟩) (key_of hx)
  obtain ⟨u, rfl, hz⟩ := litE_inv hv
  rw [(h3 x hx).1] at hr
  refine ⟨u, hr, fun t ht => ?_⟩
  have e := (h3 x hx).2 t ht
  have e2 := congrArg Prod.fst hz
  simp only [e] at e2
  exact (litD_inj e2).symm
theorem IsVars.store {w : World} {B N : Nat} {F : Int → Option Int} (h : IsVars w B F N) {x : Int} (hx : I64 x) (t : Int) (ht : I64 t) (hn : N < 9223372036854775807) :
    ∃ w', (Instr.mapUpdate 75 (.map (some B)) (.int .i64 x) (.int .i64 t)).run Try.prog w = .ok () w' ∧ IsVars w' B (fun y => if y = x then some t else F y) (N + 1) ∧ w.grownBy w' (some B) := by
  obtain ⟨n, D, h1, h2, h3⟩ := h
  obtain ⟨w', hr, h4, h5⟩ := h1.store key3 Try.underlying75 (by unfold maxLen; omega) (key_of hx) (litE_mk ht)
  refine ⟨w', hr, ⟨n + 1, _, h4, by omega, fun y hy => ?_⟩, h5.grown⟩
  by_cases e : y = x
  · subst e
    refine ⟨?_, fun t' ht' zd => ?_⟩
    · rw [has_put_same h1.isMap (key3.key (key_of hx))]; simp
    · rw [atKey_put_same h1.isMap (key3.key (key_of hx))]
      simp at ht'; rw [ht']
  · refine ⟨?_, fun t' ht' zd => ?_⟩
    · rw [has_put_other (by simpa using e), (h3 y hy).1]; simp [e]
    · rw [atKey_put_other (by simpa using e)]
      simp only [if_neg e] at ht'
      exact (h3 y hy).2 t' ht' zd
theorem IsVars.ne_ {w : World} {B N g o : Nat} {F : Int → Option Int} {v : Value} (h : IsVars w B F N) (hc : w.cell? ⟨g, o, none⟩ = some v) : g ≠ B := by
  rintro rfl
  obtain ⟨n, D, ⟨es, cl, h0, _⟩, _⟩ := h
  simp [World.cell?, h0] at hc

/- pairs of literals as keys -/
theorem pcells : Try.prog.cellsOf 150 = 2 := by kernel_rfl
theorem icells : Try.prog.cellsOf 3 = 1 := by kernel_rfl
theorem keyP : Keyed Try.prog 150 := Keyed.of_law (WideMaps.ArrKey.law (e := 3) (n := 2) ⟨Try.underlying150, by kernel_rfl, icells, pcells⟩)
def pairV (a b : Int) : Value := .agg #[.int .i64 a, .int .i64 b]
def pairK (a b : Int) : Lit := .string (keyBytes [.int .i64 a, .int .i64 b])
theorem pair_formed (a b : Int) : (pairV a b).formed Try.prog 150 = true := by simp [pairV, Value.formed, Try.underlying150, pcells]
theorem pair_key {a b : Int} (ha : I64 a) (hb : I64 b) : keyOf Try.prog 150 (pairV a b) = some (pairK a b) := by
  have hkt : Try.prog.keyType 150 = true := by kernel_rfl
  have hm : ∃ m, Try.prog.types.size + 1 = m + 2 := ⟨Try.prog.types.size - 1, by have : 1 ≤ Try.prog.types.size := of_decide_eq_true (by kernel_rfl); omega⟩
  obtain ⟨m, hm⟩ := hm
  have wa := wf64 ha
  have wb := wf64 hb
  have one : ∀ x : Int, (Lit.int .i64 x).wf = true → Try.prog.keyLits (m + 1) 3 [.int .i64 x] = some [.int .i64 x] := fun x hx => by
    unfold Program.keyLits
    rw [Try.underlying3]
    simp [hx]
  have two : Try.prog.keyLits (m + 2) 150 [.int .i64 a, .int .i64 b] = some [.int .i64 a, .int .i64 b] := by
    unfold Program.keyLits
    rw [Try.underlying150]
    simp only [pcells, icells, List.length_cons, List.length_nil]
    rw [if_pos trivial]
    have e0 := one a wa
    have e1 := one b wb
    simp [List.range, List.range.loop, e0, e1]
  unfold keyOf
  rw [Try.underlying150]
  simp only
  rw [hkt, pair_formed, hm]
  simp only [Bool.and_self, if_true]
  rw [show (pairV a b).cells.toList = [.int .i64 a, .int .i64 b] from rfl, two]
  rfl
theorem pair_inj {a b c d : Int} (ha : I64 a) (hb : I64 b) (hc : I64 c) (hd : I64 d) (h : pairK a b = pairK c d) : a = c ∧ b = d := by
  have := keyP.inj (pair_key ha hb) (h ▸ pair_key hc hd)
  simp [pairV] at this
  exact this
/-- block B is a map of what G tells of pairs -/
def IsPairs (w : World) (B : Nat) (G : Int × Int → Option Int) (N : Nat) : Prop :=
  ∃ n D, w.ownsMap Try.prog 150 (litE (H := Unit)) B n D ∧ n ≤ N ∧ ∀ x y, I64 x → I64 y → Maps.has D (pairK x y) = (G (x, y)).isSome ∧ ∀ t, G (x, y) = some t → ∀ zd, D.atKey (pairK x y) zd = litD t
theorem IsPairs.made (w : World) : IsPairs (w.alloc (.map #[] 0)) w.heap.size (fun _ => none) 0 :=
  ⟨0, _, World.ownsMap_made w _ _ _, Nat.le_refl _, fun _ _ _ _ => ⟨rfl, fun _ h => by cases h⟩⟩
theorem IsPairs.lt {w : World} {B N : Nat} {G : Int × Int → Option Int} (h : IsPairs w B G N) : B < w.heap.size := by
  obtain ⟨n, D, h1, _⟩ := h; exact h1.lt
theorem IsPairs.keep {w w' : World} {B N : Nat} {G : Int × Int → Option Int} (h : IsPairs w B G N) (hb : w'.heap[B]? = w.heap[B]?) : IsPairs w' B G N := by
  obtain ⟨n, D, ⟨es, cl, h0, r⟩, h2⟩ := h
  exact ⟨n, D, ⟨es, cl, hb.trans h0, r⟩, h2⟩
theorem IsPairs.look {w : World} {B N : Nat} {G : Int × Int → Option Int} (h : IsPairs w B G N) {x y : Int} (hx : I64 x) (hy : I64 y) :
    ∃ u, (Instr.lookup 76 (.map (some B)) (pairV x y) true).run Try.prog w = .ok (.tuple #[.int .i64 u, .bool (G (x, y)).isSome]) w ∧ ∀ t, G (x, y) = some t → u = t := by
  obtain ⟨n, D, h1, _, h3⟩ := h
  obtain ⟨v, ps, hr, hv⟩ := h1.look_ok keyP Try.underlying76 (zero3 w) (litE_mk ⟨by omega, by omega⟩) (pair_key hx hy)
  obtain ⟨u, rfl, hz⟩ := litE_inv hv
  rw [(h3 x y hx hy).1] at hr
  refine ⟨u, hr, fun t ht => ?_⟩
  have e := (h3 x y hx hy).2 t ht
  have e2 := congrArg Prod.fst hz
  simp only [e] at e2
  exact (litD_inj e2).symm
theorem IsPairs.store {w : World} {B N : Nat} {G : Int × Int → Option Int} (h : IsPairs w B G N) {x y : Int} (hx : I64 x) (hy : I64 y) (t : Int) (ht : I64 t) (hn : N < 9223372036854775807) :
    ∃ w', (Instr.mapUpdate 76 (.map (some B)) (pairV x y) (.int .i64 t)).run Try.prog w = .ok () w' ∧ IsPairs w' B (fun p => if p = (x, y) then some t else G p) (N + 1) ∧ w.grownBy w' (some B) := by
  obtain ⟨n, D, h1, h2, h3⟩ := h
  obtain ⟨w', hr, h4, h5⟩ := h1.store keyP Try.underlying76 (by unfold maxLen; omega) (pair_key hx hy) (litE_mk ht)
  refine ⟨w', hr, ⟨n + 1, _, h4, by omega, fun a b ha hb => ?_⟩, h5.grown⟩
  by_cases e : (a, b) = (x, y)
  · simp only [Prod.mk.injEq] at e
    obtain ⟨rfl, rfl⟩ := e
    refine ⟨?_, fun t' ht' zd => ?_⟩
    · rw [has_put_same h1.isMap (keyP.key (pair_key hx hy))]; simp
    · rw [atKey_put_same h1.isMap (keyP.key (pair_key hx hy))]
      simp at ht'; rw [ht']
  · have hne : pairK a b ≠ pairK x y := fun h => e (by obtain ⟨h1, h2⟩ := pair_inj ha hb hx hy h; rw [h1, h2])
    refine ⟨?_, fun t' ht' zd => ?_⟩
    · rw [has_put_other hne, (h3 a b ha hb).1]
      show _ = (if (a, b) = (x, y) then some t else G (a, b)).isSome
      rw [if_neg e]
    · rw [atKey_put_other hne]
      simp only [if_neg e] at ht'
      exact (h3 a b ha hb).2 t' ht' zd
theorem IsPairs.ne_ {w : World} {B N g o : Nat} {G : Int × Int → Option Int} {v : Value} (h : IsPairs w B G N) (hc : w.cell? ⟨g, o, none⟩ = some v) : g ≠ B := by
  rintro rfl
  obtain ⟨n, D, ⟨es, cl, h0, _⟩, _⟩ := h
  simp [World.cell?, h0] at hc
end Go.Proofs.Ytfglgapocmnfpaa.Str
