/- The walks of circuit's looks at latches and at ands; no condition. -/
import Derived.Test.YtpbggngeopjefaaDoorPk03
namespace Go.Proofs.YtpbggngeopjefaaDoor.Cw
open Go.ChangeShapes Go.WideShapes Go.ChangeAt Go.RowKit Go.Maps Circ

/-- a state that goes from element to element, as long as each may be there -/
def through {σ α : Type} (f : σ → α → Option σ) : σ → List α → Option σ
  | p, [] => some p
  | p, x :: l => (f p x).bind fun q => through f q l
theorem through_append {σ α : Type} (f : σ → α → Option σ) : ∀ (a b : List α) (p : σ), through f p (a ++ b) = (through f p a).bind fun q => through f q b
  | [], _, _ => rfl
  | x :: a, b, p => by
    simp only [List.cons_append, through]
    cases f p x with
    | none => rfl
    | some q => exact through_append f a b q
theorem through_snoc {σ α : Type} (f : σ → α → Option σ) (p q : σ) (l : List α) (k : Nat) (hk : k < l.length) (h : through f p (l.take k) = some q) : through f p (l.take (k + 1)) = f q l[k] := by
  rw [List.take_succ_eq_append_getElem hk, through_append, h]
  simp only [Option.bind_some, through]
  cases f q l[k] <;> rfl
theorem through_stop {σ α : Type} (f : σ → α → Option σ) (p : σ) (l : List α) (k : Nat) (h : through f p (l.take k) = none) : through f p l = none := by
  rw [← List.take_append_drop k l, through_append, h]; rfl

def Box (w : World) (g : Nat) (c : Cir) (s : Places) : Prop := ∀ (i : Nat) v, (cirC c s)[i]? = some v → w.cell? ⟨g, i, none⟩ = some v
theorem Box.made (w : World) (c : Cir) (s : Places) : Box (w.alloc (.cells (cirC c s) 27)) w.heap.size c s := fun i v h => by rw [new_cell]; exact h
theorem Box.keep {w w' : World} {g C : Nat} {c : Cir} {s : Places} (h : Box w g c s) (hb : Below C w w') (hg : g < C) : Box w' g c s := fun i v hv => (hb.cell hg).trans (h i v hv)
theorem Box.cells {w : World} {g : Nat} {c : Cir} {s : Places} (h : Box w g c s) : w.cell? ⟨g, 0, none⟩ = some (.int .i64 c.max) ∧ w.cell? ⟨g, 1, none⟩ = some (.slice s.ai c.ins.length s.ki) ∧ w.cell? ⟨g, 2, none⟩ = some (.slice s.al c.lats.length s.kl) ∧
    w.cell? ⟨g, 3, none⟩ = some (.slice s.ao c.outs.length s.ko) ∧ w.cell? ⟨g, 4, none⟩ = some (.slice s.ab c.bads.length s.kb) ∧ w.cell? ⟨g, 5, none⟩ = some (.slice s.ac c.invs.length s.kc) ∧ w.cell? ⟨g, 6, none⟩ = some (.slice s.aa c.ands.length s.ka) ∧ w.cell? ⟨g, 7, none⟩ = some (.slice s.an c.names.length s.kn) :=
  ⟨h 0 _ rfl, h 1 _ rfl, h 2 _ rfl, h 3 _ rfl, h 4 _ rfl, h 5 _ rfl, h 6 _ rfl, h 7 _ rfl⟩

/-- the set that named looks into is there -/
structure Has (w : World) (g B : Nat) (S : List Int) : Prop where
  cm : w.cell? ⟨g, 0, none⟩ = some (.map (some B))
  hS : IsSet w B S
theorem Has.below {w w' : World} {g B C : Nat} {S : List Int} (h : Has w g B S) (hb : Below C w w') (hC : C = w.heap.size) : Has w' g B S := by
  subst hC; exact ⟨cell_later hb h.cm, h.hS.below hb h.hS.lt⟩

theorem named64_any (B : Nat) (w : World) : Calls Tryd.prog 41 #[.map (some B)] w fun e w' => e = .returned (.func (.func 64) #[] #[.pointer (some ⟨w.heap.size, 0, none⟩)]) ∧ w.alloc (.cells #[.map (some B)] 78) = w' := by
  have hmf : ∀ (fn : Fn) (first cap : Array Value) (w : World), (Instr.makeFunc fn first cap).run Tryd.prog w = .ok (.func fn first cap) w := fun _ _ _ _ => rfl
  go_enter Tryd.func41, Tryd.ntmps41
  go_wp2
  go_ret
  exact ⟨rfl, rfl⟩

def latOk (S : List Int) (t : Tri) : Bool := namedOk S t.b && (decide (t.c = 0) || decide (t.c = 1) || decide (t.c = t.a))

theorem tri_cells (w : World) (a b c : Int) (t : TypeId) (w' : World) (hb : Below (w.alloc (.cells #[.int .i64 a, .int .i64 b, .int .i64 c] t)).heap.size (w.alloc (.cells #[.int .i64 a, .int .i64 b, .int .i64 c] t)) w') :
    w'.cell? ⟨w.heap.size, 0, none⟩ = some (.int .i64 a) ∧ w'.cell? ⟨w.heap.size, 1, none⟩ = some (.int .i64 b) ∧ w'.cell? ⟨w.heap.size, 2, none⟩ = some (.int .i64 c) := by
  have hs : (w.alloc (.cells #[.int .i64 a, .int .i64 b, .int .i64 c] t)).heap.size = w.heap.size + 1 := by simp
  have h : ∀ i, w'.cell? ⟨w.heap.size, i, none⟩ = (#[.int .i64 a, .int .i64 b, .int .i64 c] : Array Value)[i]? := fun i => by
    rw [hb.cell (by rw [hs]; exact Nat.lt_succ_self _), new_cell]
  exact ⟨h 0, h 1, h 2⟩

set_option maxHeartbeats 2000000 in
theorem lats_any (c : Cir) (s : Places) (g B : Nat) (S : List Int) (w : World) (h : CLies w w.heap.size c s) (hf : CFits c s) (hh : Has w g B S) :
    Calls Tryd.prog 43 #[cirV c s, .func (.func 64) #[] #[.pointer (some ⟨g, 0, none⟩)]] w fun e w' => e = told (c.lats.all (latOk S)) ∧ Below w.heap.size w w' := by
  have ll := hf.ll
  have hb0 : Below w.heap.size w (w.alloc (.cells (cirC c s) 27)) := (Below.refl _ _).alloc (Nat.le_refl _) _
  have H := Lib.hid h
  have HF := Lib.hid hf.lats
  have HH := Lib.hid hh
  clear h hf hh
  unfold cirV cirC at *
  go_enter Tryd.func43, Tryd.ntmps43
  go_wp2
  go_loopw [9] (fun i wr => ∃ k : Nat, k ≤ c.lats.length ∧ i = .int .i64 k ∧ (c.lats.take k).all (latOk S) = true ∧ Below w.heap.size w wr) (fun i _ => c.lats.length - (intOf i).toNat)
  case atStart => exact ⟨0, Nat.zero_le _, rfl, rfl, hb0⟩
  case round =>
    obtain ⟨k, hk, rfl, hno, hb⟩ := hrel
    have HN := Lib.hid hno; clear hno
    by_cases hlt : k < c.lats.length
    · obtain ⟨b, o, ha, hbb, hx0, hx1, hx2⟩ := (H.out.lats.below hb).tri hlt
      obtain ⟨fa, fb, fc⟩ := HF.out c.lats[k] (List.getElem_mem _)
      have HB := Lib.hid fb
      have HX := Lib.hid (all_take c.lats (latOk S) k hlt)
      have HS := Lib.hid (all_not c.lats (latOk S) k hlt)
      have hok : latOk S c.lats[k] = (namedOk S c.lats[k].b && (decide (c.lats[k].c = 0) || decide (c.lats[k].c = 1) || decide (c.lats[k].c = c.lats[k].a))) := rfl
      have HK := Lib.hid hok
      clear fa fb fc hok
      generalize s.al = A at *
      subst ha
      generalize latOk S c.lats[k] = q at *
      generalize c.lats[k].a = x at *
      generalize c.lats[k].b = y at *
      generalize c.lats[k].c = z at *
      have hb1 := hb.alloc hb.size (.cells #[.int .i64 x, .int .i64 y, .int .i64 z] 41)
      go_wp2_with fail
      refine (named1_any y g B S _ HB.out (HH.out.below hb1 rfl).cm (HH.out.below hb1 rfl).hS).mono ?_
      rintro e w' ⟨he, hbw⟩
      obtain ⟨d0, d1, d2⟩ := tri_cells wr x y z 41 w' hbw
      have hb2 := hb1.trans (hbw.mono hb1.size)
      clear hbw
      cases hn : namedOk S y
      · have he' : e = .panicked fault := by rw [he, hn]; rfl
        clear he
        subst he'
        have hq : q = false := by rw [HK.out, hn]; rfl
        have HQ := Lib.hid (HS.out hq)
        clear hq hn
        go_wp2
        exact ⟨rfl, by rw [HQ.out]; rfl, hb2⟩
      · have he' : e = .returned (.tuple #[]) := by rw [he, hn]; rfl
        clear he
        subst he'
        rw [hn] at HK
        clear hn
        by_cases z0 : z = 0
        · have hq := HK.out; rw [decide_eq_true z0] at hq
          have HQ := Lib.hid (show q = true from hq)
          have z0' : (z == 0) = true := by simpa using z0
          clear z0 hq
          go_wp2_with fail
          refine (need_t _ _ ?_).mono ?_
          · simp
          rintro e w3 ⟨rfl, rfl⟩
          go_wp2
          go_roundw
          case rel => exact ⟨k + 1, by omega, by go_num, by rw [HX.out, HN.out, HQ.out]; rfl, hb2⟩
          case measure => simp [intOf]; omega
        · have z0' : (z == 0) = false := by simpa using z0
          by_cases z1 : z = 1
          · have hq := HK.out; rw [decide_eq_true z1] at hq
            have HQ := Lib.hid (show q = true by rw [hq]; simp)
            have z1' : (z == 1) = true := by simpa using z1
            clear z0 z1 hq
            go_wp2_with fail
            refine (need_t _ _ ?_).mono ?_
            · simp
            rintro e w3 ⟨rfl, rfl⟩
            go_wp2
            go_roundw
            case rel => exact ⟨k + 1, by omega, by go_num, by rw [HX.out, HN.out, HQ.out]; rfl, hb2⟩
            case measure => simp [intOf]; omega
          · have z1' : (z == 1) = false := by simpa using z1
            by_cases z2 : z = x
            · have hq := HK.out; rw [decide_eq_true z2] at hq
              have HQ := Lib.hid (show q = true by rw [hq]; simp)
              have z2' : (z == x) = true := by simpa using z2
              clear z0 z1 z2 hq
              go_wp2_with fail
              refine (need_t _ _ ?_).mono ?_
              · simp
              rintro e w3 ⟨rfl, rfl⟩
              go_wp2
              go_roundw
              case rel => exact ⟨k + 1, by omega, by go_num, by rw [HX.out, HN.out, HQ.out]; rfl, hb2⟩
              case measure => simp [intOf]; omega
            · have z2' : (z == x) = false := by simpa using z2
              have hq : q = false := by rw [HK.out, decide_eq_false z0, decide_eq_false z1, decide_eq_false z2]; rfl
              have HQ := Lib.hid (HS.out hq)
              clear z0 z1 z2 hq
              go_wp2_with fail
              refine (need_f _ _ ?_).mono ?_
              · simp
              rintro e w3 ⟨rfl, rfl⟩
              go_wp2
              exact ⟨rfl, by rw [HQ.out]; rfl, hb2⟩
    · obtain rfl : k = c.lats.length := by omega
      rw [List.take_of_length_le (Nat.le_refl _)] at HN
      go_wp2
      go_end0
      exact ⟨by rw [HN.out]; rfl, hb⟩

/-- one and behind another one; the state is the literal of the one ahead -/
def andStep (S : List Int) (p : Int) (t : Tri) : Option Int :=
  if (decide (p < t.a) && decide (t.b < t.a) && decide (t.c < t.a) && namedOk S t.b && namedOk S t.c) = true then some t.a else none
def andsOk (S : List Int) (l : List Tri) : Bool := (through (andStep S) 0 l).isSome
theorem andStep_i64 (S : List Int) : ∀ (l : List Tri) (p q : Int), I64 p → (∀ x ∈ l, x.fits) → through (andStep S) p l = some q → I64 q
  | [], p, q, hp, _, h => by simp only [through, Option.some.injEq] at h; subst h; exact hp
  | x :: l, p, q, _, hx, h => by
    simp only [through, andStep] at h
    split at h
    · exact andStep_i64 S l x.a q (hx x (List.mem_cons_self ..)).1 (fun y hy => hx y (List.mem_cons_of_mem _ hy)) h
    · cases h

set_option maxHeartbeats 2000000 in
theorem ands_any (c : Cir) (s : Places) (g B : Nat) (S : List Int) (w : World) (h : CLies w w.heap.size c s) (hf : CFits c s) (hh : Has w g B S) :
    Calls Tryd.prog 44 #[cirV c s, .func (.func 64) #[] #[.pointer (some ⟨g, 0, none⟩)]] w fun e w' => e = told (andsOk S c.ands) ∧ Below w.heap.size w w' := by
  have la := hf.la
  have hb0 : Below w.heap.size w (w.alloc (.cells (cirC c s) 27)) := (Below.refl _ _).alloc (Nat.le_refl _) _
  have H := Lib.hid h
  have HF := Lib.hid hf.ands
  have HH := Lib.hid hh
  clear h hf hh
  unfold cirV cirC at *
  go_enter Tryd.func44, Tryd.ntmps44
  go_wp2
  go_loopw [4, 10] (fun p i wr => ∃ (k : Nat) (q : Int), k ≤ c.ands.length ∧ i = .int .i64 k ∧ p = .int .i64 q ∧ through (andStep S) 0 (c.ands.take k) = some q ∧ Below w.heap.size w wr) (fun _ i _ => c.ands.length - (intOf i).toNat)
  case atStart => exact ⟨0, 0, Nat.zero_le _, rfl, rfl, rfl, hb0⟩
  case round =>
    obtain ⟨k, q, hk, rfl, rfl, hno, hb⟩ := hrel
    have HN := Lib.hid hno; clear hno
    by_cases hlt : k < c.ands.length
    · obtain ⟨b, o, ha, hbb, hx0, hx1, hx2⟩ := (H.out.ands.below hb).tri hlt
      obtain ⟨fa, fb, fc⟩ := HF.out c.ands[k] (List.getElem_mem _)
      have HB := Lib.hid fb
      have HC := Lib.hid fc
      have hX := through_snoc (andStep S) 0 q c.ands k hlt HN.out
      have hS := through_stop (andStep S) 0 c.ands (k + 1)
      have hok : andStep S q c.ands[k] = if (decide (q < c.ands[k].a) && decide (c.ands[k].b < c.ands[k].a) && decide (c.ands[k].c < c.ands[k].a) && namedOk S c.ands[k].b && namedOk S c.ands[k].c) = true then some c.ands[k].a else none := rfl
      rw [hok] at hX
      have HX := Lib.hid hX
      have HS := Lib.hid hS
      clear fa fb fc hok hX hS
      generalize s.aa = A at *
      subst ha
      generalize c.ands[k].a = x at *
      generalize c.ands[k].b = y at *
      generalize c.ands[k].c = z at *
      have hb1 := hb.alloc hb.size (.cells #[.int .i64 x, .int .i64 y, .int .i64 z] 43)
      have hF : ∀ (_ : (decide (q < x) && decide (y < x) && decide (z < x) && namedOk S y && namedOk S z) = false), told (andsOk S c.ands) = .panicked fault := fun e => by
        unfold andsOk; rw [HS.out (by rw [HX.out, e]; rfl)]; rfl
      have HF' := Lib.hid hF
      clear hF
      by_cases c1 : q < x
      case neg =>
        have d1 : decide (q < x) = false := by simpa using c1
        have HQ := Lib.hid (HF'.out (by rw [d1]; rfl))
        clear d1
        go_wp2_with fail
        refine (need_f _ _ ?_).mono ?_
        · simp; try omega
        rintro e w3 ⟨rfl, rfl⟩
        go_wp2
        exact ⟨rfl, by rw [HQ.out], hb1⟩
      case pos =>
      by_cases c2 : y < x
      case neg =>
        have d1 : decide (y < x) = false := by simpa using c2
        have HQ := Lib.hid (HF'.out (by rw [d1]; simp))
        clear d1
        go_wp2_with fail
        refine (need_f _ _ ?_).mono ?_
        · simp; try omega
        rintro e w3 ⟨rfl, rfl⟩
        go_wp2
        exact ⟨rfl, by rw [HQ.out], hb1⟩
      case pos =>
      by_cases c3 : z < x
      case neg =>
        have d1 : decide (z < x) = false := by simpa using c3
        have HQ := Lib.hid (HF'.out (by rw [d1]; simp))
        clear d1
        go_wp2_with fail
        refine (need_f _ _ ?_).mono ?_
        · simp; try omega
        rintro e w3 ⟨rfl, rfl⟩
        go_wp2
        exact ⟨rfl, by rw [HQ.out], hb1⟩
      case pos =>
      go_wp2_with fail
      refine (need_t _ _ ?_).mono ?_
      · simp; try omega
      rintro e w3 ⟨rfl, rfl⟩
      go_wp2_with fail
      refine (named1_any y g B S _ HB.out (HH.out.below hb1 rfl).cm (HH.out.below hb1 rfl).hS).mono ?_
      rintro e w' ⟨he, hbw⟩
      obtain ⟨d0, d1, d2⟩ := tri_cells wr x y z 43 w' hbw
      have hb2 := hb1.trans (hbw.mono hb1.size)
      cases hn : namedOk S y
      · have he' : e = .panicked fault := by rw [he, hn]; rfl
        clear he
        subst he'
        have HQ := Lib.hid (HF'.out (by rw [hn]; simp))
        clear hn
        go_wp2
        exact ⟨rfl, by rw [HQ.out], hb2⟩
      have he' : e = .returned (.tuple #[]) := by rw [he, hn]; rfl
      clear he
      subst he'
      rw [hn] at HX HF'
      clear hn
      go_wp2_with fail
      refine (named1_any z g B S _ HC.out (HH.out.below hb2 rfl).cm (HH.out.below hb2 rfl).hS).mono ?_
      rintro e w2 ⟨he, hbw2⟩
      obtain ⟨d3, d4, d5⟩ := tri_cells wr x y z 43 w2 (hbw.trans (hbw2.mono hbw.size))
      have hb3 := hb2.trans (hbw2.mono hb2.size)
      clear hbw hbw2
      cases hn : namedOk S z
      · have he' : e = .panicked fault := by rw [he, hn]; rfl
        clear he
        subst he'
        have HQ := Lib.hid (HF'.out (by rw [hn]; simp))
        clear hn
        go_wp2
        exact ⟨rfl, by rw [HQ.out], hb3⟩
      have he' : e = .returned (.tuple #[]) := by rw [he, hn]; rfl
      clear he
      subst he'
      have HY : Hid (through (andStep S) 0 (c.ands.take (k + 1)) = some x) := by unfold Hid; rw [HX.out, hn, decide_eq_true c1, decide_eq_true c2, decide_eq_true c3]; rfl
      clear hn
      go_wp2
      go_roundw
      case rel => exact ⟨k + 1, x, by omega, by go_num, rfl, HY.out, hb3⟩
      case measure => simp [intOf]; omega
    · obtain rfl : k = c.ands.length := by omega
      rw [List.take_of_length_le (Nat.le_refl _)] at HN
      go_wp2
      go_end0
      exact ⟨by unfold andsOk; rw [HN.out]; rfl, hb⟩
end Go.Proofs.YtpbggngeopjefaaDoor.Cw
