/- The walks of circuit's looks at latches and at ands; no condition. The walk of circuit's look at names; no condition. -/
import Derived.Test.YtjlnffkieocihaaPt04
import Derived.Deep.Draws
namespace Go.Proofs.Ytjlnffkieocihaa.Cw
open Go.ChangeShapes Go.WideShapes Go.ChangeAt Go.RowKit Go.Maps Circ

/-- a state that goes from element to element, as long as each may be there -/
def through {σ α : Type} (f : σ → α → Option σ) : σ → List α → Option σ
  | p, [] => some p
  | p, x :: l => (f p x).bind fun q => through f q l
theorem through_append {σ α : Type} (f : σ → α → Option σ) : ∀ (a b : List α) (p : σ), through f p (a ++ b) = (through f p a).bind fun q => through f q b
  | [], _, _ => rfl
  | x :: a, b, p => by
    simp only [List.cons_append, through]
    cases f p x with
    | none => rfl
    | some q => exact through_append f a b q
theorem through_snoc {σ α : Type} (f : σ → α → Option σ) (p q : σ) (l : List α) (k : Nat) (hk : k < l.length) (h : through f p (l.take k) = some q) : through f p (l.take (k + 1)) = f q l[k] := by
  rw [List.take_succ_eq_append_getElem hk, through_append, h]
  simp only [Option.bind_some, through]
  cases f q l[k] <;> rfl
theorem through_stop {σ α : Type} (f : σ → α → Option σ) (p : σ) (l : List α) (k : Nat) (h : through f p (l.take k) = none) : through f p l = none := by
  rw [← List.take_append_drop k l, through_append, h]; rfl

def Box (w : World) (g : Nat) (c : Cir) (s : Places) : Prop := ∀ (i : Nat) v, (cirC c s)[i]? = some v → w.cell? ⟨g, i, none⟩ = some v
theorem Box.made (w : World) (c : Cir) (s : Places) : Box (w.alloc (.cells (cirC c s) 27)) w.heap.size c s := fun i v h => by rw [new_cell]; exact h
theorem Box.keep {w w' : World} {g C : Nat} {c : Cir} {s : Places} (h : Box w g c s) (hb : Below C w w') (hg : g < C) : Box w' g c s := fun i v hv => (hb.cell hg).trans (h i v hv)
theorem Box.cells {w : World} {g : Nat} {c : Cir} {s : Places} (h : Box w g c s) : w.cell? ⟨g, 0, none⟩ = some (.int .i64 c.max) ∧ w.cell? ⟨g, 1, none⟩ = some (.slice s.ai c.ins.length s.ki) ∧ w.cell? ⟨g, 2, none⟩ = some (.slice s.al c.lats.length s.kl) ∧
    w.cell? ⟨g, 3, none⟩ = some (.slice s.ao c.outs.length s.ko) ∧ w.cell? ⟨g, 4, none⟩ = some (.slice s.ab c.bads.length s.kb) ∧ w.cell? ⟨g, 5, none⟩ = some (.slice s.ac c.invs.length s.kc) ∧ w.cell? ⟨g, 6, none⟩ = some (.slice s.aa c.ands.length s.ka) ∧ w.cell? ⟨g, 7, none⟩ = some (.slice s.an c.names.length s.kn) :=
  ⟨h 0 _ rfl, h 1 _ rfl, h 2 _ rfl, h 3 _ rfl, h 4 _ rfl, h 5 _ rfl, h 6 _ rfl, h 7 _ rfl⟩

/-- the set that named looks into is there -/
structure Has (w : World) (g B : Nat) (S : List Int) : Prop where
  cm : w.cell? ⟨g, 0, none⟩ = some (.map (some B))
  hS : IsSet w B S
theorem Has.below {w w' : World} {g B C : Nat} {S : List Int} (h : Has w g B S) (hb : Below C w w') (hC : C = w.heap.size) : Has w' g B S := by
  subst hC; exact ⟨cell_later hb h.cm, h.hS.below hb h.hS.lt⟩

theorem named64_any (B : Nat) (w : World) : Calls Try.prog 82 #[.map (some B)] w fun e w' => e = .returned (.func (.func 112) #[] #[.pointer (some ⟨w.heap.size, 0, none⟩)]) ∧ w.alloc (.cells #[.map (some B)] 107) = w' := by
  have hmf : ∀ (fn : Fn) (first cap : Array Value) (w : World), (Instr.makeFunc fn first cap).run Try.prog w = .ok (.func fn first cap) w := fun _ _ _ _ => rfl
  go_enter Try.func82, Try.ntmps82
  go_wp2
  go_ret
  exact ⟨rfl, rfl⟩

def latOk (S : List Int) (t : Tri) : Bool := namedOk S t.b && (decide (t.c = 0) || decide (t.c = 1) || decide (t.c = t.a))

theorem tri_cells (w : World) (a b c : Int) (t : TypeId) (w' : World) (hb : Below (w.alloc (.cells #[.int .i64 a, .int .i64 b, .int .i64 c] t)).heap.size (w.alloc (.cells #[.int .i64 a, .int .i64 b, .int .i64 c] t)) w') :
    w'.cell? ⟨w.heap.size, 0, none⟩ = some (.int .i64 a) ∧ w'.cell? ⟨w.heap.size, 1, none⟩ = some (.int .i64 b) ∧ w'.cell? ⟨w.heap.size, 2, none⟩ = some (.int .i64 c) := by
  have hs : (w.alloc (.cells #[.int .i64 a, .int .i64 b, .int .i64 c] t)).heap.size = w.heap.size + 1 := by simp
  have h : ∀ i, w'.cell? ⟨w.heap.size, i, none⟩ = (#[.int .i64 a, .int .i64 b, .int .i64 c] : Array Value)[i]? := fun i => by
    rw [hb.cell (by rw [hs]; exact Nat.lt_succ_self _), new_cell]
  exact ⟨h 0, h 1, h 2⟩

set_option maxHeartbeats 2000000 in
theorem lats_any (c : Cir) (s : Places) (g B : Nat) (S : List Int) (w : World) (h : CLies w w.heap.size c s) (hf : CFits c s) (hh : Has w g B S) :
    Calls Try.prog 84 #[cirV c s, .func (.func 112) #[] #[.pointer (some ⟨g, 0, none⟩)]] w fun e w' => e = told (c.lats.all (latOk S)) ∧ Below w.heap.size w w' := by
  have ll := hf.ll
  have hb0 : Below w.heap.size w (w.alloc (.cells (cirC c s) 27)) := (Below.refl _ _).alloc (Nat.le_refl _) _
  have H := Lib.hid h
  have HF := Lib.hid hf.lats
  have HH := Lib.hid hh
  clear h hf hh
  unfold cirV cirC at *
  go_enter Try.func84, Try.ntmps84
  go_wp2
  go_loopw [9] (fun i wr => ∃ k : Nat, k ≤ c.lats.length ∧ i = .int .i64 k ∧ (c.lats.take k).all (latOk S) = true ∧ Below w.heap.size w wr) (fun i _ => c.lats.length - (intOf i).toNat)
  case atStart => exact ⟨0, Nat.zero_le _, rfl, rfl, hb0⟩
  case round =>
    obtain ⟨k, hk, rfl, hno, hb⟩ := hrel
    have HN := Lib.hid hno; clear hno
    by_cases hlt : k < c.lats.length
    · obtain ⟨b, o, ha, hbb, hx0, hx1, hx2⟩ := (H.out.lats.below hb).tri hlt
      obtain ⟨fa, fb, fc⟩ := HF.out c.lats[k] (List.getElem_mem _)
      have HB := Lib.hid fb
      have HX := Lib.hid (all_take c.lats (latOk S) k hlt)
      have HS := Lib.hid (all_not c.lats (latOk S) k hlt)
      have hok : latOk S c.lats[k] = (namedOk S c.lats[k].b && (decide (c.lats[k].c = 0) || decide (c.lats[k].c = 1) || decide (c.lats[k].c = c.lats[k].a))) := rfl
      have HK := Lib.hid hok
      clear fa fb fc hok
      generalize s.al = A at *
      subst ha
      generalize latOk S c.lats[k] = q at *
      generalize c.lats[k].a = x at *
      generalize c.lats[k].b = y at *
      generalize c.lats[k].c = z at *
      have hb1 := hb.alloc hb.size (.cells #[.int .i64 x, .int .i64 y, .int .i64 z] 39)
      go_wp2_with fail
      refine (named1_any y g B S _ HB.out (HH.out.below hb1 rfl).cm (HH.out.below hb1 rfl).hS).mono ?_
      rintro e w' ⟨he, hbw⟩
      obtain ⟨d0, d1, d2⟩ := tri_cells wr x y z 39 w' hbw
      have hb2 := hb1.trans (hbw.mono hb1.size)
      clear hbw
      cases hn : namedOk S y
      · have he' : e = .panicked fault := by rw [he, hn]; rfl
        clear he
        subst he'
        have hq : q = false := by rw [HK.out, hn]; rfl
        have HQ := Lib.hid (HS.out hq)
        clear hq hn
        go_wp2
        exact ⟨rfl, by rw [HQ.out]; rfl, hb2⟩
      · have he' : e = .returned (.tuple #[]) := by rw [he, hn]; rfl
        clear he
        subst he'
        rw [hn] at HK
        clear hn
        by_cases z0 : z = 0
        · have hq := HK.out; rw [decide_eq_true z0] at hq
          have HQ := Lib.hid (show q = true from hq)
          have z0' : (z == 0) = true := by simpa using z0
          clear z0 hq
          go_wp2_with fail
          refine (need_t _ _ ?_).mono ?_
          · simp
          rintro e w3 ⟨rfl, rfl⟩
          go_wp2
          go_roundw
          case rel => exact ⟨k + 1, by omega, by go_num, by rw [HX.out, HN.out, HQ.out]; rfl, hb2⟩
          case measure => simp [intOf]; omega
        · have z0' : (z == 0) = false := by simpa using z0
          by_cases z1 : z = 1
          · have hq := HK.out; rw [decide_eq_true z1] at hq
            have HQ := Lib.hid (show q = true by rw [hq]; simp)
            have z1' : (z == 1) = true := by simpa using z1
            clear z0 z1 hq
            go_wp2_with fail
            refine (need_t _ _ ?_).mono ?_
            · simp
            rintro e w3 ⟨rfl, rfl⟩
            go_wp2
            go_roundw
            case rel => exact ⟨k + 1, by omega, by go_num, by rw [HX.out, HN.out, HQ.out]; rfl, hb2⟩
            case measure => simp [intOf]; omega
          · have z1' : (z == 1) = false := by simpa using z1
            by_cases z2 : z = x
            · have hq := HK.out; rw [decide_eq_true z2] at hq
              have HQ := Lib.hid (show q = true by rw [hq]; simp)
              have z2' : (z == x) = true := by simpa using z2
              clear z0 z1 z2 hq
              go_wp2_with fail
              refine (need_t _ _ ?_).mono ?_
              · simp
              rintro e w3 ⟨rfl, rfl⟩
              go_wp2
              go_roundw
              case rel => exact ⟨k + 1, by omega, by go_num, by rw [HX.out, HN.out, HQ.out]; rfl, hb2⟩
              case measure => simp [intOf]; omega
            · have z2' : (z == x) = false := by simpa using z2
              have hq : q = false := by rw [HK.out, decide_eq_false z0, decide_eq_false z1, decide_eq_false z2]; rfl
              have HQ := Lib.hid (HS.out hq)
              clear z0 z1 z2 hq
              go_wp2_with fail
              refine (need_f _ _ ?_).mono ?_
              · simp
              rintro e w3 ⟨rfl, rfl⟩
              go_wp2
              exact ⟨rfl, by rw [HQ.out]; rfl, hb2⟩
    · obtain rfl : k = c.lats.length := by omega
      rw [List.take_of_length_le (Nat.le_refl _)] at HN
      go_wp2
      go_end0
      exact ⟨by rw [HN.out]; rfl, hb⟩

/-- one and behind another one; the state is the literal of the one ahead -/
def andStep (S : List Int) (p : Int) (t : Tri) : Option Int :=
  if (decide (p < t.a) && decide (t.b < t.a) && decide (t.c < t.a) && namedOk S t.b && namedOk S t.c) = true then some t.a else none
def andsOk (S : List Int) (l : List Tri) : Bool := (through (andStep S) 0 l).isSome
set_option maxHeartbeats 2000000 in
theorem ands_any (c : Cir) (s : Places) (g B : Nat) (S : List Int) (w : World) (h : CLies w w.heap.size c s) (hf : CFits c s) (hh : Has w g B S) :
    Calls Try.prog 85 #[cirV c s, .func (.func 112) #[] #[.pointer (some ⟨g, 0, none⟩)]] w fun e w' => e = told (andsOk S c.ands) ∧ Below w.heap.size w w' := by
  have la := hf.la
  have hb0 : Below w.heap.size w (w.alloc (.cells (cirC c s) 27)) := (Below.refl _ _).alloc (Nat.le_refl _) _
  have H := Lib.hid h
  have HF := Lib.hid hf.ands
  have HH := Lib.hid hh
  clear h hf hh
  unfold cirV cirC at *
  go_enter Try.func85, Try.ntmps85
  go_wp2
  go_loopw [4, 10] (fun p i wr => ∃ (k : Nat) (q : Int), k ≤ c.ands.length ∧ i = .int .i64 k ∧ p = .int .i64 q ∧ through (andStep S) 0 (c.ands.take k) = some q ∧ Below w.heap.size w wr) (fun _ i _ => c.ands.length - (intOf i).toNat)
  case atStart => exact ⟨0, 0, Nat.zero_le _, rfl, rfl, rfl, hb0⟩
  case round =>
    obtain ⟨k, q, hk, rfl, rfl, hno, hb⟩ := hrel
    have HN := Lib.hid hno; clear hno
    by_cases hlt : k < c.ands.length
    · obtain ⟨b, o, ha, hbb, hx0, hx1, hx2⟩ := (H.out.ands.below hb).tri hlt
      obtain ⟨fa, fb, fc⟩ := HF.out c.ands[k] (List.getElem_mem _)
      have HB := Lib.hid fb
      have HC := Lib.hid fc
      have hX := through_snoc (andStep S) 0 q c.ands k hlt HN.out
      have hS := through_stop (andStep S) 0 c.ands (k + 1)
      have hok : andStep S q c.ands[k] = if (decide (q < c.ands[k].a) && decide (c.ands[k].b < c.ands[k].a) && decide (c.ands[k].c < c.ands[k].a) && namedOk S c.ands[k].b && namedOk S c.ands[k].c) = true then some c.ands[k].a else none := rfl
      rw [hok] at hX
      have HX := Lib.hid hX
      have HS := Lib.hid hS
      clear fa fb fc hok hX hS
      generalize s.aa = A at *
      subst ha
      generalize c.ands[k].a = x at *
      generalize c.ands[k].b = y at *
      generalize c.ands[k].c = z at *
      have hb1 := hb.alloc hb.size (.cells #[.int .i64 x, .int .i64 y, .int .i64 z] 43)
      have hF : ∀ (_ : (decide (q < x) && decide (y < x) && decide (z < x) && namedOk S y && namedOk S z) = false), told (andsOk S c.ands) = .panicked fault := fun e => by
        unfold andsOk; rw [HS.out (by rw [HX.out, e]; rfl)]; rfl
      have HF' := Lib.hid hF
      clear hF
      by_cases c1 : q < x
      case neg =>
        have d1 : decide (q < x) = false := by simpa using c1
        have HQ := Lib.hid (HF'.out (by rw [d1]; rfl))
        clear d1
        go_wp2_with fail
        refine (need_f _ _ ?_).mono ?_
        · simp; try omega
        rintro e w3 ⟨rfl, rfl⟩
        go_wp2
        exact ⟨rfl, by rw [HQ.out], hb1⟩
      case pos =>
      by_cases c2 : y < x
      case neg =>
        have d1 : decide (y < x) = false := by simpa using c2
        have HQ := Lib.hid (HF'.out (by rw [d1]; simp))
        clear d1
        go_wp2_with fail
        refine (need_f _ _ ?_).mono ?_
        · simp; try omega
        rintro e w3 ⟨rfl, rfl⟩
        go_wp2
        exact ⟨rfl, by rw [HQ.out], hb1⟩
      case pos =>
      by_cases c3 : z < x
      case neg =>
        have d1 : decide (z < x) = false := by simpa using c3
        have HQ := Lib.hid (HF'.out (by rw [d1]; simp))
        clear d1
        go_wp2_with fail
        refine (need_f _ _ ?_).mono ?_
        · simp; try omega
        rintro e w3 ⟨rfl, rfl⟩
        go_wp2
        exact ⟨rfl, by rw [HQ.out], hb1⟩
      case pos =>
      go_wp2_with fail
      refine (need_t _ _ ?_).mono ?_
      · simp; try omega
      rintro e w3 ⟨rfl, rfl⟩
      go_wp2_with fail
      refine (named1_any y g B S _ HB.out (HH.out.below hb1 rfl).cm (HH.out.below hb1 rfl).hS).mono ?_
      rintro e w' ⟨he, hbw⟩
      obtain ⟨d0, d1, d2⟩ := tri_cells wr x y z 43 w' hbw
      have hb2 := hb1.trans (hbw.mono hb1.size)
      cases hn : namedOk S y
      · have he' : e = .panicked fault := by rw [he, hn]; rfl
        clear he
        subst he'
        have HQ := Lib.hid (HF'.out (by rw [hn]; simp))
        clear hn
        go_wp2
        exact ⟨rfl, by rw [HQ.out], hb2⟩
      have he' : e = .returned (.tuple #[]) := by rw [he, hn]; rfl
      clear he
      subst he'
      rw [hn] at HX HF'
      clear hn
      go_wp2_with fail
      refine (named1_any z g B S _ HC.out (HH.out.below hb2 rfl).cm (HH.out.below hb2 rfl).hS).mono ?_
      rintro e w2 ⟨he, hbw2⟩
      obtain ⟨d3, d4, d5⟩ := tri_cells wr x y z 43 w2 (hbw.trans (hbw2.mono hbw.size))
      have hb3 := hb2.trans (hbw2.mono hb2.size)
      clear hbw hbw2
      cases hn : namedOk S z
      · have he' : e = .panicked fault := by rw [he, hn]; rfl
        clear he
        subst he'
        have HQ := Lib.hid (HF'.out (by rw [hn]; simp))
        clear hn
        go_wp2
        exact ⟨rfl, by rw [HQ.out], hb3⟩
      have he' : e = .returned (.tuple #[]) := by rw [he, hn]; rfl
      clear he
      subst he'
      have HY : Hid (through (andStep S) 0 (c.ands.take (k + 1)) = some x) := by unfold Hid; rw [HX.out, hn, decide_eq_true c1, decide_eq_true c2, decide_eq_true c3]; rfl
      clear hn
      go_wp2
      go_roundw
      case rel => exact ⟨k + 1, x, by omega, by go_num, rfl, HY.out, hb3⟩
      case measure => simp [intOf]; omega
    · obtain rfl : k = c.ands.length := by omega
      rw [List.take_of_length_le (Nat.le_refl _)] at HN
      go_wp2
      go_end0
      exact ⟨by unfold andsOk; rw [HN.out]; rfl, hb⟩
end Go.Proofs.Ytjlnffkieocihaa.Cw
namespace Go.Proofs.Ytjlnffkieocihaa.Cw
open Go.ChangeShapes Go.WideShapes Go.ChangeAt Go.RowKit Go.Maps Circ

def nameStep (c : Cir) (p : Int × Int) (n : Nam) : Option (Int × Int) :=
  if ((decide (p.1 < rankV n.kind) || (decide (rankV n.kind = p.1) && decide (p.2 < n.num))) && (decide (0 ≤ n.num) && decide (n.num < ((kindLits c n.kind).length : Int))) && textOk n.text) = true then some (rankV n.kind, n.num) else none
def namesOk (c : Cir) : Bool := (through (nameStep c) (0, -1) c.names).isSome

theorem nam_cells (w : World) (k : ByteArray) (b : Int) (x : ByteArray) (t : TypeId) (w' : World) (hb : Below (w.alloc (.cells #[.string k, .int .i64 b, .string x] t)).heap.size (w.alloc (.cells #[.string k, .int .i64 b, .string x] t)) w') :
    w'.cell? ⟨w.heap.size, 0, none⟩ = some (.string k) ∧ w'.cell? ⟨w.heap.size, 1, none⟩ = some (.int .i64 b) ∧ w'.cell? ⟨w.heap.size, 2, none⟩ = some (.string x) := by
  have hs : (w.alloc (.cells #[.string k, .int .i64 b, .string x] t)).heap.size = w.heap.size + 1 := by simp
  have h : ∀ i, w'.cell? ⟨w.heap.size, i, none⟩ = (#[.string k, .int .i64 b, .string x] : Array Value)[i]? := fun i => by
    rw [hb.cell (by rw [hs]; exact Nat.lt_succ_self _), new_cell]
  exact ⟨h 0, h 1, h 2⟩

theorem below_drewN {B : Nat} {a w : World} (h : Below B a w) (n : Nat) : Below B a (w.drewN n) := ⟨h.os, h.tape, h.output, h.size, h.block⟩

set_option maxHeartbeats 4000000 in
set_option maxRecDepth 100000 in
theorem names_any (c : Cir) (s : Places) (w : World) (h : CLies w w.heap.size c s) (hf : CFits c s) :
    Calls Try.prog 86 #[cirV c s] w fun e w' => e = told (namesOk c) ∧ Below w.heap.size w w' := by
  have ln := hf.ln
  have H := Lib.hid h
  have HF := Lib.hid hf
  have PP := Lib.hid (fun x w1 hb => pins_any c s x w1 hb hf)
  clear h hf
  unfold cirV cirC at *
  go_enter Try.func86, Try.ntmps86
  go_wp2
  go_loopw [2, 3, 12] (fun p a i wr => ∃ (k : Nat) (r q : Int), k ≤ c.names.length ∧ i = .int .i64 k ∧ p = .int .i64 r ∧ a = .int .i64 q ∧ through (nameStep c) (0, -1) (c.names.take k) = some (r, q) ∧ Below (w.heap.size + 1) (w.alloc (.cells (cirC c s) 27)) wr) (fun _ _ i _ => c.names.length - (intOf i).toNat)
  case atStart => exact ⟨0, 0, -1, Nat.zero_le _, rfl, rfl, rfl, rfl, Below.refl _ _⟩
  case round =>
    obtain ⟨k, r, a, hk, rfl, rfl, rfl, hno, hb⟩ := hrel
    have HN := Lib.hid hno; clear hno
    have HB0 : Hid (Below w.heap.size w (w.alloc (.cells (cirC c s) 27))) := (Below.refl _ _).alloc (Nat.le_refl _) _
    have hbw : Below w.heap.size w wr := HB0.out.trans (hb.mono (by omega))
    have hwz : w.heap.size + 1 ≤ wr.heap.size := by have := hb.size; rw [show (w.alloc (.cells (cirC c s) 27)).heap.size = w.heap.size + 1 by simp] at this; exact this
    by_cases hlt : k < c.names.length
    · obtain ⟨b, o, ha, hbb, hx0, hx1, hx2⟩ := (H.out.names.below hbw).nam hlt
      obtain ⟨fa, fb, fc⟩ := HF.out.names c.names[k] (List.getElem_mem _)
      have hX := through_snoc (nameStep c) (0, -1) (r, a) c.names k hlt HN.out
      have hS := through_stop (nameStep c) (0, -1) c.names (k + 1)
      have hok : nameStep c (r, a) c.names[k] = if ((decide (r < rankV c.names[k].kind) || (decide (rankV c.names[k].kind = r) && decide (a < c.names[k].num))) && (decide (0 ≤ c.names[k].num) && decide (c.names[k].num < ((kindLits c c.names[k].kind).length : Int))) && textOk c.names[k].text) = true then some (rankV c.names[k].kind, c.names[k].num) else none := rfl
      rw [hok] at hX
      have HX := Lib.hid hX
      have HS := Lib.hid hS
      clear hok hX hS
      have HAn : Hid (s.an = some ⟨b, o, none⟩) := ha
      rw [ha]
      clear ha
      generalize c.names[k].kind = x at *
      generalize c.names[k].num = y at *
      generalize c.names[k].text = z at *
      have hb1 := hb.alloc hwz (.cells #[.string x, .int .i64 y, .string z] 84)
      have HC : Hid (z.size ≤ 9223372036854775807) := by unfold Hid; omega
      clear fa fb fc
      obtain ⟨L, hLn⟩ : ∃ L, ((kindLits c x).length : Int) = L := ⟨_, rfl⟩
      rw [hLn] at HX
      have HLn := Lib.hid hLn; clear hLn
      go_wp2_with fail
      refine (rankof_any x _).mono ?_
      rintro e w1 ⟨rfl, hb'⟩
      generalize rankV x = rk at *
      obtain ⟨n0, n1, n2⟩ := nam_cells wr x y z 84 w1 hb'
      have hb2 := hb1.trans (hb'.mono (show w.heap.size + 1 ≤ _ by have := hb1.size; simp at this ⊢; omega))
      obtain ⟨e0, e1, e2, e3, e4, e5, e6, e7⟩ := ((Box.made w c s).keep hb2 (Nat.lt_succ_self _)).cells
      rw [HAn.out] at e7
      have P := PP.out x w1 ((H.out.below (HB0.out.trans (hb2.mono (by omega)))).more (by have := hb2.size; simp at this; omega))
      rw [HAn.out] at P
      have HP := Lib.hid P
      clear P
      rename Hid (Calls _ _ _ _ _) => P
      have hF : ∀ (_ : ¬ (((decide (r < rk) || (decide (rk = r) && decide (a < y))) && (decide (0 ≤ y) && decide (y < L)) && textOk z) = true)), told (namesOk c) = .panicked fault := fun e => by
        unfold namesOk; rw [HS.out (by rw [HX.out, if_neg e])]; rfl
      have HF' := Lib.hid hF
      clear hF
      by_cases c1 : r < rk
      · have g : Hid (decide (r < rk) = true) := decide_eq_true c1
        have HY : Hid (¬ ((decide (0 ≤ y) && decide (y < L) && textOk z) = true) → told (namesOk c) = .panicked fault) := fun e => HF'.out (by
          rw [g.out, Bool.true_or]; simp only [Bool.true_and]; simpa using e)
        have HZ : Hid ((decide (0 ≤ y) && decide (y < L) && textOk z) = true → through (nameStep c) (0, -1) (c.names.take (k + 1)) = some (rk, y)) := fun e => by
          rw [HX.out, g.out, Bool.true_or]; simp only [Bool.true_and]; rw [if_pos e]
        clear HX HF'
        go_wp2_with fail
        refine (need_t _ _ ?_).mono ?_
        · simp; try omega
        rintro e w' ⟨rfl, rfl⟩
        go_wp2_with fail
        refine (P.out).mono ?_
        rintro e w2 ⟨kf, cap, rfl, hbp, -, -⟩
        rw [HLn.out]
        obtain ⟨m0, m1, m2⟩ := nam_cells wr x y z 84 w2 (hb'.trans (hbp.mono hb'.size))
        have hb3 := hb2.trans (hbp.mono (show w.heap.size + 1 ≤ w1.heap.size by have := hb'.size; simp at this; omega))
        have hz3 := hbp.size
        by_cases c1 : 0 ≤ y
        case neg =>
          have d1 : decide (0 ≤ y) = false := by simpa using c1
          have HQ := Lib.hid (HY.out (by rw [d1]; simp))
          clear d1
          go_wp2_with fail
          refine (need_f _ _ ?_).mono ?_
          · simp; try omega
          rintro e w3 ⟨rfl, rfl⟩
          go_wp2
          exact ⟨rfl, by rw [HQ.out], HB0.out.trans (hb3.mono (by omega))⟩
        case pos =>
        by_cases c2 : y < L
        case neg =>
          have d1 : decide (y < L) = false := by simpa using c2
          have HQ := Lib.hid (HY.out (by rw [d1]; simp))
          clear d1
          go_wp2_with fail
          refine (need_f _ _ ?_).mono ?_
          · simp; try omega
          rintro e w3 ⟨rfl, rfl⟩
          go_wp2
          exact ⟨rfl, by rw [HQ.out], HB0.out.trans (hb3.mono (by omega))⟩
        case pos =>
        rw [decide_eq_true c1, decide_eq_true c2] at HY HZ
        go_wp2_with fail
        refine (need_t _ _ ?_).mono ?_
        · simp; try omega
        rintro e w' ⟨rfl, rfl⟩
        go_wp2_with fail
        refine (text_any z _ HC.out).mono ?_
        rintro e w3 ⟨he, hbt⟩
        obtain ⟨l0, l1, l2⟩ := nam_cells wr x y z 84 w3 ((hb'.trans (hbp.mono hb'.size)).trans (hbt.mono (Nat.le_trans hb'.size hz3)))
        have hb4 := hb3.trans (hbt.mono (show w.heap.size + 1 ≤ w2.heap.size by have := hb'.size; simp at this; omega))
        cases hn : textOk z
        · have he' : e = .panicked fault := by rw [he, hn]; rfl
          clear he
          subst he'
          have HQ := Lib.hid (HY.out (by rw [hn]; simp))
          clear hn
          go_wp2
          exact ⟨rfl, by rw [HQ.out], HB0.out.trans (hb4.mono (by omega))⟩
        have he' : e = .returned (.tuple #[]) := by rw [he, hn]; rfl
        clear he
        subst he'
        have HQ := Lib.hid (HZ.out (by rw [hn]; rfl))
        clear hn
        go_wp2
        go_quiet (fail)
        go_wp2
        go_roundw
        case rel => exact ⟨k + 1, rk, y, by omega, by go_num, rfl, rfl, HQ.out, below_drewN hb4 _⟩
        case measure => simp [intOf]; omega
      · have c1' : Hid (decide (r < rk) = false) := decide_eq_false c1
        by_cases c2 : rk = r
        · have c2' : Hid (decide (rk = r) = true) := decide_eq_true c2
          have t2 : (rk == r) = true := by simpa using c2
          clear c2
          by_cases c3 : a < y
          · have c3' : Hid (decide (a < y) = true) := decide_eq_true c3
            have HY : Hid (¬ ((decide (0 ≤ y) && decide (y < L) && textOk z) = true) → told (namesOk c) = .panicked fault) := fun e => HF'.out (by
              rw [c1'.out, c2'.out, c3'.out, Bool.false_or, Bool.true_and]; simp only [Bool.true_and]; simpa using e)
            have HZ : Hid ((decide (0 ≤ y) && decide (y < L) && textOk z) = true → through (nameStep c) (0, -1) (c.names.take (k + 1)) = some (rk, y)) := fun e => by
              rw [HX.out, c1'.out, c2'.out, c3'.out, Bool.false_or, Bool.true_and]; simp only [Bool.true_and]; rw [if_pos e]
            clear HX HF'
            go_wp2_with fail
            refine (need_t _ _ ?_).mono ?_
            · simp; try omega
            rintro e w' ⟨rfl, rfl⟩
            go_wp2_with fail
            refine (P.out).mono ?_
            rintro e w2 ⟨kf, cap, rfl, hbp, -, -⟩
            rw [HLn.out]
            obtain ⟨m0, m1, m2⟩ := nam_cells wr x y z 84 w2 (hb'.trans (hbp.mono hb'.size))
            have hb3 := hb2.trans (hbp.mono (show w.heap.size + 1 ≤ w1.heap.size by have := hb'.size; simp at this; omega))
            have hz3 := hbp.size
            by_cases c1 : 0 ≤ y
            case neg =>
              have d1 : decide (0 ≤ y) = false := by simpa using c1
              have HQ := Lib.hid (HY.out (by rw [d1]; simp))
              clear d1
              go_wp2_with fail
              refine (need_f _ _ ?_).mono ?_
              · simp; try omega
              rintro e w3 ⟨rfl, rfl⟩
              go_wp2
              exact ⟨rfl, by rw [HQ.out], HB0.out.trans (hb3.mono (by omega))⟩
            case pos =>
            by_cases c2 : y < L
            case neg =>
              have d1 : decide (y < L) = false := by simpa using c2
              have HQ := Lib.hid (HY.out (by rw [d1]; simp))
              clear d1
              go_wp2_with fail
              refine (need_f _ _ ?_).mono ?_
              · simp; try omega
              rintro e w3 ⟨rfl, rfl⟩
              go_wp2
              exact ⟨rfl, by rw [HQ.out], HB0.out.trans (hb3.mono (by omega))⟩
            case pos =>
            rw [decide_eq_true c1, decide_eq_true c2] at HY HZ
            go_wp2_with fail
            refine (need_t _ _ ?_).mono ?_
            · simp; try omega
            rintro e w' ⟨rfl, rfl⟩
            go_wp2_with fail
            refine (text_any z _ HC.out).mono ?_
            rintro e w3 ⟨he, hbt⟩
            obtain ⟨l0, l1, l2⟩ := nam_cells wr x y z 84 w3 ((hb'.trans (hbp.mono hb'.size)).trans (hbt.mono (Nat.le_trans hb'.size hz3)))
            have hb4 := hb3.trans (hbt.mono (show w.heap.size + 1 ≤ w2.heap.size by have := hb'.size; simp at this; omega))
            cases hn : textOk z
            · have he' : e = .panicked fault := by rw [he, hn]; rfl
              clear he
              subst he'
              have HQ := Lib.hid (HY.out (by rw [hn]; simp))
              clear hn
              go_wp2
              exact ⟨rfl, by rw [HQ.out], HB0.out.trans (hb4.mono (by omega))⟩
            have he' : e = .returned (.tuple #[]) := by rw [he, hn]; rfl
            clear he
            subst he'
            have HQ := Lib.hid (HZ.out (by rw [hn]; rfl))
            clear hn
            go_wp2
            go_quiet (fail)
            go_wp2
            go_roundw
            case rel => exact ⟨k + 1, rk, y, by omega, by go_num, rfl, rfl, HQ.out, below_drewN hb4 _⟩
            case measure => simp [intOf]; omega
          · have d3 : decide (a < y) = false := decide_eq_false c3
            have HQ := Lib.hid (HF'.out (by rw [c1'.out, d3]; simp))
            clear d3
            go_wp2_with fail
            refine (need_f _ _ ?_).mono ?_
            · simp; try omega
            rintro e w3 ⟨rfl, rfl⟩
            go_wp2
            exact ⟨rfl, by rw [HQ.out], HB0.out.trans (hb2.mono (by omega))⟩
        · have d2 : decide (rk = r) = false := decide_eq_false c2
          have t2 : (rk == r) = false := by simpa using c2
          have HQ := Lib.hid (HF'.out (by rw [c1'.out, d2]; simp))
          clear d2 c2
          go_wp2_with fail
          refine (need_f _ _ ?_).mono ?_
          · simp; try omega
          rintro e w3 ⟨rfl, rfl⟩
          go_wp2
          exact ⟨rfl, by rw [HQ.out], HB0.out.trans (hb2.mono (by omega))⟩
    · obtain rfl : k = c.names.length := by omega
      rw [List.take_of_length_le (Nat.le_refl _)] at HN
      go_wp2
      go_end0
      exact ⟨by unfold namesOk; rw [HN.out]; rfl, hbw⟩
end Go.Proofs.Ytjlnffkieocihaa.Cw
