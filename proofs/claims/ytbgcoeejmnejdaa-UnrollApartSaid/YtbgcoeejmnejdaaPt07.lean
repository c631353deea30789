/- The walks of circuit's looks at literals that are named, and at those that stand for what they are alone; no condition. The walk of circuit's look at all literals that stand for what they are alone; no condition. The walks of circuit's looks at latches and at ands; no condition. -/
import Derived.Test.YtbgcoeejmnejdaaPt06
import Derived.Deep.RegionWith
import Derived.Deep.RegionHeld3
import Derived.BigRegion
namespace Go.Proofs.Ytbgcoeejmnejdaa.Cw
open Go.ChangeShapes Go.WideShapes Go.ChangeAt Go.RowKit Go.Maps Circ

def namedOk (S : List Int) (x : Int) : Bool := S.contains (cnt x / 2) && decide (0 ≤ x)

set_option maxHeartbeats 1000000 in
theorem named1_any (x : Int) (g B : Nat) (S : List Int) (w : World) (hx : I64 x) (hc : w.cell? ⟨g, 0, none⟩ = some (.map (some B))) (hS : IsSet w B S) :
    Calls Try.prog 124 #[.int .i64 x, .pointer (some ⟨g, 0, none⟩)] w fun e w' => e = told (namedOk S x) ∧ Below w.heap.size w w' := by
  unfold namedOk
  obtain ⟨x0, x1⟩ := hx
  have hk : I64 (cnt x / 2) := by obtain ⟨b0, b1⟩ := cnt_bd x x1; unfold I64; omega
  have V := Lib.hid (fun w => var_any x w x1)
  have hl : ∀ W', IsSet W' B S → (Instr.lookup 112 (.map (some B)) (.int .i64 (cnt x / 2)) true).run Try.prog W' = .ok (.tuple #[.agg #[], .bool (S.contains (cnt x / 2))]) W' := fun W' h => h.look hk
  have HL := Lib.hid hl
  have HS := Lib.hid hS
  have hb := ((Below.refl w.heap.size w).alloc (Nat.le_refl _) (.cells #[] 147)).drew
  have hc2 : ((w.alloc (.cells #[] 147)).drew).cell? ⟨g, 0, none⟩ = some (.map (some B)) := cell_later hb hc
  have HS2 := Lib.hid (hS.alloc (.cells #[] 147)).drew
  clear hS hl
  generalize cnt x / 2 = r at *
  generalize S.contains r = q at *
  cases q
  · go_enter Try.func124, Try.ntmps124
    go_wp2
    go_region_held3 (fun w' => w'.cell? ⟨g, 0, none⟩ = some (.map (some B)) ∧ Hid (IsSet w' B S) ∧ (Instr.lookup 112 (.map (some B)) (.int .i64 r) true).run Try.prog w' = .ok (.tuple #[.agg #[], .bool false]) w')
      (first | exact ⟨hc, HS, HL.out _ HS.out⟩ | exact ⟨hc2, HS2, HL.out _ HS2.out⟩)
      (first | (go_at_call 59; refine (V.out _).mono ?_; rintro e w' ⟨rfl, rfl⟩))
    all_goals
      go_wp2_with (go_at_call 123; refine (need_no _).mono ?_; rintro e w' ⟨rfl, rfl⟩)
      exact ⟨rfl, rfl, hb⟩
  · by_cases h0 : 0 ≤ x
    · go_enter Try.func124, Try.ntmps124
      go_wp2
      go_region_held3 (fun w' => w'.cell? ⟨g, 0, none⟩ = some (.map (some B)) ∧ Hid (IsSet w' B S) ∧ (Instr.lookup 112 (.map (some B)) (.int .i64 r) true).run Try.prog w' = .ok (.tuple #[.agg #[], .bool true]) w')
        (first | exact ⟨hc, HS, HL.out _ HS.out⟩ | exact ⟨hc2, HS2, HL.out _ HS2.out⟩)
        (first | (go_at_call 59; refine (V.out _).mono ?_; rintro e w' ⟨rfl, rfl⟩))
      all_goals
        go_wp2_with fail
        refine (need_t _ _ ?_).mono ?_
        · simp; try omega
        rintro e w' ⟨rfl, rfl⟩
        go_wp2
        go_end0
        exact ⟨by simp [h0, told], hb⟩
    · have h0' : decide (0 ≤ x) = false := by simpa using h0
      go_enter Try.func124, Try.ntmps124
      go_wp2
      go_region_held3 (fun w' => w'.cell? ⟨g, 0, none⟩ = some (.map (some B)) ∧ Hid (IsSet w' B S) ∧ (Instr.lookup 112 (.map (some B)) (.int .i64 r) true).run Try.prog w' = .ok (.tuple #[.agg #[], .bool true]) w')
        (first | exact ⟨hc, HS, HL.out _ HS.out⟩ | exact ⟨hc2, HS2, HL.out _ HS2.out⟩)
        (first | (go_at_call 59; refine (V.out _).mono ?_; rintro e w' ⟨rfl, rfl⟩))
      all_goals
        go_wp2_with (go_at_call 123; refine (need_no _).mono ?_; rintro e w' ⟨rfl, rfl⟩)
        exact ⟨rfl, by simp [h0', told], hb⟩

def defOk (m : Int) (S : List Int) (x : Int) : Bool := !outside m x && !decide (cnt x % 2 = 1) && !S.contains (cnt x / 2)
theorem IsSet.ne_ {w : World} {B g o : Nat} {S : List Int} {v : Value} (h : IsSet w B S) (hc : w.cell? ⟨g, o, none⟩ = some v) : g ≠ B := by
  rintro rfl
  obtain ⟨n, D, ⟨es, cl, h0, _⟩, _⟩ := h
  simp [World.cell?, h0] at hc
theorem grown_trans {a b c : World} {B : Nat} (h : a.grownBy b (some B)) (k : b.grownBy c (some B)) (hs : a.heap.size ≤ b.heap.size) : a.grownBy c (some B) :=
  ⟨k.os.trans h.os, k.tape.trans h.tape, k.output.trans h.output, Nat.le_trans h.size k.size, fun i hi hne => (k.block i (by omega) hne).trans (h.block i hi hne)⟩

def DefP (m x : Int) (B : Nat) (S : List Int) (W : World) (e : Ending) (w' : World) : Prop :=
  e = told (defOk m S x) ∧ W.grownBy w' (some B) ∧ (defOk m S x = true → IsSet w' B ((cnt x / 2) :: S))

set_option maxHeartbeats 2000000 in
theorem define1_any (m x : Int) (gc gm B : Nat) (S : List Int) (w : World) (hx : I64 x) (hc : w.cell? ⟨gc, 0, none⟩ = some (.int .i64 m)) (hm : w.cell? ⟨gm, 0, none⟩ = some (.map (some B))) (hS : IsSet w B S)
    (hn : S.length < 9223372036854775807) :
    Calls Try.prog 125 #[.int .i64 x, .pointer (some ⟨gc, 0, none⟩), .pointer (some ⟨gm, 0, none⟩)] w (DefP m x B S w) := by
  obtain ⟨x0, x1⟩ := hx
  have hk : I64 (cnt x / 2) := by obtain ⟨b0, b1⟩ := cnt_bd x x1; unfold I64; omega
  have V := Lib.hid (fun w => var_any x w x1)
  have N := Lib.hid (fun w => neg_any x w x1)
  have hb1 : Below w.heap.size w (w.alloc (.cells #[.int .i64 x] 3)) := (Below.refl w.heap.size w).alloc (Nat.le_refl _) _
  have hs1 : (w.alloc (.cells #[.int .i64 x] 3)).heap.size = w.heap.size + 1 := by simp
  have C := lcheck_any m [x] (some ⟨w.heap.size, 0, none⟩) 1 (w.alloc (.cells #[.int .i64 x] 3)) (by simp) (.inr ⟨_, 0, rfl, by rw [hs1]; omega, fun i ys hi j u hj => by
    match i, hi with
    | 0, hi =>
      obtain rfl : [Value.int .i64 x] = ys := by simpa [ints] using hi
      match j, hj with
      | 0, hj =>
        obtain rfl : Value.int .i64 x = u := by simpa using hj
        rw [new_cell]; rfl⟩)
  have HC := Lib.hid C; clear C
  have HSt := Lib.hid hS
  clear hS
  unfold DefP defOk
  have hgr : ∀ W', Below w.heap.size w W' → w.grownBy W' (some B) := fun W' h => ⟨h.os, h.tape, h.output, h.size, fun k hk _ => h.block k hk⟩
  have HG := Lib.hid hgr; clear hgr
  cases ho : outside m x
  case true =>
    have ho' : (if [x].any (outside m) = true then (4 : Int) else 0) = 4 := by simp [ho]
    rw [ho'] at HC
    go_enter Try.func125, Try.ntmps125
    go_wp2_with fail
    refine HC.out.mono ?_
    rintro e w1 ⟨rfl, hb⟩
    have hbel := hb1.trans (hb.mono (by rw [hs1]; omega))
    go_wp2_with fail
    refine (need_no _).mono ?_
    rintro e w' ⟨rfl, rfl⟩
    go_wp2
    exact ⟨rfl, by simp [told], HG.out _ hbel, by simp⟩
  case false =>
  have ho' : (if [x].any (outside m) = true then (4 : Int) else 0) = 0 := by simp [ho]
  rw [ho'] at HC
  cases hp : decide (cnt x % 2 = 1)
  case true =>
    rw [hp] at N
    go_enter Try.func125, Try.ntmps125
    go_wp2_with fail
    refine HC.out.mono ?_
    rintro e w1 ⟨rfl, hb⟩
    have hbel := hb1.trans (hb.mono (by rw [hs1]; omega))
    go_wp2_with (go_at_call 98; refine (N.out _).mono ?_; rintro e w' ⟨rfl, rfl⟩)
    refine (need_no _).mono ?_
    rintro e w' ⟨rfl, rfl⟩
    go_wp2
    exact ⟨rfl, by simp [told], HG.out _ hbel, by simp⟩
  case false =>
  rw [hp] at N
  clear hp ho'
  cases hq : S.contains (cnt x / 2)
  case true =>
    go_enter Try.func125, Try.ntmps125
    go_wp2_with fail
    refine HC.out.mono ?_
    rintro e w1 ⟨rfl, hb⟩
    have hbel := hb1.trans (hb.mono (by rw [hs1]; omega))
    go_wp2_with (go_at_call 98; refine (N.out _).mono ?_; rintro e w' ⟨rfl, rfl⟩)
    refine (need_yes _).mono ?_
    rintro e w' ⟨rfl, rfl⟩
    have hbe2 := (hbel.alloc hbel.size (.cells #[] 147)).drew
    have hm1 := cell_later hbel hm
    have hm2 := cell_later hbe2 hm
    have HS1 := Lib.hid (HSt.out.below hbel HSt.out.lt)
    have HS2 := Lib.hid (HSt.out.below hbe2 HSt.out.lt)
    have hl : ∀ W', IsSet W' B S → (Instr.lookup 112 (.map (some B)) (.int .i64 (cnt x / 2)) true).run Try.prog W' = .ok (.tuple #[.agg #[], .bool true]) W' := fun W' h => by have e := h.look hk; rw [hq] at e; exact e
    have HL := Lib.hid hl
    clear hl hq
    generalize cnt x / 2 = r at *
    go_wp2
    go_region_held3 (fun w' => w'.cell? ⟨gm, 0, none⟩ = some (.map (some B)) ∧ Hid (IsSet w' B S) ∧ (Instr.lookup 112 (.map (some B)) (.int .i64 r) true).run Try.prog w' = .ok (.tuple #[.agg #[], .bool true]) w')
      (first | exact ⟨hm1, HS1, HL.out _ HS1.out⟩ | exact ⟨hm2, HS2, HL.out _ HS2.out⟩)
      (first | (go_at_call 59; refine (V.out _).mono ?_; rintro e w' ⟨rfl, rfl⟩))
    all_goals
      go_wp2_with fail
      refine (need_no _).mono ?_
      rintro e w' ⟨rfl, rfl⟩
      go_wp2
      exact ⟨rfl, by simp [told], HG.out _ hbe2, by simp⟩
  case false =>
  go_enter Try.func125, Try.ntmps125
  go_wp2_with fail
  refine HC.out.mono ?_
  rintro e w1 ⟨rfl, hb⟩
  have hbel := hb1.trans (hb.mono (by rw [hs1]; omega))
  go_wp2_with (go_at_call 98; refine (N.out _).mono ?_; rintro e w' ⟨rfl, rfl⟩)
  refine (need_yes _).mono ?_
  rintro e w' ⟨rfl, rfl⟩
  have hbe2 := (hbel.alloc hbel.size (.cells #[] 147)).drew
  have hm1 := cell_later hbel hm
  have hm2 := cell_later hbe2 hm
  have HS1 := Lib.hid (HSt.out.below hbel HSt.out.lt)
  have HS2 := Lib.hid (HSt.out.below hbe2 HSt.out.lt)
  have hl : ∀ W', IsSet W' B S → (Instr.lookup 112 (.map (some B)) (.int .i64 (cnt x / 2)) true).run Try.prog W' = .ok (.tuple #[.agg #[], .bool false]) W' := fun W' h => by have e := h.look hk; rw [hq] at e; exact e
  have HL := Lib.hid hl
  clear hl hq
  generalize hr : cnt x / 2 = r at *
  have HR := Lib.hid hr; clear hr
  go_wp2
  go_region_held3 (fun w' => w'.cell? ⟨gm, 0, none⟩ = some (.map (some B)) ∧ Hid (IsSet w' B S) ∧ (Instr.lookup 112 (.map (some B)) (.int .i64 r) true).run Try.prog w' = .ok (.tuple #[.agg #[], .bool false]) w')
    (first | exact ⟨hm1, HS1, HL.out _ HS1.out⟩ | exact ⟨hm2, HS2, HL.out _ HS2.out⟩)
    (first | (go_at_call 59; refine (V.out _).mono ?_; rintro e w' ⟨rfl, rfl⟩))
  all_goals
    go_wp2_with fail
    refine (need_yes _).mono ?_
    rintro e w' ⟨rfl, rfl⟩
    obtain ⟨w3, hst, hS3, hg3⟩ := IsSet.store HS2.out.drew hk hn
    have hm2' : (((w1.alloc (.cells #[] 147)).drew).drew).cell? ⟨gm, 0, none⟩ = some (.map (some B)) := hm2
    have hm3 : w3.cell? ⟨gm, 0, none⟩ = some (.map (some B)) := by
      rw [World.cell?_of_block (hg3.block gm (World.block_lt_of_cell? _ _ hm2') (fun e => IsSet.ne_ HS2.out.drew hm2' (Option.some.inj e)))]
      exact hm2'
    have hfin : w.grownBy w3 (some B) := grown_trans (HG.out _ hbe2.drew) hg3 hbe2.size
    have HS3 := Lib.hid hS3
    have HF := Lib.hid hfin
    clear hS3 hg3 hfin
    go_wp2_with fail
    go_region_held3 (fun w' => w'.cell? ⟨gm, 0, none⟩ = some (.map (some B)))
      (first | exact hm2' | exact hm3)
      (first | (go_at_call 59; refine (V.out _).mono ?_; rintro e w' ⟨rfl, rfl⟩))
    all_goals
      go_wp2
      go_end0
      exact ⟨by simp [told], HF.out, fun _ => by rw [HR.out]; exact HS3.out⟩
end Go.Proofs.Ytbgcoeejmnejdaa.Cw
namespace Go.Proofs.Ytbgcoeejmnejdaa.Cw
open Go.ChangeShapes Go.WideShapes Go.ChangeAt Go.RowKit Go.Maps Circ

/-- the variables that are met behind a list of literals; none: one may not be there -/
def defAll (m : Int) : List Int → List Int → Option (List Int)
  | S, [] => some S
  | S, x :: l => if defOk m S x = true then defAll m (cnt x / 2 :: S) l else none
theorem defAll_append (m : Int) : ∀ (a b S : List Int), defAll m S (a ++ b) = (defAll m S a).bind fun T => defAll m T b
  | [], _, _ => rfl
  | x :: a, b, S => by
    simp only [List.cons_append, defAll]
    split
    · exact defAll_append m a b _
    · rfl
theorem defAll_len (m : Int) : ∀ (a S T : List Int), defAll m S a = some T → T.length = S.length + a.length
  | [], S, T, h => by simp only [defAll, Option.some.injEq] at h; subst h; rfl
  | x :: a, S, T, h => by
    simp only [defAll] at h
    split at h
    · have := defAll_len m a _ T h; simp at this ⊢; omega
    · cases h
theorem defAll_snoc (m : Int) (S T : List Int) (l : List Int) (k : Nat) (hk : k < l.length) (h : defAll m S (l.take k) = some T) :
    defAll m S (l.take (k + 1)) = if defOk m T l[k] = true then some (cnt l[k] / 2 :: T) else none := by
  rw [List.take_succ_eq_append_getElem hk, defAll_append, h]; rfl
theorem defAll_stop (m : Int) (S : List Int) (l : List Int) (k : Nat) (h : defAll m S (l.take k) = none) : defAll m S l = none := by
  rw [← List.take_append_drop k l, defAll_append, h]; rfl

theorem grow_cell {w w' : World} {B : Nat} (h : w.grownBy w' (some B)) {p : Addr} {v : Value} (hc : w.cell? p = some v) (hne : p.block ≠ B) : w'.cell? p = some v :=
  (World.cell?_of_block (h.block p.block (World.block_lt_of_cell? _ _ hc) (fun e => hne (Option.some.inj e)))).trans hc
theorem below_grown {w w' : World} (B : Nat) (h : Below w.heap.size w w') : w.grownBy w' (some B) := ⟨h.os, h.tape, h.output, h.size, fun k hk _ => h.block k hk⟩
theorem grown_below {w w' : World} {B C : Nat} (h : w.grownBy w' (some B)) (hC : C ≤ B) (hs : C ≤ w.heap.size) : Below C w w' := ⟨h.os, h.tape, h.output, h.size, fun k hk => h.block k (by omega) (fun e => by have := Option.some.inj e; omega)⟩

/-- what holds all through the look: the circuit's variable, the set's, and what was met -/
structure Met (c : Cir) (s : Places) (W : World) (gm B : Nat) (S : List Int) (w : World) : Prop where
  c0 : w.cell? ⟨W.heap.size, 0, none⟩ = some (.int .i64 c.max)
  c1 : w.cell? ⟨W.heap.size, 1, none⟩ = some (.slice s.ai c.ins.length s.ki)
  c2 : w.cell? ⟨W.heap.size, 2, none⟩ = some (.slice s.al c.lats.length s.kl)
  c6 : w.cell? ⟨W.heap.size, 6, none⟩ = some (.slice s.aa c.ands.length s.ka)
  cm : w.cell? ⟨gm, 0, none⟩ = some (.map (some B))
  hS : IsSet w B S
  hb : Below W.heap.size W w
  hB : W.heap.size < B
theorem Met.grow {c : Cir} {s : Places} {W : World} {gm B : Nat} {S T : List Int} {w w' : World} (h : Met c s W gm B S w) (hg : w.grownBy w' (some B)) (hT : IsSet w' B T) : Met c s W gm B T w' :=
  have n0 : W.heap.size ≠ B := by have := h.hB; omega
  ⟨grow_cell hg h.c0 n0, grow_cell hg h.c1 n0, grow_cell hg h.c2 n0, grow_cell hg h.c6 n0, grow_cell hg h.cm (h.hS.ne_ h.cm), hT, h.hb.trans (grown_below hg (by have := h.hB; omega) h.hb.size), h.hB⟩
theorem Met.alloc {c : Cir} {s : Places} {W : World} {gm B : Nat} {S : List Int} {w : World} (h : Met c s W gm B S w) (o : Obj) : Met c s W gm B S (w.alloc o) :=
  h.grow (below_grown B ((Below.refl _ _).alloc (Nat.le_refl _) o)) (h.hS.alloc o)

def own (c : Cir) : List Int := c.ins ++ (c.lats.map Tri.a ++ c.ands.map Tri.a)
def DefinedP (c : Cir) (W : World) (e : Ending) (w' : World) : Prop :=
  Below W.heap.size W w' ∧ ((∃ S B, defAll c.max [0] (own c) = some S ∧ e = .returned (.map (some B)) ∧ IsSet w' B S) ∨ (defAll c.max [0] (own c) = none ∧ e = .panicked fault))

theorem met_start (c : Cir) (s : Places) (w : World) : ∃ wc, (Instr.mapUpdate 112 (.map (some (w.heap.size + 1))) (.int .i64 0) (.agg #[])).run Try.prog ((w.alloc (.cells (cirC c s) 27)).alloc (.map #[] 0)) = .ok () wc ∧
    Met c s w wc.heap.size (w.heap.size + 1) [0] (wc.alloc (.cells #[.map (some (w.heap.size + 1))] 112)) := by
  have hb1 : Below w.heap.size w (w.alloc (.cells (cirC c s) 27)) := (Below.refl _ _).alloc (Nat.le_refl _) _
  have hs1 : (w.alloc (.cells (cirC c s) 27)).heap.size = w.heap.size + 1 := by simp
  have hb2 := hb1.alloc hb1.size (.map #[] 0)
  have hS := IsSet.made (w.alloc (.cells (cirC c s) 27))
  rw [hs1] at hS
  obtain ⟨wc, hst, hS1, hg⟩ := hS.store (x := 0) ⟨by decide, by decide⟩ (by decide)
  refine ⟨wc, hst, ?_⟩
  have cc : ∀ (i : Nat) (v : Value), (cirC c s)[i]? = some v → wc.cell? ⟨w.heap.size, i, none⟩ = some v := fun i v hv => by
    refine grow_cell hg ?_ (by show w.heap.size ≠ w.heap.size + 1; omega)
    rw [World.cell?_alloc_lt _ _ _ (by rw [hs1]; exact Nat.lt_succ_self _), new_cell]; exact hv
  have hbc : Below w.heap.size w wc := hb2.trans (grown_below hg (by omega) hb2.size)
  have hm : Met c s w wc.heap.size (w.heap.size + 1) [0] wc → Met c s w wc.heap.size (w.heap.size + 1) [0] (wc.alloc (.cells #[.map (some (w.heap.size + 1))] 112)) := fun h => h.alloc _
  have al : ∀ {p v}, wc.cell? p = some v → (wc.alloc (.cells #[.map (some (w.heap.size + 1))] 112)).cell? p = some v := fun h => cell_later ((Below.refl _ _).alloc (Nat.le_refl _) _) h
  exact ⟨al (cc 0 _ rfl), al (cc 1 _ rfl), al (cc 2 _ rfl), al (cc 6 _ rfl), by rw [new_cell]; rfl, hS1.alloc _, hbc.alloc hbc.size _, by omega⟩

def Part (c : Cir) (s : Places) (W : World) (gm B k : Nat) (w : World) : Prop := ∃ T, defAll c.max [0] ((own c).take k) = some T ∧ Met c s W gm B T w

theorem own_at_ins (c : Cir) (k : Nat) (h : k < c.ins.length) : ∃ h' : k < (own c).length, (own c)[k] = c.ins[k] := by
  refine ⟨by simp [own]; omega, ?_⟩
  simp only [own]; rw [List.getElem_append_left h]
theorem own_at_lats (c : Cir) (k : Nat) (h : k < c.lats.length) : ∃ h' : c.ins.length + k < (own c).length, (own c)[c.ins.length + k] = c.lats[k].a := by
  refine ⟨by simp [own]; omega, ?_⟩
  simp only [own]; rw [List.getElem_append_right (by omega), List.getElem_append_left (by simp; omega)]; simp
theorem own_at_ands (c : Cir) (k : Nat) (h : k < c.ands.length) : ∃ h' : c.ins.length + c.lats.length + k < (own c).length, (own c)[c.ins.length + c.lats.length + k] = c.ands[k].a := by
  refine ⟨by simp [own]; omega, ?_⟩
  simp only [own]; rw [List.getElem_append_right (by omega), List.getElem_append_right (by simp; omega)]; simp
  congr 1; congr 1; omega

set_option maxHeartbeats 2000000 in
set_option maxRecDepth 100000 in
theorem defined_any (c : Cir) (s : Places) (w : World) (h : CLies w w.heap.size c s) (hf : CFits c s) :
    Calls Try.prog 88 #[cirV c s] w (DefinedP c w) := by
  have hmf : ∀ (fn : Fn) (first cap : Array Value) (w : World), (Instr.makeFunc fn first cap).run Try.prog w = .ok (.func fn first cap) w := fun _ _ _ _ => rfl
  have hmm := @run_makeMap Try.prog
  obtain ⟨wc, hst, hM⟩ := met_start c s w
  have li := hf.li
  have ll := hf.ll
  have la := hf.la
  have HO : Hid ((own c).length ≤ 1000000000000000) := by unfold Hid own; simp; omega
  have HP : Hid (Part c s w wc.heap.size (w.heap.size + 1) 0 (wc.alloc (.cells #[.map (some (w.heap.size + 1))] 112))) := ⟨_, rfl, hM⟩
  obtain ⟨c0, c1, c2, c6, cm⟩ : _ ∧ _ ∧ _ ∧ _ ∧ _ := ⟨hM.c0, hM.c1, hM.c2, hM.c6, hM.cm⟩
  have H := Lib.hid h
  have HF := Lib.hid hf
  clear h hf hM
  unfold cirV cirC at *
  go_enter Try.func88, Try.ntmps88
  go_wp2
  go_loopw [18] (fun i wr => ∃ k : Nat, k ≤ c.ins.length ∧ i = .int .i64 k ∧ Part c s w wc.heap.size (w.heap.size + 1) (k) wr) (fun i _ => c.ins.length - (intOf i).toNat)
  case atStart => exact ⟨0, Nat.zero_le _, rfl, HP.out⟩
  case round =>
    obtain ⟨k, hk, rfl, T, hT, M⟩ := hrel
    have HT := Lib.hid hT; clear hT
    have HM := Lib.hid M; clear M
    by_cases hlt : k < c.ins.length
    · obtain ⟨b, o, ha, hbb, hx⟩ := (H.out.ins.below HM.out.hb).int hlt
      obtain ⟨hko, hkv⟩ := own_at_ins c k hlt
      have HX := Lib.hid (defAll_snoc c.max [0] T (own c) (k) hko HT.out)
      have HN := Lib.hid (defAll_stop c.max [0] (own c) (k + 1))
      have hfit := HF.out.ins c.ins[k] (List.getElem_mem _)
      have HI := Lib.hid (show I64 c.ins[k] from hfit)
      have HE := Lib.hid hkv
      have hlen : T.length < 9223372036854775807 := by
        have e := defAll_len c.max _ _ _ HT.out
        have e2 := HO.out
        have e3 := hko
        rw [List.length_take] at e
        simp at e; omega
      have HL := Lib.hid hlen
      clear hfit hlen hkv
      generalize s.ai = A at *
      subst ha
      generalize c.ins[k] = x at *
      go_wp2_with fail
      refine (define1_any c.max x w.heap.size wc.heap.size (w.heap.size + 1) T _ HI.out HM.out.c0 HM.out.cm HM.out.hS HL.out).mono ?_
      rintro e w' ⟨he, hg, hS'⟩
      have HS' := Lib.hid hS'
      have HG := Lib.hid hg
      clear hS' hg
      cases hok : defOk c.max T x
      · have he' : e = .panicked fault := by rw [he, hok]; rfl
        clear he
        subst he'
        have hno : defAll c.max [0] (own c) = none := HN.out (by rw [HX.out, HE.out, hok]; rfl)
        have HNo := Lib.hid hno
        have HB : Hid (Below w.heap.size w w') := HM.out.hb.trans (grown_below HG.out (by omega) HM.out.hb.size)
        clear hno hok
        go_wp2
        exact ⟨rfl, HB.out, .inr ⟨HNo.out, rfl⟩⟩
      · have he' : e = .returned (.tuple #[]) := by rw [he, hok]; rfl
        clear he
        subst he'
        have HP' : Hid (Part c s w wc.heap.size (w.heap.size + 1) (k + 1) w') := ⟨_, by rw [HX.out, HE.out, if_pos hok], HM.out.grow HG.out (HS'.out hok)⟩
        clear hok
        go_wp2
        go_roundw
        case rel => exact ⟨k + 1, by omega, by go_num, HP'.out⟩
        case measure => simp [intOf]; omega
    · obtain rfl : k = c.ins.length := by omega
      have HP2 : Hid (Part c s w wc.heap.size (w.heap.size + 1) (c.ins.length + 0) wr) := ⟨T, HT.out, HM.out⟩
      clear HP
      have HP := HP2; clear HP2
      obtain ⟨c0, c1, c2, c6, cm⟩ : _ ∧ _ ∧ _ ∧ _ ∧ _ := ⟨HM.out.c0, HM.out.c1, HM.out.c2, HM.out.c6, HM.out.cm⟩
      clear HM HT
      obtain ⟨wr0, rfl⟩ : ∃ x, x = wr := ⟨_, rfl⟩
      go_wp2
      go_loopw [29] (fun i wr => ∃ k : Nat, k ≤ c.lats.length ∧ i = .int .i64 k ∧ Part c s w wc.heap.size (w.heap.size + 1) (c.ins.length + k) wr) (fun i _ => c.lats.length - (intOf i).toNat)
      case atStart => exact ⟨0, Nat.zero_le _, rfl, HP.out⟩
      case round =>
        obtain ⟨k, hk, rfl, T, hT, M⟩ := hrel
        have HT := Lib.hid hT; clear hT
        have HM := Lib.hid M; clear M
        by_cases hlt : k < c.lats.length
        · obtain ⟨b, o, ha, hbb, hx0, hx1, hx2⟩ := (H.out.lats.below HM.out.hb).tri hlt
          obtain ⟨hko, hkv⟩ := own_at_lats c k hlt
          have HX := Lib.hid (defAll_snoc c.max [0] T (own c) (c.ins.length + k) hko HT.out)
          have HN := Lib.hid (defAll_stop c.max [0] (own c) (c.ins.length + k + 1))
          have hfit := HF.out.lats c.lats[k] (List.getElem_mem _)
          have HI := Lib.hid (show I64 c.lats[k].a from hfit.1)
          have HE := Lib.hid hkv
          have hlen : T.length < 9223372036854775807 := by
            have e := defAll_len c.max _ _ _ HT.out
            have e2 := HO.out
            have e3 := hko
            rw [List.length_take] at e
            simp at e; omega
          have HL := Lib.hid hlen
          clear hfit hlen hkv
          generalize s.al = A at *
          subst ha
          have HM2 := Lib.hid (HM.out.alloc (.cells #[.int .i64 c.lats[k].a, .int .i64 c.lats[k].b, .int .i64 c.lats[k].c] 39))
          clear HM
          generalize c.lats[k].a = x at *
          generalize c.lats[k].b = x2 at *
          generalize c.lats[k].c = x3 at *
          go_wp2_with fail
          refine (define1_any c.max x w.heap.size wc.heap.size (w.heap.size + 1) T _ HI.out HM2.out.c0 HM2.out.cm HM2.out.hS HL.out).mono ?_
          rintro e w' ⟨he, hg, hS'⟩
          have HS' := Lib.hid hS'
          have HG := Lib.hid hg
          clear hS' hg
          cases hok : defOk c.max T x
          · have he' : e = .panicked fault := by rw [he, hok]; rfl
            clear he
            subst he'
            have hno : defAll c.max [0] (own c) = none := HN.out (by rw [HX.out, HE.out, hok]; rfl)
            have HNo := Lib.hid hno
            have HB : Hid (Below w.heap.size w w') := HM2.out.hb.trans (grown_below HG.out (by omega) HM2.out.hb.size)
            clear hno hok
            go_wp2
            exact ⟨rfl, HB.out, .inr ⟨HNo.out, rfl⟩⟩
          · have he' : e = .returned (.tuple #[]) := by rw [he, hok]; rfl
            clear he
            subst he'
            have HP' : Hid (Part c s w wc.heap.size (w.heap.size + 1) (c.ins.length + k + 1) w') := ⟨_, by rw [HX.out, HE.out, if_pos hok], HM2.out.grow HG.out (HS'.out hok)⟩
            clear hok
            go_wp2
            go_roundw
            case rel => exact ⟨k + 1, by omega, by go_num, HP'.out⟩
            case measure => simp [intOf]; omega
        · obtain rfl : k = c.lats.length := by omega
          have HP2 : Hid (Part c s w wc.heap.size (w.heap.size + 1) (c.ins.length + c.lats.length + 0) wr) := ⟨T, HT.out, HM.out⟩
          clear HP
          have HP := HP2; clear HP2
          obtain ⟨c0, c1, c2, c6, cm⟩ : _ ∧ _ ∧ _ ∧ _ ∧ _ := ⟨HM.out.c0, HM.out.c1, HM.out.c2, HM.out.c6, HM.out.cm⟩
          clear HM HT
          obtain ⟨wr1, rfl⟩ : ∃ x, x = wr := ⟨_, rfl⟩
          go_wp2
          go_loopw [41] (fun i wr => ∃ k : Nat, k ≤ c.ands.length ∧ i = .int .i64 k ∧ Part c s w wc.heap.size (w.heap.size + 1) (c.ins.length + c.lats.length + k) wr) (fun i _ => c.ands.length - (intOf i).toNat)
          case atStart => exact ⟨0, Nat.zero_le _, rfl, HP.out⟩
          case round =>
            obtain ⟨k, hk, rfl, T, hT, M⟩ := hrel
            have HT := Lib.hid hT; clear hT
            have HM := Lib.hid M; clear M
            by_cases hlt : k < c.ands.length
            · obtain ⟨b, o, ha, hbb, hx0, hx1, hx2⟩ := (H.out.ands.below HM.out.hb).tri hlt
              obtain ⟨hko, hkv⟩ := own_at_ands c k hlt
              have HX := Lib.hid (defAll_snoc c.max [0] T (own c) (c.ins.length + c.lats.length + k) hko HT.out)
              have HN := Lib.hid (defAll_stop c.max [0] (own c) (c.ins.length + c.lats.length + k + 1))
              have hfit := HF.out.ands c.ands[k] (List.getElem_mem _)
              have HI := Lib.hid (show I64 c.ands[k].a from hfit.1)
              have HE := Lib.hid hkv
              have hlen : T.length < 9223372036854775807 := by
                have e := defAll_len c.max _ _ _ HT.out
                have e2 := HO.out
                have e3 := hko
                rw [List.length_take] at e
                simp at e; omega
              have HL := Lib.hid hlen
              clear hfit hlen hkv
              generalize s.aa = A at *
              subst ha
              have HM2 := Lib.hid (HM.out.alloc (.cells #[.int .i64 c.ands[k].a, .int .i64 c.ands[k].b, .int .i64 c.ands[k].c] 43))
              clear HM
              generalize c.ands[k].a = x at *
              generalize c.ands[k].b = x2 at *
              generalize c.ands[k].c = x3 at *
              go_wp2_with fail
              refine (define1_any c.max x w.heap.size wc.heap.size (w.heap.size + 1) T _ HI.out HM2.out.c0 HM2.out.cm HM2.out.hS HL.out).mono ?_
              rintro e w' ⟨he, hg, hS'⟩
              have HS' := Lib.hid hS'
              have HG := Lib.hid hg
              clear hS' hg
              cases hok : defOk c.max T x
              · have he' : e = .panicked fault := by rw [he, hok]; rfl
                clear he
                subst he'
                have hno : defAll c.max [0] (own c) = none := HN.out (by rw [HX.out, HE.out, hok]; rfl)
                have HNo := Lib.hid hno
                have HB : Hid (Below w.heap.size w w') := HM2.out.hb.trans (grown_below HG.out (by omega) HM2.out.hb.size)
                clear hno hok
                go_wp2
                exact ⟨rfl, HB.out, .inr ⟨HNo.out, rfl⟩⟩
              · have he' : e = .returned (.tuple #[]) := by rw [he, hok]; rfl
                clear he
                subst he'
                have HP' : Hid (Part c s w wc.heap.size (w.heap.size + 1) (c.ins.length + c.lats.length + k + 1) w') := ⟨_, by rw [HX.out, HE.out, if_pos hok], HM2.out.grow HG.out (HS'.out hok)⟩
                clear hok
                go_wp2
                go_roundw
                case rel => exact ⟨k + 1, by omega, by go_num, HP'.out⟩
                case measure => simp [intOf]; omega
            · obtain rfl : k = c.ands.length := by omega
              rw [show c.ins.length + c.lats.length + c.ands.length = (own c).length by simp [own]; omega, List.take_of_length_le (Nat.le_refl _)] at HT
              have cm := HM.out.cm
              have HD : Hid (DefinedP c w (.returned (.map (some (w.heap.size + 1)))) wr) := ⟨HM.out.hb, .inl ⟨T, _, HT.out, rfl, HM.out.hS⟩⟩
              clear HM HT
              go_wp2
              go_ret
              exact HD.out
end Go.Proofs.Ytbgcoeejmnejdaa.Cw
namespace Go.Proofs.Ytbgcoeejmnejdaa.Cw
open Go.ChangeShapes Go.WideShapes Go.ChangeAt Go.RowKit Go.Maps Circ

/-- a state that goes from element to element, as long as each may be there -/
def through {σ α : Type} (f : σ → α → Option σ) : σ → List α → Option σ
  | p, [] => some p
  | p, x :: l => (f p x).bind fun q => through f q l
theorem through_append {σ α : Type} (f : σ → α → Option σ) : ∀ (a b : List α) (p : σ), through f p (a ++ b) = (through f p a).bind fun q => through f q b
  | [], _, _ => rfl
  | x :: a, b, p => by
    simp only [List.cons_append, through]
    cases f p x with
    | none => rfl
    | some q => exact through_append f a b q
theorem through_snoc {σ α : Type} (f : σ → α → Option σ) (p q : σ) (l : List α) (k : Nat) (hk : k < l.length) (h : through f p (l.take k) = some q) : through f p (l.take (k + 1)) = f q l[k] := by
  rw [List.take_succ_eq_append_getElem hk, through_append, h]
  simp only [Option.bind_some, through]
  cases f q l[k] <;> rfl
theorem through_stop {σ α : Type} (f : σ → α → Option σ) (p : σ) (l : List α) (k : Nat) (h : through f p (l.take k) = none) : through f p l = none := by
  rw [← List.take_append_drop k l, through_append, h]; rfl

def Box (w : World) (g : Nat) (c : Cir) (s : Places) : Prop := ∀ (i : Nat) v, (cirC c s)[i]? = some v → w.cell? ⟨g, i, none⟩ = some v
theorem Box.made (w : World) (c : Cir) (s : Places) : Box (w.alloc (.cells (cirC c s) 27)) w.heap.size c s := fun i v h => by rw [new_cell]; exact h
theorem Box.keep {w w' : World} {g C : Nat} {c : Cir} {s : Places} (h : Box w g c s) (hb : Below C w w') (hg : g < C) : Box w' g c s := fun i v hv => (hb.cell hg).trans (h i v hv)
theorem Box.cells {w : World} {g : Nat} {c : Cir} {s : Places} (h : Box w g c s) : w.cell? ⟨g, 0, none⟩ = some (.int .i64 c.max) ∧ w.cell? ⟨g, 1, none⟩ = some (.slice s.ai c.ins.length s.ki) ∧ w.cell? ⟨g, 2, none⟩ = some (.slice s.al c.lats.length s.kl) ∧
    w.cell? ⟨g, 3, none⟩ = some (.slice s.ao c.outs.length s.ko) ∧ w.cell? ⟨g, 4, none⟩ = some (.slice s.ab c.bads.length s.kb) ∧ w.cell? ⟨g, 5, none⟩ = some (.slice s.ac c.invs.length s.kc) ∧ w.cell? ⟨g, 6, none⟩ = some (.slice s.aa c.ands.length s.ka) ∧ w.cell? ⟨g, 7, none⟩ = some (.slice s.an c.names.length s.kn) :=
  ⟨h 0 _ rfl, h 1 _ rfl, h 2 _ rfl, h 3 _ rfl, h 4 _ rfl, h 5 _ rfl, h 6 _ rfl, h 7 _ rfl⟩

/-- the set that named looks into is there -/
structure Has (w : World) (g B : Nat) (S : List Int) : Prop where
  cm : w.cell? ⟨g, 0, none⟩ = some (.map (some B))
  hS : IsSet w B S
theorem Has.below {w w' : World} {g B C : Nat} {S : List Int} (h : Has w g B S) (hb : Below C w w') (hC : C = w.heap.size) : Has w' g B S := by
  subst hC; exact ⟨cell_later hb h.cm, h.hS.below hb h.hS.lt⟩

theorem named64_any (B : Nat) (w : World) : Calls Try.prog 87 #[.map (some B)] w fun e w' => e = .returned (.func (.func 124) #[] #[.pointer (some ⟨w.heap.size, 0, none⟩)]) ∧ w.alloc (.cells #[.map (some B)] 112) = w' := by
  have hmf : ∀ (fn : Fn) (first cap : Array Value) (w : World), (Instr.makeFunc fn first cap).run Try.prog w = .ok (.func fn first cap) w := fun _ _ _ _ => rfl
  go_enter Try.func87, Try.ntmps87
  go_wp2
  go_ret
  exact ⟨rfl, rfl⟩

def latOk (S : List Int) (t : Tri) : Bool := namedOk S t.b && (decide (t.c = 0) || decide (t.c = 1) || decide (t.c = t.a))

theorem tri_cells (w : World) (a b c : Int) (t : TypeId) (w' : World) (hb : Below (w.alloc (.cells #[.int .i64 a, .int .i64 b, .int .i64 c] t)).heap.size (w.alloc (.cells #[.int .i64 a, .int .i64 b, .int .i64 c] t)) w') :
    w'.cell? ⟨w.heap.size, 0, none⟩ = some (.int .i64 a) ∧ w'.cell? ⟨w.heap.size, 1, none⟩ = some (.int .i64 b) ∧ w'.cell? ⟨w.heap.size, 2, none⟩ = some (.int .i64 c) := by
  have hs : (w.alloc (.cells #[.int .i64 a, .int .i64 b, .int .i64 c] t)).heap.size = w.heap.size + 1 := by simp
  have h : ∀ i, w'.cell? ⟨w.heap.size, i, none⟩ = (#[.int .i64 a, .int .i64 b, .int .i64 c] : Array Value)[i]? := fun i => by
    rw [hb.cell (by rw [hs]; exact Nat.lt_succ_self _), new_cell]
  exact ⟨h 0, h 1, h 2⟩

set_option maxHeartbeats 2000000 in
theorem lats_any (c : Cir) (s : Places) (g B : Nat) (S : List Int) (w : World) (h : CLies w w.heap.size c s) (hf : CFits c s) (hh : Has w g B S) :
    Calls Try.prog 89 #[cirV c s, .func (.func 124) #[] #[.pointer (some ⟨g, 0, none⟩)]] w fun e w' => e = told (c.lats.all (latOk S)) ∧ Below w.heap.size w w' := by
  have ll := hf.ll
  have hb0 : Below w.heap.size w (w.alloc (.cells (cirC c s) 27)) := (Below.refl _ _).alloc (Nat.le_refl _) _
  have H := Lib.hid h
  have HF := Lib.hid hf.lats
  have HH := Lib.hid hh
  clear h hf hh
  unfold cirV cirC at *
  go_enter Try.func89, Try.ntmps89
  go_wp2
  go_loopw [9] (fun i wr => ∃ k : Nat, k ≤ c.lats.length ∧ i = .int .i64 k ∧ (c.lats.take k).all (latOk S) = true ∧ Below w.heap.size w wr) (fun i _ => c.lats.length - (intOf i).toNat)
  case atStart => exact ⟨0, Nat.zero_le _, rfl, rfl, hb0⟩
  case round =>
    obtain ⟨k, hk, rfl, hno, hb⟩ := hrel
    have HN := Lib.hid hno; clear hno
    by_cases hlt : k < c.lats.length
    · obtain ⟨b, o, ha, hbb, hx0, hx1, hx2⟩ := (H.out.lats.below hb).tri hlt
      obtain ⟨fa, fb, fc⟩ := HF.out c.lats[k] (List.getElem_mem _)
      have HB := Lib.hid fb
      have HX := Lib.hid (all_take c.lats (latOk S) k hlt)
      have HS := Lib.hid (all_not c.lats (latOk S) k hlt)
      have hok : latOk S c.lats[k] = (namedOk S c.lats[k].b && (decide (c.lats[k].c = 0) || decide (c.lats[k].c = 1) || decide (c.lats[k].c = c.lats[k].a))) := rfl
      have HK := Lib.hid hok
      clear fa fb fc hok
      generalize s.al = A at *
      subst ha
      generalize latOk S c.lats[k] = q at *
      generalize c.lats[k].a = x at *
      generalize c.lats[k].b = y at *
      generalize c.lats[k].c = z at *
      have hb1 := hb.alloc hb.size (.cells #[.int .i64 x, .int .i64 y, .int .i64 z] 39)
      go_wp2_with fail
      refine (named1_any y g B S _ HB.out (HH.out.below hb1 rfl).cm (HH.out.below hb1 rfl).hS).mono ?_
      rintro e w' ⟨he, hbw⟩
      obtain ⟨d0, d1, d2⟩ := tri_cells wr x y z 39 w' hbw
      have hb2 := hb1.trans (hbw.mono hb1.size)
      clear hbw
      cases hn : namedOk S y
      · have he' : e = .panicked fault := by rw [he, hn]; rfl
        clear he
        subst he'
        have hq : q = false := by rw [HK.out, hn]; rfl
        have HQ := Lib.hid (HS.out hq)
        clear hq hn
        go_wp2
        exact ⟨rfl, by rw [HQ.out]; rfl, hb2⟩
      · have he' : e = .returned (.tuple #[]) := by rw [he, hn]; rfl
        clear he
        subst he'
        rw [hn] at HK
        clear hn
        by_cases z0 : z = 0
        · have hq := HK.out; rw [decide_eq_true z0] at hq
          have HQ := Lib.hid (show q = true from hq)
          have z0' : (z == 0) = true := by simpa using z0
          clear z0 hq
          go_wp2_with fail
          refine (need_t _ _ ?_).mono ?_
          · simp
          rintro e w3 ⟨rfl, rfl⟩
          go_wp2
          go_roundw
          case rel => exact ⟨k + 1, by omega, by go_num, by rw [HX.out, HN.out, HQ.out]; rfl, hb2⟩
          case measure => simp [intOf]; omega
        · have z0' : (z == 0) = false := by simpa using z0
          by_cases z1 : z = 1
          · have hq := HK.out; rw [decide_eq_true z1] at hq
            have HQ := Lib.hid (show q = true by rw [hq]; simp)
            have z1' : (z == 1) = true := by simpa using z1
            clear z0 z1 hq
            go_wp2_with fail
            refine (need_t _ _ ?_).mono ?_
            · simp
            rintro e w3 ⟨rfl, rfl⟩
            go_wp2
            go_roundw
            case rel => exact ⟨k + 1, by omega, by go_num, by rw [HX.out, HN.out, HQ.out]; rfl, hb2⟩
            case measure => simp [intOf]; omega
          · have z1' : (z == 1) = false := by simpa using z1
            by_cases z2 : z = x
            · have hq := HK.out; rw [decide_eq_true z2] at hq
              have HQ := Lib.hid (show q = true by rw [hq]; simp)
              have z2' : (z == x) = true := by simpa using z2
              clear z0 z1 z2 hq
              go_wp2_with fail
              refine (need_t _ _ ?_).mono ?_
              · simp
              rintro e w3 ⟨rfl, rfl⟩
              go_wp2
              go_roundw
              case rel => exact ⟨k + 1, by omega, by go_num, by rw [HX.out, HN.out, HQ.out]; rfl, hb2⟩
              case measure => simp [intOf]; omega
            · have z2' : (z == x) = false := by simpa using z2
              have hq : q = false := by rw [HK.out, decide_eq_false z0, decide_eq_false z1, decide_eq_false z2]; rfl
              have HQ := Lib.hid (HS.out hq)
              clear z0 z1 z2 hq
              go_wp2_with fail
              refine (need_f _ _ ?_).mono ?_
              · simp
              rintro e w3 ⟨rfl, rfl⟩
              go_wp2
              exact ⟨rfl, by rw [HQ.out]; rfl, hb2⟩
    · obtain rfl : k = c.lats.length := by omega
      rw [List.take_of_length_le (Nat.le_refl _)] at HN
      go_wp2
      go_end0
      exact ⟨by rw [HN.out]; rfl, hb⟩

/-- one and behind another one; the state is the literal of the one ahead -/
def andStep (S : List Int) (p : Int) (t : Tri) : Option Int :=
  if (decide (p < t.a) && decide (t.b < t.a) && decide (t.c < t.a) && namedOk S t.b && namedOk S t.c) = true then some t.a else none
def andsOk (S : List Int) (l : List Tri) : Bool := (through (andStep S) 0 l).isSome
set_option maxHeartbeats 2000000 in
theorem ands_any (c : Cir) (s : Places) (g B : Nat) (S : List Int) (w : World) (h : CLies w w.heap.size c s) (hf : CFits c s) (hh : Has w g B S) :
    Calls Try.prog 90 #[cirV c s, .func (.func 124) #[] #[.pointer (some ⟨g, 0, none⟩)]] w fun e w' => e = told (andsOk S c.ands) ∧ Below w.heap.size w w' := by
  have la := hf.la
  have hb0 : Below w.heap.size w (w.alloc (.cells (cirC c s) 27)) := (Below.refl _ _).alloc (Nat.le_refl _) _
  have H := Lib.hid h
  have HF := Lib.hid hf.ands
  have HH := Lib.hid hh
  clear h hf hh
  unfold cirV cirC at *
  go_enter Try.func90, Try.ntmps90
  go_wp2
  go_loopw [4, 10] (fun p i wr => ∃ (k : Nat) (q : Int), k ≤ c.ands.length ∧ i = .int .i64 k ∧ p = .int .i64 q ∧ through (andStep S) 0 (c.ands.take k) = some q ∧ Below w.heap.size w wr) (fun _ i _ => c.ands.length - (intOf i).toNat)
  case atStart => exact ⟨0, 0, Nat.zero_le _, rfl, rfl, rfl, hb0⟩
  case round =>
    obtain ⟨k, q, hk, rfl, rfl, hno, hb⟩ := hrel
    have HN := Lib.hid hno; clear hno
    by_cases hlt : k < c.ands.length
    · obtain ⟨b, o, ha, hbb, hx0, hx1, hx2⟩ := (H.out.ands.below hb).tri hlt
      obtain ⟨fa, fb, fc⟩ := HF.out c.ands[k] (List.getElem_mem _)
      have HB := Lib.hid fb
      have HC := Lib.hid fc
      have hX := through_snoc (andStep S) 0 q c.ands k hlt HN.out
      have hS := through_stop (andStep S) 0 c.ands (k + 1)
      have hok : andStep S q c.ands[k] = if (decide (q < c.ands[k].a) && decide (c.ands[k].b < c.ands[k].a) && decide (c.ands[k].c < c.ands[k].a) && namedOk S c.ands[k].b && namedOk S c.ands[k].c) = true then some c.ands[k].a else none := rfl
      rw [hok] at hX
      have HX := Lib.hid hX
      have HS := Lib.hid hS
      clear fa fb fc hok hX hS
      generalize s.aa = A at *
      subst ha
      generalize c.ands[k].a = x at *
      generalize c.ands[k].b = y at *
      generalize c.ands[k].c = z at *
      have hb1 := hb.alloc hb.size (.cells #[.int .i64 x, .int .i64 y, .int .i64 z] 43)
      have hF : ∀ (_ : (decide (q < x) && decide (y < x) && decide (z < x) && namedOk S y && namedOk S z) = false), told (andsOk S c.ands) = .panicked fault := fun e => by
        unfold andsOk; rw [HS.out (by rw [HX.out, e]; rfl)]; rfl
      have HF' := Lib.hid hF
      clear hF
      by_cases c1 : q < x
      case neg =>
        have d1 : decide (q < x) = false := by simpa using c1
        have HQ := Lib.hid (HF'.out (by rw [d1]; rfl))
        clear d1
        go_wp2_with fail
        refine (need_f _ _ ?_).mono ?_
        · simp; try omega
        rintro e w3 ⟨rfl, rfl⟩
        go_wp2
        exact ⟨rfl, by rw [HQ.out], hb1⟩
      case pos =>
      by_cases c2 : y < x
      case neg =>
        have d1 : decide (y < x) = false := by simpa using c2
        have HQ := Lib.hid (HF'.out (by rw [d1]; simp))
        clear d1
        go_wp2_with fail
        refine (need_f _ _ ?_).mono ?_
        · simp; try omega
        rintro e w3 ⟨rfl, rfl⟩
        go_wp2
        exact ⟨rfl, by rw [HQ.out], hb1⟩
      case pos =>
      by_cases c3 : z < x
      case neg =>
        have d1 : decide (z < x) = false := by simpa using c3
        have HQ := Lib.hid (HF'.out (by rw [d1]; simp))
        clear d1
        go_wp2_with fail
        refine (need_f _ _ ?_).mono ?_
        · simp; try omega
        rintro e w3 ⟨rfl, rfl⟩
        go_wp2
        exact ⟨rfl, by rw [HQ.out], hb1⟩
      case pos =>
      go_wp2_with fail
      refine (need_t _ _ ?_).mono ?_
      · simp; try omega
      rintro e w3 ⟨rfl, rfl⟩
      go_wp2_with fail
      refine (named1_any y g B S _ HB.out (HH.out.below hb1 rfl).cm (HH.out.below hb1 rfl).hS).mono ?_
      rintro e w' ⟨he, hbw⟩
      obtain ⟨d0, d1, d2⟩ := tri_cells wr x y z 43 w' hbw
      have hb2 := hb1.trans (hbw.mono hb1.size)
      cases hn : namedOk S y
      · have he' : e = .panicked fault := by rw [he, hn]; rfl
        clear he
        subst he'
        have HQ := Lib.hid (HF'.out (by rw [hn]; simp))
        clear hn
        go_wp2
        exact ⟨rfl, by rw [HQ.out], hb2⟩
      have he' : e = .returned (.tuple #[]) := by rw [he, hn]; rfl
      clear he
      subst he'
      rw [hn] at HX HF'
      clear hn
      go_wp2_with fail
      refine (named1_any z g B S _ HC.out (HH.out.below hb2 rfl).cm (HH.out.below hb2 rfl).hS).mono ?_
      rintro e w2 ⟨he, hbw2⟩
      obtain ⟨d3, d4, d5⟩ := tri_cells wr x y z 43 w2 (hbw.trans (hbw2.mono hbw.size))
      have hb3 := hb2.trans (hbw2.mono hb2.size)
      clear hbw hbw2
      cases hn : namedOk S z
      · have he' : e = .panicked fault := by rw [he, hn]; rfl
        clear he
        subst he'
        have HQ := Lib.hid (HF'.out (by rw [hn]; simp))
        clear hn
        go_wp2
        exact ⟨rfl, by rw [HQ.out], hb3⟩
      have he' : e = .returned (.tuple #[]) := by rw [he, hn]; rfl
      clear he
      subst he'
      have HY : Hid (through (andStep S) 0 (c.ands.take (k + 1)) = some x) := by unfold Hid; rw [HX.out, hn, decide_eq_true c1, decide_eq_true c2, decide_eq_true c3]; rfl
      clear hn
      go_wp2
      go_roundw
      case rel => exact ⟨k + 1, x, by omega, by go_num, rfl, HY.out, hb3⟩
      case measure => simp [intOf]; omega
    · obtain rfl : k = c.ands.length := by omega
      rw [List.take_of_length_le (Nat.le_refl _)] at HN
      go_wp2
      go_end0
      exact ⟨by unfold andsOk; rw [HN.out]; rfl, hb⟩
end Go.Proofs.Ytbgcoeejmnejdaa.Cw
