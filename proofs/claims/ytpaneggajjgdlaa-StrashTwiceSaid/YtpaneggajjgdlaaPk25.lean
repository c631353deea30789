/- The walk of StrashTwice; condition: what is asked of it fits. -/
import Derived.Test.YtpaneggajjgdlaaPk21
import Derived.Test.YtpaneggajjgdlaaPk22
import Derived.Test.YtpaneggajjgdlaaPk23
import Derived.Test.YtpaneggajjgdlaaPk24
namespace Go.Proofs.Ytpaneggajjgdlaa.Str
open Go.ChangeShapes Go.WideShapes Go.ChangeAt Go.RowKit Go.Maps Circ Cw

/- no rfl-lemmas: where a proof is looked at again (as_aux_lemma), a fold held against stores must not be unfolded -/
theorem fold_cons {α β : Type} (f : β → α → β) (b : β) (a : α) (l : List α) : (a :: l).foldl f b = l.foldl f (f b a) := by
  cases l with
  | nil => rfl
  | cons x y => rfl
theorem fold_nil {α β : Type} (f : β → α → β) (b : β) : ([] : List α).foldl f b = b := by
  have h : ∀ n : Nat, ([] : List α).foldl f b = b := fun n => by
    cases n with
    | zero => rfl
    | succ n => rfl
  exact h 0
theorem eight {w : World} {g : Nat} {x0 x1 x2 x3 x4 x5 x6 x7 : Value} {e : TypeId} (h : w.heap[g]? = some (.cells #[x0, x1, x2, x3, x4, x5, x6, x7] e (0, 0))) : w.cell? ⟨g, 0, none⟩ = some x0 ∧ w.cell? ⟨g, 1, none⟩ = some x1 ∧ w.cell? ⟨g, 2, none⟩ = some x2 ∧ w.cell? ⟨g, 3, none⟩ = some x3 ∧ w.cell? ⟨g, 4, none⟩ = some x4 ∧ w.cell? ⟨g, 5, none⟩ = some x5 ∧ w.cell? ⟨g, 6, none⟩ = some x6 ∧ w.cell? ⟨g, 7, none⟩ = some x7 := by
  have hx := Lib.cell_of_heap h
  exact ⟨hx 0, hx 1, hx 2, hx 3, hx 4, hx 5, hx 6, hx 7⟩
theorem _root_.Go.Proofs.Ytpaneggajjgdlaa.Cw.OwnC.row' {w : World} {base : Nat} {e : TypeId} {m n q : Nat} {A : Option Addr} {xs : List (List Value)} (h : OwnC w base e m (.slice A n q) xs) (hm : 0 < m) (hx : ∀ y ∈ xs, y.length = m) : LRow w w.heap.size m A xs := by
  obtain ⟨A', q', hv, hr, -, -⟩ := h.row hm hx
  injection hv with h1 h2 h3
  rw [h1]; exact hr
def plM (s : Places) (A1 : Option Addr) (q1 : Nat) (A2 : Option Addr) (q2 : Nat) : Places := { s with ao := A1, ko := q1, aa := A2, ka := q2 }
theorem max_zero {c : Cir} (h : refOk c = true) : 0 ≤ c.max := by
  obtain ⟨hh, -⟩ := ref_parts h
  unfold refHead at hh
  simp only [Bool.and_eq_true, Bool.not_eq_true', decide_eq_false_iff_not] at hh
  omega
theorem more_box {c : Cir} {t : Tri} {x M : Int} {s : Places} {A1 A2 : Option Addr} {q1 q2 : Nat} (hM : c.max + 1 = M) : cirV (moreM c t x) (plM s A1 q1 A2 q2) = .agg #[.int .i64 M, .slice s.ai c.ins.length s.ki, .slice s.al c.lats.length s.kl, .slice A1 (c.outs.length + 1) q1, .slice s.ab c.bads.length s.kb, .slice s.ac c.invs.length s.kc, .slice A2 (c.ands.length + 1) q2, .slice s.an c.names.length s.kn] := by
  unfold cirV cirC moreM plM
  rw [← hM]
  simp
theorem more_lies {c : Cir} {t : Tri} {x M : Int} {s : Places} {A1 A2 : Option Addr} {q1 q2 B : Nat} {w : World} (hM : c.max + 1 = M) (h : CLies w B c s) (hB : B ≤ w.heap.size) (h1 : LRow w w.heap.size 1 A1 (ints c.outs ++ [[.int .i64 x]])) (h2 : LRow w w.heap.size 3 A2 (tris c.ands ++ [[.int .i64 (2 * M), .int .i64 t.c, .int .i64 t.b]])) : CLies w w.heap.size (moreM c t x) (plM s A1 q1 A2 q2) := by
  refine ⟨h.ins.more hB, h.lats.more hB, ?_, h.bads.more hB, h.invs.more hB, ?_, h.names.more hB⟩
  · have e : ints (moreM c t x).outs = ints c.outs ++ [[.int .i64 x]] := by unfold moreM ints; simp
    rw [e]; exact h1
  · have e : tris (moreM c t x).ands = tris c.ands ++ [[.int .i64 (2 * M), .int .i64 t.c, .int .i64 t.b]] := by unfold moreM tris; simp [Tri.cells, hM]
    rw [e]; exact h2
theorem more_fits {c : Cir} {t : Tri} {x : Int} {s : Places} {A1 A2 : Option Addr} {q1 q2 : Nat} (h : CFits c s) (hm : 0 ≤ c.max ∧ c.max ≤ 1000) (ho : c.outs.length ≤ 64) (ha : c.ands.length ≤ 4097) (ht : t ∈ c.ands) (hx : I64 x) (h1 : c.outs.length + 1 ≤ q1 ∧ q1 ≤ 9223372036854775807) (h2 : c.ands.length + 1 ≤ q2 ∧ q2 ≤ 9223372036854775807) : CFits (moreM c t x) (plM s A1 q1 A2 q2) := by
  have la := h.la
  obtain ⟨p1, p2, p3⟩ := h.ands t ht
  refine ⟨⟨by show _ ≤ c.max + 1; omega, by show c.max + 1 ≤ _; omega⟩, h.ins, ?_, h.bads, h.invs, h.lats, ?_, h.names, h.li, ?_, h.lb, h.lc, h.ll, ?_, h.ln, h.ki, ?_, h.kb, h.kc, h.kl, ?_, h.kn⟩
  · intro y hy
    rcases List.mem_append.1 (show y ∈ c.outs ++ [x] from hy) with hy | hy
    · exact h.outs y hy
    · rw [List.mem_singleton.1 hy]; exact hx
  · intro y hy
    rcases List.mem_append.1 (show y ∈ c.ands ++ [⟨2 * (c.max + 1), t.c, t.b⟩] from hy) with hy | hy
    · exact h.ands y hy
    · rw [List.mem_singleton.1 hy]
      exact ⟨⟨by show _ ≤ 2 * (c.max + 1); omega, by show 2 * (c.max + 1) ≤ _; omega⟩, p3, p2⟩
  · show (c.outs ++ [x]).length * 8 ≤ _
    rw [List.length_append, List.length_singleton]; omega
  · show (c.ands ++ [_]).length * 24 ≤ _
    rw [List.length_append, List.length_singleton]; omega
  · show (c.outs ++ [x]).length ≤ q1
    rw [List.length_append, List.length_singleton]; omega
  · show (c.ands ++ [_]).length ≤ q2
    rw [List.length_append, List.length_singleton]; omega
theorem op_field_api_Circuit_6 (a : Act) (w : World) (b : Nat) (t : Nat) (h : a.tmps.getD t undef = .pointer (some ⟨b, 0, none⟩)) (oo : Oper) (ho : oo.op = .fieldAddr 27 (.tmp t) 6) : (execOp a.eval oo).run Try.prog w = .ok (.value (.pointer (some ⟨b, 6, none⟩))) w := by
  have h' : a.tmps[t]?.getD undef = .pointer (some ⟨b, 0, none⟩) := by simpa using h
  unfold execOp
  rw [ho]
  go_simp
theorem op_field_api_Circuit_0 (a : Act) (w : World) (b : Nat) (t : Nat) (h : a.tmps.getD t undef = .pointer (some ⟨b, 0, none⟩)) (oo : Oper) (ho : oo.op = .fieldAddr 27 (.tmp t) 0) : (execOp a.eval oo).run Try.prog w = .ok (.value (.pointer (some ⟨b, 0, none⟩))) w := by
  have h' : a.tmps[t]?.getD undef = .pointer (some ⟨b, 0, none⟩) := by simpa using h
  unfold execOp
  rw [ho]
  go_simp
/-- what operation j of the region leaves -/
def cat8R (gc ga gd n q : Nat) (A : Option Addr) (t : Tri) (M : Int) : Nat → (Nat → Value) → World → Prop
  | 0, _, _ => True
  | 1, f, _ => f 52 = .pointer (some ⟨gc, 6, none⟩)
  | 2, f, _ => f 53 = .slice A n q
  | 3, _, _ => True
  | 4, f, _ => f 55 = .pointer (some ⟨gd, 0, none⟩)
  | 5, f, _ => f 56 = .int .i64 M
  | 6, f, _ => f 57 = .int .i64 (2 * M)
  | 7, f, _ => f 58 = .pointer (some ⟨ga, 2, none⟩)
  | 8, f, _ => f 59 = .int .i64 t.c
  | 9, f, _ => f 60 = .pointer (some ⟨ga, 1, none⟩)
  | 10, f, _ => f 61 = .int .i64 t.b
  | 11, f, _ => f 62 = .agg #[.int .i64 (2 * M), .int .i64 t.c, .int .i64 t.b]
  | 12, _, _ => True
  | 13, _, _ => True
  | 14, f, _ => f 65 = .pointer (some ⟨gd, 6, none⟩)
  | 15, _, _ => True
  | _, _, _ => True
def cat8M : Nat → List Nat
  | 0 => []
  | 1 => [52]
  | 2 => [53]
  | 3 => []
  | 4 => [55]
  | 5 => [56]
  | 6 => [57]
  | 7 => [58]
  | 8 => [59]
  | 9 => [60]
  | 10 => [61]
  | 11 => [62]
  | 12 => []
  | 13 => []
  | 14 => [65]
  | 15 => []
  | _ => []
theorem cat8_stab {gc ga gd n q : Nat} {A : Option Addr} {t : Tri} {M : Int} (jj : Nat) {f f' : Nat → Value} {w w' : World}  (hf : ∀ t ∈ cat8M jj, f' t = f t) (h : cat8R gc ga gd n q A t M jj f w) : cat8R gc ga gd n q A t M jj f' w' := by
  match jj, hf, h with
  | 0, _, _ => trivial
  | 1, hf, h => exact (hf 52 (by decide)).trans h
  | 2, hf, h => exact (hf 53 (by decide)).trans h
  | 3, _, _ => trivial
  | 4, hf, h => exact (hf 55 (by decide)).trans h
  | 5, hf, h => exact (hf 56 (by decide)).trans h
  | 6, hf, h => exact (hf 57 (by decide)).trans h
  | 7, hf, h => exact (hf 58 (by decide)).trans h
  | 8, hf, h => exact (hf 59 (by decide)).trans h
  | 9, hf, h => exact (hf 60 (by decide)).trans h
  | 10, hf, h => exact (hf 61 (by decide)).trans h
  | 11, hf, h => exact (hf 62 (by decide)).trans h
  | 12, _, _ => trivial
  | 13, _, _ => trivial
  | 14, hf, h => exact (hf 65 (by decide)).trans h
  | 15, _, _ => trivial
  | _ + 16, _, _ => trivial
theorem op_field_api_Circuit_3 (a : Act) (w : World) (b : Nat) (t : Nat) (h : a.tmps.getD t undef = .pointer (some ⟨b, 0, none⟩)) (oo : Oper) (ho : oo.op = .fieldAddr 27 (.tmp t) 3) : (execOp a.eval oo).run Try.prog w = .ok (.value (.pointer (some ⟨b, 3, none⟩))) w := by
  have h' : a.tmps[t]?.getD undef = .pointer (some ⟨b, 0, none⟩) := by simpa using h
  unfold execOp
  rw [ho]
  go_simp
theorem op_load_Lint (a : Act) (w : World) (A : Addr) (t : Nat) (v : Value) (h : a.tmps.getD t undef = .pointer (some A)) (hc : w.cell? A = some v) (oo : Oper) (ho : oo.op = .load 22 (.tmp t)) : (execOp a.eval oo).run Try.prog w = .ok (.value v) w := by
  have h' : a.tmps[t]?.getD undef = .pointer (some A) := by simpa using h
  unfold execOp
  rw [ho]
  go_simp
/-- what operation j of the region leaves -/
def cat9R (gc ga gd n q : Nat) (A : Option Addr) (t : Tri) : Nat → (Nat → Value) → World → Prop
  | 0, _, _ => True
  | 1, f, _ => f 67 = .pointer (some ⟨gc, 3, none⟩)
  | 2, f, _ => f 68 = .slice A n q
  | 3, _, _ => True
  | 4, f, _ => f 70 = .pointer (some ⟨ga, 0, none⟩)
  | 5, f, _ => f 71 = .int .i64 t.a
  | 6, _, _ => True
  | 7, _, _ => True
  | 8, f, _ => f 74 = .pointer (some ⟨gd, 3, none⟩)
  | 9, _, _ => True
  | _, _, _ => True
def cat9M : Nat → List Nat
  | 0 => []
  | 1 => [67]
  | 2 => [68]
  | 3 => []
  | 4 => [70]
  | 5 => [71]
  | 6 => []
  | 7 => []
  | 8 => [74]
  | 9 => []
  | _ => []
theorem cat9_stab {gc ga gd n q : Nat} {A : Option Addr} {t : Tri} (jj : Nat) {f f' : Nat → Value} {w w' : World}  (hf : ∀ t ∈ cat9M jj, f' t = f t) (h : cat9R gc ga gd n q A t jj f w) : cat9R gc ga gd n q A t jj f' w' := by
  match jj, hf, h with
  | 0, _, _ => trivial
  | 1, hf, h => exact (hf 67 (by decide)).trans h
  | 2, hf, h => exact (hf 68 (by decide)).trans h
  | 3, _, _ => trivial
  | 4, hf, h => exact (hf 70 (by decide)).trans h
  | 5, hf, h => exact (hf 71 (by decide)).trans h
  | 6, _, _ => trivial
  | 7, _, _ => trivial
  | 8, hf, h => exact (hf 74 (by decide)).trans h
  | 9, _, _ => trivial
  | _ + 10, _, _ => trivial
/-- what operation j of the region leaves -/
def cat11R (gc gd gf n q : Nat) (A : Option Addr) (M : Int) : Nat → (Nat → Value) → World → Prop
  | 0, _, _ => True
  | 1, f, _ => f 77 = .pointer (some ⟨gc, 3, none⟩)
  | 2, f, _ => f 78 = .slice A n q
  | 3, _, _ => True
  | 4, f, _ => f 80 = .pointer (some ⟨gd, 0, none⟩)
  | 5, f, _ => f 81 = .int .i64 M
  | 6, f, _ => f 82 = .int .i64 (2 * M)
  | 7, _, _ => True
  | 8, _, _ => True
  | 9, f, _ => f 85 = .pointer (some ⟨gf, 3, none⟩)
  | 10, _, _ => True
  | _, _, _ => True
def cat11M : Nat → List Nat
  | 0 => []
  | 1 => [77]
  | 2 => [78]
  | 3 => []
  | 4 => [80]
  | 5 => [81]
  | 6 => [82]
  | 7 => []
  | 8 => []
  | 9 => [85]
  | 10 => []
  | _ => []
theorem cat11_stab {gc gd gf n q : Nat} {A : Option Addr} {M : Int} (jj : Nat) {f f' : Nat → Value} {w w' : World}  (hf : ∀ t ∈ cat11M jj, f' t = f t) (h : cat11R gc gd gf n q A M jj f w) : cat11R gc gd gf n q A M jj f' w' := by
  match jj, hf, h with
  | 0, _, _ => trivial
  | 1, hf, h => exact (hf 77 (by decide)).trans h
  | 2, hf, h => exact (hf 78 (by decide)).trans h
  | 3, _, _ => trivial
  | 4, hf, h => exact (hf 80 (by decide)).trans h
  | 5, hf, h => exact (hf 81 (by decide)).trans h
  | 6, hf, h => exact (hf 82 (by decide)).trans h
  | 7, _, _ => trivial
  | 8, _, _ => trivial
  | 9, hf, h => exact (hf 85 (by decide)).trans h
  | 10, _, _ => trivial
  | _ + 11, _, _ => trivial
set_option maxHeartbeats 16000000 in
set_option maxRecDepth 100000 in
theorem twice_walk (c : Cir) (s : Places) (at' : Int) (w : World) (h : CLies w w.heap.size c s) (hf : CFits c s) (hnm : ∀ x ∈ c.names, x.kind.size ≤ 281474976710656 ∧ x.text.size ≤ 281474976710656) (hat : I64 at') :
    Calls Try.prog 5 #[cirV c s, .int .i64 at'] w fun e w' => e = .returned (.bool true) ∧ Below w.heap.size w w' := by
  obtain ⟨WA, hWA⟩ : ∃ x, w.alloc (.cells #[.int .i64 c.max, .slice s.ai c.ins.length s.ki, .slice s.al c.lats.length s.kl, .slice s.ao c.outs.length s.ko, .slice s.ab c.bads.length s.kb, .slice s.ac c.invs.length s.kc, .slice s.aa c.ands.length s.ka, .slice s.an c.names.length s.kn] 27) = x := ⟨_, rfl⟩
  have bA : Below w.heap.size w WA := by rw [← hWA]; exact (Below.refl _ _).alloc (Nat.le_refl _) _
  have BA := Lib.hid bA
  have GA : Hid (WA.heap[w.heap.size]? = some (.cells (cirC c s) 27 (0, 0))) := by unfold Hid; rw [← hWA]; exact Array.getElem?_push_size
  obtain ⟨e0, e1, e2, e3, e4, e5, e6, e7⟩ := cells8 GA.out
  have AL := Lib.hid (alive_any WA)
  have HF := Lib.hid hf
  have HNM := Lib.hid hnm
  have HAT := Lib.hid hat
  have LW : Hid (∀ x, Below w.heap.size w x → CLies x x.heap.size c s) := fun x hx => (h.below hx).more hx.size
  have RC := Lib.hid (refcheck_any c s WA ((h.below bA).more bA.size) hf)
  unfold cirV at RC ⊢
  rw [show cirC c s = #[.int .i64 c.max, .slice s.ai c.ins.length s.ki, .slice s.al c.lats.length s.kl, .slice s.ao c.outs.length s.ko, .slice s.ab c.bads.length s.kb, .slice s.ac c.invs.length s.kc, .slice s.aa c.ands.length s.ka, .slice s.an c.names.length s.kn] from rfl] at RC ⊢
  cases hr : refOk c
  · rw [refV_no c hr] at RC
    clear h hf hnm hat bA hr
    go_enter Try.func5, Try.ntmps5
    go_wp2_with fail
    refine AL.out.mono ?_
    rintro e wq ⟨rfl, rfl⟩
    clear AL
    go_wp2_with fail
    refine RC.out.mono ?_
    rintro e w1 ⟨rfl, hb⟩
    have B1 : Hid (Below w.heap.size w w1) := BA.out.trans (hb.mono BA.out.size)
    clear RC hb e0 e1 e2 e3 e4 e5 e6 e7 hWA
    go_wp2
    go_ret
    exact ⟨rfl, B1.out⟩
  · have HR := Lib.hid hr
    rw [refV_yes c hr] at RC
    clear h hf hnm hat bA hr
    go_enter Try.func5, Try.ntmps5
    go_wp2_with fail
    refine AL.out.mono ?_
    rintro e wq ⟨rfl, rfl⟩
    clear AL
    go_wp2_with fail
    refine RC.out.mono ?_
    rintro e w1 ⟨rfl, hb⟩
    have B1 : Hid (Below w.heap.size w w1) := BA.out.trans (hb.mono BA.out.size)
    have G1 : Hid (w1.heap[w.heap.size]? = some (.cells (cirC c s) 27 (0, 0))) := (hb.block _ (lt_of_block GA.out)).trans GA.out
    clear RC hb e0 e1 e2 e3 e4 e5 e6 e7 hWA
    obtain ⟨e0, e1, e2, e3, e4, e5, e6, e7⟩ := cells8 G1.out
    have IM : -9223372036854775808 ≤ c.max ∧ c.max ≤ 9223372036854775807 := HF.out.max
    have ZL := Lib.hid (ref_sizes HR.out)
    by_cases hl : c.ands.length = 0
    · rw [hl] at e6
      go_wp2
      go_ret
      exact ⟨rfl, B1.out⟩
    · by_cases hm : 1000 < c.max
      · go_wp2
        go_ret
        exact ⟨rfl, B1.out⟩
      · have HL := Lib.hid hl
        have HM := Lib.hid hm
        have hz : c.ands.length ≤ 4097 := ZL.out.2.2.2.2.2
        have hn0 : ¬ ((c.ands.length : Nat) : Int) = 0 := by omega
        have hlb : (((c.ands.length : Nat) : Int) == 0) = false := beq_eq_false_iff_ne.2 hn0
        obtain ⟨y1, hy1⟩ : ∃ y, at'.tmod (c.ands.length : Int) = y := ⟨_, rfl⟩
        have hyb : -(c.ands.length : Int) < y1 ∧ y1 < c.ands.length := by rw [← hy1]; exact ⟨by have := Int.lt_tmod_of_pos at' (b := (c.ands.length : Int)) (by omega); omega, Int.tmod_lt_of_pos _ (by omega)⟩
        obtain ⟨k, hk⟩ : ∃ k : Nat, (y1 + (c.ands.length : Int)).tmod (c.ands.length : Int) = k := ⟨((y1 + (c.ands.length : Int)).tmod (c.ands.length : Int)).toNat, by
          have := Int.tmod_nonneg (c.ands.length : Int) (show 0 ≤ y1 + (c.ands.length : Int) by omega)
          omega⟩
        have hkl : k < c.ands.length := by
          have := Int.tmod_lt_of_pos (y1 + (c.ands.length : Int)) (b := (c.ands.length : Int)) (by omega)
          omega
        obtain ⟨b, o, hA, hb9, c0, c1, c2⟩ := LRow.tri (LW.out w1 B1.out).ands hkl
        have HMEM := Lib.hid (List.getElem_mem hkl)
        have HA := Lib.hid hA
        rw [hA] at e6
        generalize c.ands[k] = t at *
        have hbl : ∀ x, Below w1.heap.size w1 x → x.cell? ⟨w.heap.size, 6, none⟩ = some (.slice (some ⟨b, o, none⟩) c.ands.length s.ka) ∧ x.cell? ⟨b, o + k * 3, none⟩ = some (.int .i64 t.a) ∧ x.cell? ⟨b, o + k * 3 + 1, none⟩ = some (.int .i64 t.b) ∧ x.cell? ⟨b, o + k * 3 + 2, none⟩ = some (.int .i64 t.c) := fun x hx => ⟨cell_later hx e6, cell_later hx c0, cell_later hx c1, cell_later hx c2⟩
        have bz1 : ∀ O, Below w1.heap.size w1 (w1.alloc O) := fun O => (Below.refl _ _).alloc (Nat.le_refl _) _
        have f0 : ∀ O, (w1.alloc O).drew.cell? ⟨w.heap.size, 6, none⟩ = some (.slice (some ⟨b, o, none⟩) c.ands.length s.ka) := fun O => (hbl _ (bz1 O).drew).1
        have f1 : ∀ O, (w1.alloc O).drew.cell? ⟨b, o + k * 3, none⟩ = some (.int .i64 t.a) := fun O => (hbl _ (bz1 O).drew).2.1
        have f2 : ∀ O, (w1.alloc O).drew.cell? ⟨b, o + k * 3 + 1, none⟩ = some (.int .i64 t.b) := fun O => (hbl _ (bz1 O).drew).2.2.1
        have f3 : ∀ O, (w1.alloc O).drew.cell? ⟨b, o + k * 3 + 2, none⟩ = some (.int .i64 t.c) := fun O => (hbl _ (bz1 O).drew).2.2.2
        have k0 : ∀ O, (w1.alloc O).cell? ⟨w.heap.size, 6, none⟩ = some (.slice (some ⟨b, o, none⟩) c.ands.length s.ka) := fun O => (hbl _ (bz1 O)).1
        have k1 : ∀ O, (w1.alloc O).cell? ⟨b, o + k * 3, none⟩ = some (.int .i64 t.a) := fun O => (hbl _ (bz1 O)).2.1
        have k2 : ∀ O, (w1.alloc O).cell? ⟨b, o + k * 3 + 1, none⟩ = some (.int .i64 t.b) := fun O => (hbl _ (bz1 O)).2.2.1
        have k3 : ∀ O, (w1.alloc O).cell? ⟨b, o + k * 3 + 2, none⟩ = some (.int .i64 t.c) := fun O => (hbl _ (bz1 O)).2.2.2
        clear hbl bz1 hA hb9
        go_wp2
        go_region
        as_aux_lemma =>
          clear f0 f1 f2 f3 k0 k1 k2 k3 e0 e1 e2 e3 e4 e5 e6 e7 c0 c1 c2 hyb hy1 hk hkl
          obtain ⟨wk, hwk⟩ : ∃ x, (w1.alloc (.cells #[.int .i64 t.a, .int .i64 t.b, .int .i64 t.c] 43)).drew = x := ⟨_, rfl⟩
          have bk : Below w1.heap.size w1 wk := by rw [← hwk]; exact ((Below.refl _ _).alloc (Nat.le_refl _) _).drew
          have KA : Hid (wk.heap[w1.heap.size]? = some (.cells #[.int .i64 t.a, .int .i64 t.b, .int .i64 t.c] 43 (0, 0))) := by unfold Hid; rw [← hwk]; exact Array.getElem?_push_size
          have BK : Hid (Below w1.heap.size w1 wk) := bk
          have BKW : Hid (Below w.heap.size w wk) := B1.out.trans (bk.mono B1.out.size)
          have KC : Hid (wk.heap[w.heap.size]? = some (.cells (cirC c s) 27 (0, 0))) := (bk.block _ (lt_of_block G1.out)).trans G1.out
          rw [hwk]
          clear hwk bk
          obtain ⟨e0, e1, e2, e3, e4, e5, e6, e7⟩ := cells8 KC.out
          obtain ⟨W4p, hW4p⟩ : ∃ x, wk.alloc (.cells #[.int .i64 0, .slice none 0 0, .slice none 0 0, .slice none 0 0, .slice none 0 0, .slice none 0 0, .slice none 0 0, .slice none 0 0] 27) = x := ⟨_, rfl⟩
          have g4p : W4p.heap[wk.heap.size]? = some (.cells #[.int .i64 0, .slice none 0 0, .slice none 0 0, .slice none 0 0, .slice none 0 0, .slice none 0 0, .slice none 0 0, .slice none 0 0] 27 (0, 0)) := by rw [← hW4p]; exact Array.getElem?_push_size
          have b4p : Below wk.heap.size wk W4p := by rw [← hW4p]; exact (Below.refl _ _).alloc (Nat.le_refl _) _
          obtain ⟨p1, p2, p3, p4, p5, p6, p7, Xp, pv0, pv1, pv2, pv3, pv4, pv5, pv6, pv7, ⟨ph1, pa0, pb0⟩, ⟨ph2, pa1, pb1⟩, ⟨ph3, pa2, pb2⟩, ⟨ph4, pa3, pb3⟩, ⟨ph5, pa4, pb4⟩, ⟨ph6, pa5, pb5⟩, ⟨ph7, pa6, pb6⟩, ⟨ph8, pa7, pb7⟩, E8p, FCp⟩ := Cw.store8 g4p rfl (.int .i64 c.max) (.slice s.ai c.ins.length s.ki) (.slice s.al c.lats.length s.kl) (.slice s.ao c.outs.length s.ko) (.slice s.ab c.bads.length s.kb) (.slice s.ac c.invs.length s.kc) (.slice s.aa c.ands.length s.ka) (.slice s.an c.names.length s.kn)
          have BXp : Hid (Below wk.heap.size wk Xp) := FCp.below b4p (Nat.le_refl _)
          have GXp : Hid (Xp.heap[wk.heap.size]? = some (.cells #[.int .i64 c.max, .slice s.ai c.ins.length s.ki, .slice s.al c.lats.length s.kl, .slice s.ao c.outs.length s.ko, .slice s.ab c.bads.length s.kb, .slice s.ac c.invs.length s.kc, .slice s.aa c.ands.length s.ka, .slice s.an c.names.length s.kn] 27 (0, 0))) := E8p
          clear g4p b4p E8p FCp
          obtain ⟨YM, uM, ⟨hY1, hY2, hY3⟩, GY, FY⟩ := Cw.step_set Xp _ 0 (.int .i64 (c.max + 1)) GXp.out (by simp)
          have GYX : Hid (YM.heap[wk.heap.size]? = some (.cells #[.int .i64 (c.max + 1), .slice s.ai c.ins.length s.ki, .slice s.al c.lats.length s.kl, .slice s.ao c.outs.length s.ko, .slice s.ab c.bads.length s.kb, .slice s.ac c.invs.length s.kc, .slice s.aa c.ands.length s.ka, .slice s.an c.names.length s.kn] 27 (0, 0))) := GY
          have hgd : wk.heap.size < Xp.heap.size := lt_of_block GXp.out
          have BY : Hid (Below wk.heap.size wk YM) := FY.below BXp.out (Nat.le_refl _)
          have KXC := (BXp.out.block _ (lt_of_block KC.out)).trans KC.out
          obtain ⟨x0, x1, x2, x3, x4, x5, x6, x7⟩ := cells8 KXC
          clear GY FY KXC hgd
          go_wp2
          clear x0 x1 x2 x3 x4 x5 x6 x7 e0 e1 e2 e3 e4 e5 e6 e7 hY1 hY2 hY3
          clear hW4p ph1 pa0 pb0 ph2 pa1 pb1 ph3 pa2 pb2 ph4 pa3 pb3 ph5 pa4 pb4 ph6 pa5 pb5 ph7 pa6 pb6 ph8 pa7 pb7
          clear BXp GXp
          obtain ⟨w8, rfl⟩ : ∃ x, x = YM := ⟨_, rfl⟩
          obtain ⟨M, hM⟩ : ∃ x, c.max + 1 = x := ⟨_, rfl⟩
          have HM2 := Lib.hid hM
          rw [hM] at GYX ⊢
          have HMB : Hid (0 ≤ M ∧ M ≤ 4611686018427387903) := by
            obtain ⟨hh, -⟩ := ref_parts HR.out
            unfold refHead at hh
            simp only [Bool.and_eq_true, Bool.not_eq_true', decide_eq_false_iff_not] at hh
            unfold Hid
            have := HM.out
            have := HM2.out
            omega
          clear hM
          have HGB := GYX
          have HGD : Hid (wk.heap.size < w8.heap.size) := lt_of_block GYX.out
          have hkk := lt_of_block KA.out
          have hwk1 := BK.out.size
          have LC : Hid (∀ x : World, (∀ k, k < w8.heap.size → k ≠ wk.heap.size → x.heap[k]? = w8.heap[k]?) → x.cell? ⟨w.heap.size, 6, none⟩ = some (.slice s.aa c.ands.length s.ka) ∧ x.cell? ⟨w1.heap.size, 1, none⟩ = some (.int .i64 t.b) ∧ x.cell? ⟨w1.heap.size, 2, none⟩ = some (.int .i64 t.c)) := fun x hx => by
            have h1 := (hx _ (Nat.lt_trans (lt_of_block KC.out) HGD.out) (Nat.ne_of_lt (lt_of_block KC.out))).trans ((BY.out.block _ (lt_of_block KC.out)).trans KC.out)
            have h2 := (hx _ (Nat.lt_trans hkk HGD.out) (Nat.ne_of_lt hkk)).trans ((BY.out.block _ hkk).trans KA.out)
            exact ⟨(cells8 h1).2.2.2.2.2.2.1, (two_cells h2).2.1, (two_cells h2).2.2⟩
          have LB : Hid (∀ x : World, x.heap[wk.heap.size]? = some (.cells #[.int .i64 M, .slice s.ai c.ins.length s.ki, .slice s.al c.lats.length s.kl, .slice s.ao c.outs.length s.ko, .slice s.ab c.bads.length s.kb, .slice s.ac c.invs.length s.kc, .slice s.aa c.ands.length s.ka, .slice s.an c.names.length s.kn] 27 (0, 0)) → x.cell? ⟨wk.heap.size, 0, none⟩ = some (.int .i64 M)) := fun x hx => (eight hx).1
          have HCL : Hid (CLies wk wk.heap.size c s) := LW.out wk BKW.out
          have HROW : Hid (∀ x, Below wk.heap.size w8 x → LRow x wk.heap.size 3 s.aa (tris c.ands)) := fun x hx => (HCL.out.ands.below BY.out).below hx
          have HZ5 := ZL.out
          have HBY : Hid ((tris c.ands).length * 24 ≤ 140737488355328) := by unfold Hid; rw [tris_length]; omega
          have HMX : Hid ((tris c.ands).length ≤ 9223372036854775807) := by unfold Hid; rw [tris_length]; omega
          have HBY1 : Hid (((tris c.ands).length + 1) * 24 ≤ 140737488355328) := by unfold Hid; rw [tris_length]; omega
          have HMX1 : Hid ((tris c.ands).length + 1 ≤ 9223372036854775807) := by unfold Hid; rw [tris_length]; omega
          have HLE : Hid (∀ y ∈ tris c.ands ++ [[Value.int .i64 (2 * M), .int .i64 t.c, .int .i64 t.b]], y.length = 3) := fun y hy => by
            rcases List.mem_append.1 hy with hy | hy
            · exact tris_len _ y hy
            · rw [List.mem_singleton.1 hy]; rfl
          clear HZ5 hkk hwk1
          refine wp_region_valsG (by as_aux_lemma => kernel_rfl) (by as_aux_lemma => kernel_rfl) cat8M (by as_aux_lemma => kernel_rfl) (by as_aux_lemma => kernel_rfl)
            (Cat w8 wk.heap.size #[.int .i64 M, .slice s.ai c.ins.length s.ki, .slice s.al c.lats.length s.kl, .slice s.ao c.outs.length s.ko, .slice s.ab c.bads.length s.kb, .slice s.ac c.invs.length s.kc, .slice s.aa c.ands.length s.ka, .slice s.an c.names.length s.kn] 27 43 3 6 (tris c.ands) [.int .i64 (2 * M), .int .i64 t.c, .int .i64 t.b] 0 3 12 13 15 51 54 63 64) (cat8R w.heap.size w1.heap.size wk.heap.size c.ands.length s.ka s.aa t M) (Cat.start HGB.out _) (fun jj f f' w w' hb hf h => cat8_stab jj  hf h) ?_ ?_
          · intro i oo d a' w' ho hd hun hdf hok hDE K hK hK0
            match i, ho, hd, hDE, hK, hK0, hun with
            | 0, ho, hd, hDE, hK, hK0, hun =>
              have e := (congrArg Oper.op (Option.some.inj ho)).symm
              obtain rfl := Option.some.inj ho
              exact wp_val (op_empty_and a' w' _ e) (hK _ _ ((Below.refl _ _).alloc (Nat.le_refl _) _) (fun f h1 h2 => hok.empty (by decide) HGD.out (hd 3 (by as_aux_lemma => kernel_rfl)) (h1 51 rfl) (h2 63 (by decide))) (fun f h1 h2 => trivial))
            | 1, ho, hd, hDE, hK, hK0, hun =>
              have e := (congrArg Oper.op (Option.some.inj ho)).symm
              obtain rfl := Option.some.inj ho
              exact wp_val (op_field_api_Circuit_6 a' w' _ 2 (hun 2 (by as_aux_lemma => kernel_rfl)) _ e) (hK _ _ (Below.refl _ _) (fun f _ h2 => hok.read 1 (by decide) (h2 51 (by decide)) (h2 54 (by decide)) (h2 63 (by decide)) (h2 64 (by decide))) (fun f h1 _ => h1 _ rfl))
            | 2, ho, hd, hDE, hK, hK0, hun =>
              have e := (congrArg Oper.op (Option.some.inj ho)).symm
              obtain rfl := Option.some.inj ho
              exact wp_val (op_load_Lapi_And a' w' _ 52 _ (hDE 1 (by as_aux_lemma => kernel_rfl)).2 (LC.out _ hok.k).1 _ e) (hK _ _ (Below.refl _ _) (fun f _ h2 => hok.read 2 (by decide) (h2 51 (by decide)) (h2 54 (by decide)) (h2 63 (by decide)) (h2 64 (by decide))) (fun f h1 _ => h1 _ rfl))
            | 3, ho, hd, hDE, hK, hK0, hun =>
              have e := (congrArg Oper.op (Option.some.inj ho)).symm
              obtain rfl := Option.some.inj ho
              obtain ⟨g0, p1, p2⟩ := hok.o0 (hDE 0 (by as_aux_lemma => kernel_rfl)).1 (hd 3 (by as_aux_lemma => kernel_rfl))
              rw [p1] at p2
              obtain ⟨v', w'', hr, ho, hb, hk⟩ := run_cat w' 24 43 3 24 _ Try.underlying24 infoA rfl (by decide) w8.heap.size _ g0 p2 (tris c.ands) s.aa s.ka (HROW.out w' hok.b) (tris_len _) (tris_one _) HBY.out hok.b.size HMX.out 24
              rw [tris_length] at hr
              exact wp_val (op_cat a' w' w'' 24 51 53 _ _ _ p1 (hDE 2 (by as_aux_lemma => kernel_rfl)).2 _ hr e) (hK0 _ _ (fun f h1 h2 => hok.row (by decide) HGD.out (hDE 0 (by as_aux_lemma => kernel_rfl)).1 (hd 13 (by as_aux_lemma => kernel_rfl)) g0 p2 (by decide) rfl hb hk (by rw [h1 54 rfl]; exact ho) (h2 63 (by decide))) (fun f h1 h2 => trivial) (fun j f hj hf hq => cat8_stab j hf hq))
            | 4, ho, hd, hDE, hK, hK0, hun =>
              have e := (congrArg Oper.op (Option.some.inj ho)).symm
              obtain rfl := Option.some.inj ho
              exact wp_val (op_field_api_Circuit_0 a' w' _ 6 (hun 6 (by as_aux_lemma => kernel_rfl)) _ e) (hK _ _ (Below.refl _ _) (fun f _ h2 => hok.read 4 (by decide) (h2 51 (by decide)) (h2 54 (by decide)) (h2 63 (by decide)) (h2 64 (by decide))) (fun f h1 _ => h1 _ rfl))
            | 5, ho, hd, hDE, hK, hK0, hun =>
              have e := (congrArg Oper.op (Option.some.inj ho)).symm
              obtain rfl := Option.some.inj ho
              exact wp_val (op_load_int a' w' _ 55 _ (hDE 4 (by as_aux_lemma => kernel_rfl)).2 (LB.out _ (hok.n0 (hd 15 (by as_aux_lemma => kernel_rfl)))) _ e) (hK _ _ (Below.refl _ _) (fun f _ h2 => hok.read 5 (by decide) (h2 51 (by decide)) (h2 54 (by decide)) (h2 63 (by decide)) (h2 64 (by decide))) (fun f h1 _ => h1 _ rfl))
            | 6, ho, hd, hDE, hK, hK0, hun =>
              have e := (congrArg Oper.op (Option.some.inj ho)).symm
              obtain rfl := Option.some.inj ho
              exact wp_val (op_mul2 a' w' M 56 (hDE 5 (by as_aux_lemma => kernel_rfl)).2 HMB.out _ e) (hK _ _ (Below.refl _ _) (fun f _ h2 => hok.read 6 (by decide) (h2 51 (by decide)) (h2 54 (by decide)) (h2 63 (by decide)) (h2 64 (by decide))) (fun f h1 _ => h1 _ rfl))
            | 7, ho, hd, hDE, hK, hK0, hun =>
              have e := (congrArg Oper.op (Option.some.inj ho)).symm
              obtain rfl := Option.some.inj ho
              exact wp_val (op_field_api_And_2 a' w' _ 5 (hun 5 (by as_aux_lemma => kernel_rfl)) _ e) (hK _ _ (Below.refl _ _) (fun f _ h2 => hok.read 7 (by decide) (h2 51 (by decide)) (h2 54 (by decide)) (h2 63 (by decide)) (h2 64 (by decide))) (fun f h1 _ => h1 _ rfl))
            | 8, ho, hd, hDE, hK, hK0, hun =>
              have e := (congrArg Oper.op (Option.some.inj ho)).symm
              obtain rfl := Option.some.inj ho
              exact wp_val (op_load_int a' w' _ 58 _ (hDE 7 (by as_aux_lemma => kernel_rfl)).2 (LC.out _ hok.k).2.2 _ e) (hK _ _ (Below.refl _ _) (fun f _ h2 => hok.read 8 (by decide) (h2 51 (by decide)) (h2 54 (by decide)) (h2 63 (by decide)) (h2 64 (by decide))) (fun f h1 _ => h1 _ rfl))
            | 9, ho, hd, hDE, hK, hK0, hun =>
              have e := (congrArg Oper.op (Option.some.inj ho)).symm
              obtain rfl := Option.some.inj ho
              exact wp_val (op_field_api_And_1 a' w' _ 5 (hun 5 (by as_aux_lemma => kernel_rfl)) _ e) (hK _ _ (Below.refl _ _) (fun f _ h2 => hok.read 9 (by decide) (h2 51 (by decide)) (h2 54 (by decide)) (h2 63 (by decide)) (h2 64 (by decide))) (fun f h1 _ => h1 _ rfl))
            | 10, ho, hd, hDE, hK, hK0, hun =>
              have e := (congrArg Oper.op (Option.some.inj ho)).symm
              obtain rfl := Option.some.inj ho
              exact wp_val (op_load_int a' w' _ 60 _ (hDE 9 (by as_aux_lemma => kernel_rfl)).2 (LC.out _ hok.k).2.1 _ e) (hK _ _ (Below.refl _ _) (fun f _ h2 => hok.read 10 (by decide) (h2 51 (by decide)) (h2 54 (by decide)) (h2 63 (by decide)) (h2 64 (by decide))) (fun f h1 _ => h1 _ rfl))
            | 11, ho, hd, hDE, hK, hK0, hun =>
              have e := (congrArg Oper.op (Option.some.inj ho)).symm
              obtain rfl := Option.some.inj ho
              exact wp_val (op_build_tri a' w' _ _ _ 57 59 61 (hDE 6 (by as_aux_lemma => kernel_rfl)).2 (hDE 8 (by as_aux_lemma => kernel_rfl)).2 (hDE 10 (by as_aux_lemma => kernel_rfl)).2 _ e) (hK _ _ (Below.refl _ _) (fun f _ h2 => hok.read 11 (by decide) (h2 51 (by decide)) (h2 54 (by decide)) (h2 63 (by decide)) (h2 64 (by decide))) (fun f h1 _ => h1 _ rfl))
            | 12, ho, hd, hDE, hK, hK0, hun =>
              have e := (congrArg Oper.op (Option.some.inj ho)).symm
              obtain rfl := Option.some.inj ho
              exact wp_val (op_one_and a' w' 62 _ _ _ (hDE 11 (by as_aux_lemma => kernel_rfl)).2 _ e) (hK _ _ ((Below.refl _ _).alloc (Nat.le_refl _) _) (fun f h1 h2 => hok.one (by decide) HGD.out (hd 13 (by as_aux_lemma => kernel_rfl)) (h2 51 (by decide)) (h2 54 (by decide)) (h1 63 rfl)) (fun f h1 h2 => trivial))
            | 13, ho, hd, hDE, hK, hK0, hun =>
              have e := (congrArg Oper.op (Option.some.inj ho)).symm
              obtain rfl := Option.some.inj ho
              have ho3 := hok.o3 (hDE 3 (by as_aux_lemma => kernel_rfl)).1 (hd 13 (by as_aux_lemma => kernel_rfl))
              obtain ⟨g2, p1, p2, p3⟩ := hok.o2 (hDE 12 (by as_aux_lemma => kernel_rfl)).1 (hd 13 (by as_aux_lemma => kernel_rfl))
              obtain ⟨v', w'', hr, ho, hb⟩ := run_more w' 24 43 3 24 _ Try.underlying24 infoA rfl (by decide) w8.heap.size g2 _ (tris c.ands) ho3 _ p3 rfl (by simp [Value.oneCell']) HBY1.out HMX1.out hok.b.size 24
              exact wp_val (op_cat a' w' w'' 24 54 63 _ _ _ rfl p1 _ hr e) (hK0 _ _ (fun f h1 h2 => hok.more (by decide) HGD.out (hDE 3 (by as_aux_lemma => kernel_rfl)).1 (hDE 12 (by as_aux_lemma => kernel_rfl)).1 (hd 15 (by as_aux_lemma => kernel_rfl)) hb (by rw [h1 64 rfl]; exact ho)) (fun f h1 h2 => trivial) (fun j f hj hf hq => cat8_stab j hf hq))
            | 14, ho, hd, hDE, hK, hK0, hun =>
              have e := (congrArg Oper.op (Option.some.inj ho)).symm
              obtain rfl := Option.some.inj ho
              exact wp_val (op_field_api_Circuit_6 a' w' _ 6 (hun 6 (by as_aux_lemma => kernel_rfl)) _ e) (hK _ _ (Below.refl _ _) (fun f _ h2 => hok.read 14 (by decide) (h2 51 (by decide)) (h2 54 (by decide)) (h2 63 (by decide)) (h2 64 (by decide))) (fun f h1 _ => h1 _ rfl))
            | 15, ho, hd, hDE, hK, hK0, hun =>
              have e := (congrArg Oper.op (Option.some.inj ho)).symm
              obtain rfl := Option.some.inj ho
              obtain ⟨A', q', hv, -, -, -⟩ := (hok.oa (hDE 13 (by as_aux_lemma => kernel_rfl)).1).row (by decide) HLE.out
              obtain ⟨Y', u', ⟨q1, q2, q3⟩, q4, q5⟩ := Cw.step_set w' _ 6 (.slice A' _ q') (hok.n0 (hd 15 (by as_aux_lemma => kernel_rfl))) (by simp)
              have hr := op_store_set a' w' wk.heap.size 6 u' A' _ q' 65 64 (hDE 14 (by as_aux_lemma => kernel_rfl)).2 hv q2 q3 _ e
              rw [q1] at hr
              exact wp_skip' hr (hK0 _ _ (fun f h1 h2 => hok.laid (by decide) HGD.out (hDE 13 (by as_aux_lemma => kernel_rfl)).1 q5 (by show _ = some (Obj.cells (Array.setIfInBounds _ 6 (vals a' 64)) _ _); rw [hv]; exact q4) (h2 64 (by decide))) (fun f h1 h2 => trivial) (fun j f hj hf hq => cat8_stab j hf hq))
            | i + 16, ho, _, _, _, _, _ => exact absurd ho (by simp)
          · intro a' w9 hsz hdf hkt hok hR
            have HF3 := frame_sets [51, 52, 53, 54, 55, 56, 57, 58, 59, 60, 61, 62, 63, 64, 65] (by as_aux_lemma => kernel_rfl) hsz hkt
            obtain ⟨d, hok, hall⟩ := hok
            have hn := hok.n1 (hall 15 (by decide))
            have ho := hok.oa (hall 13 (by decide))
            obtain ⟨A8, q8, hv, -, hle, hq8⟩ := ho.row (by decide) HLE.out
            rw [hv] at hn ho
            have hlen : (tris c.ands ++ [[Value.int .i64 (2 * M), .int .i64 t.c, .int .i64 t.b]]).length = (c.ands.length + 1) := by rw [List.length_append, tris_length]; rfl
            rw [hlen] at hn ho hle
            have hbb := hok.b
            have hkk := hok.k
            clear hok hall hv hlen
            obtain ⟨tm, df⟩ := a'
            obtain rfl : df = _ := hdf
            simp only [fold_cons, fold_nil] at HF3
            clear hkt hR hsz
            generalize tm.getD 51 undef = y51 at HF3
            generalize tm.getD 52 undef = y52 at HF3
            generalize tm.getD 53 undef = y53 at HF3
            generalize tm.getD 54 undef = y54 at HF3
            generalize tm.getD 55 undef = y55 at HF3
            generalize tm.getD 56 undef = y56 at HF3
            generalize tm.getD 57 undef = y57 at HF3
            generalize tm.getD 58 undef = y58 at HF3
            generalize tm.getD 59 undef = y59 at HF3
            generalize tm.getD 60 undef = y60 at HF3
            generalize tm.getD 61 undef = y61 at HF3
            generalize tm.getD 62 undef = y62 at HF3
            generalize tm.getD 63 undef = y63 at HF3
            generalize tm.getD 64 undef = y64 at HF3
            generalize tm.getD 65 undef = y65 at HF3
            simp only [List.setIfInBounds_toArray, List.set_cons_succ, List.set_cons_zero] at HF3
            subst HF3
            clear LC LB HROW HBY HMX HBY1 HMX1 HGB
            have R8L := HLE
            clear HLE
            have Q8 : Hid ((c.ands.length + 1) ≤ q8 ∧ q8 ≤ 9223372036854775807) := ⟨hle, hq8⟩
            have GD9 : Hid (w9.heap[wk.heap.size]? = some (.cells #[.int .i64 M, .slice s.ai c.ins.length s.ki, .slice s.al c.lats.length s.kl, .slice s.ao c.outs.length s.ko, .slice s.ab c.bads.length s.kb, .slice s.ac c.invs.length s.kc, (.slice A8 (c.ands.length + 1) q8), .slice s.an c.names.length s.kn] 27 (0, 0))) := hn
            have O8 : Hid (OwnC w9 w8.heap.size 43 3 (.slice A8 (c.ands.length + 1) q8) (tris c.ands ++ [[Value.int .i64 (2 * M), .int .i64 t.c, .int .i64 t.b]])) := ho
            have B9 : Hid (Below wk.heap.size wk w9) := BY.out.trans (hbb.mono (Nat.le_refl _))
            have HGD9 : Hid (wk.heap.size < w9.heap.size) := Nat.lt_of_lt_of_le HGD.out hbb.size
            have HS9 : Hid (w8.heap.size ≤ w9.heap.size) := hbb.size
            clear hn ho hle hq8 hbb hkk GYX BY
            have HGD8 := HGD
            clear HGD
            have HGD := HGD9
            have HGB := GD9
            as_aux_lemma =>
              go_wp2
              have hk1 := lt_of_block KA.out
              have hwk1 := BK.out.size
              have LC : Hid (∀ x : World, (∀ k, k < w9.heap.size → k ≠ wk.heap.size → x.heap[k]? = w9.heap[k]?) → x.cell? ⟨w.heap.size, 3, none⟩ = some (.slice s.ao c.outs.length s.ko) ∧ x.cell? ⟨w1.heap.size, 0, none⟩ = some (.int .i64 t.a)) := fun x hx => by
                have h1 := (hx _ (Nat.lt_trans (lt_of_block KC.out) HGD.out) (Nat.ne_of_lt (lt_of_block KC.out))).trans ((B9.out.block _ (lt_of_block KC.out)).trans KC.out)
                have h2 := (hx _ (Nat.lt_trans hk1 HGD.out) (Nat.ne_of_lt hk1)).trans ((B9.out.block _ hk1).trans KA.out)
                exact ⟨(cells8 h1).2.2.2.1, (two_cells h2).1⟩
              have HROW : Hid (∀ x, Below wk.heap.size w9 x → LRow x wk.heap.size 1 s.ao (ints c.outs)) := fun x hx => (HCL.out.outs.below B9.out).below hx
              have HZ5 := ZL.out
              have HBY : Hid ((ints c.outs).length * 8 ≤ 140737488355328) := by unfold Hid; rw [ints_length]; omega
              have HMX : Hid ((ints c.outs).length ≤ 9223372036854775807) := by unfold Hid; rw [ints_length]; omega
              have HBY1 : Hid (((ints c.outs).length + 1) * 8 ≤ 140737488355328) := by unfold Hid; rw [ints_length]; omega
              have HMX1 : Hid ((ints c.outs).length + 1 ≤ 9223372036854775807) := by unfold Hid; rw [ints_length]; omega
              have HLE : Hid (∀ y ∈ (ints c.outs ++ [[Value.int .i64 t.a]]), y.length = 1) := fun y hy => by
                rcases List.mem_append.1 hy with hy | hy
                · exact ints_len _ y hy
                · rw [List.mem_singleton.1 hy]; rfl
              clear HZ5 hk1 hwk1
              refine wp_region_valsG (by as_aux_lemma => kernel_rfl) (by as_aux_lemma => kernel_rfl) cat9M (by as_aux_lemma => kernel_rfl) (by as_aux_lemma => kernel_rfl)
                (Cat w9 wk.heap.size #[.int .i64 M, .slice s.ai c.ins.length s.ki, .slice s.al c.lats.length s.kl, .slice s.ao c.outs.length s.ko, .slice s.ab c.bads.length s.kb, .slice s.ac c.invs.length s.kc, (.slice A8 (c.ands.length + 1) q8), .slice s.an c.names.length s.kn] 27 3 1 3 (ints c.outs) [.int .i64 t.a] 0 3 6 7 9 66 69 72 73) (cat9R w.heap.size w1.heap.size wk.heap.size c.outs.length s.ko s.ao t) (Cat.start HGB.out _) (fun jj f f' w w' hb hf h => cat9_stab jj  hf h) ?_ ?_
              · intro i oo d a' w' ho hd hun hdf hok hDE K hK hK0
                match i, ho, hd, hDE, hK, hK0, hun with
                | 0, ho, hd, hDE, hK, hK0, hun =>
                  have e := (congrArg Oper.op (Option.some.inj ho)).symm
                  obtain rfl := Option.some.inj ho
                  exact wp_val (op_empty_int a' w' _ e) (hK _ _ ((Below.refl _ _).alloc (Nat.le_refl _) _) (fun f h1 h2 => hok.empty (by decide) HGD.out (hd 3 (by as_aux_lemma => kernel_rfl)) (h1 66 rfl) (h2 72 (by decide))) (fun f h1 h2 => trivial))
                | 1, ho, hd, hDE, hK, hK0, hun =>
                  have e := (congrArg Oper.op (Option.some.inj ho)).symm
                  obtain rfl := Option.some.inj ho
                  exact wp_val (op_field_api_Circuit_3 a' w' _ 2 (hun 2 (by as_aux_lemma => kernel_rfl)) _ e) (hK _ _ (Below.refl _ _) (fun f _ h2 => hok.read 1 (by decide) (h2 66 (by decide)) (h2 69 (by decide)) (h2 72 (by decide)) (h2 73 (by decide))) (fun f h1 _ => h1 _ rfl))
                | 2, ho, hd, hDE, hK, hK0, hun =>
                  have e := (congrArg Oper.op (Option.some.inj ho)).symm
                  obtain rfl := Option.some.inj ho
                  exact wp_val (op_load_Lint a' w' _ 67 _ (hDE 1 (by as_aux_lemma => kernel_rfl)).2 (LC.out _ hok.k).1 _ e) (hK _ _ (Below.refl _ _) (fun f _ h2 => hok.read 2 (by decide) (h2 66 (by decide)) (h2 69 (by decide)) (h2 72 (by decide)) (h2 73 (by decide))) (fun f h1 _ => h1 _ rfl))
                | 3, ho, hd, hDE, hK, hK0, hun =>
                  have e := (congrArg Oper.op (Option.some.inj ho)).symm
                  obtain rfl := Option.some.inj ho
                  obtain ⟨g0, p1, p2⟩ := hok.o0 (hDE 0 (by as_aux_lemma => kernel_rfl)).1 (hd 3 (by as_aux_lemma => kernel_rfl))
                  rw [p1] at p2
                  obtain ⟨v', w'', hr, ho, hb, hk⟩ := run_cat w' 22 3 1 8 _ Try.underlying22 infoI rfl (by decide) w9.heap.size _ g0 p2 (ints c.outs) s.ao s.ko (HROW.out w' hok.b) (ints_len _) (ints_one _) HBY.out hok.b.size HMX.out 22
                  rw [ints_length] at hr
                  exact wp_val (op_cat a' w' w'' 22 66 68 _ _ _ p1 (hDE 2 (by as_aux_lemma => kernel_rfl)).2 _ hr e) (hK0 _ _ (fun f h1 h2 => hok.row (by decide) HGD.out (hDE 0 (by as_aux_lemma => kernel_rfl)).1 (hd 7 (by as_aux_lemma => kernel_rfl)) g0 p2 (by decide) rfl hb hk (by rw [h1 69 rfl]; exact ho) (h2 72 (by decide))) (fun f h1 h2 => trivial) (fun j f hj hf hq => cat9_stab j hf hq))
                | 4, ho, hd, hDE, hK, hK0, hun =>
                  have e := (congrArg Oper.op (Option.some.inj ho)).symm
                  obtain rfl := Option.some.inj ho
                  exact wp_val (op_field_api_And_0 a' w' _ 5 (hun 5 (by as_aux_lemma => kernel_rfl)) _ e) (hK _ _ (Below.refl _ _) (fun f _ h2 => hok.read 4 (by decide) (h2 66 (by decide)) (h2 69 (by decide)) (h2 72 (by decide)) (h2 73 (by decide))) (fun f h1 _ => h1 _ rfl))
                | 5, ho, hd, hDE, hK, hK0, hun =>
                  have e := (congrArg Oper.op (Option.some.inj ho)).symm
                  obtain rfl := Option.some.inj ho
                  exact wp_val (op_load_int a' w' _ 70 _ (hDE 4 (by as_aux_lemma => kernel_rfl)).2 (LC.out _ hok.k).2 _ e) (hK _ _ (Below.refl _ _) (fun f _ h2 => hok.read 5 (by decide) (h2 66 (by decide)) (h2 69 (by decide)) (h2 72 (by decide)) (h2 73 (by decide))) (fun f h1 _ => h1 _ rfl))
                | 6, ho, hd, hDE, hK, hK0, hun =>
                  have e := (congrArg Oper.op (Option.some.inj ho)).symm
                  obtain rfl := Option.some.inj ho
                  exact wp_val (op_one_int a' w' 71 _ (hDE 5 (by as_aux_lemma => kernel_rfl)).2 _ e) (hK _ _ ((Below.refl _ _).alloc (Nat.le_refl _) _) (fun f h1 h2 => hok.one (by decide) HGD.out (hd 7 (by as_aux_lemma => kernel_rfl)) (h2 66 (by decide)) (h2 69 (by decide)) (h1 72 rfl)) (fun f h1 h2 => trivial))
                | 7, ho, hd, hDE, hK, hK0, hun =>
                  have e := (congrArg Oper.op (Option.some.inj ho)).symm
                  obtain rfl := Option.some.inj ho
                  have ho3 := hok.o3 (hDE 3 (by as_aux_lemma => kernel_rfl)).1 (hd 7 (by as_aux_lemma => kernel_rfl))
                  obtain ⟨g2, p1, p2, p3⟩ := hok.o2 (hDE 6 (by as_aux_lemma => kernel_rfl)).1 (hd 7 (by as_aux_lemma => kernel_rfl))
                  obtain ⟨v', w'', hr, ho, hb⟩ := run_more w' 22 3 1 8 _ Try.underlying22 infoI rfl (by decide) w9.heap.size g2 _ (ints c.outs) ho3 _ p3 rfl (by simp [Value.oneCell']) HBY1.out HMX1.out hok.b.size 22
                  exact wp_val (op_cat a' w' w'' 22 69 72 _ _ _ rfl p1 _ hr e) (hK0 _ _ (fun f h1 h2 => hok.more (by decide) HGD.out (hDE 3 (by as_aux_lemma => kernel_rfl)).1 (hDE 6 (by as_aux_lemma => kernel_rfl)).1 (hd 9 (by as_aux_lemma => kernel_rfl)) hb (by rw [h1 73 rfl]; exact ho)) (fun f h1 h2 => trivial) (fun j f hj hf hq => cat9_stab j hf hq))
                | 8, ho, hd, hDE, hK, hK0, hun =>
                  have e := (congrArg Oper.op (Option.some.inj ho)).symm
                  obtain rfl := Option.some.inj ho
                  exact wp_val (op_field_api_Circuit_3 a' w' _ 6 (hun 6 (by as_aux_lemma => kernel_rfl)) _ e) (hK _ _ (Below.refl _ _) (fun f _ h2 => hok.read 8 (by decide) (h2 66 (by decide)) (h2 69 (by decide)) (h2 72 (by decide)) (h2 73 (by decide))) (fun f h1 _ => h1 _ rfl))
                | 9, ho, hd, hDE, hK, hK0, hun =>
                  have e := (congrArg Oper.op (Option.some.inj ho)).symm
                  obtain rfl := Option.some.inj ho
                  obtain ⟨A', q', hv, -, -, -⟩ := (hok.oa (hDE 7 (by as_aux_lemma => kernel_rfl)).1).row (by decide) HLE.out
                  obtain ⟨Y', u', ⟨q1, q2, q3⟩, q4, q5⟩ := Cw.step_set w' _ 3 (.slice A' _ q') (hok.n0 (hd 9 (by as_aux_lemma => kernel_rfl))) (by simp)
                  have hr := op_store_ints a' w' wk.heap.size 3 u' A' _ q' 74 73 (hDE 8 (by as_aux_lemma => kernel_rfl)).2 hv q2 q3 _ e
                  rw [q1] at hr
                  exact wp_skip' hr (hK0 _ _ (fun f h1 h2 => hok.laid (by decide) HGD.out (hDE 7 (by as_aux_lemma => kernel_rfl)).1 q5 (by show _ = some (Obj.cells (Array.setIfInBounds _ 3 (vals a' 73)) _ _); rw [hv]; exact q4) (h2 73 (by decide))) (fun f h1 h2 => trivial) (fun j f hj hf hq => cat9_stab j hf hq))
                | i + 10, ho, _, _, _, _, _ => exact absurd ho (by simp)
              · intro a' w10 hsz hdf hkt hok hR
                have HF3 := frame_sets [66, 67, 68, 69, 70, 71, 72, 73, 74] (by as_aux_lemma => kernel_rfl) hsz hkt
                obtain ⟨d, hok, hall⟩ := hok
                have hn := hok.n1 (hall 9 (by decide))
                have ho := hok.oa (hall 7 (by decide))
                obtain ⟨A9, q9, hv, -, hle, hq9⟩ := ho.row (by decide) HLE.out
                rw [hv] at hn ho
                have hlen : (ints c.outs ++ [[Value.int .i64 t.a]]).length = (c.outs.length + 1) := by rw [List.length_append, ints_length]; rfl
                rw [hlen] at hn ho hle
                have hbb := hok.b
                have hkk := hok.k
                clear hok hall hv hlen
                obtain ⟨tm, df⟩ := a'
                obtain rfl : df = _ := hdf
                simp only [fold_cons, fold_nil] at HF3
                clear hkt hR hsz
                generalize tm.getD 66 undef = y66 at HF3
                generalize tm.getD 67 undef = y67 at HF3
                generalize tm.getD 68 undef = y68 at HF3
                generalize tm.getD 69 undef = y69 at HF3
                generalize tm.getD 70 undef = y70 at HF3
                generalize tm.getD 71 undef = y71 at HF3
                generalize tm.getD 72 undef = y72 at HF3
                generalize tm.getD 73 undef = y73 at HF3
                generalize tm.getD 74 undef = y74 at HF3
                simp only [List.setIfInBounds_toArray, List.set_cons_succ, List.set_cons_zero] at HF3
                subst HF3
                clear LC HROW HGB
                have R9L := HLE
                clear HLE
                have Q9 : Hid ((c.outs.length + 1) ≤ q9 ∧ q9 ≤ 9223372036854775807) := ⟨hle, hq9⟩
                have GDX : Hid (w10.heap[wk.heap.size]? = some (.cells #[.int .i64 M, .slice s.ai c.ins.length s.ki, .slice s.al c.lats.length s.kl, (.slice A9 (c.outs.length + 1) q9), .slice s.ab c.bads.length s.kb, .slice s.ac c.invs.length s.kc, (.slice A8 (c.ands.length + 1) q8), .slice s.an c.names.length s.kn] 27 (0, 0))) := hn
                have O9 : Hid (OwnC w10 w9.heap.size 3 1 (.slice A9 (c.outs.length + 1) q9) (ints c.outs ++ [[Value.int .i64 t.a]])) := ho
                have O8X : Hid (OwnC w10 w8.heap.size 43 3 (.slice A8 (c.ands.length + 1) q8) (tris c.ands ++ [[Value.int .i64 (2 * M), .int .i64 t.c, .int .i64 t.b]])) := O8.out.keep_at fun g hg hgb => hkk g (O8.out.block_lt g hgb).2 (by have := HGD8.out; omega)
                have B10 : Hid (Below wk.heap.size wk w10) := B9.out.trans (hbb.mono (Nat.le_refl _))
                have HS10 : Hid (w9.heap.size ≤ w10.heap.size) := hbb.size
                clear hn ho hle hq9 hbb hkk O8 GD9 HGD HGD9
                obtain ⟨e0, e1, e2, e3, e4, e5, e6, e7⟩ := eight GDX.out
                as_aux_lemma =>
                  obtain ⟨W4f, hW4f⟩ : ∃ x, w10.alloc (.cells #[.int .i64 0, .slice none 0 0, .slice none 0 0, .slice none 0 0, .slice none 0 0, .slice none 0 0, .slice none 0 0, .slice none 0 0] 27) = x := ⟨_, rfl⟩
                  have g4f : W4f.heap[w10.heap.size]? = some (.cells #[.int .i64 0, .slice none 0 0, .slice none 0 0, .slice none 0 0, .slice none 0 0, .slice none 0 0, .slice none 0 0, .slice none 0 0] 27 (0, 0)) := by rw [← hW4f]; exact Array.getElem?_push_size
                  have b4f : Below w10.heap.size w10 W4f := by rw [← hW4f]; exact (Below.refl _ _).alloc (Nat.le_refl _) _
                  obtain ⟨f1, f2, f3, f4, f5, f6, f7, Xf, fv0, fv1, fv2, fv3, fv4, fv5, fv6, fv7, ⟨fh1, fa0, fb0⟩, ⟨fh2, fa1, fb1⟩, ⟨fh3, fa2, fb2⟩, ⟨fh4, fa3, fb3⟩, ⟨fh5, fa4, fb4⟩, ⟨fh6, fa5, fb5⟩, ⟨fh7, fa6, fb6⟩, ⟨fh8, fa7, fb7⟩, E8f, FCf⟩ := Cw.store8 g4f rfl (.int .i64 M) (.slice s.ai c.ins.length s.ki) (.slice s.al c.lats.length s.kl) ((.slice A9 (c.outs.length + 1) q9)) (.slice s.ab c.bads.length s.kb) (.slice s.ac c.invs.length s.kc) ((.slice A8 (c.ands.length + 1) q8)) (.slice s.an c.names.length s.kn)
                  have BXf : Hid (Below w10.heap.size w10 Xf) := FCf.below b4f (Nat.le_refl _)
                  have GXf : Hid (Xf.heap[w10.heap.size]? = some (.cells #[.int .i64 M, .slice s.ai c.ins.length s.ki, .slice s.al c.lats.length s.kl, (.slice A9 (c.outs.length + 1) q9), .slice s.ab c.bads.length s.kb, .slice s.ac c.invs.length s.kc, (.slice A8 (c.ands.length + 1) q8), .slice s.an c.names.length s.kn] 27 (0, 0))) := E8f
                  clear g4f b4f E8f FCf
                  go_wp2
                  clear e0 e1 e2 e3 e4 e5 e6 e7
                  clear hW4f fh1 fa0 fb0 fh2 fa1 fb1 fh3 fa2 fb2 fh4 fa3 fb3 fh5 fa4 fb4 fh6 fa5 fb5 fh7 fa6 fb6 fh8 fa7 fb7
                  obtain ⟨w11, rfl⟩ : ∃ x, x = Xf := ⟨_, rfl⟩
                  have hk0 := lt_of_block KC.out
                  have hkd := lt_of_block GDX.out
                  have HGB := GXf
                  have HGD : Hid (w10.heap.size < w11.heap.size) := lt_of_block GXf.out
                  have HCF : Hid (CLies w11 w10.heap.size c s) := ((HCL.out.below B10.out).below (BXf.out.mono (Nat.le_of_lt hkd))).more (Nat.le_of_lt hkd)
                  have LC : Hid (∀ x : World, (∀ k, k < w11.heap.size → k ≠ w10.heap.size → x.heap[k]? = w11.heap[k]?) → x.cell? ⟨w.heap.size, 3, none⟩ = some (.slice s.ao c.outs.length s.ko) ∧ x.cell? ⟨wk.heap.size, 0, none⟩ = some (.int .i64 M)) := fun x hx => by
                    have h1 := (hx _ (Nat.lt_trans (Nat.lt_trans hk0 hkd) HGD.out) (Nat.ne_of_lt (Nat.lt_trans hk0 hkd))).trans ((BXf.out.block _ (Nat.lt_trans hk0 hkd)).trans ((B10.out.block _ hk0).trans KC.out))
                    have h2 := (hx _ (Nat.lt_trans hkd HGD.out) (Nat.ne_of_lt hkd)).trans ((BXf.out.block _ hkd).trans GDX.out)
                    exact ⟨(cells8 h1).2.2.2.1, (eight h2).1⟩
                  have HROW : Hid (∀ x, Below w10.heap.size w11 x → LRow x w10.heap.size 1 s.ao (ints c.outs)) := fun x hx => HCF.out.outs.below hx
                  have HLE : Hid (∀ y ∈ (ints c.outs ++ [[Value.int .i64 (2 * M)]]), y.length = 1) := fun y hy => by
                    rcases List.mem_append.1 hy with hy | hy
                    · exact ints_len _ y hy
                    · rw [List.mem_singleton.1 hy]; rfl
                  clear hk0 hkd
                  refine wp_region_valsG (by as_aux_lemma => kernel_rfl) (by as_aux_lemma => kernel_rfl) cat11M (by as_aux_lemma => kernel_rfl) (by as_aux_lemma => kernel_rfl)
                    (Cat w11 w10.heap.size #[.int .i64 M, .slice s.ai c.ins.length s.ki, .slice s.al c.lats.length s.kl, (.slice A9 (c.outs.length + 1) q9), .slice s.ab c.bads.length s.kb, .slice s.ac c.invs.length s.kc, (.slice A8 (c.ands.length + 1) q8), .slice s.an c.names.length s.kn] 27 3 1 3 (ints c.outs) [.int .i64 (2 * M)] 0 3 7 8 10 76 79 83 84) (cat11R w.heap.size wk.heap.size w10.heap.size c.outs.length s.ko s.ao M) (Cat.start HGB.out _) (fun jj f f' w w' hb hf h => cat11_stab jj  hf h) ?_ ?_
                  · intro i oo d a' w' ho hd hun hdf hok hDE K hK hK0
                    match i, ho, hd, hDE, hK, hK0, hun with
                    | 0, ho, hd, hDE, hK, hK0, hun =>
                      have e := (congrArg Oper.op (Option.some.inj ho)).symm
                      obtain rfl := Option.some.inj ho
                      exact wp_val (op_empty_int a' w' _ e) (hK _ _ ((Below.refl _ _).alloc (Nat.le_refl _) _) (fun f h1 h2 => hok.empty (by decide) HGD.out (hd 3 (by as_aux_lemma => kernel_rfl)) (h1 76 rfl) (h2 83 (by decide))) (fun f h1 h2 => trivial))
                    | 1, ho, hd, hDE, hK, hK0, hun =>
                      have e := (congrArg Oper.op (Option.some.inj ho)).symm
                      obtain rfl := Option.some.inj ho
                      exact wp_val (op_field_api_Circuit_3 a' w' _ 2 (hun 2 (by as_aux_lemma => kernel_rfl)) _ e) (hK _ _ (Below.refl _ _) (fun f _ h2 => hok.read 1 (by decide) (h2 76 (by decide)) (h2 79 (by decide)) (h2 83 (by decide)) (h2 84 (by decide))) (fun f h1 _ => h1 _ rfl))
                    | 2, ho, hd, hDE, hK, hK0, hun =>
                      have e := (congrArg Oper.op (Option.some.inj ho)).symm
                      obtain rfl := Option.some.inj ho
                      exact wp_val (op_load_Lint a' w' _ 77 _ (hDE 1 (by as_aux_lemma => kernel_rfl)).2 (LC.out _ hok.k).1 _ e) (hK _ _ (Below.refl _ _) (fun f _ h2 => hok.read 2 (by decide) (h2 76 (by decide)) (h2 79 (by decide)) (h2 83 (by decide)) (h2 84 (by decide))) (fun f h1 _ => h1 _ rfl))
                    | 3, ho, hd, hDE, hK, hK0, hun =>
                      have e := (congrArg Oper.op (Option.some.inj ho)).symm
                      obtain rfl := Option.some.inj ho
                      obtain ⟨g0, p1, p2⟩ := hok.o0 (hDE 0 (by as_aux_lemma => kernel_rfl)).1 (hd 3 (by as_aux_lemma => kernel_rfl))
                      rw [p1] at p2
                      obtain ⟨v', w'', hr, ho, hb, hk⟩ := run_cat w' 22 3 1 8 _ Try.underlying22 infoI rfl (by decide) w11.heap.size _ g0 p2 (ints c.outs) s.ao s.ko (HROW.out w' hok.b) (ints_len _) (ints_one _) HBY.out hok.b.size HMX.out 22
                      rw [ints_length] at hr
                      exact wp_val (op_cat a' w' w'' 22 76 78 _ _ _ p1 (hDE 2 (by as_aux_lemma => kernel_rfl)).2 _ hr e) (hK0 _ _ (fun f h1 h2 => hok.row (by decide) HGD.out (hDE 0 (by as_aux_lemma => kernel_rfl)).1 (hd 8 (by as_aux_lemma => kernel_rfl)) g0 p2 (by decide) rfl hb hk (by rw [h1 79 rfl]; exact ho) (h2 83 (by decide))) (fun f h1 h2 => trivial) (fun j f hj hf hq => cat11_stab j hf hq))
                    | 4, ho, hd, hDE, hK, hK0, hun =>
                      have e := (congrArg Oper.op (Option.some.inj ho)).symm
                      obtain rfl := Option.some.inj ho
                      exact wp_val (op_field_api_Circuit_0 a' w' _ 6 (hun 6 (by as_aux_lemma => kernel_rfl)) _ e) (hK _ _ (Below.refl _ _) (fun f _ h2 => hok.read 4 (by decide) (h2 76 (by decide)) (h2 79 (by decide)) (h2 83 (by decide)) (h2 84 (by decide))) (fun f h1 _ => h1 _ rfl))
                    | 5, ho, hd, hDE, hK, hK0, hun =>
                      have e := (congrArg Oper.op (Option.some.inj ho)).symm
                      obtain rfl := Option.some.inj ho
                      exact wp_val (op_load_int a' w' _ 80 _ (hDE 4 (by as_aux_lemma => kernel_rfl)).2 (LC.out _ hok.k).2 _ e) (hK _ _ (Below.refl _ _) (fun f _ h2 => hok.read 5 (by decide) (h2 76 (by decide)) (h2 79 (by decide)) (h2 83 (by decide)) (h2 84 (by decide))) (fun f h1 _ => h1 _ rfl))
                    | 6, ho, hd, hDE, hK, hK0, hun =>
                      have e := (congrArg Oper.op (Option.some.inj ho)).symm
                      obtain rfl := Option.some.inj ho
                      exact wp_val (op_mul2 a' w' M 81 (hDE 5 (by as_aux_lemma => kernel_rfl)).2 HMB.out _ e) (hK _ _ (Below.refl _ _) (fun f _ h2 => hok.read 6 (by decide) (h2 76 (by decide)) (h2 79 (by decide)) (h2 83 (by decide)) (h2 84 (by decide))) (fun f h1 _ => h1 _ rfl))
                    | 7, ho, hd, hDE, hK, hK0, hun =>
                      have e := (congrArg Oper.op (Option.some.inj ho)).symm
                      obtain rfl := Option.some.inj ho
                      exact wp_val (op_one_int a' w' 82 _ (hDE 6 (by as_aux_lemma => kernel_rfl)).2 _ e) (hK _ _ ((Below.refl _ _).alloc (Nat.le_refl _) _) (fun f h1 h2 => hok.one (by decide) HGD.out (hd 8 (by as_aux_lemma => kernel_rfl)) (h2 76 (by decide)) (h2 79 (by decide)) (h1 83 rfl)) (fun f h1 h2 => trivial))
                    | 8, ho, hd, hDE, hK, hK0, hun =>
                      have e := (congrArg Oper.op (Option.some.inj ho)).symm
                      obtain rfl := Option.some.inj ho
                      have ho3 := hok.o3 (hDE 3 (by as_aux_lemma => kernel_rfl)).1 (hd 8 (by as_aux_lemma => kernel_rfl))
                      obtain ⟨g2, p1, p2, p3⟩ := hok.o2 (hDE 7 (by as_aux_lemma => kernel_rfl)).1 (hd 8 (by as_aux_lemma => kernel_rfl))
                      obtain ⟨v', w'', hr, ho, hb⟩ := run_more w' 22 3 1 8 _ Try.underlying22 infoI rfl (by decide) w11.heap.size g2 _ (ints c.outs) ho3 _ p3 rfl (by simp [Value.oneCell']) HBY1.out HMX1.out hok.b.size 22
                      exact wp_val (op_cat a' w' w'' 22 79 83 _ _ _ rfl p1 _ hr e) (hK0 _ _ (fun f h1 h2 => hok.more (by decide) HGD.out (hDE 3 (by as_aux_lemma => kernel_rfl)).1 (hDE 7 (by as_aux_lemma => kernel_rfl)).1 (hd 10 (by as_aux_lemma => kernel_rfl)) hb (by rw [h1 84 rfl]; exact ho)) (fun f h1 h2 => trivial) (fun j f hj hf hq => cat11_stab j hf hq))
                    | 9, ho, hd, hDE, hK, hK0, hun =>
                      have e := (congrArg Oper.op (Option.some.inj ho)).symm
                      obtain rfl := Option.some.inj ho
                      exact wp_val (op_field_api_Circuit_3 a' w' _ 7 (hun 7 (by as_aux_lemma => kernel_rfl)) _ e) (hK _ _ (Below.refl _ _) (fun f _ h2 => hok.read 9 (by decide) (h2 76 (by decide)) (h2 79 (by decide)) (h2 83 (by decide)) (h2 84 (by decide))) (fun f h1 _ => h1 _ rfl))
                    | 10, ho, hd, hDE, hK, hK0, hun =>
                      have e := (congrArg Oper.op (Option.some.inj ho)).symm
                      obtain rfl := Option.some.inj ho
                      obtain ⟨A', q', hv, -, -, -⟩ := (hok.oa (hDE 8 (by as_aux_lemma => kernel_rfl)).1).row (by decide) HLE.out
                      obtain ⟨Y', u', ⟨q1, q2, q3⟩, q4, q5⟩ := Cw.step_set w' _ 3 (.slice A' _ q') (hok.n0 (hd 10 (by as_aux_lemma => kernel_rfl))) (by simp)
                      have hr := op_store_ints a' w' w10.heap.size 3 u' A' _ q' 85 84 (hDE 9 (by as_aux_lemma => kernel_rfl)).2 hv q2 q3 _ e
                      rw [q1] at hr
                      exact wp_skip' hr (hK0 _ _ (fun f h1 h2 => hok.laid (by decide) HGD.out (hDE 8 (by as_aux_lemma => kernel_rfl)).1 q5 (by show _ = some (Obj.cells (Array.setIfInBounds _ 3 (vals a' 84)) _ _); rw [hv]; exact q4) (h2 84 (by decide))) (fun f h1 h2 => trivial) (fun j f hj hf hq => cat11_stab j hf hq))
                    | i + 11, ho, _, _, _, _, _ => exact absurd ho (by simp)
                  · intro a' w12 hsz hdf hkt hok hR
                    have HF3 := frame_sets [76, 77, 78, 79, 80, 81, 82, 83, 84, 85] (by as_aux_lemma => kernel_rfl) hsz hkt
                    obtain ⟨d, hok, hall⟩ := hok
                    have hn := hok.n1 (hall 10 (by decide))
                    have ho := hok.oa (hall 8 (by decide))
                    obtain ⟨A11, q11, hv, -, hle, hq11⟩ := ho.row (by decide) HLE.out
                    rw [hv] at hn ho
                    have hlen : (ints c.outs ++ [[Value.int .i64 (2 * M)]]).length = (c.outs.length + 1) := by rw [List.length_append, ints_length]; rfl
                    rw [hlen] at hn ho hle
                    have hbb := hok.b
                    have hkk := hok.k
                    clear hok hall hv hlen
                    obtain ⟨tm, df⟩ := a'
                    obtain rfl : df = _ := hdf
                    simp only [fold_cons, fold_nil] at HF3
                    clear hkt hR hsz
                    generalize tm.getD 76 undef = y76 at HF3
                    generalize tm.getD 77 undef = y77 at HF3
                    generalize tm.getD 78 undef = y78 at HF3
                    generalize tm.getD 79 undef = y79 at HF3
                    generalize tm.getD 80 undef = y80 at HF3
                    generalize tm.getD 81 undef = y81 at HF3
                    generalize tm.getD 82 undef = y82 at HF3
                    generalize tm.getD 83 undef = y83 at HF3
                    generalize tm.getD 84 undef = y84 at HF3
                    generalize tm.getD 85 undef = y85 at HF3
                    simp only [List.setIfInBounds_toArray, List.set_cons_succ, List.set_cons_zero] at HF3
                    subst HF3
                    clear LC HROW HGB HBY HMX HBY1 HMX1
                    have R11L := HLE
                    clear HLE
                    have hkd := lt_of_block GDX.out
                    have Q11 : Hid ((c.outs.length + 1) ≤ q11 ∧ q11 ≤ 9223372036854775807) := ⟨hle, hq11⟩
                    have GF : Hid (w12.heap[w10.heap.size]? = some (.cells #[.int .i64 M, .slice s.ai c.ins.length s.ki, .slice s.al c.lats.length s.kl, (.slice A11 (c.outs.length + 1) q11), .slice s.ab c.bads.length s.kb, .slice s.ac c.invs.length s.kc, (.slice A8 (c.ands.length + 1) q8), .slice s.an c.names.length s.kn] 27 (0, 0))) := hn
                    have O11 : Hid (OwnC w12 w11.heap.size 3 1 (.slice A11 (c.outs.length + 1) q11) (ints c.outs ++ [[Value.int .i64 (2 * M)]])) := ho
                    have GD : Hid (w12.heap[wk.heap.size]? = some (.cells #[.int .i64 M, .slice s.ai c.ins.length s.ki, .slice s.al c.lats.length s.kl, (.slice A9 (c.outs.length + 1) q9), .slice s.ab c.bads.length s.kb, .slice s.ac c.invs.length s.kc, (.slice A8 (c.ands.length + 1) q8), .slice s.an c.names.length s.kn] 27 (0, 0))) := (hbb.block _ hkd).trans ((BXf.out.block _ hkd).trans GDX.out)
                    have O9Y : Hid (OwnC w12 w9.heap.size 3 1 (.slice A9 (c.outs.length + 1) q9) (ints c.outs ++ [[Value.int .i64 t.a]])) := O9.out.keep_at fun g hg hgb => (hbb.block g (O9.out.block_lt g hgb).2).trans (BXf.out.block g (O9.out.block_lt g hgb).2)
                    have O8Y : Hid (OwnC w12 w8.heap.size 43 3 (.slice A8 (c.ands.length + 1) q8) (tris c.ands ++ [[Value.int .i64 (2 * M), .int .i64 t.c, .int .i64 t.b]])) := O8X.out.keep_at fun g hg hgb => (hbb.block g (O8X.out.block_lt g hgb).2).trans (BXf.out.block g (O8X.out.block_lt g hgb).2)
                    have B12 : Hid (Below wk.heap.size wk w12) := B10.out.trans ((BXf.out.trans (hbb.mono (Nat.le_refl _))).mono (Nat.le_of_lt hkd))
                    have BW12 : Hid (Below w.heap.size w w12) := BKW.out.trans (B12.out.mono BKW.out.size)
                    clear hn ho hle hq11 hbb hkk O8X O9 GDX GXf BXf HGD HCF hkd
                    obtain ⟨e0, e1, e2, e3, e4, e5, e6, e7⟩ := eight GD.out
                    as_aux_lemma =>
                      have HZ5 := ZL.out
                      by_cases hlo : 64 < c.outs.length + 1
                      · go_wp2
                        go_ret
                        exact ⟨rfl, BW12.out⟩
                      · have HLO := Lib.hid hlo
                        have HXA : Hid (refOk (moreM c t t.a) = true) := twice_may HR.out HMEM.out (by have := HM.out; omega) (by omega) (.inl rfl)
                        have HXF : Hid (refOk (moreM c t (2 * (c.max + 1))) = true) := twice_may HR.out HMEM.out (by have := HM.out; omega) (by omega) (.inr rfl)
                        have HMI : Hid (0 ≤ c.max ∧ c.max ≤ 1000) := ⟨by have := HMB.out; have := HM2.out; have := max_zero HR.out; omega, by have := HM.out; omega⟩
                        have LCX : CLies w12 wk.heap.size c s := HCL.out.below B12.out
                        have hsz : wk.heap.size ≤ w12.heap.size := B12.out.size
                        have LD : Hid (∀ x, Below w12.heap.size w12 x → CLies x x.heap.size (moreM c t t.a) (plM s A9 q9 A8 q8)) := fun x hx => ((more_lies HM2.out LCX hsz (O9Y.out.row' (by decide) R9L.out) (O8Y.out.row' (by decide) R8L.out)).below hx).more hx.size
                        have LF : Hid (∀ x, Below w12.heap.size w12 x → CLies x x.heap.size (moreM c t (2 * (c.max + 1))) (plM s A11 q11 A8 q8)) := fun x hx => ((more_lies HM2.out LCX hsz (by rw [HM2.out]; exact O11.out.row' (by decide) R11L.out) (O8Y.out.row' (by decide) R8L.out)).below hx).more hx.size
                        have FD : Hid (CFits (moreM c t t.a) (plM s A9 q9 A8 q8)) := more_fits HF.out HMI.out (by omega) (by omega) HMEM.out (HF.out.ands _ HMEM.out).1 Q9.out Q8.out
                        have FF : Hid (CFits (moreM c t (2 * (c.max + 1))) (plM s A11 q11 A8 q8)) := more_fits HF.out HMI.out (by omega) (by omega) HMEM.out (by have := HMI.out; constructor <;> omega) Q11.out Q8.out
                        have TH : Hid (hashM (moreM c t (2 * (c.max + 1))) = hashM (moreM c t t.a)) := (twice_hash HR.out HMEM.out).symm
                        have HH := Lib.hid (hash_yes (moreM c t t.a) (plM s A9 q9 A8 q8) w12 (LD.out _ (Below.refl _ _)) FD.out (by rw [chk_same]; exact HXA.out) HNM.out)
                        have HH2 := Lib.hid (fun x hx => hash_yes (moreM c t (2 * (c.max + 1))) (plM s A11 q11 A8 q8) x (LF.out x hx) FF.out (by rw [chk_same]; exact HXF.out) HNM.out)
                        rw [TH.out] at HH2
                        rw [more_box HM2.out] at HH
                        rw [more_box HM2.out] at HH2
                        have hdo : (hashM (moreM c t t.a)).outs.length = c.outs.length + 1 := by
                          show ((c.outs ++ [t.a]).map _).length = _
                          simp
                        generalize hashM (moreM c t t.a) = d at *
                        have HDO : Hid (c.outs.length < d.outs.length) := by unfold Hid; omega
                        as_aux_lemma =>
                          clear HZ5 hdo LCX hsz LD LF FD FF TH HXA HXF
                          have hloi : ((c.outs.length + 1 : Nat) : Int) ≤ 64 := by omega
                          have hlon : c.outs.length + 1 ≤ 64 := by omega
                          clear hlo
                          go_wp2_with fail
                          refine HH.out.mono ?_
                          rintro e w13 ⟨⟨s', rfl, hl1, hf1⟩, hb⟩
                          have B13 : Hid (Below w12.heap.size w12 w13) := hb
                          have L1 := Lib.hid hl1
                          clear HH hb e0 e1 e2 e3 e4 e5 e6 e7 hl1 hf1
                          unfold cirV
                          rw [show cirC d s' = #[.int .i64 d.max, .slice s'.ai d.ins.length s'.ki, .slice s'.al d.lats.length s'.kl, .slice s'.ao d.outs.length s'.ko, .slice s'.ab d.bads.length s'.kb, .slice s'.ac d.invs.length s'.kc, .slice s'.aa d.ands.length s'.ka, .slice s'.an d.names.length s'.kn] from rfl]
                          obtain ⟨W4g, hW4g⟩ : ∃ x, w13.alloc (.cells #[.int .i64 0, .slice none 0 0, .slice none 0 0, .slice none 0 0, .slice none 0 0, .slice none 0 0, .slice none 0 0, .slice none 0 0] 27) = x := ⟨_, rfl⟩
                          have g4g : W4g.heap[w13.heap.size]? = some (.cells #[.int .i64 0, .slice none 0 0, .slice none 0 0, .slice none 0 0, .slice none 0 0, .slice none 0 0, .slice none 0 0, .slice none 0 0] 27 (0, 0)) := by rw [← hW4g]; exact Array.getElem?_push_size
                          have b4g : Below w13.heap.size w13 W4g := by rw [← hW4g]; exact (Below.refl _ _).alloc (Nat.le_refl _) _
                          obtain ⟨g1, g2, g3, g4, g5, g6, g7, Xg, gv0, gv1, gv2, gv3, gv4, gv5, gv6, gv7, ⟨gh1, ga0, gb0⟩, ⟨gh2, ga1, gb1⟩, ⟨gh3, ga2, gb2⟩, ⟨gh4, ga3, gb3⟩, ⟨gh5, ga4, gb4⟩, ⟨gh6, ga5, gb5⟩, ⟨gh7, ga6, gb6⟩, ⟨gh8, ga7, gb7⟩, E8g, FCg⟩ := Cw.store8 g4g rfl (.int .i64 d.max) (.slice s'.ai d.ins.length s'.ki) (.slice s'.al d.lats.length s'.kl) (.slice s'.ao d.outs.length s'.ko) (.slice s'.ab d.bads.length s'.kb) (.slice s'.ac d.invs.length s'.kc) (.slice s'.aa d.ands.length s'.ka) (.slice s'.an d.names.length s'.kn)
                          have BXg : Hid (Below w13.heap.size w13 Xg) := FCg.below b4g (Nat.le_refl _)
                          have GXg : Hid (Xg.heap[w13.heap.size]? = some (.cells #[.int .i64 d.max, .slice s'.ai d.ins.length s'.ki, .slice s'.al d.lats.length s'.kl, .slice s'.ao d.outs.length s'.ko, .slice s'.ab d.bads.length s'.kb, .slice s'.ac d.invs.length s'.kc, .slice s'.aa d.ands.length s'.ka, .slice s'.an d.names.length s'.kn] 27 (0, 0))) := E8g
                          clear g4g b4g E8g FCg
                          have BX13 : Hid (Below w12.heap.size w12 Xg) := B13.out.trans (BXg.out.mono B13.out.size)
                          obtain ⟨e0, e1, e2, e3, e4, e5, e6, e7⟩ := eight ((BX13.out.block _ (lt_of_block GF.out)).trans GF.out)
                          have HH3 := Lib.hid (HH2.out Xg BX13.out)
                          clear HH2
                          go_wp2_with fail
                          clear hW4g gh1 ga0 gb0 gh2 ga1 gb1 gh3 ga2 gb2 gh4 ga3 gb3 gh5 ga4 gb4 gh6 ga5 gb5 gh7 ga6 gb6 gh8 ga7 gb7
                          refine HH3.out.mono ?_
                          rintro e w14 ⟨⟨s2, rfl, hl2, hf2⟩, hb⟩
                          have B14 : Hid (Below Xg.heap.size Xg w14) := hb
                          have L2 := Lib.hid hl2
                          clear HH3 hb e0 e1 e2 e3 e4 e5 e6 e7 hl2 hf2
                          as_aux_lemma =>
                            unfold cirV
                            rw [show cirC d s2 = #[.int .i64 d.max, .slice s2.ai d.ins.length s2.ki, .slice s2.al d.lats.length s2.kl, .slice s2.ao d.outs.length s2.ko, .slice s2.ab d.bads.length s2.kb, .slice s2.ac d.invs.length s2.kc, .slice s2.aa d.ands.length s2.ka, .slice s2.an d.names.length s2.kn] from rfl]
                            obtain ⟨W4h, hW4h⟩ : ∃ x, w14.alloc (.cells #[.int .i64 0, .slice none 0 0, .slice none 0 0, .slice none 0 0, .slice none 0 0, .slice none 0 0, .slice none 0 0, .slice none 0 0] 27) = x := ⟨_, rfl⟩
                            have g4h : W4h.heap[w14.heap.size]? = some (.cells #[.int .i64 0, .slice none 0 0, .slice none 0 0, .slice none 0 0, .slice none 0 0, .slice none 0 0, .slice none 0 0, .slice none 0 0] 27 (0, 0)) := by rw [← hW4h]; exact Array.getElem?_push_size
                            have b4h : Below w14.heap.size w14 W4h := by rw [← hW4h]; exact (Below.refl _ _).alloc (Nat.le_refl _) _
                            obtain ⟨h1, h2, h3, h4, h5, h6, h7, Xh, hv0, hv1, hv2, hv3, hv4, hv5, hv6, hv7, ⟨hh1, ha0, hb0⟩, ⟨hh2, ha1, hb1⟩, ⟨hh3, ha2, hb2⟩, ⟨hh4, ha3, hb3⟩, ⟨hh5, ha4, hb4⟩, ⟨hh6, ha5, hb5⟩, ⟨hh7, ha6, hb6⟩, ⟨hh8, ha7, hb7⟩, E8h, FCh⟩ := Cw.store8 g4h rfl (.int .i64 d.max) (.slice s2.ai d.ins.length s2.ki) (.slice s2.al d.lats.length s2.kl) (.slice s2.ao d.outs.length s2.ko) (.slice s2.ab d.bads.length s2.kb) (.slice s2.ac d.invs.length s2.kc) (.slice s2.aa d.ands.length s2.ka) (.slice s2.an d.names.length s2.kn)
                            have BXh : Hid (Below w14.heap.size w14 Xh) := FCh.below b4h (Nat.le_refl _)
                            have GXh : Hid (Xh.heap[w14.heap.size]? = some (.cells #[.int .i64 d.max, .slice s2.ai d.ins.length s2.ki, .slice s2.al d.lats.length s2.kl, .slice s2.ao d.outs.length s2.ko, .slice s2.ab d.bads.length s2.kb, .slice s2.ac d.invs.length s2.kc, .slice s2.aa d.ands.length s2.ka, .slice s2.an d.names.length s2.kn] 27 (0, 0))) := E8h
                            clear g4h b4h E8h FCh
                            have BXH : Hid (Below Xg.heap.size Xg Xh) := B14.out.trans (BXh.out.mono B14.out.size)
                            have BZ : Hid (Below w12.heap.size w12 Xh) := BX13.out.trans (BXH.out.mono BX13.out.size)
                            have BWZ : Hid (Below w.heap.size w Xh) := BW12.out.trans (BZ.out.mono BW12.out.size)
                            obtain ⟨e0, e1, e2, e3, e4, e5, e6, e7⟩ := eight ((BZ.out.block _ (lt_of_block GD.out)).trans GD.out)
                            obtain ⟨f0, f1, f2, f3, f4, f5, f6, f7⟩ := eight ((BXH.out.block _ (lt_of_block GXg.out)).trans GXg.out)
                            obtain ⟨j0, j1, j2, j3, j4, j5, j6, j7⟩ := eight GXh.out
                            obtain ⟨b1, o1, hA1, -, c0⟩ := LRow.int ((L1.out.below (BXg.out.trans (BXH.out.mono BXg.out.size))).outs) HDO.out
                            obtain ⟨b2, o2, hA2, -, x0⟩ := LRow.int ((L2.out.below BXh.out).outs) HDO.out
                            have KZ := Lib.hid (fun (u : Wd Xh.heap.size Xh) => Calls.in_wd u (size_any d s' u.w) (Nat.le_refl _))
                            have KY := Lib.hid (fun (u : Wd Xh.heap.size Xh) => Calls.in_wd u (size_any d s2 u.w) (Nat.le_refl _))
                            have KN := Lib.hid (fun (u : Wd Xh.heap.size Xh) => Calls.in_wd (v := .int .i64 0) u ((num_any 0 u.w).mono fun e w' ⟨h1, h2⟩ => ⟨h1, h2 ▸ Below.refl _ _⟩) (Nat.le_refl _))
                            rw [show cirV d s' = .agg #[.int .i64 d.max, .slice s'.ai d.ins.length s'.ki, .slice s'.al d.lats.length s'.kl, .slice s'.ao d.outs.length s'.ko, .slice s'.ab d.bads.length s'.kb, .slice s'.ac d.invs.length s'.kc, .slice s'.aa d.ands.length s'.ka, .slice s'.an d.names.length s'.kn] from rfl] at KZ
                            rw [show cirV d s2 = .agg #[.int .i64 d.max, .slice s2.ai d.ins.length s2.ki, .slice s2.al d.lats.length s2.kl, .slice s2.ao d.outs.length s2.ko, .slice s2.ab d.bads.length s2.kb, .slice s2.ac d.invs.length s2.kc, .slice s2.aa d.ands.length s2.ka, .slice s2.an d.names.length s2.kn] from rfl] at KY
                            rw [hA1] at f3 KZ
                            rw [hA2] at j3 KY
                            clear hA1 hA2
                            generalize d.outs[c.outs.length]'HDO.out = y at *
                            have hK1 : c.outs.length < d.outs.length := HDO.out
                            have hK2 : (c.outs.length : Int) < (d.outs.length : Int) := by omega
                            have hK3 : (0 : Int) ≤ (c.outs.length : Int) := by omega
                            go_wp2
                            clear hW4h hh1 ha0 hb0 hh2 ha1 hb1 hh3 ha2 hb2 hh4 ha3 hb3 hh5 ha4 hb4 hh6 ha5 hb5 hh7 ha6 hb6 hh8 ha7 hb7
                            have uc := Wd.cell c0
                            have ux := Wd.cell x0
                            have uf0 := Wd.cell f0
                            have uf1 := Wd.cell f1
                            have uf2 := Wd.cell f2
                            have uf3 := Wd.cell f3
                            have uf4 := Wd.cell f4
                            have uf5 := Wd.cell f5
                            have uf6 := Wd.cell f6
                            have uf7 := Wd.cell f7
                            have uj0 := Wd.cell j0
                            have uj1 := Wd.cell j1
                            have uj2 := Wd.cell j2
                            have uj3 := Wd.cell j3
                            have uj4 := Wd.cell j4
                            have uj5 := Wd.cell j5
                            have uj6 := Wd.cell j6
                            have uj7 := Wd.cell j7
                            refine wp_region_wd (by as_aux_lemma => kernel_rfl) (by as_aux_lemma => kernel_rfl) ?_
                            repeat (first | go_big_quiet_skip | (go_big_quiet_want; go_big_quiet_op; first | go_big_quiet_on | (apply Exists.intro; refine ⟨fun u => ?_, ?_⟩; (first | (go_at_call 16; first | exact KZ.out u | exact KY.out u) | (go_at_call 11; exact KN.out u)); go_big_quiet_on)))
                            refine wpQuiet_nil ?_
                            intro wz9 hw'
                            obtain ⟨⟨_, hb9⟩, hw''⟩ := hw'
                            subst hw''
                            have BZ9 : Hid (Below w.heap.size w wz9) := BWZ.out.trans (hb9.mono BWZ.out.size)
                            clear KZ KY KN hb9 c0 x0 e0 e1 e2 e3 e4 e5 e6 e7 f0 f1 f2 f3 f4 f5 f6 f7 j0 j1 j2 j3 j4 j5 j6 j7
                            go_wp2
                            go_ret
                            exact ⟨rfl, BZ9.out⟩
end Go.Proofs.Ytpaneggajjgdlaa.Str
