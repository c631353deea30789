/- circuit.Kind, and the pages' own: what they tell of any circuit and variable; no condition. The pages' own words of circuits, walked: kinds, and literals that are known; no condition. The pages' own words of circuits, walked: literals that are known; no condition. interlockplain.Ints, interlockref10.Abs, Is, One; condition: lists lie in memory, texts are as long as Go's may be. The page's example of circuits, as the laws call it: it holds. No condition. The pages' own words of circuits, walked: names; no condition. The pages' own look at a circuit, walked: whether it may be; no condition. The law's own best, without (layer 14); condition: lists lie in memory, what is in has a score. What HeapRuns asks of the program's own heap: an abstract one (what it holds, which blocks are its own); how the law's own lists stay beside it. -/
import Derived.Test.YtclbbpmofifigaaPt03
import Derived.Deep.Draws
import Derived.Laws.EntriesVeiled
import Derived.BigQuiet
import Derived.Test.YtclbbpmofifigaaPt00
namespace Go.Proofs.Ytclbbpmofifigaa.Cw
open Go.ChangeShapes Go.WideShapes Go.ChangeAt Go.RowKit Circ

end Go.Proofs.Ytclbbpmofifigaa.Cw
namespace Go.Proofs.Ytclbbpmofifigaa.Cw
open Go.ChangeShapes Go.WideShapes Go.ChangeAt Go.RowKit Circ

end Go.Proofs.Ytclbbpmofifigaa.Cw
namespace Go.Proofs.Ytclbbpmofifigaa.Cw
open Go.ChangeShapes Go.WideShapes Go.ChangeAt Go.RowKit Circ

/-- a world that is as W was below block B -/
structure Wd (B : Nat) (W : World) where
  w : World
  ok : Below B W w
instance (B : Nat) (W : World) : Nonempty (Wd B W) := ⟨⟨W, Below.refl _ _⟩⟩

/-- A region that draws its order, whose operations read what lies below B, and whose callees turn nothing there: one walk, in the order of the text. -/
theorem wp_region_wd {P : Program} {id : Nat} {Q : Exit → Act → World → Prop} {a : Act} {w : World} {l : List Oper} (hm : P.follows .mixedOrders = true) (hB : Region.lexB .any l.toArray = true)
    (h : wpQuiet P l.toArray (fun w' => ∃ u : Wd w.heap.size w, w' = u.w) (fun a' => ∀ w', (∃ u : Wd w.heap.size w, w' = u.w) → Q .normal a' w') l a) : (Code.region id l.toArray true).wp P Q a w :=
  wp_region_quiet (C := fun w' => ∃ u : Wd w.heap.size w, w' = u.w) hm hB ⟨⟨_, (Below.refl _ _).drew⟩, rfl⟩ (by simpa using h)

theorem Calls.in_wd {P : Program} {f : FuncId} {args : Array Value} {B : Nat} {W : World} {v : Value} (u : Wd B W)
    (h : Calls P f args u.w fun e w' => e = .returned v ∧ Below u.w.heap.size u.w w') (hB : B ≤ W.heap.size) : Calls P f args u.w fun e w'' => e = .returned v ∧ ∃ u' : Wd B W, w'' = u'.w :=
  h.mono fun _ w' ⟨he, hb⟩ => ⟨he, ⟨w', u.ok.trans (hb.mono (Nat.le_trans hB u.ok.size))⟩, rfl⟩
theorem Wd.cell {W : World} {p : Addr} {v : Value} (h : W.cell? p = some v) (u : Wd W.heap.size W) : u.w.cell? p = some v := cell_later u.ok h

theorem has_any (l : List Int) (A : Option Addr) (q : Nat) (x : Int) (w : World) (hl : l.length ≤ 9223372036854775807) (hr : LRow w w.heap.size 1 A (ints l)) :
    Calls Try.prog 7 #[.slice A l.length q, .int .i64 x] w fun e w' => e = .returned (.bool (l.any (· == x))) ∧ w = w' := by
  go_enter Try.func7, Try.ntmps7
  go_wp2
  go_loop [5] (fun i => ∃ k : Nat, k ≤ l.length ∧ i = .int .i64 k ∧ (l.take k).any (· == x) = false) (fun i => l.length - (intOf i).toNat)
  case atStart => exact ⟨0, Nat.zero_le _, rfl, rfl⟩
  case round =>
    obtain ⟨k, hk, rfl, hno⟩ := hrel
    have HN := Lib.hid hno; clear hno
    by_cases hlt : k < l.length
    · obtain ⟨b, o, rfl, hb, hc⟩ := hr.int hlt
      have HX := Lib.hid (any_take l (· == x) k hlt)
      have HS := Lib.hid (any_of l (· == x) k hlt)
      clear hr
      generalize l[k] = y at *
      cases hq : y == x
      · go_wp2
        go_round
        case rel => exact ⟨k + 1, by omega, by go_num, by rw [HX.out, HN.out, hq]; rfl⟩
        case measure => simp [intOf]; omega
      · go_wp2
        go_ret
        exact ⟨ret_bool (HS.out (by first | trivial | exact hq)).symm, rfl⟩
    · obtain rfl : k = l.length := by omega
      rw [List.take_of_length_le (Nat.le_refl _)] at HN
      go_wp2
      go_ret
      exact ⟨ret_bool HN.out.symm, rfl⟩

end Go.Proofs.Ytclbbpmofifigaa.Cw
namespace Go.Proofs.Ytclbbpmofifigaa.Cla
open Go.ChangeShapes Go.WideShapes Go.ChangeAt Go.RowKit Go.Maps Circ Cw

/-- a list of numbers in memory below block B -/
structure ILies (w : World) (B : Nat) (A : Option Addr) (l : List Int) : Prop where
  row : LRow w B 1 A (ints l)
  fits : ∀ x ∈ l, I64 x
  len : l.length ≤ 9223372036854775807
section
variable {w w' : World} {B B' : Nat} {A : Option Addr} {l : List Int}
theorem ILies.below (h : ILies w B A l) (hb : Below B w w') : ILies w' B A l := ⟨h.row.below hb, h.fits, h.len⟩
theorem ILies.more (h : ILies w B A l) (hB : B ≤ B') : ILies w B' A l := ⟨h.row.more hB, h.fits, h.len⟩
theorem ILies.nil (w : World) (B : Nat) (A : Option Addr) : ILies w B A [] := ⟨.inl rfl, fun x hx => (List.not_mem_nil hx).elim, by decide⟩
end
end Go.Proofs.Ytclbbpmofifigaa.Cla
namespace Go.Proofs.Ytclbbpmofifigaa.Cw
open Go.ChangeShapes Go.WideShapes Go.ChangeAt Go.RowKit Go.Maps Circ

def c0 : Cir := ⟨1, [], [⟨2, 2, 0⟩], [], [], [], [], []⟩
def s0 (b : Nat) : Places := ⟨none, some ⟨b, 0, none⟩, none, none, none, none, none, 0, 1, 0, 0, 0, 0, 0⟩
end Go.Proofs.Ytclbbpmofifigaa.Cw
namespace Go.Proofs.Ytclbbpmofifigaa.Cw
open Go.ChangeShapes Go.WideShapes Go.ChangeAt Go.RowKit Circ

end Go.Proofs.Ytclbbpmofifigaa.Cw
namespace Go.Proofs.Ytclbbpmofifigaa.Cw
open Go.ChangeShapes Go.WideShapes Go.ChangeAt Go.RowKit Go.Maps Circ

theorem OwnI.cell {w : World} {base : Nat} {v : Value} {xs : List Int} (h : OwnI w base v xs) {k : Nat} (hk : k < xs.length) : ∃ b o q, v = .slice (some ⟨b, o, none⟩) xs.length q ∧ xs.length ≤ q ∧ q ≤ 9223372036854775807 ∧ w.cell? ⟨b, o + k, none⟩ = some (.int .i64 xs[k]) ∧ LRow w w.heap.size 1 (some ⟨b, o, none⟩) (ints xs) := by
  obtain ⟨A, q, hv, hr, hq, hq2⟩ := h.row
  obtain ⟨b, o, rfl, hb, hc⟩ := hr.int hk
  exact ⟨b, o, q, hv, hq, hq2, hc, hr⟩
theorem LRow.take {w : World} {B : Nat} {A : Option Addr} {l : List Int} (h : LRow w B 1 A (ints l)) (i : Nat) : LRow w B 1 A (ints (l.take i)) := by
  rcases h with h | ⟨b, o, e, hb, hc⟩
  · left; simp [ints] at h; subst h; simp [ints]
  · refine .inr ⟨b, o, e, hb, fun j ys hj k u hk => ?_⟩
    refine hc j ys ?_ k u hk
    unfold ints at hj ⊢
    rw [List.map_take, List.getElem?_take] at hj
    split at hj
    · exact hj
    · cases hj

/-- the row of one number that a call lays for an append -/
theorem one_row (w : World) (x : Int) (t : TypeId) : LRow (w.alloc (.cells #[.int .i64 x] t)) (w.heap.size + 1) 1 (some ⟨w.heap.size, 0, none⟩) (ints [x]) :=
  .inr ⟨_, 0, rfl, Nat.lt_succ_self _, fun i ys hi j u hj => by
    match i, hi with
    | 0, hi =>
      obtain rfl : [Value.int .i64 x] = ys := by simpa [ints] using hi
      match j, hj with
      | 0, hj =>
        obtain rfl : Value.int .i64 x = u := by simpa using hj
        rw [new_cell]; rfl⟩
theorem own_below {w w' : World} {base : Nat} {v : Value} {xs : List Int} (h : OwnI w base v xs) (hg : w.grownBy w' v.ownBlock) (hb : base ≤ w.heap.size) : Below base w w' :=
  ⟨hg.os, hg.tape, hg.output, hg.size, fun k hk => hg.block k (by omega) (fun e => by have := h.block_lt k e.symm; omega)⟩
end Go.Proofs.Ytclbbpmofifigaa.Cw
namespace Go.Proofs.Ytclbbpmofifigaa.Hep
open Go.ChangeShapes Go.WideShapes Go.ChangeAt Go.RowKit Go.Maps Circ Cw Cla

def scoreM (sc : List Int) (x : Int) : Int := sc.getD x.toNat 0
/-- is x better than b? -/
def betterM (sc : List Int) (b x : Int) : Bool := decide (b < 0) || (decide (scoreM sc b < scoreM sc x) || (decide (scoreM sc x = scoreM sc b) && decide (x < b)))
/-- the one of the greatest score, of these the least; -1: none -/
def bestM (sc : List Int) (l : List Int) : Int := l.foldl (fun b x => if betterM sc b x = true then x else b) (-1)
theorem best_next (sc l : List Int) (k : Nat) (hk : k < l.length) : bestM sc (l.take (k + 1)) = if betterM sc (bestM sc (l.take k)) l[k] = true then l[k] else bestM sc (l.take k) := by
  unfold bestM
  rw [List.take_succ_eq_append_getElem hk, List.foldl_append]; rfl
theorem best_in (sc : List Int) (l : List Int) : bestM sc l = -1 ∨ bestM sc l ∈ l := by
  have key : ∀ (l : List Int) (b : Int), l.foldl (fun b x => if betterM sc b x = true then x else b) b = b ∨ l.foldl (fun b x => if betterM sc b x = true then x else b) b ∈ l := by
    intro l
    induction l with
    | nil => intro b; exact .inl rfl
    | cons x l ih =>
      intro b
      rw [List.foldl_cons]
      rcases ih (if betterM sc b x = true then x else b) with h | h
      · rw [h]
        split
        · exact .inr List.mem_cons_self
        · exact .inl rfl
      · exact .inr (List.mem_cons_of_mem _ h)
  exact key l (-1)
theorem score_at {sc : List Int} {m : Nat} (h : m < sc.length) : scoreM sc (m : Int) = sc[m] := by
  unfold scoreM
  rw [Int.toNat_natCast, List.getD_eq_getElem?_getD, List.getElem?_eq_getElem h]; rfl
set_option maxHeartbeats 16000000 in
set_option maxRecDepth 100000 in
theorem best_any (sc l : List Int) (A B : Option Addr) (q r : Nat) (w : World) (hl : ILies w w.heap.size A l) (hs : ILies w w.heap.size B sc) (hv : ∀ x ∈ l, 0 ≤ x ∧ x < (sc.length : Int)) :
    Calls Try.prog 9 #[.slice A l.length q, .slice B sc.length r] w fun e w' => e = .returned (.int .i64 (bestM sc l)) ∧ Below w.heap.size w w' := by
  have HL : Hid (∀ x, Below w.heap.size w x → LRow x w.heap.size 1 A (ints l)) := fun x hx => hl.row.below hx
  have HS : Hid (∀ x, Below w.heap.size w x → LRow x w.heap.size 1 B (ints sc)) := fun x hx => hs.row.below hx
  have hll := hl.len
  have hsl := hs.len
  have HV := Lib.hid hv
  have HEND : Hid (bestM sc (l.take l.length) = bestM sc l) := by unfold Hid; rw [List.take_length]
  clear hl hs hv
  go_enter Try.func9, Try.ntmps9
  go_wp2
  go_loopw [6, 5] (fun i b wr => ∃ k : Nat, k ≤ l.length ∧ i = .int .i64 k ∧ b = .int .i64 (bestM sc (l.take k)) ∧ Below w.heap.size w wr) (fun i _ _ => l.length - (intOf i).toNat)
  case atStart => exact ⟨0, Nat.zero_le _, rfl, rfl, Below.refl _ _⟩
  case round =>
    obtain ⟨k, hk, rfl, rfl, hb⟩ := hrel
    have HB := Lib.hid hb
    clear hb
    by_cases hlt : k < l.length
    · obtain ⟨b1, o1, hA1, -, hc1⟩ := LRow.int (HL.out wr HB.out) hlt
      have HN := Lib.hid (best_next sc l k hlt)
      obtain ⟨x0, x1⟩ := HV.out _ (List.getElem_mem hlt)
      have HBI : Hid (bestM sc (l.take k) = -1 ∨ (0 ≤ bestM sc (l.take k) ∧ bestM sc (l.take k) < (sc.length : Int))) := by
        rcases best_in sc (l.take k) with h | h
        · exact .inl h
        · exact .inr (HV.out _ (List.mem_of_mem_take h))
      have k0 : (0 : Int) ≤ (k : Int) := by omega
      have k1 : (k : Int) < (l.length : Int) := by omega
      generalize bestM sc (l.take k) = b at *
      obtain ⟨b', hb'⟩ : ∃ y, bestM sc (l.take (k + 1)) = y := ⟨_, rfl⟩
      rw [hb'] at HN
      have HBQ := Lib.hid hb'
      clear hb'
      generalize l[k] = x at *
      obtain ⟨m, rfl⟩ : ∃ m : Nat, x = (m : Int) := ⟨x.toNat, by omega⟩
      have hm : m < sc.length := by omega
      obtain ⟨b2, o2, hA2, -, hc2⟩ := LRow.int (HS.out wr HB.out) hm
      subst hA1 hA2
      rcases HBI.out with h1 | ⟨h1, h2⟩
      · subst h1
        have HX : Hid (b' = (m : Int)) := by have := HN.out; unfold betterM at this; rw [decide_eq_true (show (-1 : Int) < 0 by decide), Bool.true_or, if_pos rfl] at this; exact this
        have u1 := Wd.cell hc1
        have u2 := Wd.cell hc2
        clear HN HBI hc2
        go_wp2
        refine wp_region_wd (by kernel_rfl) (by kernel_rfl) ?_
        repeat (first | go_big_quiet_skip | (go_big_quiet_want; go_big_quiet_op; go_big_quiet_on))
        refine wpQuiet_nil ?_
        intro w7 hw'
        obtain ⟨⟨_, hb9⟩, hw''⟩ := hw'
        subst hw''
        have B7 : Hid (Below w.heap.size w w7) := HB.out.trans (hb9.mono HB.out.size)
        have hc3 := cell_later hb9 hc1
        clear hb9 u1 u2 hc1
        go_wp2
        go_roundw
        case rel => exact ⟨k + 1, by omega, by go_num, by rw [HBQ.out, HX.out], B7.out⟩
        case measure => simp [intOf]; omega
      · obtain ⟨j, rfl⟩ : ∃ j : Nat, b = (j : Int) := ⟨b.toNat, by omega⟩
        have hj : j < sc.length := by omega
        obtain ⟨b3, o3, hA3, -, hc3⟩ := LRow.int (HS.out wr HB.out) hj
        obtain ⟨rfl, rfl⟩ : b2 = b3 ∧ o2 = o3 := by simp only [Option.some.injEq, Addr.mk.injEq] at hA3; exact ⟨hA3.1, hA3.2.1⟩
        clear hA3
        have HN2 : Hid (b' = if (decide (sc[j] < sc[m]) || (decide (sc[m] = sc[j]) && decide ((m : Int) < (j : Int)))) = true then (m : Int) else (j : Int)) := by
          have := HN.out
          unfold betterM at this
          rw [decide_eq_false (show ¬ (j : Int) < 0 by omega), Bool.false_or, score_at hj, score_at hm] at this
          exact this
        have hbn : decide ((j : Int) < 0) = false := decide_eq_false (by omega)
        have hbn2 : ¬ (j : Int) < 0 := by omega
        have j0 : (0 : Int) ≤ (j : Int) := by omega
        have m0 : (0 : Int) ≤ (m : Int) := by omega
        have u1 := Wd.cell hc1
        have u2 := Wd.cell hc2
        have u3 := Wd.cell hc3
        clear HN HBI hc2 hc3
        generalize sc[j] = sj at *
        generalize sc[m] = sm at *
        by_cases hgt : sj < sm
        · have hd : decide (sj < sm) = true := decide_eq_true hgt
          have HX : Hid (b' = (m : Int)) := by have := HN2.out; rw [hd, Bool.true_or, if_pos rfl] at this; exact this
          clear HN2
          go_wp2
          refine wp_region_wd (by kernel_rfl) (by kernel_rfl) ?_
          repeat (first | go_big_quiet_skip | (go_big_quiet_want; go_big_quiet_op; go_big_quiet_on))
          refine wpQuiet_nil ?_
          intro w7 hw'
          obtain ⟨⟨_, hb9⟩, hw''⟩ := hw'
          subst hw''
          have B7 : Hid (Below w.heap.size w w7) := HB.out.trans (hb9.mono HB.out.size)
          have hc4 := cell_later hb9 hc1
          clear hb9 u1 u2 u3 hc1
          go_wp2
          go_roundw
          case rel => exact ⟨k + 1, by omega, by go_num, by rw [HBQ.out, HX.out], B7.out⟩
          case measure => simp [intOf]; omega
        · have hd : decide (sj < sm) = false := decide_eq_false hgt
          by_cases heq : sm = sj
          · have hb1 : (sm == sj) = true := beq_iff_eq.2 heq
            by_cases hmj : (m : Int) < (j : Int)
            · have hd2 : decide ((m : Int) < (j : Int)) = true := decide_eq_true hmj
              have HX : Hid (b' = (m : Int)) := by have := HN2.out; rw [hd, decide_eq_true heq, hd2, Bool.false_or, Bool.true_and, if_pos rfl] at this; exact this
              clear HN2
              clear heq
              go_wp2
              refine wp_region_wd (by kernel_rfl) (by kernel_rfl) ?_
              repeat (first | go_big_quiet_skip | (go_big_quiet_want; go_big_quiet_op; go_big_quiet_on))
              refine wpQuiet_nil ?_
              intro w7 hw'
              obtain ⟨⟨_, hb9⟩, hw''⟩ := hw'
              subst hw''
              have B7 : Hid (Below w.heap.size w w7) := HB.out.trans (hb9.mono HB.out.size)
              have hc4 := cell_later hb9 hc1
              clear hb9 u1 u2 u3 hc1
              go_wp2
              go_roundw
              case rel => exact ⟨k + 1, by omega, by go_num, by rw [HBQ.out, HX.out], B7.out⟩
              case measure => simp [intOf]; omega
            · have hd2 : decide ((m : Int) < (j : Int)) = false := decide_eq_false hmj
              have HX : Hid (b' = (j : Int)) := by have := HN2.out; rw [hd, hd2, Bool.false_or, Bool.and_false, if_neg (by decide)] at this; exact this
              clear HN2
              clear heq
              go_wp2
              refine wp_region_wd (by kernel_rfl) (by kernel_rfl) ?_
              repeat (first | go_big_quiet_skip | (go_big_quiet_want; go_big_quiet_op; go_big_quiet_on))
              refine wpQuiet_nil ?_
              intro w7 hw'
              obtain ⟨⟨_, hb9⟩, hw''⟩ := hw'
              subst hw''
              have B7 : Hid (Below w.heap.size w w7) := HB.out.trans (hb9.mono HB.out.size)
              clear hb9 u1 u2 u3 hc1
              go_wp2
              go_roundw
              case rel => exact ⟨k + 1, by omega, by go_num, by rw [HBQ.out, HX.out], B7.out⟩
              case measure => simp [intOf]; omega
          · have hb1 : (sm == sj) = false := beq_eq_false_iff_ne.2 heq
            have HX : Hid (b' = (j : Int)) := by have := HN2.out; rw [hd, decide_eq_false heq, Bool.false_or, Bool.false_and, if_neg (by decide)] at this; exact this
            clear HN2
            go_wp2
            refine wp_region_wd (by kernel_rfl) (by kernel_rfl) ?_
            repeat (first | go_big_quiet_skip | (go_big_quiet_want; go_big_quiet_op; go_big_quiet_on))
            refine wpQuiet_nil ?_
            intro w7 hw'
            obtain ⟨⟨_, hb9⟩, hw''⟩ := hw'
            subst hw''
            have B7 : Hid (Below w.heap.size w w7) := HB.out.trans (hb9.mono HB.out.size)
            clear hb9 u1 u2 u3 hc1
            go_wp2
            go_roundw
            case rel => exact ⟨k + 1, by omega, by go_num, by rw [HBQ.out, HX.out], B7.out⟩
            case measure => simp [intOf]; omega
    · obtain rfl : k = l.length := by omega
      rw [HEND.out]
      go_wp2
      go_ret
      exact ⟨rfl, HB.out⟩
set_option maxHeartbeats 8000000 in
set_option maxRecDepth 100000 in
theorem without_any (l : List Int) (n : Int) (A : Option Addr) (q : Nat) (w : World) (hl : ILies w w.heap.size A l) (hby : l.length * 8 ≤ 140737488355328) :
    Calls Try.prog 11 #[.slice A l.length q, .int .i64 n] w fun e w' => (∃ v, e = .returned v ∧ OwnI w' w.heap.size v (l.filter fun x => decide (x ≠ n))) ∧ Below w.heap.size w w' := by
  have HR : Hid (∀ x, Below w.heap.size w x → LRow x w.heap.size 1 A (ints l)) := fun x hx => hl.row.below hx
  have hll := hl.len
  have HBY := Lib.hid hby
  have HEND : Hid (l.take l.length = l) := List.take_length
  clear hl hby
  go_enter Try.func11, Try.ntmps11
  go_wp2
  go_loopw [6, 5] (fun i t wr => ∃ (k : Nat) (v1 : Value), k ≤ l.length ∧ i = .int .i64 k ∧ t = v1 ∧ OwnI wr w.heap.size v1 ((l.take k).filter fun x => decide (x ≠ n)) ∧ Below w.heap.size w wr) (fun i _ _ => l.length - (intOf i).toNat)
  case atStart => exact ⟨0, _, Nat.zero_le _, rfl, rfl, by simpa using OwnI.nil _ _, Below.refl _ _⟩
  case round =>
    obtain ⟨k, v1, hk, rfl, hzv, how, hb⟩ := hrel
    obtain rfl := hzv.symm
    clear hzv
    have HOW := Lib.hid how
    have HB := Lib.hid hb
    clear how hb
    by_cases hlt : k < l.length
    · obtain ⟨b, o, rfl, -, hc⟩ := LRow.int (HR.out _ HB.out) hlt
      have HT : Hid (l.take (k + 1) = l.take k ++ [l[k]]) := List.take_succ_eq_append_getElem hlt
      have hkz : (k : Int) < (l.length : Int) := by omega
      have k0 : (0 : Int) ≤ (k : Int) := by omega
      generalize l[k] = x at *
      by_cases hx : x = n
      · have hd : decide (x ≠ n) = false := by rw [decide_eq_false_iff_not]; exact fun h => h hx
        have hb2 : (x != n) = false := by rw [bne_eq_false_iff_eq]; exact hx
        have HN : Hid ((l.take (k + 1)).filter (fun x => decide (x ≠ n)) = (l.take k).filter fun x => decide (x ≠ n)) := by
          unfold Hid
          rw [HT.out, List.filter_append, List.filter_cons, hd]; simp
        clear hd hx HT
        go_wp2
        go_roundw
        case rel => exact ⟨k + 1, _, by omega, by go_num, rfl, by rw [HN.out]; exact HOW.out, HB.out⟩
        case measure => simp [intOf]; omega
      · have hd : decide (x ≠ n) = true := by rw [decide_eq_true_eq]; exact hx
        have hb2 : (x != n) = true := by rw [bne_iff_ne]; exact hx
        have HN : Hid ((l.take (k + 1)).filter (fun x => decide (x ≠ n)) = ((l.take k).filter fun x => decide (x ≠ n)) ++ [x]) := by
          unfold Hid
          rw [HT.out, List.filter_append, List.filter_cons, hd]; simp
        have HLn : Hid ((((l.take k).filter fun x => decide (x ≠ n)).length + [x].length) * 8 ≤ 140737488355328) := by
          unfold Hid
          have h1 := List.length_filter_le (fun x => decide (x ≠ n)) (l.take k)
          have h2 := HBY.out
          rw [List.length_take] at h1
          rw [List.length_singleton]
          omega
        have hba : Below wr.heap.size wr (wr.alloc (.cells #[.int .i64 x] 3)) := (Below.refl _ _).alloc (Nat.le_refl _) _
        have HBB := Lib.hid hba
        have HONE := Lib.hid (one_row wr x 3)
        clear hba hd hx HT
        generalize hys : ((l.take k).filter fun x => decide (x ≠ n)) = ys at HOW HN HLn
        clear hys
        go_wp2_with (at_builtin; refine wpList_app _ rfl (.tmp 19) (.tmp 24) rfl w.heap.size _ v1 ys [x] rfl (HOW.out.keep HBB.out) _ 1 1 rfl rfl HONE.out HLn.out (Nat.le_trans HB.out.size HBB.out.size) ?_)
        intro v2 w3 hown2 hg2 hloc2
        rw [← HN.out] at hown2
        have HO2 := Lib.hid hown2
        have HB2 : Hid (Below w.heap.size w w3) := (HB.out.trans (HBB.out.mono HB.out.size)).trans (own_below (HOW.out.keep HBB.out) hg2 (Nat.le_trans HB.out.size HBB.out.size))
        clear hown2 hg2 hloc2 hc hb2
        go_wp2
        go_roundw
        case rel => exact ⟨k + 1, v2, by omega, by go_num, rfl, HO2.out, HB2.out⟩
        case measure => simp [intOf]; omega
    · obtain rfl : k = l.length := by omega
      rw [HEND.out] at HOW
      go_wp2
      go_ret
      exact ⟨⟨_, rfl, HOW.out⟩, HB.out⟩
end Go.Proofs.Ytclbbpmofifigaa.Hep
namespace Go.Proofs.Ytclbbpmofifigaa.Hep
open Go.ChangeShapes Go.WideShapes Go.ChangeAt Go.RowKit Go.Maps Circ Cw Cla

theorem own_keep_at {w w' : World} {base : Nat} {v : Value} {xs : List Int} (h : OwnI w base v xs) (hb : ∀ g, v.ownBlock = some g → w'.heap[g]? = w.heap[g]?) : OwnI w' base v xs := by
  obtain ⟨h0, h⟩ := h
  refine ⟨h0, ?_⟩
  rcases h with h | ⟨g, cap, cur, hv, hg, hh, r⟩
  · exact .inl h
  · exact .inr ⟨g, cap, cur, hv, hg, (hb g (by rw [hv]; rfl)).trans hh, r⟩
/-- a heap: in block b; what scores there are, what is in; which blocks are its own -/
structure HeapI where
  At : World → Nat → List Int → List Int → Prop
  own : World → Nat → Nat → Prop
/-- a call of it turns its own blocks only -/
structure Eff (I : HeapI) (w : World) (b : Nat) (w' : World) : Prop where
  os : w'.os = w.os
  tape : w'.tape = w.tape
  output : w'.output = w.output
  size : w.heap.size ≤ w'.heap.size
  other : ∀ k, k < w.heap.size → ¬ I.own w b k → w'.heap[k]? = w.heap[k]?
  own : ∀ k, I.own w' b k → I.own w b k ∨ w.heap.size ≤ k
def hasM (l : List Int) (x : Int) : Bool := l.any (· == x)
def pushOk (sc ins : List Int) (x : Int) : Bool := (decide (0 ≤ x) && decide (x < (sc.length : Int))) && !hasM ins x
def pushL (sc ins : List Int) (x : Int) : List Int := if pushOk sc ins x = true then ins ++ [x] else ins
def mayRaise (sc : List Int) (x y : Int) : Bool := (decide (0 ≤ x) && decide (x < (sc.length : Int))) && (decide (0 ≤ y) && (decide (y ≤ 1099511627776) && decide (scoreM sc x ≤ 1125899906842624 - y)))
def raiseL (sc : List Int) (x y : Int) : List Int := if mayRaise sc x y = true then sc.set x.toNat (scoreM sc x + y) else sc
def scoreV (sc : List Int) (x : Int) : Int := if (decide (0 ≤ x) && decide (x < (sc.length : Int))) = true then scoreM sc x else 0
/-- all that the law asks of the program's own heap -/
structure Prog14 (I : HeapI) : Prop where
  keep : ∀ (w w' : World) (b : Nat) (sc ins : List Int), I.At w b sc ins → w.heap.size ≤ w'.heap.size → (∀ k, I.own w b k → w'.heap[k]? = w.heap[k]?) → I.At w' b sc ins ∧ ∀ k, I.own w' b k → I.own w b k
  lt : ∀ (w : World) (b : Nat) (sc ins : List Int) (k : Nat), I.At w b sc ins → I.own w b k → k < w.heap.size
  new : ∀ (n : Int) (w : World), -9223372036854775808 ≤ n → n ≤ 8 →
    Calls Try.prog 6 #[.int .i64 n] w fun e w' => (∃ b, e = .returned (.pointer (some ⟨b, 0, none⟩)) ∧ I.At w' b (List.replicate n.toNat 0) [] ∧ ∀ k, I.own w' b k → w.heap.size ≤ k) ∧ Below w.heap.size w w'
  push : ∀ (w : World) (b : Nat) (sc ins : List Int) (x : Int), I.At w b sc ins → I64 x →
    Calls Try.prog 8 #[.pointer (some ⟨b, 0, none⟩), .int .i64 x] w fun e w' => e = .returned (.bool (pushOk sc ins x)) ∧ I.At w' b sc (pushL sc ins x) ∧ Eff I w b w'
  pop : ∀ (w : World) (b : Nat) (sc ins : List Int), I.At w b sc ins →
    Calls Try.prog 10 #[.pointer (some ⟨b, 0, none⟩)] w fun e w' => e = .returned (.tuple #[.int .i64 (if bestM sc ins < 0 then 0 else bestM sc ins), .bool (decide (0 ≤ bestM sc ins))]) ∧ I.At w' b sc (ins.filter fun x => decide (x ≠ bestM sc ins)) ∧ Eff I w b w'
  raise : ∀ (w : World) (b : Nat) (sc ins : List Int) (x y : Int), I.At w b sc ins → I64 x → I64 y →
    Calls Try.prog 12 #[.pointer (some ⟨b, 0, none⟩), .int .i64 x, .int .i64 y] w fun e w' => e = .returned (.tuple #[]) ∧ I.At w' b (raiseL sc x y) ins ∧ Eff I w b w'
  grow : ∀ (w : World) (b : Nat) (sc ins : List Int) (n : Nat), I.At w b sc ins → n ≤ 4 → sc.length ≤ 1000 →
    Calls Try.prog 13 #[.pointer (some ⟨b, 0, none⟩), .int .i64 (n : Int)] w fun e w' => e = .returned (.tuple #[]) ∧ I.At w' b (sc ++ List.replicate n 0) ins ∧ Eff I w b w'
  len : ∀ (w : World) (b : Nat) (sc ins : List Int), I.At w b sc ins →
    Calls Try.prog 14 #[.pointer (some ⟨b, 0, none⟩)] w fun e w' => e = .returned (.int .i64 (ins.length : Int)) ∧ Below w.heap.size w w'
  has : ∀ (w : World) (b : Nat) (sc ins : List Int) (x : Int), I.At w b sc ins → I64 x →
    Calls Try.prog 15 #[.pointer (some ⟨b, 0, none⟩), .int .i64 x] w fun e w' => e = .returned (.bool (hasM ins x)) ∧ Below w.heap.size w w'
  score : ∀ (w : World) (b : Nat) (sc ins : List Int) (x : Int), I.At w b sc ins → I64 x →
    Calls Try.prog 16 #[.pointer (some ⟨b, 0, none⟩), .int .i64 x] w fun e w' => e = .returned (.int .i64 (scoreV sc x)) ∧ Below w.heap.size w w'
/-- the law's own lists beside the heap, which holds hs and hi -/
structure Inv (I : HeapI) (w0 : World) (b : Nat) (hs hi sc ins : List Int) (vs vi : Value) (w : World) : Prop where
  at_ : I.At w b hs hi
  os : OwnI w w0.heap.size vs sc
  oi : OwnI w w0.heap.size vi ins
  ss : ∀ g, vs.ownBlock = some g → ¬ I.own w b g
  si : ∀ g, vi.ownBlock = some g → ¬ I.own w b g
  ne : ∀ g, vs.ownBlock = some g → vi.ownBlock ≠ some g
  bl : Below w0.heap.size w0 w
  ob : ∀ k, I.own w b k → w0.heap.size ≤ k
section
variable {I : HeapI} {w0 w w' : World} {b : Nat} {hs hi sc ins hs' hi' sc' ins' : List Int} {vs vi v : Value}
theorem own_base {base base' : Nat} {xs : List Int} (h : OwnI w base v xs) (hb : base' ≤ base) : OwnI w base' v xs := by
  obtain ⟨h0, h⟩ := h
  refine ⟨h0, ?_⟩
  rcases h with h | ⟨g, cap, cur, hv, hg, hh, r⟩
  · exact .inl h
  · exact .inr ⟨g, cap, cur, hv, Nat.le_trans hb hg, hh, r⟩
theorem Inv.later (P : Prog14 I) (h : Inv I w0 b hs hi sc ins vs vi w) (hb : Below w.heap.size w w') : Inv I w0 b hs hi sc ins vs vi w' := by
  obtain ⟨h1, h2⟩ := P.keep w w' b hs hi h.at_ hb.size (fun k hk => hb.block k (P.lt w b hs hi k h.at_ hk))
  exact ⟨h1, h.os.keep hb, h.oi.keep hb, fun g hg hk => h.ss g hg (h2 g hk), fun g hg hk => h.si g hg (h2 g hk), h.ne, h.bl.trans (hb.mono h.bl.size), fun k hk => h.ob k (h2 k hk)⟩
/-- behind a call that turns the heap -/
theorem Inv.eff (h : Inv I w0 b hs hi sc ins vs vi w) (ha : I.At w' b hs' hi') (he : Eff I w b w') : Inv I w0 b hs' hi' sc ins vs vi w' := by
  have l1 := fun g (hg : vs.ownBlock = some g) => (h.os.block_lt g hg).2
  have l2 := fun g (hg : vi.ownBlock = some g) => (h.oi.block_lt g hg).2
  refine ⟨ha, own_keep_at h.os fun g hg => he.other g (l1 g hg) (h.ss g hg), own_keep_at h.oi fun g hg => he.other g (l2 g hg) (h.si g hg), fun g hg hk => ?_, fun g hg hk => ?_, h.ne, ?_, fun k hk => ?_⟩
  · rcases he.own g hk with h1 | h1
    · exact h.ss g hg h1
    · have := l1 g hg; omega
  · rcases he.own g hk with h1 | h1
    · exact h.si g hg h1
    · have := l2 g hg; omega
  · exact ⟨he.os.trans h.bl.os, he.tape.trans h.bl.tape, he.output.trans h.bl.output, Nat.le_trans h.bl.size he.size, fun k hk => (he.other k (Nat.lt_of_lt_of_le hk h.bl.size) (fun ho => by have := h.ob k ho; omega)).trans (h.bl.block k hk)⟩
  · rcases he.own k hk with h1 | h1
    · exact h.ob k h1
    · exact Nat.le_trans h.bl.size h1
/-- the list of what is in, lengthened -/
theorem Inv.app_in (P : Prog14 I) (h : Inv I w0 b hs hi sc ins vs vi w) (ho : OwnI w' w0.heap.size v ins') (hg : w.grownBy w' vi.ownBlock) (hl : v.ownBlock = vi.ownBlock ∨ v.ownBlock = some w.heap.size) : Inv I w0 b hs hi sc ins' vs v w' := by
  obtain ⟨h1, h2⟩ := P.keep w w' b hs hi h.at_ hg.size (fun k hk => hg.block k (P.lt w b hs hi k h.at_ hk) (fun e => h.si k e.symm hk))
  refine ⟨h1, own_keep_at h.os fun g hg' => hg.block g (h.os.block_lt g hg').2 (fun e => h.ne g hg' e.symm), ho, fun g hg' hk => h.ss g hg' (h2 g hk), fun g hg' hk => ?_, fun g hg' e => ?_, h.bl.trans (own_below h.oi hg h.bl.size), fun k hk => h.ob k (h2 k hk)⟩
  · rcases hl with e | e
    · exact h.si g (e ▸ hg') (h2 g hk)
    · rw [e] at hg'
      injection hg' with hg'
      have := P.lt w b hs hi g h.at_ (h2 g hk)
      omega
  · rcases hl with e2 | e2
    · exact h.ne g hg' (e2 ▸ e)
    · rw [e2] at e
      injection e with e
      have := (h.os.block_lt g hg').2
      omega
/-- the list of scores, lengthened or stored into -/
theorem Inv.app_sc (P : Prog14 I) (h : Inv I w0 b hs hi sc ins vs vi w) (ho : OwnI w' w0.heap.size v sc') (hg : w.grownBy w' vs.ownBlock) (hl : v.ownBlock = vs.ownBlock ∨ v.ownBlock = some w.heap.size) : Inv I w0 b hs hi sc' ins v vi w' := by
  obtain ⟨h1, h2⟩ := P.keep w w' b hs hi h.at_ hg.size (fun k hk => hg.block k (P.lt w b hs hi k h.at_ hk) (fun e => h.ss k e.symm hk))
  refine ⟨h1, ho, own_keep_at h.oi fun g hg' => hg.block g (h.oi.block_lt g hg').2 (fun e => h.ne g e.symm hg'), fun g hg' hk => ?_, fun g hg' hk => h.si g hg' (h2 g hk), fun g hg' e => ?_, h.bl.trans (own_below h.os hg h.bl.size), fun k hk => h.ob k (h2 k hk)⟩
  · rcases hl with e | e
    · exact h.ss g (e ▸ hg') (h2 g hk)
    · rw [e] at hg'
      injection hg' with hg'
      have := P.lt w b hs hi g h.at_ (h2 g hk)
      omega
  · rcases hl with e2 | e2
    · exact h.ne g (e2 ▸ hg') e
    · rw [e2] at hg'
      injection hg' with hg'
      have := (h.oi.block_lt g e).2
      omega
/-- the list of what is in, made anew -/
theorem Inv.new_in (P : Prog14 I) (h : Inv I w0 b hs hi sc ins vs vi w) (ho : OwnI w' w.heap.size v ins') (hb : Below w.heap.size w w') : Inv I w0 b hs hi sc ins' vs v w' := by
  have h' := h.later P hb
  refine ⟨h'.at_, h'.os, own_base ho h.bl.size, h'.ss, fun g hg hk => ?_, fun g hg e => ?_, h'.bl, h'.ob⟩
  · have h1 := (ho.block_lt g hg).1
    obtain ⟨-, h2⟩ := P.keep w w' b hs hi h.at_ hb.size (fun k hk => hb.block k (P.lt w b hs hi k h.at_ hk))
    have := P.lt w b hs hi g h.at_ (h2 g hk)
    omega
  · have h1 := (ho.block_lt g e).1
    have := (h.os.block_lt g hg).2
    omega
end
end Go.Proofs.Ytclbbpmofifigaa.Hep
