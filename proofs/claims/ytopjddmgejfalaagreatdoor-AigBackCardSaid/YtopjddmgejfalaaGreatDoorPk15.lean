/- The walks of aig's source of octets: what is asked of it, octets, numbers in groups, lines of words, numbers of words; no condition. -/
import Derived.Test.YtopjddmgejfalaaGreatDoorPk08
import Derived.Test.YtopjddmgejfalaaGreatDoorPk13
import Derived.Test.YtopjddmgejfalaaGreatDoorPk14
import Derived.Test.YtopjddmgejfalaaGreatDoorPk09
import Derived.Shelf.Bytes.SlCut
import Derived.Laws.BytesArg
namespace Go.Proofs.YtopjddmgejfalaaGreatDoor.Aig
open Go.ChangeShapes Go.WideShapes Go.ChangeAt Go.RowKit Dig Circ Cw Aag

def fault5 : List PanicEntry := [{ v := .iface 61 (.agg #[.int .i64 33]), recovered := false }]
/-- what is left to read lies where the reader in block R says -/
structure Lies (S R : Nat) (l : List UInt8) (A : Option Addr) (q : Nat) (w : World) : Prop where
  blk : w.heap[R]? = some (.cells #[.slice A l.length q] 65 (0, 0))
  le : l.length ≤ q
  mx : q ≤ 9223372036854775807
  nil : A = none → q = 0
  bd : S ≤ w.heap.size
  at_ : l ≠ [] → ∃ g o, A = some ⟨g, o, none⟩ ∧ g ≠ R ∧ g < S ∧ ∀ (i : Nat) b, l[i]? = some b → w.cell? ⟨g, o + i, none⟩ = some (.int .u8 b.toNat)
structure Src (S R : Nat) (l : List UInt8) (w : World) : Prop where
  lie : ∃ A q, Lies S R l A q w
  len : l.length ≤ 65536
  mx : MaxCell w
  gr : 2 < R
  ins : R < S
theorem Src.lt {S R : Nat} {l : List UInt8} {w : World} (h : Src S R l w) : R < w.heap.size := by
  obtain ⟨A, q, h, _⟩ := h.lie
  exact lt_of_block h
theorem Lies.later {S R : Nat} {l : List UInt8} {A : Option Addr} {q : Nat} {w w' : World} (h : Lies S R l A q w) (hR : R < S) (hb : Below S w w') : Lies S R l A q w' :=
  ⟨(hb.block R hR).trans h.blk, h.le, h.mx, h.nil, Nat.le_trans h.bd hb.size, fun hl => by
    obtain ⟨g, o, e, hg, hlt, hc⟩ := h.at_ hl
    exact ⟨g, o, e, hg, hlt, fun i b hi => (hb.cell hlt).trans (hc i b hi)⟩⟩
theorem Lies.below {S R : Nat} {l : List UInt8} {A : Option Addr} {q : Nat} {w w' : World} (h : Lies S R l A q w) (hR : R < S) (hb : Below w.heap.size w w') : Lies S R l A q w' := h.later hR (hb.mono h.bd)
theorem Src.bd {S R : Nat} {l : List UInt8} {w : World} (h : Src S R l w) : S ≤ w.heap.size := by
  obtain ⟨A, q, h⟩ := h.lie; exact h.bd
theorem Src.later {S R : Nat} {l : List UInt8} {w w' : World} (h : Src S R l w) (hb : Below S w w') : Src S R l w' :=
  ⟨by obtain ⟨A, q, hl⟩ := h.lie; exact ⟨A, q, hl.later h.ins hb⟩, h.len, h.mx.below (Nat.lt_trans h.gr h.ins) hb, h.gr, h.ins⟩
theorem Src.below {S R : Nat} {l : List UInt8} {w w' : World} (h : Src S R l w) (hb : Below w.heap.size w w') : Src S R l w' := h.later (hb.mono h.bd)
theorem Src.max {S R : Nat} {l : List UInt8} {w w' : World} (h : Src S R l w) (hb : Ext R w w') : MaxCell w' := by
  obtain ⟨m, hm⟩ := h.mx
  exact ⟨m, by rw [← hm]; exact World.cell?_of_block (w := w) (hb.block _ h.mx.lt (Nat.ne_of_lt h.gr))⟩
/-- what is left behind k octets -/
theorem Lies.from {S R : Nat} {l : List UInt8} {A : Option Addr} {q : Nat} {w w' : World} (h : Lies S R l A q w) (hb : Ext R w w') (k : Nat) (hk : k ≤ l.length) (hc : w'.heap[R]? = some (.cells #[Lib.fromV A l.length q k] 65 (0, 0))) : ∃ A', Lies S R (l.drop k) A' (q - k) w' := by
  unfold Lib.fromV at hc
  have hle := h.le
  have hmx := h.mx
  refine ⟨if q = k then A else A.map (fun x => x.add k), ⟨by rw [List.length_drop]; exact hc, by rw [List.length_drop]; omega, by omega, fun he => ?_, Nat.le_trans h.bd hb.size, fun hl => ?_⟩⟩
  · by_cases hq : q = k
    · omega
    · rw [if_neg hq] at he
      have := h.nil (by
        cases A with
        | none => rfl
        | some a => cases he)
      omega
  · have hlt : k < l.length := by
      rcases Nat.lt_or_ge k l.length with h1 | h1
      · exact h1
      · exact absurd (List.drop_of_length_le h1) hl
    obtain ⟨g, o, e, hg, hgl, hcell⟩ := h.at_ (fun e => by rw [e] at hlt; simp at hlt)
    refine ⟨g, o + k, ?_, hg, hgl, fun i b hi => ?_⟩
    · rw [if_neg (by omega), e]
      simp only [Option.map_some]
      rw [Go.WideShapes.add_plain]
    · rw [List.getElem?_drop] at hi
      rw [Nat.add_assoc]
      exact (World.cell?_of_block (w := w) (hb.block g (Nat.lt_of_lt_of_le hgl h.bd) hg)).trans (hcell (k + i) b hi)
theorem Src.drop {S R : Nat} {l : List UInt8} {A : Option Addr} {q : Nat} {w w' : World} (hs : Src S R l w) (h : Lies S R l A q w) (hb : Ext R w w') (k : Nat) (hk : k ≤ l.length) (hc : w'.heap[R]? = some (.cells #[Lib.fromV A l.length q k] 65 (0, 0))) : Src S R (l.drop k) w' := by
  obtain ⟨A', h'⟩ := h.from hb k hk hc
  exact ⟨⟨A', _, h'⟩, by rw [List.length_drop]; have := hs.len; omega, hs.max hb, hs.gr, hs.ins⟩

theorem need_ok (R : Nat) (w : World) : Calls Tryz.prog 21 #[.pointer (some ⟨R, 0, none⟩), .bool true] w fun e w' => e = .returned (.tuple #[]) ∧ w = w' := by
  go_enter Tryz.func21, Tryz.ntmps21
  go_wp2
  go_end0
  exact ⟨rfl, rfl⟩
theorem need_fault (R : Nat) (w : World) : Calls Tryz.prog 21 #[.pointer (some ⟨R, 0, none⟩), .bool false] w fun e w' => e = .panicked fault5 ∧ w = w' := by
  go_enter Tryz.func21, Tryz.ntmps21
  go_wp2
  exact ⟨rfl, rfl, rfl⟩
theorem need_any (R : Nat) (b : Bool) (w : World) : Calls Tryz.prog 21 #[.pointer (some ⟨R, 0, none⟩), .bool b] w fun e w' => ((b = true ∧ e = .returned (.tuple #[])) ∨ (b = false ∧ e = .panicked fault5)) ∧ w = w' := by
  cases b
  · exact (need_fault R w).mono fun e w' ⟨he, hw⟩ => ⟨.inr ⟨rfl, he⟩, hw⟩
  · exact (need_ok R w).mono fun e w' ⟨he, hw⟩ => ⟨.inl ⟨rfl, he⟩, hw⟩
set_option maxHeartbeats 1000000 in
theorem ended_any {S R : Nat} {l : List UInt8} (w : World) (h : Src S R l w) :
    Calls Tryz.prog 38 #[.pointer (some ⟨R, 0, none⟩)] w fun e w' => e = .returned (.bool (decide (l = []))) ∧ Below w.heap.size w w' := by
  obtain ⟨A, q, h⟩ := h.lie
  have c0 : w.cell? ⟨R, 0, none⟩ = some (.slice A l.length q) := by rw [Lib.cell_of_heap h.blk]; rfl
  clear h
  by_cases hl : l = []
  · have hb : ((l.length : Int) == 0) = true := by rw [hl]; rfl
    have hn : l.length = 0 := by rw [hl]; rfl
    rw [decide_eq_true hl]
    clear hl
    go_enter Tryz.func38, Tryz.ntmps38
    go_wp2
    go_ret
    exact ⟨rfl, by first | exact Below.refl _ _ | exact drewN_below _ _ _⟩
  · have hn : l.length ≠ 0 := fun e => hl (List.eq_nil_of_length_eq_zero e)
    have hb : ((l.length : Int) == 0) = false := by simpa using hl
    rw [decide_eq_false hl]
    clear hl
    go_enter Tryz.func38, Tryz.ntmps38
    go_wp2
    go_ret
    exact ⟨rfl, by first | exact Below.refl _ _ | exact drewN_below _ _ _⟩
set_option maxHeartbeats 2000000 in
set_option maxRecDepth 100000 in
theorem octet_end {S R : Nat} (w : World) (h : Src S R [] w) :
    Calls Tryz.prog 89 #[.pointer (some ⟨R, 0, none⟩)] w fun e w' => e = .panicked fault5 ∧ Ext R w w' := by
  have EN := Lib.hid (ended_any w h)
  simp only [decide_true] at EN
  clear h
  go_enter Tryz.func89, Tryz.ntmps89
  go_wp2_with fail
  refine EN.out.mono ?_
  rintro e w1 ⟨rfl, hb⟩
  go_wp2_with fail
  refine (need_fault _ _).mono ?_
  rintro e w2 ⟨rfl, rfl⟩
  exact ⟨rfl, rfl, Ext.of hb⟩
set_option maxHeartbeats 2000000 in
set_option maxRecDepth 100000 in
theorem octet_ok {S R : Nat} (b : UInt8) (r : List UInt8) (w : World) (h : Src S R (b :: r) w) :
    Calls Tryz.prog 89 #[.pointer (some ⟨R, 0, none⟩)] w fun e w' => e = .returned (.int .u8 b.toNat) ∧ Src S R r w' ∧ Ext R w w' := by
  have EN := Lib.hid (ended_any w h)
  rw [decide_eq_false (by simp : ¬ (b :: r = []))] at EN
  have H := Lib.hid h
  go_enter Tryz.func89, Tryz.ntmps89
  go_wp2_with fail
  refine EN.out.mono ?_
  rintro e w1 ⟨rfl, hb⟩
  have h1 := H.out.below hb
  obtain ⟨A, q, hl⟩ := h1.lie
  obtain ⟨g, o, rfl, hg, hgl, hc⟩ := hl.at_ (by simp)
  have c0 : w1.cell? ⟨R, 0, none⟩ = some (.slice (some ⟨g, o, none⟩) (r.length + 1) q) := by rw [Lib.cell_of_heap hl.blk]; rfl
  have hcb : w1.cell? ⟨g, o, none⟩ = some (.int .u8 b.toNat) := by have := hc 0 b rfl; rwa [Nat.add_zero] at this
  have hq : r.length + 1 ≤ q := hl.le
  have hq2 := hl.mx
  have H1 := Lib.hid h1
  have HL := Lib.hid hl
  have HB := Lib.hid hb
  have HXB := Lib.hid hl.blk
  clear h h1 hl hc hb EN
  by_cases hq1 : q = 1
  · subst hq1
    obtain rfl : r = [] := List.eq_nil_of_length_eq_zero (by omega)
    obtain ⟨Z, u, ⟨hS, p0, t0⟩, EZ, FZ⟩ := step_set w1 _ 0 (.slice (some ⟨g, o, none⟩) 0 0) HXB.out (by simp)
    have hu : u = .slice (some ⟨g, o, none⟩) 1 1 := Option.some.inj (p0.symm.trans c0)
    subst hu
    have HZ : Hid (Z.heap[R]? = some (.cells #[Lib.fromV (some ⟨g, o, none⟩) (b :: ([] : List UInt8)).length 1 1] 65 (0, 0))) := by
      unfold Hid; rw [EZ]; unfold Lib.fromV; rw [if_pos rfl]; rfl
    have FX := Lib.hid FZ
    clear EZ FZ c0
    go_wp2_with (go_at_call 21; refine (need_ok _ _).mono ?_; rintro e w' ⟨rfl, rfl⟩)
    go_ret
    have hx : Ext R w1 Z := ⟨FX.out.os, FX.out.tape, FX.out.output, Nat.le_of_eq FX.out.z.symm, fun k _ hk => FX.out.b k hk⟩
    exact ⟨rfl, H1.out.drop HL.out hx 1 (by simp) HZ.out, (Ext.of HB.out).trans hx⟩
  · obtain ⟨Z, u, ⟨hS, p0, t0⟩, EZ, FZ⟩ := step_set w1 _ 0 (.slice (some ⟨g, o + 1, none⟩) r.length (q - 1)) HXB.out (by simp)
    have hu : u = .slice (some ⟨g, o, none⟩) (r.length + 1) q := Option.some.inj (p0.symm.trans c0)
    subst hu
    have HZ : Hid (Z.heap[R]? = some (.cells #[Lib.fromV (some ⟨g, o, none⟩) (b :: r).length q 1] 65 (0, 0))) := by
      unfold Hid; rw [EZ]; unfold Lib.fromV; rw [if_neg hq1]
      simp only [Option.map_some, Go.WideShapes.add_plain]
      rfl
    have FX := Lib.hid FZ
    clear EZ FZ c0
    go_wp2_with (go_at_call 21; refine (need_ok _ _).mono ?_; rintro e w' ⟨rfl, rfl⟩)
    go_ret
    have hx : Ext R w1 Z := ⟨FX.out.os, FX.out.tape, FX.out.output, Nat.le_of_eq FX.out.z.symm, fun k _ hk => FX.out.b k hk⟩
    exact ⟨rfl, H1.out.drop HL.out hx 1 (by simp) HZ.out, (Ext.of HB.out).trans hx⟩

/-- how a reading of something goes: a fault, or what was read and what is left -/
def Runs5 {α : Type} (S R : Nat) (w : World) (x : Option (α × List UInt8)) (P : α → Ending → World → Prop) (e : Ending) (w' : World) : Prop := match x with
  | none => e = .panicked fault5 ∧ Ext R w w'
  | some y => P y.1 e w' ∧ Src S R y.2 w' ∧ Ext R w w'
theorem runs5_none {α : Type} {S R : Nat} {w w' : World} {x : Option (α × List UInt8)} {P : α → Ending → World → Prop} {e : Ending} (hx : x = none) (h : e = .panicked fault5 ∧ Ext R w w') : Runs5 S R w x P e w' := by subst hx; exact h
theorem runs5_some {α : Type} {S R : Nat} {w w' : World} {x : Option (α × List UInt8)} {P : α → Ending → World → Prop} {e : Ending} {y : α} {r : List UInt8} (hx : x = some (y, r)) (h : P y e w' ∧ Src S R r w' ∧ Ext R w w') : Runs5 S R w x P e w' := by subst hx; exact h
theorem shl_two (x : Int) (h0 : 0 ≤ x) (h1 : x < 128) : IntKind.i64.wrap (x * 2 ^ (7 : Int).toNat) = x * 128 := by rw [IntKind.wrap_i64]; simp; omega
set_option maxHeartbeats 4000000 in
set_option maxRecDepth 100000 in
theorem rnumber_any {S R : Nat} (l : List UInt8) (w : World) (h : Src S R l w) :
    Calls Tryz.prog 62 #[.pointer (some ⟨R, 0, none⟩)] w (Runs5 S R w (rdNum l) fun n e _ => e = .returned (.int .i64 (n : Int))) := by
  have H := Lib.hid h
  clear h
  go_enter Tryz.func62, Tryz.ntmps62
  go_wp2
  go_loopw [3, 6] (fun n i wr => Ext R w wr ∧ ((n = .int .i64 0 ∧ i = .int .i64 0 ∧ Src S R l wr) ∨ (∃ (a : UInt8) (s : List UInt8), l = a :: s ∧ 128 ≤ a.toNat ∧ n = .int .i64 ((a.toNat - 128 : Nat) : Int) ∧ i = .int .i64 1 ∧ Src S R s wr) ∨ (∃ (a b : UInt8) (s : List UInt8), l = a :: b :: s ∧ 128 ≤ a.toNat ∧ 128 ≤ b.toNat ∧ i = .int .i64 2))) (fun _ i _ => 2 - (intOf i).toNat)
  case atStart => exact ⟨Ext.refl _ _, .inl ⟨rfl, rfl, H.out⟩⟩
  case round =>
    obtain ⟨hE, hc⟩ := hrel
    have E0 := Lib.hid hE
    clear hE
    rcases hc with ⟨rfl, rfl, hS⟩ | ⟨a, s, rfl, hx, rfl, rfl, hS⟩ | ⟨a, b, s, rfl, hx, hy, rfl⟩
    · cases l with
      | nil =>
        have O := Lib.hid (octet_end wr hS)
        clear hS
        go_wp2_with fail
        refine O.out.mono ?_
        rintro e w1 ⟨rfl, hE⟩
        exact ⟨rfl, runs5_none rfl ⟨rfl, E0.out.trans hE⟩⟩
      | cons a s =>
        have O := Lib.hid (octet_ok a s wr hS)
        have ha : a.toNat < 256 := a.toNat_lt
        clear hS
        go_wp2_with fail
        refine O.out.mono ?_
        rintro e w1 ⟨rfl, hS, hE⟩
        have S1 := Lib.hid hS
        have E1 := Lib.hid (E0.out.trans hE)
        clear hS hE O E0
        by_cases hx : a.toNat < 128
        · have HR : Hid (rdNum (a :: s) = some (a.toNat, s)) := by unfold Hid; simp only [rdNum]; rw [if_pos hx]
          generalize a.toNat = x at *
          have hm : (x : Int) % 128 = x := by omega
          by_cases h0 : x = 0
          · subst h0
            go_wp2_with (go_at_call 21; refine (need_ok _ _).mono ?_; rintro e w' ⟨rfl, rfl⟩)
            go_ret
            exact runs5_some HR.out ⟨rfl, S1.out, E1.out⟩
          · have hd : 0 < x := Nat.pos_of_ne_zero h0
            go_wp2_with (go_at_call 21; refine (need_ok _ _).mono ?_; rintro e w' ⟨rfl, rfl⟩)
            go_ret
            exact runs5_some HR.out ⟨by simp, S1.out, E1.out⟩
        · have HR : Hid (128 ≤ a.toNat) := by unfold Hid; omega
          go_wp2
          exact ⟨⟨E1.out, .inr (.inl ⟨a, s, rfl, HR.out, congrArg (Value.int .i64) (by omega), rfl, S1.out⟩)⟩, by decide⟩
    · have H0 := Lib.hid hx
      cases s with
      | nil =>
        have O := Lib.hid (octet_end wr hS)
        clear hS
        go_wp2_with fail
        refine O.out.mono ?_
        rintro e w1 ⟨rfl, hE⟩
        exact ⟨rfl, runs5_none (by simp only [rdNum]; rw [if_neg (by have := H0.out; omega)]) ⟨rfl, E0.out.trans hE⟩⟩
      | cons b s =>
        have O := Lib.hid (octet_ok b s wr hS)
        have ha : a.toNat < 256 := a.toNat_lt
        have hb : b.toNat < 256 := b.toNat_lt
        clear hS
        go_wp2_with fail
        refine O.out.mono ?_
        rintro e w1 ⟨rfl, hS, hE⟩
        have S1 := Lib.hid hS
        have E1 := Lib.hid (E0.out.trans hE)
        clear hS hE O E0
        by_cases hy : b.toNat < 128
        · by_cases h0 : b.toNat = 0
          · have HR : Hid (rdNum (a :: b :: s) = none) := by unfold Hid; simp only [rdNum]; rw [if_neg (by have := H0.out; omega), if_neg (by omega)]
            generalize b.toNat = y at *
            subst h0
            go_wp2_with (go_at_call 21; refine (need_fault _ _).mono ?_; rintro e w' ⟨rfl, rfl⟩)
            exact ⟨rfl, runs5_none HR.out ⟨rfl, E1.out⟩⟩
          · have HR : Hid (rdNum (a :: b :: s) = some (a.toNat - 128 + 128 * b.toNat, s)) := by unfold Hid; simp only [rdNum]; rw [if_neg (by have := H0.out; omega), if_pos ⟨hy, by omega⟩]
            generalize b.toNat = y at *
            have hd : 0 < y := Nat.pos_of_ne_zero h0
            have hsh := shl_two (y % 128 : Nat) (by omega) (by omega)
            go_wp2_with (go_at_call 21; refine (need_ok _ _).mono ?_; rintro e w' ⟨rfl, rfl⟩)
            go_ret
            exact runs5_some HR.out ⟨congrArg (fun z => Ending.returned (Value.int .i64 z)) (by omega), S1.out, E1.out⟩
        · have HR : Hid (128 ≤ b.toNat) := by unfold Hid; omega
          have hsh := shl_two (b.toNat % 128 : Nat) (by omega) (by omega)
          go_wp2
          exact ⟨⟨E1.out, .inr (.inr ⟨a, b, s, rfl, H0.out, HR.out, rfl⟩)⟩, by decide⟩
    · have HR : Hid (rdNum (a :: b :: s) = none) := by unfold Hid; simp only [rdNum]; rw [if_neg (by omega), if_neg (by omega)]
      go_wp2_with (go_at_call 21; refine (need_fault _ _).mono ?_; rintro e w' ⟨rfl, rfl⟩)
      exact ⟨rfl, runs5_none HR.out ⟨rfl, E0.out⟩⟩
end Go.Proofs.YtopjddmgejfalaaGreatDoor.Aig
