/- Plain words for circuits as octets, and for octets as circuits; no program is named here, no condition. -/
import Derived.Test.YtopjddmgejfalaaGreatDoorPk01
import Derived.Test.YtopjddmgejfalaaGreatDoorPk06
namespace Go.Proofs.YtopjddmgejfalaaGreatDoor.Aig
open Go.Lib Dig Circ Cw Aag

/- what is written -/
def lit (k : Nat) : Int := 2 * ((k : Int) + 1)
def head5 (c : Cir) : List UInt8 := joinL ([97, 105, 103] :: nums [c.max, c.ins.length, c.lats.length, c.outs.length, c.ands.length, c.bads.length, c.invs.length])
def lat5 (t : Tri) : List UInt8 := joinL (if t.c = 0 then nums [t.b] else nums [t.b, t.c])
def grp (n : Nat) : List UInt8 := if n < 128 then [UInt8.ofNat n] else UInt8.ofNat (128 + n % 128) :: grp (n / 128)
def and5 (t : Tri) : List UInt8 := grp (t.a - t.b).toNat ++ grp (t.b - t.c).toNat
def lines5 (c : Cir) : List (List UInt8) := head5 c :: (c.lats.map lat5 ++ (c.outs.map litL ++ (c.bads.map litL ++ c.invs.map litL)))
def core5 (c : Cir) : List UInt8 := nlL (lines5 c) ++ (c.ands.map and5).flatten
def oct5 (c : Cir) : List UInt8 := core5 c ++ nlL (c.names.map namL)

/- what is read -/
def lineCut : List UInt8 → Option (List UInt8 × List UInt8)
  | [] => none
  | b :: l => if b = 10 then some ([], l) else (lineCut l).map fun r => (b :: r.1, r.2)
def rdLine {α : Type} (form : List UInt8 → Option α) (s : List UInt8) : Option (α × List UInt8) := (lineCut s).bind fun r => (form r.1).map fun a => (a, r.2)
def rdNum : List UInt8 → Option (Nat × List UInt8)
  | [] => none
  | a :: s => if a.toNat < 128 then some (a.toNat, s) else match s with
    | [] => none
    | b :: r => if b.toNat < 128 ∧ 0 < b.toNat then some (a.toNat - 128 + 128 * b.toNat, r) else none
def rdAnd (l : Int) (s : List UInt8) : Option (Tri × List UInt8) := (rdNum s).bind fun x => (rdNum x.2).map fun y => (⟨l, l - x.1, l - x.1 - y.1⟩, y.2)
def rdMany {α : Type} (f : Nat → List UInt8 → Option (α × List UInt8)) : Nat → Nat → List UInt8 → List α → Option (List α × List UInt8)
  | 0, _, s, acc => some (acc, s)
  | n + 1, i, s, acc => match f i s with
    | none => none
    | some r => rdMany f n (i + 1) r.2 (acc ++ [r.1])
def formLat5 (l : Int) (s : List UInt8) : Option Tri :=
  if wordsOk [1, 2] s && numOk ((wordsL s).getD 0 []) then
    if (wordsL s).length = 2 then
      if numOk ((wordsL s).getD 1 []) && decide (numV ((wordsL s).getD 1 []) ≠ 0) then some ⟨l, numV ((wordsL s).getD 0 []), numV ((wordsL s).getD 1 [])⟩ else none
    else some ⟨l, numV ((wordsL s).getD 0 []), 0⟩
  else none
def headOk (ns : List Int) : Bool := decide (ns.getD 0 0 ≤ 2048) && decide (ns.getD 0 0 = ns.getD 1 0 + ns.getD 2 0 + ns.getD 4 0)
def formHead5 (l : List UInt8) : Option (List Int) :=
  if (wordsOk [8] l && (((wordsL l).getD 0 [] == [97, 105, 103]) && ((wordsL l).drop 1).all numOk)) = true then
    if headOk (((wordsL l).drop 1).map numV) then some (((wordsL l).drop 1).map numV) else none
  else none
def rdNames : Nat → List UInt8 → List Nam → Option (List Nam)
  | 0, s, acc => if s = [] then some acc else none
  | k + 1, s, acc => if s = [] then some acc else match rdLine formNam s with
    | none => none
    | some r => rdNames k r.2 (acc ++ [r.1])
def evens (n : Nat) : List Int := (List.range n).map lit
theorem evens_len (n : Nat) : (evens n).length = n := by unfold evens; simp
def rdCore (s : List UInt8) : Option (Cir × List UInt8) :=
  (rdLine formHead5 s).bind fun h =>
  (rdMany (fun i => rdLine (formLat5 (lit ((h.1.getD 1 0).toNat + i)))) (h.1.getD 2 0).toNat 0 h.2 []).bind fun r2 =>
  (rdMany (fun _ => rdLine formLit) (h.1.getD 3 0).toNat 0 r2.2 []).bind fun r3 =>
  (rdMany (fun _ => rdLine formLit) (h.1.getD 5 0).toNat 0 r3.2 []).bind fun r4 =>
  (rdMany (fun _ => rdLine formLit) (h.1.getD 6 0).toNat 0 r4.2 []).bind fun r5 =>
  (rdMany (fun i => rdAnd (lit ((h.1.getD 1 0).toNat + (h.1.getD 2 0).toNat + i))) (h.1.getD 4 0).toNat 0 r5.2 []).bind fun r6 =>
  some (⟨h.1.getD 0 0, evens (h.1.getD 1 0).toNat, r2.1, r3.1, r4.1, r5.1, r6.1, []⟩, r6.2)
def circ5 (s : List UInt8) : Option Cir := (rdCore s).bind fun r => (rdNames r.2.length r.2 []).map fun l => { r.1 with names := l }
/-- 5: too long; 33: no circuit's octets -/
def read5 (good : Cir → Bool) (s : List UInt8) : Except Int Cir :=
  if 65536 < s.length then .error eLong else match circ5 s with
    | none => .error eSyntax
    | some c => if good c = true then .ok c else .error eSyntax

/- lines -/
theorem lineCut_eq : ∀ (s l r : List UInt8), lineCut s = some (l, r) → s = l ++ 10 :: r ∧ (10 : UInt8) ∉ l
  | [], _, _, h => by simp [lineCut] at h
  | b :: s, l, r, h => by
    simp only [lineCut] at h
    split at h
    · rename_i hb
      simp only [Option.some.injEq, Prod.mk.injEq] at h
      obtain ⟨rfl, rfl⟩ := h
      subst hb
      exact ⟨rfl, by simp⟩
    · rename_i hb
      cases hq : lineCut s with
      | none => rw [hq] at h; cases h
      | some q =>
        rw [hq] at h
        simp only [Option.map_some, Option.some.injEq, Prod.mk.injEq] at h
        obtain ⟨rfl, rfl⟩ := h
        obtain ⟨e, hn⟩ := lineCut_eq s q.1 q.2 hq
        refine ⟨by rw [List.cons_append, ← e], fun hm => ?_⟩
        rcases List.mem_cons.1 hm with e' | hm
        · exact hb e'.symm
        · exact hn hm
theorem lineCut_of : ∀ (l r : List UInt8), (10 : UInt8) ∉ l → lineCut (l ++ 10 :: r) = some (l, r)
  | [], r, _ => by simp [lineCut]
  | b :: l, r, h => by
    have hb : b ≠ 10 := fun e => h (by rw [e]; exact List.mem_cons_self)
    rw [List.cons_append, lineCut, if_neg hb, lineCut_of l r (fun hm => h (List.mem_cons_of_mem _ hm))]
    rfl
theorem rdLine_get {α : Type} {form : List UInt8 → Option α} {s : List UInt8} {a : α} {r : List UInt8} (h : rdLine form s = some (a, r)) : ∃ l, s = l ++ 10 :: r ∧ (10 : UInt8) ∉ l ∧ form l = some a := by
  unfold rdLine at h
  cases hq : lineCut s with
  | none => rw [hq] at h; cases h
  | some q =>
    rw [hq] at h
    simp only [Option.bind_some] at h
    cases hf : form q.1 with
    | none => rw [hf] at h; cases h
    | some b =>
      rw [hf] at h
      simp only [Option.map_some, Option.some.injEq, Prod.mk.injEq] at h
      obtain ⟨rfl, rfl⟩ := h
      obtain ⟨e, hn⟩ := lineCut_eq s q.1 q.2 hq
      exact ⟨q.1, e, hn, hf⟩
theorem rdLine_of {α : Type} {form : List UInt8 → Option α} {l : List UInt8} {a : α} (r : List UInt8) (hn : (10 : UInt8) ∉ l) (hf : form l = some a) : rdLine form (l ++ 10 :: r) = some (a, r) := by
  unfold rdLine
  rw [lineCut_of l r hn]
  simp only [Option.bind_some]
  rw [hf]; rfl

/- a reading is of what was written: of what it takes it tells the one that is written so; what stands behind is no matter -/
structure Reads {α : Type} (p : List UInt8 → Option (α × List UInt8)) (f : α → List UInt8) (Q : α → Prop) : Prop where
  get : ∀ s a r, p s = some (a, r) → s = f a ++ r ∧ Q a
  more : ∀ s a r t, p s = some (a, r) → p (s ++ t) = some (a, r ++ t)
theorem reads_line {α : Type} {form : List UInt8 → Option α} {f : α → List UInt8} {Q : α → Prop} (hf : ∀ l x, form l = some x → l = f x ∧ Q x) : Reads (rdLine form) (fun x => f x ++ [10]) Q := by
  refine ⟨fun s a r h => ?_, fun s a r t h => ?_⟩
  · obtain ⟨l, e, _, hl⟩ := rdLine_get h
    obtain ⟨e2, hq⟩ := hf l a hl
    exact ⟨by rw [e, e2]; simp, hq⟩
  · obtain ⟨l, e, hn, hl⟩ := rdLine_get h
    rw [e, List.append_assoc, List.cons_append]
    exact rdLine_of _ hn hl
theorem grp_small (n : Nat) (h : n < 128) : grp n = [UInt8.ofNat n] := by rw [grp, if_pos h]
theorem grp_great (n : Nat) (h : ¬ n < 128) : grp n = UInt8.ofNat (128 + n % 128) :: grp (n / 128) := by rw [grp, if_neg h]
theorem byte_of (a : UInt8) : UInt8.ofNat a.toNat = a := by simp
theorem reads_num : Reads rdNum grp (fun _ => True) := by
  refine ⟨fun s a r h => ?_, fun s a r t h => ?_⟩
  · match s, h with
    | x :: s, h =>
      simp only [rdNum] at h
      split at h
      · rename_i hx
        simp only [Option.some.injEq, Prod.mk.injEq] at h
        obtain ⟨rfl, rfl⟩ := h
        rw [grp_small _ hx, byte_of]
        exact ⟨rfl, trivial⟩
      · rename_i hx
        match s, h with
        | y :: s, h =>
          simp only at h
          split at h
          · rename_i hy
            simp only [Option.some.injEq, Prod.mk.injEq] at h
            obtain ⟨rfl, rfl⟩ := h
            have hxl : x.toNat < 256 := x.toNat_lt
            rw [grp_great _ (by omega), show 128 + (x.toNat - 128 + 128 * y.toNat) % 128 = x.toNat by omega, show (x.toNat - 128 + 128 * y.toNat) / 128 = y.toNat by omega, grp_small _ hy.1, byte_of, byte_of]
            exact ⟨rfl, trivial⟩
          · cases h
  · match s, h with
    | x :: s, h =>
      simp only [rdNum, List.cons_append] at h ⊢
      split at h
      · rename_i hx
        simp only [Option.some.injEq, Prod.mk.injEq] at h
        obtain ⟨rfl, rfl⟩ := h
        rw [if_pos hx]
      · rename_i hx
        rw [if_neg hx]
        match s, h with
        | y :: s, h =>
          simp only [List.cons_append] at h ⊢
          split at h
          · rename_i hy
            simp only [Option.some.injEq, Prod.mk.injEq] at h
            obtain ⟨rfl, rfl⟩ := h
            rw [if_pos hy]
          · cases h
theorem num_of (n : Nat) (h : n < 16384) (r : List UInt8) : rdNum (grp n ++ r) = some (n, r) := by
  by_cases hn : n < 128
  · rw [grp_small _ hn]
    have e : (UInt8.ofNat n).toNat = n := by rw [UInt8.toNat_ofNat']; omega
    simp only [List.singleton_append, rdNum]
    rw [e, if_pos hn]
  · rw [grp_great _ hn, grp_small _ (show n / 128 < 128 by omega)]
    have e1 : (UInt8.ofNat (128 + n % 128)).toNat = 128 + n % 128 := by rw [UInt8.toNat_ofNat']; omega
    have e2 : (UInt8.ofNat (n / 128)).toNat = n / 128 := by rw [UInt8.toNat_ofNat']; omega
    simp only [List.cons_append, rdNum]
    rw [e1, e2, if_neg (by omega), if_pos (by omega), show 128 + n % 128 - 128 + 128 * (n / 128) = n by omega]
    rfl
theorem reads_and (l : Int) : Reads (rdAnd l) and5 (fun t => t.a = l) := by
  refine ⟨fun s a r h => ?_, fun s a r t h => ?_⟩
  · unfold rdAnd at h
    cases hx : rdNum s with
    | none => rw [hx] at h; cases h
    | some x =>
      rw [hx] at h
      simp only [Option.bind_some] at h
      cases hy : rdNum x.2 with
      | none => rw [hy] at h; cases h
      | some y =>
        rw [hy] at h
        simp only [Option.map_some, Option.some.injEq, Prod.mk.injEq] at h
        obtain ⟨rfl, rfl⟩ := h
        have e1 := (reads_num.get s x.1 x.2 hx).1
        have e2 := (reads_num.get x.2 y.1 y.2 hy).1
        refine ⟨?_, rfl⟩
        unfold and5
        simp only
        rw [show (l - (l - (x.1 : Int))).toNat = x.1 by omega, show (l - (x.1 : Int) - (l - (x.1 : Int) - (y.1 : Int))).toNat = y.1 by omega, List.append_assoc, ← e2]
        exact e1
  · unfold rdAnd at h ⊢
    cases hx : rdNum s with
    | none => rw [hx] at h; cases h
    | some x =>
      rw [hx] at h
      simp only [Option.bind_some] at h
      cases hy : rdNum x.2 with
      | none => rw [hy] at h; cases h
      | some y =>
        rw [hy] at h
        simp only [Option.map_some, Option.some.injEq, Prod.mk.injEq] at h
        obtain ⟨rfl, rfl⟩ := h
        rw [reads_num.more s x.1 x.2 t hx]
        simp only [Option.bind_some]
        rw [reads_num.more x.2 y.1 y.2 t hy]
        rfl
theorem and_of (t : Tri) (h1 : 0 ≤ t.a - t.b ∧ t.a - t.b < 16384) (h2 : 0 ≤ t.b - t.c ∧ t.b - t.c < 16384) (r : List UInt8) : rdAnd t.a (and5 t ++ r) = some (t, r) := by
  unfold rdAnd and5
  rw [List.append_assoc, num_of _ (by omega)]
  simp only [Option.bind_some]
  rw [num_of _ (by omega)]
  simp only [Option.map_some]
  rw [show t.a - ((t.a - t.b).toNat : Int) = t.b by omega, show t.b - ((t.b - t.c).toNat : Int) = t.c by omega]

/- many, one behind the other -/
theorem many5_get {α : Type} {p : Nat → List UInt8 → Option (α × List UInt8)} {f : α → List UInt8} {Q : Nat → α → Prop} (hp : ∀ i, Reads (p i) f (Q i)) : ∀ (n i : Nat) (s : List UInt8) (acc l : List α) (r : List UInt8), rdMany p n i s acc = some (l, r) →
    ∃ xs, l = acc ++ xs ∧ xs.length = n ∧ s = (xs.map f).flatten ++ r ∧ ∀ (j : Nat) x, xs[j]? = some x → Q (i + j) x
  | 0, i, s, acc, l, r, h => by
    simp only [rdMany, Option.some.injEq, Prod.mk.injEq] at h
    exact ⟨[], by simp [h.1], rfl, by simp [h.2], fun j x hj => by simp at hj⟩
  | n + 1, i, s, acc, l, r, h => by
    rw [rdMany] at h
    cases hq : p i s with
    | none => rw [hq] at h; cases h
    | some q =>
      rw [hq] at h
      simp only at h
      obtain ⟨xs, h1, h2, h3, h4⟩ := many5_get hp n (i + 1) q.2 (acc ++ [q.1]) l r h
      obtain ⟨g1, g2⟩ := (hp i).get s q.1 q.2 hq
      refine ⟨q.1 :: xs, by rw [h1]; simp, by simp [h2], by rw [g1, h3]; simp, fun j x hj => ?_⟩
      cases j with
      | zero =>
        simp only [List.getElem?_cons_zero, Option.some.injEq] at hj
        rw [← hj]; exact g2
      | succ j =>
        have := h4 j x (by simpa using hj)
        rw [Nat.add_assoc, Nat.add_comm 1 j] at this
        exact this
theorem many5_more {α : Type} {p : Nat → List UInt8 → Option (α × List UInt8)} {f : α → List UInt8} {Q : Nat → α → Prop} (hp : ∀ i, Reads (p i) f (Q i)) (t : List UInt8) : ∀ (n i : Nat) (s : List UInt8) (acc l : List α) (r : List UInt8), rdMany p n i s acc = some (l, r) → rdMany p n i (s ++ t) acc = some (l, r ++ t)
  | 0, i, s, acc, l, r, h => by
    simp only [rdMany, Option.some.injEq, Prod.mk.injEq] at h ⊢
    exact ⟨h.1, by rw [h.2]⟩
  | n + 1, i, s, acc, l, r, h => by
    rw [rdMany] at h ⊢
    cases hq : p i s with
    | none => rw [hq] at h; cases h
    | some q =>
      rw [hq] at h
      simp only at h
      rw [(hp i).more s q.1 q.2 t hq]
      exact many5_more hp t n (i + 1) q.2 (acc ++ [q.1]) l r h
theorem many5_of {α : Type} {p : Nat → List UInt8 → Option (α × List UInt8)} {f : α → List UInt8} (r : List UInt8) : ∀ (xs : List α) (i : Nat) (acc : List α), (∀ (j : Nat) x, xs[j]? = some x → ∀ r, p (i + j) (f x ++ r) = some (x, r)) →
    rdMany p xs.length i ((xs.map f).flatten ++ r) acc = some (acc ++ xs, r)
  | [], i, acc, _ => by simp [rdMany]
  | x :: xs, i, acc, h => by
    have h0 := h 0 x rfl ((xs.map f).flatten ++ r)
    rw [Nat.add_zero] at h0
    rw [List.length_cons, rdMany, List.map_cons, List.flatten_cons, List.append_assoc, h0]
    simp only
    rw [many5_of r xs (i + 1) (acc ++ [x]) (fun j y hj => by rw [Nat.add_assoc, Nat.add_comm 1 j]; exact h (j + 1) y (by simpa using hj))]
    simp

/- the forms of lines -/
theorem aig_word : Word [97, 105, 103] := by unfold Word; decide
theorem formHead5_of (ns : List Int) (hl : ns.length = 7) (h : ∀ x ∈ ns, OkN x) (hm : ns.getD 0 0 ≤ 2048 ∧ ns.getD 0 0 = ns.getD 1 0 + ns.getD 2 0 + ns.getD 4 0) : formHead5 (joinL ([97, 105, 103] :: nums ns)) = some ns := by
  have hw : ∀ w ∈ [97, 105, 103] :: nums ns, Word w := fun w hw => by
    rcases List.mem_cons.1 hw with rfl | hw
    · exact aig_word
    · exact nums_words ns (fun x hx => (h x hx).1) w hw
  obtain ⟨h1, h2⟩ := nums_all ns h
  unfold formHead5
  rw [wordsOk_of _ _ hw, words_of _ hw]
  simp only [List.drop_one, List.tail_cons, h1, h2, List.getD_cons_zero]
  rw [if_pos (by simp [nums, hl]), if_pos (by unfold headOk; rw [decide_eq_true hm.1, decide_eq_true hm.2]; rfl)]
theorem formHead5_get (l : List UInt8) (ns : List Int) (h : formHead5 l = some ns) : ns.length = 7 ∧ l = joinL ([97, 105, 103] :: nums ns) ∧ (∀ x ∈ ns, OkN x) ∧ ns.getD 0 0 ≤ 2048 ∧ ns.getD 0 0 = ns.getD 1 0 + ns.getD 2 0 + ns.getD 4 0 := by
  unfold formHead5 at h
  split at h
  · rename_i q
    simp only [Bool.and_eq_true] at q
    obtain ⟨q0, q1, q2⟩ := q
    split at h
    · rename_i hm
      simp only [Option.some.injEq] at h
      rw [h] at hm
      unfold headOk at hm
      simp only [Bool.and_eq_true, decide_eq_true_eq] at hm
      unfold wordsOk at q0
      simp only [Bool.and_eq_true, beq_iff_eq] at q0 q1
      have hl : (wordsL l).length = 8 := by simpa using q0.1
      refine ⟨by rw [← h]; simp [hl], ?_, fun x hx => ?_, hm⟩
      · rw [← h, nums_back _ q2]
        have : wordsL l = [97, 105, 103] :: (wordsL l).drop 1 := by
          cases hw : wordsL l with
          | nil => rw [hw] at hl; cases hl
          | cons a t => rw [hw] at q1; simp only [List.getD_cons_zero] at q1; subst q1; rfl
        rw [← this]; exact q0.2.symm
      · rw [← h] at hx
        exact map_ok q2 x hx
    · cases h
  · cases h
theorem formLat5_of (t : Tri) (h : OkN t.b ∧ OkN t.c) : formLat5 t.a (lat5 t) = some t := by
  obtain ⟨a, b, c⟩ := t
  obtain ⟨h2, h3⟩ := h
  obtain ⟨b1, b2⟩ := num_itoa b h2.1 h2.2
  obtain ⟨c1, c2⟩ := num_itoa c h3.1 h3.2
  unfold formLat5 lat5
  by_cases hc : c = 0
  · subst hc
    have hw := nums_words [b] (by simpa using h2.1)
    simp only [if_true]
    rw [wordsOk_of _ _ hw, words_of _ hw]
    simp [nums, b1, b2]
  · have hw := nums_words [b, c] (by simpa using ⟨h2.1, h3.1⟩)
    simp only [if_neg hc]
    rw [wordsOk_of _ _ hw, words_of _ hw]
    simp [nums, b1, b2, c1, c2, hc]
theorem formLat5_get (a : Int) (l : List UInt8) (t : Tri) (h : formLat5 a l = some t) : l = lat5 t ∧ t.a = a ∧ OkN t.b ∧ OkN t.c := by
  unfold formLat5 at h
  split at h
  · rename_i q
    unfold wordsOk at q
    simp only [Bool.and_eq_true, beq_iff_eq] at q
    obtain ⟨⟨q0, q1⟩, q2⟩ := q
    split at h
    · rename_i h3
      split at h
      · rename_i h4
        simp only [Bool.and_eq_true, decide_eq_true_eq] at h4
        simp only [Option.some.injEq] at h
        subst h
        refine ⟨?_, rfl, numV_ok q2, numV_ok h4.1⟩
        unfold lat5
        simp only [if_neg h4.2]
        match hw : wordsL l, h3 with
        | [x, y], _ =>
          rw [hw] at q1 q2 h4
          simp only [List.getD_cons_zero, List.getD_cons_succ] at q2 h4 ⊢
          unfold nums
          simp only [List.map_cons, List.map_nil, num_canon x q2, num_canon y h4.1]
          exact q1.symm
      · cases h
    · rename_i h3
      simp only [Option.some.injEq] at h
      subst h
      refine ⟨?_, rfl, numV_ok q2, ok_zero⟩
      unfold lat5
      simp only [if_true]
      have h2 : (wordsL l).length = 1 := by
        have : (wordsL l).length = 1 ∨ (wordsL l).length = 2 := by simpa using q0
        rcases this with h | h
        · exact h
        · exact absurd h h3
      match hw : wordsL l, h2 with
      | [x], _ =>
        rw [hw] at q1 q2
        simp only [List.getD_cons_zero] at q2 ⊢
        unfold nums
        simp only [List.map_cons, List.map_nil, num_canon x q2]
        exact q1.symm
  · cases h
theorem formNam_fits (l : List UInt8) (x : Nam) (h : formNam l = some x) : l = namL x ∧ (OkN x.num ∧ x.kind.size ≤ l.length + 1 ∧ x.text.size ≤ l.length + 1) := ⟨formNam_get l x h, formNam_ok h⟩
theorem reads_lit : Reads (rdLine formLit) (fun x => litL x ++ [10]) OkN := reads_line fun l x h => ⟨formLit_get l x h, formLit_ok h⟩
theorem reads_lat (a : Int) : Reads (rdLine (formLat5 a)) (fun x => lat5 x ++ [10]) (fun t => t.a = a ∧ OkN t.b ∧ OkN t.c) := reads_line fun l x h => formLat5_get a l x h
theorem reads_head : Reads (rdLine formHead5) (fun ns => joinL ([97, 105, 103] :: nums ns) ++ [10]) (fun ns => ns.length = 7 ∧ (∀ x ∈ ns, OkN x) ∧ ns.getD 0 0 ≤ 2048 ∧ ns.getD 0 0 = ns.getD 1 0 + ns.getD 2 0 + ns.getD 4 0) := reads_line fun l x h => by
  obtain ⟨h1, h2, h3⟩ := formHead5_get l x h
  exact ⟨h2, h1, h3⟩
theorem nl_map {α : Type} (f : α → List UInt8) (l : List α) : nlL (l.map f) = (l.map fun x => f x ++ [10]).flatten := by unfold nlL; rw [List.map_map]; rfl
end Go.Proofs.YtopjddmgejfalaaGreatDoor.Aig
