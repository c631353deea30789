/- What the laws of layer 10 ask of the program's own functions, and the laws from it: ClauseParts, ClauseSound, ClauseNorm. -/
import Derived.Test.YtoifogbfhlnlaaaPt05
import Derived.Test.YtoifogbfhlnlaaaPt01
namespace Go.Proofs.Ytoifogbfhlnlaaa.Cla
open Go.ChangeShapes Go.WideShapes Go.ChangeAt Go.RowKit Go.Maps Circ Cw

def rE (a b : List Int) (v : Int) : Int := if resOk a b v = true then 0 else 71
def rL (a b : List Int) (v : Int) : List Int := if resOk a b v = true then resL a b v else []
/-- the program's own Norm, Resolve, Subsumes, Same answer as the pages say, of lists that hold no more than N together -/
structure Prog10 (N : Nat) : Prop where
  norm : ∀ (a : List Int) (A : Option Addr) (q : Nat) (w : World), ILies w w.heap.size A a → a.length ≤ N →
    Calls Try.prog 8 #[.slice A a.length q] w fun e w' => (∃ A' q', e = .returned (.tuple #[.slice A' (normM a).length q', .bool (alwaysM a)]) ∧ ILies w' w'.heap.size A' (normM a)) ∧ Below w.heap.size w w'
  resolve : ∀ (a b : List Int) (A B : Option Addr) (q r : Nat) (v : Int) (w : World), ILies w w.heap.size A a → ILies w w.heap.size B b → I64 v → a.length + b.length ≤ N →
    Calls Try.prog 7 #[.slice A a.length q, .slice B b.length r, .int .i64 v] w fun e w' => (∃ A' q', e = .returned (.tuple #[.slice A' (rL a b v).length q', .int .i64 (rE a b v)]) ∧ ILies w' w'.heap.size A' (rL a b v)) ∧ Below w.heap.size w w'
  subsumes : ∀ (a b : List Int) (A B : Option Addr) (q r : Nat) (w : World), ILies w w.heap.size A a → ILies w w.heap.size B b → b.length ≤ N →
    Calls Try.prog 10 #[.slice A a.length q, .slice B b.length r] w fun e w' => e = .returned (.bool (subsM a b)) ∧ Below w.heap.size w w'
  same : ∀ (a b : List Int) (A B : Option Addr) (q r : Nat) (w : World), ILies w w.heap.size A a → ILies w w.heap.size B b → a.length ≤ N → b.length ≤ N →
    Calls Try.prog 13 #[.slice A a.length q, .slice B b.length r] w fun e w' => e = .returned (.bool (decide (normM a = normM b))) ∧ Below w.heap.size w w'
theorem num_any (x : Int) (w : World) : Calls Try.prog 11 #[.int .i64 x] w fun e w' => e = .returned (.int .i64 x) ∧ w = w' := by
  go_enter Try.func11, Try.ntmps11
  go_wp2
  go_ret
  exact ⟨rfl, rfl⟩
theorem two_lie (w : World) (x y : Int) (hx : I64 x) (hy : I64 y) : ILies (w.alloc (.cells #[.int .i64 x, .int .i64 y] 3)) (w.heap.size + 1) (some ⟨w.heap.size, 0, none⟩) [x, y] := by
  have hh : (w.alloc (.cells #[.int .i64 x, .int .i64 y] 3)).heap[w.heap.size]? = some (.cells #[.int .i64 x, .int .i64 y] 3 (0, 0)) := Array.getElem?_push_size
  refine ⟨.inr ⟨_, 0, rfl, Nat.lt_succ_self _, fun i ys hi j u hj => ?_⟩, fun z hz => ?_, by rw [List.length_cons, List.length_singleton]; decide⟩
  · rw [Lib.cell_of_heap hh]
    match i, hi with
    | 0, hi =>
      obtain rfl : [Value.int .i64 x] = ys := by simpa [ints] using hi
      match j, hj with
      | 0, hj => simpa using hj
    | 1, hi =>
      obtain rfl : [Value.int .i64 y] = ys := by simpa [ints] using hi
      match j, hj with
      | 0, hj => simpa using hj
  · rcases List.mem_cons.1 hz with rfl | hz
    · exact hx
    · rw [List.mem_singleton.1 hz]; exact hy
theorem page_e : rE [1, 2] [-1, 3] 1 = 0 := by decide +kernel
theorem page_l : rL [1, 2] [-1, 3] 1 = [2, 3] := by decide +kernel
set_option maxHeartbeats 16000000 in
set_option maxRecDepth 100000 in
theorem alive_any {N : Nat} (P : Prog10 N) (hN : 4 ≤ N) (w : World) : Calls Try.prog 6 #[] w fun e w' => e = .returned (.bool true) ∧ Below w.heap.size w w' := by
  obtain ⟨W1, hW1⟩ : ∃ x, w.alloc (.cells #[.int .i64 1, .int .i64 2] 3) = x := ⟨_, rfl⟩
  have b1 : Below w.heap.size w W1 := by rw [← hW1]; exact (Below.refl _ _).alloc (Nat.le_refl _) _
  have s1 : W1.heap.size = w.heap.size + 1 := by rw [← hW1]; simp
  obtain ⟨W2, hW2⟩ : ∃ x, W1.alloc (.cells #[.int .i64 (-1), .int .i64 3] 3) = x := ⟨_, rfl⟩
  have b2 : Below W1.heap.size W1 W2 := by rw [← hW2]; exact (Below.refl _ _).alloc (Nat.le_refl _) _
  have s2 : W2.heap.size = W1.heap.size + 1 := by rw [← hW2]; simp
  have l1 : ILies W2 W2.heap.size (some ⟨w.heap.size, 0, none⟩) [1, 2] := by
    have h := two_lie w 1 2 (by unfold I64; decide) (by unfold I64; decide)
    rw [hW1, ← s1] at h
    exact (h.below b2).more b2.size
  have l2 : ILies W2 W2.heap.size (some ⟨W1.heap.size, 0, none⟩) [-1, 3] := by
    have h := two_lie W1 (-1) 3 (by unfold I64; decide) (by unfold I64; decide)
    rw [hW2, ← s2] at h
    exact h
  have RS := Lib.hid (P.resolve [1, 2] [-1, 3] (some ⟨w.heap.size, 0, none⟩) (some ⟨W1.heap.size, 0, none⟩) 2 2 1 W2 l1 l2 (by unfold I64; decide) (by simpa using hN))
  rw [page_e, page_l] at RS
  simp only [List.length_cons, List.length_nil] at RS
  have B2 : Hid (Below w.heap.size w W2) := b1.trans (b2.mono (by omega))
  clear l1 l2 b1 b2 s1 s2
  go_enter Try.func6, Try.ntmps6
  go_wp2_with fail
  refine RS.out.mono ?_
  rintro e w3 ⟨⟨A3, q3, rfl, hl⟩, hb⟩
  have B3 : Hid (Below w.heap.size w w3) := B2.out.trans (hb.mono B2.out.size)
  clear hW1 hW2 RS hb
  obtain ⟨W4, hW4⟩ : ∃ x, w3.alloc (.cells #[.int .i64 2, .int .i64 3] 3) = x := ⟨_, rfl⟩
  have b4 : Below w3.heap.size w3 W4 := by rw [← hW4]; exact (Below.refl _ _).alloc (Nat.le_refl _) _
  have s4 : W4.heap.size = w3.heap.size + 1 := by rw [← hW4]; simp
  have l4 : ILies W4 W4.heap.size (some ⟨w3.heap.size, 0, none⟩) [2, 3] := by
    have h := two_lie w3 2 3 (by unfold I64; decide) (by unfold I64; decide)
    rw [hW4, ← s4] at h
    exact h
  have IN := Lib.hid (ints_any [2, 3] [2, 3] A3 (some ⟨w3.heap.size, 0, none⟩) q3 2 W4 ((hl.below b4).more b4.size) l4)
  rw [show decide (([2, 3] : List Int) = [2, 3]) = true from by decide] at IN
  simp only [List.length_cons, List.length_nil] at IN
  have B4 : Hid (Below w.heap.size w W4) := B3.out.trans (b4.mono B3.out.size)
  clear hl b4 s4 l4
  go_wp2_with (go_at_call 11; refine (num_any _ _).mono ?_; rintro e w' ⟨rfl, rfl⟩)
  refine IN.out.mono ?_
  rintro e w5 ⟨rfl, hb⟩
  have B5 : Hid (Below w.heap.size w w5) := B4.out.trans (hb.mono B4.out.size)
  clear hb hW4 IN
  go_wp2
  go_ret
  exact ⟨rfl, B5.out⟩
set_option maxHeartbeats 16000000 in
set_option maxRecDepth 100000 in
theorem parts_walk {N : Nat} (P : Prog10 N) (hN : 4 ≤ N) (a b c : List Int) (A B C : Option Addr) (q r t : Nat) (w : World) (ha : ILies w w.heap.size A a) (hb : ILies w w.heap.size B b) (hc : ILies w w.heap.size C c) (hna : a.length ≤ N) (hnb : b.length ≤ N) (hnc : c.length ≤ N) :
    Calls Try.prog 5 #[.slice A a.length q, .slice B b.length r, .slice C c.length t] w fun e w' => e = .returned (.bool true) ∧ Below w.heap.size w w' := by
  have AL := Lib.hid (alive_any P hN w)
  have KA : Hid (∀ x, Below w.heap.size w x → ILies x x.heap.size A a) := fun x hx => (ha.below hx).more hx.size
  have KB : Hid (∀ x, Below w.heap.size w x → ILies x x.heap.size B b) := fun x hx => (hb.below hx).more hx.size
  have KC : Hid (∀ x, Below w.heap.size w x → ILies x x.heap.size C c) := fun x hx => (hc.below hx).more hx.size
  have S1 := Lib.hid (fun x hx => P.subsumes a a A A q q x (KA.out x hx) (KA.out x hx) hna)
  have S2 := Lib.hid (fun x hx => P.subsumes [] a none A 0 q x (ILies.nil _ _ _) (KA.out x hx) hna)
  have S3 := Lib.hid (fun x hx => P.subsumes a b A B q r x (KA.out x hx) (KB.out x hx) hnb)
  have S4 := Lib.hid (fun x hx => P.subsumes b c B C r t x (KB.out x hx) (KC.out x hx) hnc)
  have S5 := Lib.hid (fun x hx => P.subsumes a c A C q t x (KA.out x hx) (KC.out x hx) hnc)
  rw [subs_refl] at S1
  rw [subs_nil] at S2
  simp only [List.length_nil] at S2
  have HT : Hid (subsM a b = true → subsM b c = true → subsM a c = true) := fun h k => subs_trans h k
  generalize subsM a b = y1 at *
  generalize subsM b c = y2 at *
  generalize subsM a c = y3 at *
  clear ha hb hc KA KB KC hna hnb hnc
  go_enter Try.func5, Try.ntmps5
  go_wp2_with fail
  refine AL.out.mono ?_
  rintro e w1 ⟨rfl, hb⟩
  have B1 : Hid (Below w.heap.size w w1) := hb
  clear hb AL
  go_wp2_with fail
  refine (S1.out w1 B1.out).mono ?_
  rintro e w2 ⟨rfl, hb⟩
  have B2 : Hid (Below w.heap.size w w2) := B1.out.trans (hb.mono B1.out.size)
  clear hb S1
  go_wp2_with fail
  refine (S2.out w2 B2.out).mono ?_
  rintro e w3 ⟨rfl, hb⟩
  have B3 : Hid (Below w.heap.size w w3) := B2.out.trans (hb.mono B2.out.size)
  clear hb S2
  go_wp2_with fail
  refine (S3.out w3 B3.out).mono ?_
  rintro e w4 ⟨rfl, hb⟩
  have B4 : Hid (Below w.heap.size w w4) := B3.out.trans (hb.mono B3.out.size)
  clear hb S3
  cases y1 with
  | false =>
    go_wp2
    go_ret
    exact ⟨rfl, B4.out⟩
  | true =>
    go_wp2_with fail
    refine (S4.out w4 B4.out).mono ?_
    rintro e w5 ⟨rfl, hb⟩
    have B5 : Hid (Below w.heap.size w w5) := B4.out.trans (hb.mono B4.out.size)
    clear hb S4
    cases y2 with
    | false =>
      go_wp2
      go_ret
      exact ⟨rfl, B5.out⟩
    | true =>
      have h3 := HT.out (by trivial) (by trivial)
      rw [h3] at S5
      clear h3
      go_wp2_with fail
      refine (S5.out w5 B5.out).mono ?_
      rintro e w6 ⟨rfl, hb⟩
      have B6 : Hid (Below w.heap.size w w6) := B5.out.trans (hb.mono B5.out.size)
      clear hb S5
      go_wp2
      go_ret
      exact ⟨rfl, B6.out⟩
set_option maxHeartbeats 16000000 in
set_option maxRecDepth 100000 in
theorem sound_walk {N : Nat} (P : Prog10 N) (hN : 4 ≤ N) (a b : List Int) (A B : Option Addr) (q r : Nat) (v : Int) (m : ByteArray) (w : World) (ha : ILies w w.heap.size A a) (hb : ILies w w.heap.size B b) (hv : I64 v) (hm : m.size ≤ 9223372036854775807) (hab : a.length + b.length ≤ N) :
    Calls Try.prog 3 #[.slice A a.length q, .slice B b.length r, .int .i64 v, .string m] w fun e w' => e = .returned (.bool true) ∧ Below w.heap.size w w' := by
  have AL := Lib.hid (alive_any P hN w)
  have KA : Hid (∀ x, Below w.heap.size w x → ILies x x.heap.size A a) := fun x hx => (ha.below hx).more hx.size
  have KB : Hid (∀ x, Below w.heap.size w x → ILies x x.heap.size B b) := fun x hx => (hb.below hx).more hx.size
  have RS := Lib.hid (fun x hx => P.resolve a b A B q r v x (KA.out x hx) (KB.out x hx) hv hab)
  have NM := Lib.hid (fun x hx => P.norm a A q x (KA.out x hx) (by omega))
  have SB := Lib.hid (fun x hx => P.subsumes a b A B q r x (KA.out x hx) (KB.out x hx) (by omega))
  have OA := Lib.hid (fun x hx => one_any m a A q x hm (KA.out x hx))
  have OB := Lib.hid (fun x hx => one_any m b B r x hm (KB.out x hx))
  have HSO : Hid (subsM a b = true → oneM m a = true → oneM m b = true) := fun h k => subs_one h k
  have HRS : Hid (rE a b v = 0 → v ≤ (m.size : Int) → oneM m a = true → oneM m b = true → oneM m (rL a b v) = true) := fun h h2 h3 h4 => by
    have hok : resOk a b v = true := by
      cases hq : resOk a b v with
      | true => rfl
      | false => unfold rE at h; rw [hq] at h; exact absurd h (by decide)
    unfold rL
    rw [if_pos hok]
    exact res_sound hok hv.2 h2 h3 h4
  have HON := Lib.hid (one_norm m a)
  have HM := Lib.hid hm
  clear ha hb hab hm
  generalize rE a b v = re at *
  generalize rL a b v = rl at *
  generalize normM a = nl at *
  generalize alwaysM a = ya at *
  generalize subsM a b = ys at *
  generalize oneM m a = x at *
  generalize oneM m b = y at *
  go_enter Try.func3, Try.ntmps3
  go_wp2_with fail
  refine AL.out.mono ?_
  rintro e w1 ⟨rfl, hb⟩
  have B1 : Hid (Below w.heap.size w w1) := hb
  clear hb AL
  go_wp2_with fail
  refine (RS.out w1 B1.out).mono ?_
  rintro e w2 ⟨⟨A2, q2, rfl, hl2⟩, hb⟩
  have B2 : Hid (Below w.heap.size w w2) := B1.out.trans (hb.mono B1.out.size)
  have L2 : Hid (∀ x, Below w2.heap.size w2 x → ILies x x.heap.size A2 rl) := fun x hx => (hl2.below hx).more hx.size
  clear hb RS hl2
  go_wp2_with fail
  refine (NM.out w2 B2.out).mono ?_
  rintro e w3 ⟨⟨A3, q3, rfl, hl3⟩, hb⟩
  have B3 : Hid (Below w.heap.size w w3) := B2.out.trans (hb.mono B2.out.size)
  have B23 := Lib.hid hb
  have O3 := Lib.hid (one_any m nl A3 q3 w3 HM.out hl3)
  rw [HON.out] at O3
  have O1 := Lib.hid (OA.out w3 B3.out)
  have O2 := Lib.hid (OB.out w3 B3.out)
  clear hb NM hl3 OA OB
  go_wp2_with fail
  refine O1.out.mono ?_
  rintro e w' ⟨rfl, rfl⟩
  go_wp2_with fail
  refine O2.out.mono ?_
  rintro e w' ⟨rfl, rfl⟩
  go_wp2_with fail
  refine O3.out.mono ?_
  rintro e w' ⟨rfl, rfl⟩
  have hxx : (x != x) = false := by cases x <;> rfl
  clear O1 O2 O3
  go_wp2_with fail
  refine (SB.out w3 B3.out).mono ?_
  rintro e w4 ⟨rfl, hb⟩
  have B4 : Hid (Below w.heap.size w w4) := B3.out.trans (hb.mono B3.out.size)
  have O4 := Lib.hid (one_any m rl A2 q2 w4 HM.out (L2.out w4 (B23.out.trans (hb.mono B23.out.size))))
  clear hb SB hxx
  by_cases he : re = 0
  · subst he
    cases x with
    | false =>
      cases ys <;>
      (go_wp2_with (go_at_call 11; refine (num_any _ _).mono ?_; rintro e w' ⟨rfl, rfl⟩)
       go_ret
       exact ⟨rfl, B4.out⟩)
    | true =>
      cases y with
      | false =>
        cases ys with
        | true => exact absurd (HSO.out (by trivial) (by trivial)) (by decide)
        | false =>
          go_wp2_with (go_at_call 11; refine (num_any _ _).mono ?_; rintro e w' ⟨rfl, rfl⟩)
          go_ret
          exact ⟨rfl, B4.out⟩
      | true =>
        by_cases hvm : v ≤ (m.size : Int)
        · have h4 := HRS.out (by trivial) hvm (by trivial) (by trivial)
          rw [h4] at O4
          have hvd : decide ((m.size : Int) < v) = false := decide_eq_false (by omega)
          have hvn : ¬ (m.size : Int) < v := by omega
          clear h4
          cases ys <;>
          (go_wp2_with (go_at_call 11; refine (num_any _ _).mono ?_; rintro e w' ⟨rfl, rfl⟩)
           refine O4.out.mono ?_
           rintro e w' ⟨rfl, rfl⟩
           go_wp2
           go_ret
           exact ⟨rfl, B4.out⟩)
        · have hvn : (m.size : Int) < v := by omega
          have hvd : decide ((m.size : Int) < v) = true := decide_eq_true hvn
          cases ys <;>
          (go_wp2_with (go_at_call 11; refine (num_any _ _).mono ?_; rintro e w' ⟨rfl, rfl⟩)
           go_ret
           exact ⟨rfl, B4.out⟩)
  · have hne : (re != 0) = true := bne_iff_ne.2 he
    cases ys with
    | false =>
      go_wp2_with (go_at_call 11; refine (num_any _ _).mono ?_; rintro e w' ⟨rfl, rfl⟩)
      go_ret
      exact ⟨rfl, B4.out⟩
    | true =>
      cases x with
      | false =>
        go_wp2_with (go_at_call 11; refine (num_any _ _).mono ?_; rintro e w' ⟨rfl, rfl⟩)
        go_ret
        exact ⟨rfl, B4.out⟩
      | true =>
        cases y with
        | false => exact absurd (HSO.out (by trivial) (by trivial)) (by decide)
        | true =>
          go_wp2_with (go_at_call 11; refine (num_any _ _).mono ?_; rintro e w' ⟨rfl, rfl⟩)
          go_ret
          exact ⟨rfl, B4.out⟩
set_option maxHeartbeats 16000000 in
set_option maxRecDepth 100000 in
theorem norm_walk {N : Nat} (P : Prog10 N) (hN : 4 ≤ N) (a : List Int) (A : Option Addr) (q : Nat) (w : World) (ha : ILies w w.heap.size A a) (haN : a.length ≤ N) :
    Calls Try.prog 4 #[.slice A a.length q] w fun e w' => e = .returned (.bool true) ∧ Below w.heap.size w w' := by
  have AL := Lib.hid (alive_any P hN w)
  have KA : Hid (∀ x, Below w.heap.size w x → ILies x x.heap.size A a) := fun x hx => (ha.below hx).more hx.size
  have NM := Lib.hid (fun x hx => P.norm a A q x (KA.out x hx) haN)
  have HNL : Hid ((normM a).length ≤ N) := Nat.le_trans (norm_len a) haN
  have NN := Lib.hid (fun A' q' x hx => P.norm (normM a) A' q' x hx HNL.out)
  rw [norm_norm, always_norm] at NN
  have II := Lib.hid (fun A' q' A2 q2 x h1 h2 => ints_any (normM a) (normM a) A' A2 q' q2 x h1 h2)
  rw [decide_eq_true rfl] at II
  have SM := Lib.hid (fun A' q' x hx h2 => P.same a (normM a) A A' q q' x (KA.out x hx) h2 haN HNL.out)
  rw [norm_norm, decide_eq_true rfl] at SM
  have HAL : Hid (alwaysM a = a.any (fun x => decide (0 < x) && a.contains (-x))) := rfl
  have HAN := Lib.hid ha.len
  clear ha haN
  generalize normM a = nl at *
  generalize alwaysM a = ya at *
  go_enter Try.func4, Try.ntmps4
  go_wp2_with fail
  refine AL.out.mono ?_
  rintro e w1 ⟨rfl, hb⟩
  have B1 : Hid (Below w.heap.size w w1) := hb
  clear hb AL
  go_wp2_with fail
  refine (NM.out w1 B1.out).mono ?_
  rintro e w2 ⟨⟨A2, q2, rfl, hl2⟩, hb⟩
  have B2 : Hid (Below w.heap.size w w2) := B1.out.trans (hb.mono B1.out.size)
  have L2 := Lib.hid hl2
  clear hb NM hl2
  go_wp2_with fail
  refine (NN.out A2 q2 w2 L2.out).mono ?_
  rintro e w3 ⟨⟨A3, q3, rfl, hl3⟩, hb⟩
  have B3 : Hid (Below w.heap.size w w3) := B2.out.trans (hb.mono B2.out.size)
  have L3 : Hid (∀ x, Below w3.heap.size w3 x → ILies x x.heap.size A3 nl) := fun x hx => (hl3.below hx).more hx.size
  have L23 : Hid (∀ x, Below w3.heap.size w3 x → ILies x x.heap.size A2 nl) := fun x hx => by
    have := hb.trans (hx.mono hb.size)
    exact (L2.out.below this).more this.size
  clear hb NN hl3 L2
  go_wp2
  go_loopw [7, 8] (fun t i wr => ∃ k : Nat, k ≤ a.length ∧ i = .int .i64 k ∧ t = .bool ((a.take k).any (fun x => decide (0 < x) && a.contains (-x))) ∧ Below w3.heap.size w3 wr) (fun _ i _ => a.length - (intOf i).toNat)
  case atStart => exact ⟨0, Nat.zero_le _, rfl, rfl, Below.refl _ _⟩
  case round =>
    obtain ⟨k, hk, rfl, rfl, hbw⟩ := hrel
    have HB := Lib.hid hbw
    have hal := HAN.out
    clear hbw
    by_cases hlt : k < a.length
    · have HTK : Hid ((a.take (k + 1)).any (fun x => decide (0 < x) && a.contains (-x)) = ((a.take k).any (fun x => decide (0 < x) && a.contains (-x)) || (decide (0 < a[k]) && (a.take a.length).contains (-a[k])))) := by
        unfold Hid
        rw [List.take_succ_eq_append_getElem hlt, List.any_append, List.take_length]; simp
      obtain ⟨wo, rfl⟩ : ∃ x, x = wr := ⟨_, rfl⟩
      have hfx := (KA.out wo (B3.out.trans (HB.out.mono B3.out.size))).fits _ (List.getElem_mem hlt)
      have LK : Hid (∀ y, Below w3.heap.size w3 y → ∃ b o, A = some ⟨b, o, none⟩ ∧ y.cell? ⟨b, o + k, none⟩ = some (.int .i64 a[k])) := fun y hy => by
        obtain ⟨b, o, h1, _, h2⟩ := LRow.int (KA.out y (B3.out.trans (hy.mono B3.out.size))).row hlt
        exact ⟨b, o, h1, h2⟩
      generalize a[k] = x at *
      generalize (a.take k).any (fun x => decide (0 < x) && a.contains (-x)) = v0 at *
      have HFX := Lib.hid hfx
      have HV0 : Hid (v0 = (v0 || (decide (0 < x) && (a.take 0).contains (-x)))) := by unfold Hid; simp
      clear hfx
      go_wp2
      go_loopw [7, 9] (fun t i wr => ∃ j : Nat, j ≤ a.length ∧ i = .int .i64 j ∧ t = .bool (v0 || (decide (0 < x) && (a.take j).contains (-x))) ∧ Below w3.heap.size w3 wr) (fun _ i _ => a.length - (intOf i).toNat)
      case atStart => exact ⟨0, Nat.zero_le _, rfl, by rw [← HV0.out], HB.out⟩
      case round =>
        clear HB
        obtain ⟨j, hj, rfl, rfl, hbw⟩ := hrel
        have HB := Lib.hid hbw
        have hkz : (k : Int) < (a.length : Int) := by omega
        have hk0 : (0 : Int) ≤ (k : Int) := by omega
        clear hbw
        by_cases hltj : j < a.length
        · have HTJ : Hid ((v0 || (decide (0 < x) && (a.take (j + 1)).contains (-x))) = ((v0 || (decide (0 < x) && (a.take j).contains (-x))) || (decide (0 < x) && (a[j] == -x)))) := by
            unfold Hid
            rw [List.take_succ_eq_append_getElem hltj]
            rw [Bool.eq_iff_iff]
            simp only [Bool.or_eq_true, Bool.and_eq_true, decide_eq_true_eq, List.contains_iff_mem, List.mem_append, List.mem_singleton, beq_iff_eq]
            constructor
            · rintro (h | ⟨h, h2 | h2⟩)
              · exact .inl (.inl h)
              · exact .inl (.inr ⟨h, h2⟩)
              · exact .inr ⟨h, h2.symm⟩
            · rintro ((h | ⟨h, h2⟩) | ⟨h, h2⟩)
              · exact .inl h
              · exact .inr ⟨h, .inl h2⟩
              · exact .inr ⟨h, .inr h2.symm⟩
          obtain ⟨b1, o1, hA1, hck⟩ := LK.out wr HB.out
          obtain ⟨b2, o2, hA2, -, hcj⟩ := LRow.int (KA.out wr (B3.out.trans (HB.out.mono B3.out.size))).row hltj
          rw [hA1] at hA2
          injection hA2 with hA2
          injection hA2 with hA2 hA3 _
          subst hA2 hA3
          have hjz : (j : Int) < (a.length : Int) := by omega
          have hj0 : (0 : Int) ≤ (j : Int) := by omega
          have hx1 : x ≤ 9223372036854775807 := HFX.out.2
          subst hA1
          generalize a[j] = y at *
          generalize (v0 || (decide (0 < x) && (a.take j).contains (-x))) = v1 at *
          obtain ⟨v2, hv2⟩ : ∃ z, (v0 || (decide (0 < x) && (a.take (j + 1)).contains (-x))) = z := ⟨_, rfl⟩
          rw [hv2] at HTJ
          have HV2 := Lib.hid hv2
          clear hv2
          cases v1 with
          | true =>
            have HX : Hid (v2 = true) := HTJ.out
            clear HTJ
            go_wp2
            have u1 := Wd.cell hck
            have u2 := Wd.cell hcj
            refine wp_region_wd (by kernel_rfl) (by kernel_rfl) ?_
            repeat (first | go_big_quiet_skip | (go_big_quiet_want; go_big_quiet_op; go_big_quiet_on))
            refine wpQuiet_nil ?_
            intro wz9 hw'
            obtain ⟨⟨_, hb9⟩, hw''⟩ := hw'
            subst hw''
            have BN : Hid (Below w3.heap.size w3 wz9) := HB.out.trans (hb9.mono HB.out.size)
            clear hb9 u1 u2 hck hcj
            go_wp2
            go_roundw
            case rel => exact ⟨j + 1, by omega, by go_num, by rw [HV2.out, HX.out], BN.out⟩
            case measure => simp [intOf]; omega
          | false =>
            by_cases hx0 : 0 < x
            · have hxd : decide (0 < x) = true := decide_eq_true hx0
              have hneg : wrap64 (-x) = -x := by unfold wrap64; omega
              by_cases hye : y = -x
              · have hyb : (y == -x) = true := by rw [beq_iff_eq]; exact hye
                have HX : Hid (v2 = true) := by unfold Hid; rw [HTJ.out, hxd, hyb]; rfl
                clear HTJ hye
                go_wp2
                have u1 := Wd.cell hck
                have u2 := Wd.cell hcj
                refine wp_region_wd (by kernel_rfl) (by kernel_rfl) ?_
                repeat (first | go_big_quiet_skip | (go_big_quiet_want; go_big_quiet_op; go_big_quiet_on))
                refine wpQuiet_nil ?_
                intro wz9 hw'
                obtain ⟨⟨_, hb9⟩, hw''⟩ := hw'
                subst hw''
                have BN : Hid (Below w3.heap.size w3 wz9) := HB.out.trans (hb9.mono HB.out.size)
                clear hb9 u1 u2 hck hcj
                go_wp2
                go_roundw
                case rel => exact ⟨j + 1, by omega, by go_num, by rw [HV2.out, HX.out], BN.out⟩
                case measure => simp [intOf]; omega
              · have hyb : (y == -x) = false := beq_eq_false_iff_ne.2 hye
                have HX : Hid (v2 = false) := by unfold Hid; rw [HTJ.out, hxd, hyb]; rfl
                clear HTJ hye
                go_wp2
                have u1 := Wd.cell hck
                have u2 := Wd.cell hcj
                refine wp_region_wd (by kernel_rfl) (by kernel_rfl) ?_
                repeat (first | go_big_quiet_skip | (go_big_quiet_want; go_big_quiet_op; go_big_quiet_on))
                refine wpQuiet_nil ?_
                intro wz9 hw'
                obtain ⟨⟨_, hb9⟩, hw''⟩ := hw'
                subst hw''
                have BN : Hid (Below w3.heap.size w3 wz9) := HB.out.trans (hb9.mono HB.out.size)
                clear hb9 u1 u2 hck hcj
                go_wp2
                go_roundw
                case rel => exact ⟨j + 1, by omega, by go_num, by rw [HV2.out, HX.out], BN.out⟩
                case measure => simp [intOf]; omega
            · have hxd : decide (0 < x) = false := decide_eq_false hx0
              have hxl : x ≤ 0 := by omega
              have HX : Hid (v2 = false) := by unfold Hid; rw [HTJ.out, hxd]; rfl
              clear HTJ
              go_wp2
              have u1 := Wd.cell hck
              have u2 := Wd.cell hcj
              refine wp_region_wd (by kernel_rfl) (by kernel_rfl) ?_
              repeat (first | go_big_quiet_skip | (go_big_quiet_want; go_big_quiet_op; go_big_quiet_on))
              refine wpQuiet_nil ?_
              intro wz9 hw'
              obtain ⟨⟨_, hb9⟩, hw''⟩ := hw'
              subst hw''
              have BN : Hid (Below w3.heap.size w3 wz9) := HB.out.trans (hb9.mono HB.out.size)
              clear hb9 u1 u2 hck hcj
              go_wp2
              go_roundw
              case rel => exact ⟨j + 1, by omega, by go_num, by rw [HV2.out, HX.out], BN.out⟩
              case measure => simp [intOf]; omega
        · obtain rfl : j = a.length := by omega
          go_wp2
          go_roundw
          case rel => exact ⟨k + 1, by omega, by go_num, by rw [HTK.out], HB.out⟩
          case measure => simp [intOf]; omega
    · obtain rfl : k = a.length := by omega
      rw [List.take_length, ← HAL.out]
      have B4 : Hid (Below w.heap.size w wr) := B3.out.trans (HB.out.mono B3.out.size)
      have I4 := Lib.hid (II.out A2 q2 A3 q3 wr (L23.out wr HB.out) (L3.out wr HB.out))
      clear II
      go_wp2_with fail
      refine I4.out.mono ?_
      rintro e w5 ⟨rfl, hb⟩
      have B5 : Hid (Below w.heap.size w w5) := B4.out.trans (hb.mono B4.out.size)
      have S5 := Lib.hid (SM.out A2 q2 w5 B5.out (L23.out w5 (HB.out.trans (hb.mono HB.out.size))))
      have hyy : (ya == ya) = true := by cases ya <;> rfl
      clear hb SM I4
      go_wp2_with fail
      refine S5.out.mono ?_
      rintro e w6 ⟨rfl, hb⟩
      have B6 : Hid (Below w.heap.size w w6) := B5.out.trans (hb.mono B5.out.size)
      clear hb S5
      go_wp2
      go_ret
      exact ⟨rfl, B6.out⟩
end Go.Proofs.Ytoifogbfhlnlaaa.Cla
