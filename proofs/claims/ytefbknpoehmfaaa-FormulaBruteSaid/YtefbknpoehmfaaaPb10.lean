/- interlockref10.less, Norm; condition: the list lies in memory. interlockref10.Units; condition: the lists lie in memory. What follows by units, as what is derived; the pages' way finds just that. No program is named here. Condition: numbers of the formula's variables. -/
import Derived.Test.YtefbknpoehmfaaaPb08
import Derived.Test.YtefbknpoehmfaaaPb06
import Derived.Test.YtefbknpoehmfaaaPb09
import Derived.Test.YtefbknpoehmfaaaPb04
namespace Go.Proofs.Ytefbknpoehmfaaa.For
open Go.ChangeShapes Go.WideShapes Go.ChangeAt Go.RowKit Go.Maps Circ Cw Cla Rep

/-- where out[k:] lies -/
def tailA (A : Option Addr) (q k : Nat) : Option Addr := if q = k then A else A.map (·.add (k * 1))
theorem tail_row {w : World} {B : Nat} {A : Option Addr} {o : List Int} (h : LRow w B 1 A (ints o)) {q k : Nat} (hq : o.length ≤ q) : LRow w B 1 (tailA A q k) (ints (o.drop k)) := by
  by_cases he : o.drop k = []
  · rw [he]; exact .inl rfl
  · have hlt : k < o.length := by
      rcases Nat.lt_or_ge k o.length with h | h
      · exact h
      · exact absurd (List.drop_of_length_le h) he
    rcases h with h | ⟨b, of, rfl, hb, hc⟩
    · have : o.length = 0 := by have := congrArg List.length h; simpa [ints] using this
      omega
    · refine .inr ⟨b, of + k, ?_, hb, fun i ys hi j u hj => ?_⟩
      · unfold tailA
        rw [if_neg (by omega), Nat.mul_one]
        show some ((⟨b, of, none⟩ : Addr).add k) = _
        unfold Addr.add
        by_cases hz : k = 0 <;> simp [hz]
      · have := hc (k + i) ys (by unfold ints at hi ⊢; rw [List.getElem?_map] at hi ⊢; rw [List.getElem?_drop] at hi; exact hi) j u hj
        rw [show of + k + (i * 1 + j) = of + ((k + i) * 1 + j) by omega]
        exact this
theorem op_slice_lo (a : Act) (w : World) (A : Option Addr) (n q k t s : Nat) (h1 : a.tmps.getD t undef = .slice A n q) (h2 : a.tmps.getD s undef = .int .i64 (k : Int)) (hk : k ≤ n) (hq : n ≤ q) (oo : Oper) (ho : oo.op = .slice 25 (.tmp t) (some (.tmp s)) none none) : (execOp a.eval oo).run Try.prog w = .ok (.value (.slice (tailA A q k) (n - k) (q - k))) w := by
  have h1' : a.tmps[t]?.getD undef = .slice A n q := by simpa using h1
  have h2' : a.tmps[s]?.getD undef = .int .i64 (k : Int) := by simpa using h2
  have k0 : (0 : Int) ≤ (k : Int) := by omega
  have k1 : (k : Int) ≤ (n : Int) := by omega
  have k2 : (n : Int) ≤ (q : Int) := by omega
  unfold tailA
  unfold execOp
  rw [ho]
  go_simp
theorem op_move (a : Act) (w : World) (t : Nat) (oo : Oper) (ho : oo.op = .move (.tmp t)) : (execOp a.eval oo).run Try.prog w = .ok (.value (a.tmps.getD t undef)) w := by
  unfold execOp
  rw [ho]
  go_simp
theorem op_assign (a : Act) (w : World) (t : Nat) (oo : Oper) (ho : oo.op = .assign (.tmp t)) : (execOp a.eval oo).run Try.prog w = .ok (.value (a.tmps.getD t undef)) w := by
  unfold execOp
  rw [ho]
  go_simp
/-- where a region of three writers (operations 2, 3, 7) stands -/
structure Put3 (W0 W1 W2 W3 : World) (d : Nat → Bool) (w : World) : Prop where
  c0 : d 2 = false → w = W0
  c1 : d 2 = true → d 3 = false → w = W1
  c2 : d 3 = true → d 7 = false → w = W2
  c3 : d 7 = true → w = W3
  o6 : d 3 = true → d 2 = true
  o9 : d 7 = true → d 3 = true
theorem Put3.start (W0 W1 W2 W3 : World) : Put3 W0 W1 W2 W3 (fun _ => false) W0 := ⟨fun _ => rfl, (fun h => by cases h), (fun h => by cases h), (fun h => by cases h), (fun h => by cases h), (fun h => by cases h)⟩
theorem Put3.read {W0 W1 W2 W3 : World} {d : Nat → Bool} {w : World} (h : Put3 W0 W1 W2 W3 d w) {i : Nat} (h3 : 2 ≠ i) (h6 : 3 ≠ i) (h9 : 7 ≠ i) : Put3 W0 W1 W2 W3 (fun j => decide (j = i) || d j) w := by
  obtain ⟨a, b, c, e, f, g⟩ := h
  constructor <;> simp only [h3, h6, h9, decide_false, Bool.false_or] <;> assumption
theorem Put3.first {W0 W1 W2 W3 : World} {d : Nat → Bool} {w : World} (_h : Put3 W0 W1 W2 W3 d w) (h6 : d 3 = false) (h9 : d 7 = false) : Put3 W0 W1 W2 W3 (fun j => decide (j = 2) || d j) W1 := by
  constructor <;> simp [h6, h9]
theorem Put3.second {W0 W1 W2 W3 : World} {d : Nat → Bool} {w : World} (_h : Put3 W0 W1 W2 W3 d w) (h3 : d 2 = true) (h9 : d 7 = false) : Put3 W0 W1 W2 W3 (fun j => decide (j = 3) || d j) W2 := by
  constructor <;> simp [h3, h9]
theorem Put3.third {W0 W1 W2 W3 : World} {d : Nat → Bool} {w : World} (h : Put3 W0 W1 W2 W3 d w) (h6 : d 3 = true) : Put3 W0 W1 W2 W3 (fun j => decide (j = 7) || d j) W3 := by
  constructor <;> simp [h6, h.o6 h6]
theorem ints_len (l : List Int) : (ints l).length = l.length := by unfold ints; simp
theorem ints_one (l : List Int) : ∀ y ∈ ints l, ∀ u ∈ y, u.oneCell' = true := fun y hy u hu => by
  obtain ⟨_, _, rfl⟩ := List.mem_map.1 hy
  simp only [List.mem_singleton] at hu
  subst hu; rfl
end Go.Proofs.Ytefbknpoehmfaaa.For
namespace Go.Proofs.Ytefbknpoehmfaaa.For
open Go.ChangeShapes Go.WideShapes Go.ChangeAt Go.RowKit Go.Maps Circ Cw Cla Rep

theorem few_abs (m : Nat) : ∀ (l : List Int), l.Nodup → (∀ x ∈ l, 1 ≤ x ∧ x ≤ m) → l.length ≤ m := by
  induction m with
  | zero =>
    intro l _ h
    cases l with
    | nil => exact Nat.le_refl _
    | cons x l => have := h x List.mem_cons_self; omega
  | succ m ih =>
    intro l hn h
    have h1 : (l.filter (fun x => decide (x ≠ ((m : Int) + 1)))).length ≤ m := by
      refine ih _ (hn.filter _) (fun x hx => ?_)
      rw [List.mem_filter] at hx
      have := h x hx.1
      have h2 := of_decide_eq_true hx.2
      omega
    have h2 : ∀ (l : List Int) (y : Int), l.Nodup → l.length ≤ (l.filter (fun x => decide (x ≠ y))).length + 1 := by
      intro l y
      induction l with
      | nil => intro _; simp
      | cons x l ih =>
        intro hn
        obtain ⟨n1, n2⟩ := List.nodup_cons.1 hn
        by_cases hx : x = y
        · subst hx
          rw [List.filter_cons_of_neg (by simp), List.filter_eq_self.2 (fun a ha => decide_eq_true (show a ≠ x from fun e => n1 (by rw [← e]; exact ha)))]
          simp
        · rw [List.filter_cons_of_pos (by simpa using hx)]
          have := ih n2
          simp only [List.length_cons]; omega
    have := h2 l ((m : Int) + 1) hn
    omega
/-- what is set: literals of the variables, of each variable once at most -/
structure SetOk (vars : Int) (s : List Int) : Prop where
  lit : ∀ z ∈ s, I64 z ∧ litOk vars z = true
  one : (s.map absW).Nodup
theorem SetOk.nil (vars : Int) : SetOk vars [] := ⟨fun _ hz => (List.not_mem_nil hz).elim, List.Pairwise.nil⟩
theorem SetOk.len {vars : Int} {s : List Int} (h : SetOk vars s) (hv : 0 ≤ vars) : (s.length : Int) ≤ vars := by
  have := few_abs vars.toNat (s.map absW) h.one (fun x hx => by
    obtain ⟨z, hz, rfl⟩ := List.mem_map.1 hx
    have := (lit_iff vars z).1 (h.lit z hz).2
    omega)
  rw [List.length_map] at this
  omega
theorem abs_same {x y : Int} (hx : I64 x) (hy : I64 y) (h1 : 1 ≤ absW x) (h : absW y = absW x) : y = x ∨ y = negW x := by
  unfold I64 at hx hy
  unfold absW negW at h1 h
  unfold negW
  split at h <;> split at h <;> (try split at h) <;> (try split at h) <;> (try split at h1) <;> (try split at h1) <;> (try split) <;> omega
theorem SetOk.add {vars : Int} {s : List Int} {x : Int} (h : SetOk vars s) (hx : I64 x) (hl : litOk vars x = true) (hv : valM s x = 0) : SetOk vars (s ++ [x]) := by
  refine ⟨fun z hz => ?_, ?_⟩
  · rcases List.mem_append.1 hz with hz | hz
    · exact h.lit z hz
    · rw [List.mem_singleton.1 hz]; exact ⟨hx, hl⟩
  · rw [List.map_append, List.nodup_append]
    refine ⟨h.one, by simp, fun a ha b hb => ?_⟩
    obtain ⟨z, hz, rfl⟩ := List.mem_map.1 ha
    rw [List.map_singleton, List.mem_singleton] at hb
    subst hb
    intro e
    unfold valM at hv
    rcases abs_same hx (h.lit z hz).1 ((lit_iff vars x).1 hl).1 e with e2 | e2
    · rw [if_pos (List.contains_iff_mem.2 (e2 ▸ hz))] at hv; cases hv
    · split at hv
      · cases hv
      · rw [if_pos (List.contains_iff_mem.2 (e2 ▸ hz))] at hv; cases hv
theorem left_val (set : List Int) : ∀ (l : List Int) (f : Int) (many : Bool), (leftGo set l f many).1 ≠ 0 → (leftGo set l f many).1 = f ∨ ((leftGo set l f many).1 ∈ l ∧ valM set (leftGo set l f many).1 = 0)
  | [], f, many, h => by
    unfold leftGo at h ⊢
    cases many with
    | true => exact absurd rfl h
    | false => exact .inl rfl
  | x :: r, f, many, h => by
    unfold leftGo at h ⊢
    by_cases h1 : valM set x = 1
    · rw [if_pos h1] at h; exact absurd rfl h
    · rw [if_neg h1] at h ⊢
      by_cases h0 : valM set x = 0
      · rw [if_pos h0] at h ⊢
        rcases left_val set r x _ h with e | e
        · exact .inr ⟨by rw [e]; exact List.mem_cons_self, by rw [e]; exact h0⟩
        · exact .inr ⟨List.mem_cons_of_mem _ e.1, e.2⟩
      · rw [if_neg h0] at h ⊢
        rcases left_val set r f _ h with e | e
        · exact .inl e
        · exact .inr ⟨List.mem_cons_of_mem _ e.1, e.2⟩
theorem left_new {l set : List Int} (h : (leftM l set).1 ≠ 0) : (leftM l set).1 ∈ l ∧ valM set (leftM l set).1 = 0 := by
  rcases left_val set l 0 false h with e | e
  · exact absurd e h
  · exact e
theorem chk_lit {vars : Int} {l : List Int} (h : chk vars l = 0) : ∀ x ∈ l, litOk vars x = true := by
  unfold chk at h
  split at h
  · cases h
  · split at h
    · rename_i h2; exact List.all_eq_true.1 h2
    · cases h
theorem form_ok {vars : Int} {L : List (List Int)} (h : formM vars L = 0) : 0 ≤ vars ∧ vars ≤ 262144 ∧ L.length ≤ 1048576 ∧ ∀ l ∈ L, chk vars l = 0 := by
  unfold formM at h
  split at h
  · cases h
  · split at h
    · cases h
    · split at h
      · cases h
      · split at h
        · rename_i h1 h2 h3 h4
          exact ⟨by omega, by omega, by omega, fun l hl => eq_of_beq (List.all_eq_true.1 h4 l hl)⟩
        · cases h
end Go.Proofs.Ytefbknpoehmfaaa.For
namespace Go.Proofs.Ytefbknpoehmfaaa.For
open Circ Cla

/-- a literal that follows by units -/
inductive Der (L : List (List Int)) (l : List Int) : Int → Prop
  | giv (x : Int) (h : x ∈ l) : Der L l x
  | unit (c : List Int) (x : Int) (hc : c ∈ L) (hx : x ∈ c) (h : ∀ y ∈ c, y ≠ x → Der L l (-y)) : Der L l x
def Conf (L : List (List Int)) (l : List Int) : Prop := (∃ x, Der L l x ∧ Der L l (-x)) ∨ [] ∈ L
structure Closed (L : List (List Int)) (l : List Int) (S : Int → Prop) : Prop where
  giv : ∀ x ∈ l, S x
  one : ∀ x, S x → ¬ S (-x)
  each : ∀ c ∈ L, (∃ x ∈ c, S x) ∨ ∃ x ∈ c, ∃ y ∈ c, x ≠ y ∧ ¬ S (-x) ∧ ¬ S (-y)
theorem Closed.der {L : List (List Int)} {l : List Int} {S : Int → Prop} (h : Closed L l S) {x : Int} (d : Der L l x) : S x := by
  induction d with
  | giv x hx => exact h.giv x hx
  | unit c x hc hx _ ih =>
    rcases h.each c hc with ⟨y, hy, hs⟩ | ⟨y, hy, z, hz, hn, h1, h2⟩
    · by_cases e : y = x
      · exact e ▸ hs
      · exact absurd (ih y hy e) (h.one y hs)
    · by_cases e : y = x
      · exact absurd (ih z hz (fun e2 => hn (e.trans e2.symm))) h2
      · exact absurd (ih y hy e) h1
theorem Closed.fine {L : List (List Int)} {l : List Int} {S : Int → Prop} (h : Closed L l S) : ¬ Conf L l := by
  rintro (⟨x, h1, h2⟩ | h1)
  · exact h.one x (h.der h1) (h.der h2)
  · rcases h.each [] h1 with ⟨_, h, _⟩ | ⟨_, h, _⟩ <;> exact absurd h List.not_mem_nil
theorem conf_clause {L : List (List Int)} {l c : List Int} (hc : c ∈ L) (h : ∀ y ∈ c, Der L l (-y)) : Conf L l := by
  cases c with
  | nil => exact .inr hc
  | cons x r => exact .inl ⟨x, .unit _ x hc List.mem_cons_self (fun y hy _ => h y hy), h x List.mem_cons_self⟩
theorem lit_facts {vars x : Int} (h : litOk vars x = true) : negW x = -x ∧ absW x = (x.natAbs : Int) ∧ x ≠ 0 ∧ 1 ≤ x.natAbs ∧ (x.natAbs : Int) ≤ vars := by
  have h := (lit_iff vars x).1 h
  unfold absW negW at h
  unfold absW negW
  by_cases e : x = -9223372036854775808
  · subst e; simp at h
  · rw [if_neg e] at h ⊢
    split at h <;> (refine ⟨rfl, ?_, ?_, ?_, ?_⟩ <;> (try split) <;> omega)
theorem val_one {s : List Int} {x : Int} (h : valM s x = 1) : x ∈ s := by
  unfold valM at h
  cases h1 : s.contains x with
  | true => exact List.contains_iff_mem.1 h1
  | false =>
    cases h2 : s.contains (negW x) with
    | true => rw [h1, h2] at h; exact absurd h (by decide)
    | false => rw [h1, h2] at h; exact absurd h (by decide)
theorem val_neg {vars : Int} {s : List Int} {x : Int} (hx : litOk vars x = true) (h : valM s x = -1) : -x ∈ s := by
  unfold valM at h
  cases h1 : s.contains x with
  | true => rw [h1] at h; simp at h
  | false =>
    cases h2 : s.contains (negW x) with
    | true => rw [← (lit_facts hx).1]; exact List.contains_iff_mem.1 h2
    | false => rw [h1, h2] at h; exact absurd h (by decide)
theorem val_zero {vars : Int} {s : List Int} {x : Int} (hx : litOk vars x = true) (h : valM s x = 0) : x ∉ s ∧ -x ∉ s := by
  unfold valM at h
  cases h1 : s.contains x with
  | true => rw [h1] at h; simp at h
  | false =>
    cases h2 : s.contains (negW x) with
    | true => rw [h1, h2] at h; exact absurd h (by decide)
    | false =>
      rw [(lit_facts hx).1] at h2
      exact ⟨fun e => absurd ((List.contains_iff_mem.2 e).symm.trans h1) (by decide), fun e => absurd ((List.contains_iff_mem.2 e).symm.trans h2) (by decide)⟩
/-- a clause that asks for no more -/
def Fine (c s : List Int) : Prop := (∃ x ∈ c, x ∈ s) ∨ ∃ x ∈ c, ∃ y ∈ c, x ≠ y ∧ -x ∉ s ∧ -y ∉ s
theorem left_facts {vars : Int} (s : List Int) : ∀ (r : List Int) (f : Int) (many : Bool), (∀ y ∈ r, litOk vars y = true) →
    ((leftGo s r f many).2 = false → many = false ∧ f = 0 ∧ ∀ y ∈ r, -y ∈ s) ∧
    ((leftGo s r f many).2 = true → (leftGo s r f many).1 = 0 → (∃ y ∈ r, y ∈ s) ∨ many = true ∨ (∃ x ∈ r, ∃ y ∈ r, x ≠ y ∧ -x ∉ s ∧ -y ∉ s) ∨ (f ≠ 0 ∧ ∃ y ∈ r, y ≠ f ∧ -y ∉ s)) ∧
    ((leftGo s r f many).1 ≠ 0 → (f ≠ 0 ∧ (leftGo s r f many).1 = f ∧ ∀ y ∈ r, y ≠ f → -y ∈ s) ∨ (f = 0 ∧ ∀ y ∈ r, y ≠ (leftGo s r f many).1 → -y ∈ s))
  | [], f, many, _ => by
    unfold leftGo
    cases many with
    | true => exact ⟨fun h => absurd h (by simp), fun _ _ => .inr (.inl rfl), fun h => absurd rfl h⟩
    | false =>
      refine ⟨fun h => ⟨rfl, by simpa using h, fun y hy => absurd hy List.not_mem_nil⟩, fun h h2 => ?_, fun h => .inl ⟨h, rfl, fun y hy => absurd hy List.not_mem_nil⟩⟩
      simp at h h2
      exact absurd h2 h
  | x :: r, f, many, hl => by
    have hx := hl x List.mem_cons_self
    have hr : ∀ y ∈ r, litOk vars y = true := fun y hy => hl y (List.mem_cons_of_mem _ hy)
    unfold leftGo
    rcases val_cases s x with e | e | e
    · rw [if_pos e]
      exact ⟨fun h => absurd h (by simp), fun _ _ => .inl ⟨x, List.mem_cons_self, val_one e⟩, fun h => absurd rfl h⟩
    · rw [if_neg (by rw [e]; decide), if_pos e]
      obtain ⟨h1, h2, h3⟩ := left_facts s r x (many || (f != 0 && f != x)) hr
      obtain ⟨hn1, hn2⟩ := val_zero hx e
      have hx0 := (lit_facts hx).2.2.1
      refine ⟨fun h => ?_, fun h h0 => ?_, fun h => ?_⟩
      · exact absurd (h1 h).2.1 hx0
      · rcases h2 h h0 with ⟨y, hy, hs⟩ | hm | ⟨y, hy, z, hz, hh⟩ | ⟨_, y, hy, hne, hh⟩
        · exact .inl ⟨y, List.mem_cons_of_mem _ hy, hs⟩
        · rcases Bool.or_eq_true_iff.1 hm with hm | hm
          · exact .inr (.inl hm)
          · rw [Bool.and_eq_true, bne_iff_ne, bne_iff_ne] at hm
            exact .inr (.inr (.inr ⟨hm.1, x, List.mem_cons_self, fun e => hm.2 e.symm, hn2⟩))
        · exact .inr (.inr (.inl ⟨y, List.mem_cons_of_mem _ hy, z, List.mem_cons_of_mem _ hz, hh⟩))
        · exact .inr (.inr (.inl ⟨y, List.mem_cons_of_mem _ hy, x, List.mem_cons_self, hne, hh, hn2⟩))
      · have hm : (many || (f != 0 && f != x)) = false := by
          cases hmm : (many || (f != 0 && f != x)) with
          | false => rfl
          | true =>
            rw [hmm] at h
            exfalso
            have key : ∀ (r : List Int) (x : Int), (leftGo s r x true).1 = 0 := by
              intro r
              induction r with
              | nil => intro x; rfl
              | cons a r ih => intro x; unfold leftGo; split; rfl; split; exact ih _; exact ih _
            exact h (key r x)
        obtain ⟨-, hf⟩ := Bool.or_eq_false_iff.1 hm
        rcases h3 h with ⟨_, e1, e2⟩ | ⟨e1, _⟩
        · by_cases hf0 : f = 0
          · refine .inr ⟨hf0, fun y hy hne => ?_⟩
            rw [e1] at hne
            rcases List.mem_cons.1 hy with rfl | hy
            · exact absurd rfl hne
            · exact e2 y hy hne
          · have hfx : f = x := by
              rw [bne_iff_ne.2 hf0, Bool.true_and] at hf
              simpa using hf
            subst hfx
            refine .inl ⟨hf0, e1, fun y hy hne => ?_⟩
            rcases List.mem_cons.1 hy with rfl | hy
            · exact absurd rfl hne
            · exact e2 y hy hne
        · exact absurd e1 hx0
    · rw [if_neg (by rw [e]; decide), if_neg (by rw [e]; decide)]
      obtain ⟨h1, h2, h3⟩ := left_facts s r f many hr
      have hnx := val_neg hx e
      refine ⟨fun h => ?_, fun h h0 => ?_, fun h => ?_⟩
      · obtain ⟨a, b, d⟩ := h1 h
        refine ⟨a, b, fun y hy => ?_⟩
        rcases List.mem_cons.1 hy with rfl | hy
        · exact hnx
        · exact d y hy
      · rcases h2 h h0 with ⟨y, hy, hs⟩ | hm | ⟨y, hy, z, hz, hh⟩ | ⟨hf, y, hy, hh⟩
        · exact .inl ⟨y, List.mem_cons_of_mem _ hy, hs⟩
        · exact .inr (.inl hm)
        · exact .inr (.inr (.inl ⟨y, List.mem_cons_of_mem _ hy, z, List.mem_cons_of_mem _ hz, hh⟩))
        · exact .inr (.inr (.inr ⟨hf, y, List.mem_cons_of_mem _ hy, hh⟩))
      · rcases h3 h with ⟨hf, e1, e2⟩ | ⟨hf, e2⟩
        · refine .inl ⟨hf, e1, fun y hy hne => ?_⟩
          rcases List.mem_cons.1 hy with rfl | hy
          · exact hnx
          · exact e2 y hy hne
        · refine .inr ⟨hf, fun y hy hne => ?_⟩
          rcases List.mem_cons.1 hy with rfl | hy
          · exact hnx
          · exact e2 y hy hne
theorem left_none {vars : Int} {c s : List Int} (hc : ∀ y ∈ c, litOk vars y = true) (h : (leftM c s).2 = false) : ∀ y ∈ c, -y ∈ s := ((left_facts s c 0 false hc).1 h).2.2
theorem left_fine {vars : Int} {c s : List Int} (hc : ∀ y ∈ c, litOk vars y = true) (h : (leftM c s).2 = true) (h0 : (leftM c s).1 = 0) : Fine c s := by
  rcases (left_facts s c 0 false hc).2.1 h h0 with h | h | h | h
  · exact .inl h
  · cases h
  · exact .inr h
  · exact absurd rfl h.1
theorem left_one {vars : Int} {c s : List Int} (hc : ∀ y ∈ c, litOk vars y = true) (h : (leftM c s).1 ≠ 0) : ∀ y ∈ c, y ≠ (leftM c s).1 → -y ∈ s := by
  rcases (left_facts s c 0 false hc).2.2 h with h | h
  · exact absurd rfl h.1
  · exact h.2
theorem nodup_inj : ∀ {s : List Int}, (s.map absW).Nodup → ∀ {x y : Int}, x ∈ s → y ∈ s → absW x = absW y → x = y
  | [], _, _, _, hx, _, _ => absurd hx List.not_mem_nil
  | a :: s, h, x, y, hx, hy, e => by
    rw [List.map_cons] at h
    obtain ⟨h1, h2⟩ := List.nodup_cons.1 h
    rcases List.mem_cons.1 hx with ex | hx2
    · rcases List.mem_cons.1 hy with ey | hy2
      · exact ex.trans ey.symm
      · exact absurd (List.mem_map.2 ⟨y, hy2, by rw [← e, ex]⟩) h1
    · rcases List.mem_cons.1 hy with ey | hy2
      · exact absurd (List.mem_map.2 ⟨x, hx2, by rw [e, ey]⟩) h1
      · exact nodup_inj h2 hx2 hy2 e
theorem SetOk.other {vars : Int} {s : List Int} (h : SetOk vars s) {x : Int} (hx : x ∈ s) : -x ∉ s := fun hy => by
  have a := lit_facts (h.lit x hx).2
  have b := lit_facts (h.lit _ hy).2
  have := nodup_inj h.one hx hy (by rw [a.2.1, b.2.1, Int.natAbs_neg])
  omega
section
variable {vars : Int} {L : List (List Int)} {l : List Int} (hL : ∀ c ∈ L, ∀ y ∈ c, I64 y ∧ litOk vars y = true) (hl : ∀ y ∈ l, I64 y ∧ litOk vars y = true)
include hl in
theorem set_der : ∀ (l' s : List Int), (∀ x ∈ l', x ∈ l) → SetOk vars s → (∀ x ∈ s, Der L l x) →
    match setM l' s with
    | none => Conf L l
    | some t => SetOk vars t ∧ (∀ x ∈ t, Der L l x) ∧ (∀ x ∈ s, x ∈ t) ∧ ∀ x ∈ l', x ∈ t
  | [], s, _, hs, hd => by
    unfold setM
    exact ⟨hs, hd, fun _ h => h, fun x hx => absurd hx List.not_mem_nil⟩
  | x :: l', s, hm, hs, hd => by
    have hx := hm x List.mem_cons_self
    have hm' : ∀ x ∈ l', x ∈ l := fun y hy => hm y (List.mem_cons_of_mem _ hy)
    unfold setM
    rcases val_cases s x with e | e | e
    · rw [if_neg (by rw [e]; decide), if_neg (by rw [e]; decide)]
      have ih := set_der l' s hm' hs hd
      split
      · rename_i e2; rw [e2] at ih; exact ih
      · rename_i t e2
        rw [e2] at ih
        obtain ⟨a, b, c, d⟩ := ih
        refine ⟨a, b, c, fun y hy => ?_⟩
        rcases List.mem_cons.1 hy with rfl | hy
        · exact c _ (val_one e)
        · exact d y hy
    · rw [if_neg (by rw [e]; decide), if_pos e]
      have ih := set_der l' (s ++ [x]) hm' (hs.add (hl x hx).1 (hl x hx).2 e) (fun y hy => by
        rcases List.mem_append.1 hy with hy | hy
        · exact hd y hy
        · rw [List.mem_singleton.1 hy]; exact .giv x hx)
      split
      · rename_i e2; rw [e2] at ih; exact ih
      · rename_i t e2
        rw [e2] at ih
        obtain ⟨a, b, c, d⟩ := ih
        refine ⟨a, b, fun y hy => c y (List.mem_append_left _ hy), fun y hy => ?_⟩
        rcases List.mem_cons.1 hy with rfl | hy
        · exact c _ (List.mem_append_right _ (List.mem_singleton.2 rfl))
        · exact d y hy
    · rw [if_pos (by rw [e]; decide)]
      exact .inl ⟨x, .giv x hx, hd _ (val_neg (hl x hx).2 e)⟩
include hL in
theorem pass_der : ∀ (L' : List (List Int)) (s : List Int), (∀ c ∈ L', c ∈ L) → SetOk vars s → (∀ x ∈ s, Der L l x) →
    match passM L' s with
    | none => Conf L l
    | some t => SetOk vars t ∧ (∀ x ∈ t, Der L l x) ∧ (∃ r, t = s ++ r) ∧ (t = s → ∀ c ∈ L', Fine c s)
  | [], s, _, hs, hd => by
    unfold passM
    exact ⟨hs, hd, ⟨[], by simp⟩, fun _ c hc => absurd hc List.not_mem_nil⟩
  | c :: L', s, hm, hs, hd => by
    have hc := hm c List.mem_cons_self
    have hm' : ∀ x ∈ L', x ∈ L := fun y hy => hm y (List.mem_cons_of_mem _ hy)
    have hlc : ∀ y ∈ c, litOk vars y = true := fun y hy => (hL c hc y hy).2
    unfold passM
    cases h2 : (leftM c s).2 with
    | false =>
      rw [if_neg (by decide)]
      exact conf_clause hc fun y hy => hd _ (left_none hlc h2 y hy)
    | true =>
      rw [if_pos rfl]
      by_cases h1 : (leftM c s).1 = 0
      · rw [if_pos h1]
        have ih := pass_der L' s hm' hs hd
        split
        · rename_i e2; rw [e2] at ih; exact ih
        · rename_i t e2
          rw [e2] at ih
          obtain ⟨a, b, d, f⟩ := ih
          refine ⟨a, b, d, fun e c' hc' => ?_⟩
          rcases List.mem_cons.1 hc' with rfl | hc'
          · exact left_fine hlc h2 h1
          · exact f e c' hc'
      · rw [if_neg h1]
        obtain ⟨hn1, hn2⟩ := left_new h1
        have ih := pass_der L' (s ++ [(leftM c s).1]) hm' (hs.add (hL c hc _ hn1).1 (hlc _ hn1) hn2) (fun y hy => by
          rcases List.mem_append.1 hy with hy | hy
          · exact hd y hy
          · rw [List.mem_singleton.1 hy]
            exact .unit c _ hc hn1 fun z hz hne => hd _ (left_one hlc h1 z hz hne))
        split
        · rename_i e2; rw [e2] at ih; exact ih
        · rename_i t e2
          rw [e2] at ih
          obtain ⟨a, b, ⟨r, d⟩, f⟩ := ih
          refine ⟨a, b, ⟨(leftM c s).1 :: r, by rw [d]; simp⟩, fun e => ?_⟩
          rw [e] at d
          have := congrArg List.length d
          simp at this
theorem closed_of {s : List Int} (hs : SetOk vars s) (hg : ∀ x ∈ l, x ∈ s) (hf : ∀ c ∈ L, Fine c s) : Closed L l (· ∈ s) := ⟨hg, fun _ hx => hs.other hx, hf⟩
include hL in
theorem run_der (h0 : 0 ≤ vars) : ∀ (n : Nat) (s : List Int), vars.toNat + 1 ≤ s.length + n → SetOk vars s → (∀ x ∈ s, Der L l x) → (∀ x ∈ l, x ∈ s) →
    match runM L n s with
    | none => Conf L l
    | some t => SetOk vars t ∧ (∀ x ∈ t, Der L l x) ∧ Closed L l (· ∈ t)
  | 0, s, hn, hs, hd, hg => by have := hs.len h0; omega
  | n + 1, s, hn, hs, hd, hg => by
    have ih := pass_der (l := l) hL L s (fun _ h => h) hs hd
    unfold runM
    cases hp : passM L s with
    | none => rw [hp] at ih; exact ih
    | some t =>
      rw [hp] at ih
      obtain ⟨a, b, ⟨r, d⟩, f⟩ := ih
      by_cases hlen : t.length = s.length
      · simp only [if_pos hlen]
        have hr : r = [] := by
          rw [d, List.length_append] at hlen
          exact List.length_eq_zero_iff.1 (by omega)
        rw [hr, List.append_nil] at d
        exact ⟨a, b, d ▸ closed_of hs hg (f d)⟩
      · simp only [if_neg hlen]
        refine run_der h0 n t ?_ a b (fun x hx => d ▸ List.mem_append_left _ (hg x hx))
        rw [d, List.length_append] at hlen ⊢
        omega
include hL hl in
/-- the pages' way: none where there is a conflict; else just what is derived -/
theorem follow_der (h0 : 0 ≤ vars) : match followM vars L l with
    | none => Conf L l
    | some t => SetOk vars t ∧ (∀ x ∈ t, Der L l x) ∧ Closed L l (· ∈ t) := by
  have h1 := set_der (L := L) hl l [] (fun _ h => h) (SetOk.nil vars) (fun x hx => absurd hx List.not_mem_nil)
  unfold followM
  cases hs : setM l [] with
  | none => rw [hs] at h1; exact h1
  | some s =>
    rw [hs] at h1
    exact run_der hL h0 (vars.toNat + 1) s (by omega) h1.1 h1.2.1 h1.2.2.2
include hL hl in
theorem follow_conf (h0 : 0 ≤ vars) (h : Conf L l) : followM vars L l = none := by
  have := follow_der hL hl h0
  cases hf : followM vars L l with
  | none => rfl
  | some t => rw [hf] at this; exact absurd h this.2.2.fine
include hL hl in
/-- whoever ends with a closed set of what is derived has the same list, put in order -/
theorem follow_closed (h0 : 0 ≤ vars) {S : Int → Prop} (hc : Closed L l S) (hd : ∀ x, S x → Der L l x) {r : List Int} (hr : r.Pairwise lt) (hm : ∀ x, x ∈ r ↔ S x) (hz : ¬ S 0) : ∃ t, followM vars L l = some t ∧ normM t = r := by
  have := follow_der hL hl h0
  cases hf : followM vars L l with
  | none => rw [hf] at this; exact absurd this hc.fine
  | some t =>
    rw [hf] at this
    refine ⟨t, rfl, sorted_unique _ _ (sorted_norm t) hr fun z => ?_⟩
    rw [mem_norm, hm]
    constructor
    · exact fun h => hc.der (this.2.1 z h.1)
    · exact fun h => ⟨this.2.2.der (hd z h), fun e => hz (e ▸ h)⟩
end
end Go.Proofs.Ytefbknpoehmfaaa.For
