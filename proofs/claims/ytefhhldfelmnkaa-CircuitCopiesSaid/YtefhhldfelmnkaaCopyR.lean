/- The region in which circuit.Copy makes a circuit of clones, in whatever order; no condition. -/
import Derived.Test.YtefhhldfelmnkaaCopyOps
namespace Go.Proofs.Ytefhhldfelmnkaa.Cw
open Go.ChangeShapes Go.WideShapes Go.ChangeAt Go.RowKit Go.Maps Circ

theorem OwnC.base {w : World} {base base' : Nat} {e : TypeId} {m : Nat} {v : Value} {xs : List (List Value)} (h : OwnC w base e m v xs) (hb : base' ≤ base) : OwnC w base' e m v xs := by
  obtain ⟨h0, h⟩ := h
  refine ⟨h0, ?_⟩
  rcases h with h | ⟨g, cap, cur, hv, hg, r⟩
  · exact .inl h
  · exact .inr ⟨g, cap, cur, hv, Nat.le_trans hb hg, r⟩
theorem OwnC.type {w : World} {base : Nat} {e : TypeId} {m : Nat} {v : Value} {xs : List (List Value)} (h : OwnC w base e m v xs) {g : Nat} (hg : v.ownBlock = some g) : ∃ cur, w.heap[g]? = some (.cells cur e (0, 0)) := by
  obtain ⟨_, h⟩ := h
  rcases h with ⟨rfl, h0⟩ | ⟨g', cap, cur, rfl, hb, hh, _⟩
  · simp [Value.ownBlock] at hg
  · have : g' = g := by simpa [Value.ownBlock] using hg
    subst this
    exact ⟨cur, hh⟩
/-- a store into a block of another type leaves it -/
theorem OwnC.but {w w' : World} {base : Nat} {e : TypeId} {m : Nat} {v : Value} {xs : List (List Value)} (h : OwnC w base e m v xs) {g : Nat} {z : Array Value} (hg : w.heap[g]? = some (.cells z 27 (0, 0))) (he : e ≠ 27) (hb : But g w w') : OwnC w' base e m v xs :=
  h.keep_at fun k _ hk => hb.b k (by
    rintro rfl
    obtain ⟨cur, hc⟩ := h.type hk
    rw [hg] at hc
    injection hc with hc
    injection hc with _ hc
    exact he hc.symm)

def Cl (w : World) (N : Nat) (e : TypeId) (m : Nat) (xs : List (List Value)) (v : Value) : Prop := OwnC w N e m v xs
def Fr (w : World) (N : Nat) (v : Value) : Prop := ∃ g z, v = .pointer (some ⟨g, 0, none⟩) ∧ N ≤ g ∧ w.heap[g]? = some (.cells z 27 (0, 0)) ∧ z.size = 8
def Bl (f : Nat → Value) : Prop := f 29 = .agg #[f 7, f 10, f 13, f 16, f 19, f 22, f 25, f 28] ∧ (∃ m, f 7 = .int .i64 m) ∧ (∃ A n q, f 10 = .slice A n q) ∧ (∃ A n q, f 13 = .slice A n q) ∧ (∃ A n q, f 16 = .slice A n q) ∧ (∃ A n q, f 19 = .slice A n q) ∧ (∃ A n q, f 22 = .slice A n q) ∧ (∃ A n q, f 25 = .slice A n q) ∧ (∃ A n q, f 28 = .slice A n q)
def Fi (w : World) (N : Nat) (p v : Value) : Prop := ∃ g z, p = .pointer (some ⟨g, 0, none⟩) ∧ N ≤ g ∧ w.heap[g]? = some (.cells z 27 (0, 0)) ∧ v = .agg z
theorem But.below {N g : Nat} {W w w' : World} (h : Below N W w) (hb : But g w w') (hg : N ≤ g) : Below N W w' :=
  ⟨hb.os.trans h.os, hb.tape.trans h.tape, hb.output.trans h.output, by rw [hb.z]; exact h.size, fun k hk => (hb.b k (by omega)).trans (h.block k hk)⟩
/-- what operation j leaves -/
def copyR (B N : Nat) (c : Cir) (s : Places) : Nat → (Nat → Value) → World → Prop
  | 0, f, _ => f 6 = .pointer (some ⟨B, 0, none⟩)
  | 1, f, _ => f 7 = .int .i64 c.max
  | 2, f, _ => f 8 = .pointer (some ⟨B, 1, none⟩)
  | 3, f, _ => f 9 = .slice s.ai c.ins.length s.ki
  | 4, f, w => Cl w N 3 1 (ints c.ins) (f 10)
  | 5, f, _ => f 11 = .pointer (some ⟨B, 2, none⟩)
  | 6, f, _ => f 12 = .slice s.al c.lats.length s.kl
  | 7, f, w => Cl w N 47 3 (tris c.lats) (f 13)
  | 8, f, _ => f 14 = .pointer (some ⟨B, 3, none⟩)
  | 9, f, _ => f 15 = .slice s.ao c.outs.length s.ko
  | 10, f, w => Cl w N 3 1 (ints c.outs) (f 16)
  | 11, f, _ => f 17 = .pointer (some ⟨B, 4, none⟩)
  | 12, f, _ => f 18 = .slice s.ab c.bads.length s.kb
  | 13, f, w => Cl w N 3 1 (ints c.bads) (f 19)
  | 14, f, _ => f 20 = .pointer (some ⟨B, 5, none⟩)
  | 15, f, _ => f 21 = .slice s.ac c.invs.length s.kc
  | 16, f, w => Cl w N 3 1 (ints c.invs) (f 22)
  | 17, f, _ => f 23 = .pointer (some ⟨B, 6, none⟩)
  | 18, f, _ => f 24 = .slice s.aa c.ands.length s.ka
  | 19, f, w => Cl w N 40 3 (tris c.ands) (f 25)
  | 20, f, _ => f 26 = .pointer (some ⟨B, 7, none⟩)
  | 21, f, _ => f 27 = .slice s.an c.names.length s.kn
  | 22, f, w => Cl w N 45 3 (nams c.names) (f 28)
  | 23, f, _ => Bl f
  | 24, f, w => Fr w N (f 3)
  | 25, f, w => Fi w N (f 3) (f 29)
  | _, _, _ => True
def copyM : Nat → List Nat
  | 0 => [6] | 1 => [7] | 2 => [8] | 3 => [9] | 4 => [10] | 5 => [11] | 6 => [12] | 7 => [13] | 8 => [14] | 9 => [15] | 10 => [16] | 11 => [17] | 12 => [18] | 13 => [19] | 14 => [20]
  | 15 => [21] | 16 => [22] | 17 => [23] | 18 => [24] | 19 => [25] | 20 => [26] | 21 => [27] | 22 => [28] | 23 => [29, 7, 10, 13, 16, 19, 22, 25, 28] | 24 => [3] | 25 => [3, 29] | _ => []
theorem copy_stab {B N : Nat} {c : Cir} {s : Places} (j : Nat) {f f' : Nat → Value} {w w' : World} (hb : Below w.heap.size w w') (hf : ∀ t ∈ copyM j, f' t = f t) (h : copyR B N c s j f w) : copyR B N c s j f' w' := by
  unfold copyR at h ⊢
  unfold copyM at hf
  split at h
  all_goals simp only [List.mem_cons, List.not_mem_nil, or_false, forall_eq_or_imp, forall_eq] at hf ⊢
  all_goals first
    | trivial
    | (rw [hf]; exact h)
    | (rw [hf]; exact OwnC.keep h hb)
    | (unfold Bl at h ⊢; obtain ⟨h1, h2, h3, h4, h5, h6, h7, h8, h9⟩ := hf; rw [h1, h2, h3, h4, h5, h6, h7, h8, h9]; exact h)
    | (rw [hf]; obtain ⟨g, z, h1, h2, h3, h4⟩ := h; exact ⟨g, z, h1, h2, (hb.block g (Array.getElem?_eq_some_iff.1 h3).1).trans h3, h4⟩)
    | (rw [hf.1, hf.2]; obtain ⟨g, z, h1, h2, h3, h4⟩ := h; exact ⟨g, z, h1, h2, (hb.block g (Array.getElem?_eq_some_iff.1 h3).1).trans h3, h4⟩)
theorem copy_stab25 {B N : Nat} {c : Cir} {s : Places} (j : Nat) {f : Nat → Value} {w w' : World} {g : Nat} {z z' : Array Value} (hg : w.heap[g]? = some (.cells z 27 (0, 0))) (hg' : w'.heap[g]? = some (.cells z' 27 (0, 0))) (hz : z'.size = 8) (hb : But g w w') (hj : j ≠ 25) (h : copyR B N c s j f w) : copyR B N c s j f w' := by
  unfold copyR at h ⊢
  split at h
  all_goals (try simp only at h ⊢)
  all_goals first
    | trivial
    | exact h
    | exact OwnC.but h hg (by decide) hb
    | exact absurd rfl hj
    | skip
  obtain ⟨g1, z1, h1, h2, h3, h4⟩ := h
  by_cases he : g1 = g
  · subst he
    exact ⟨g1, z', h1, h2, hg', hz⟩
  · exact ⟨g1, z1, h1, h2, (hb.b g1 he).trans h3, h4⟩

def vals (a : Act) : Nat → Value := fun t => a.tmps.getD t undef
def dependsB (o : Oper) (k : Nat) : Bool := o.after.any fun e => Region.binds .any e && decide (e.on = k)
def mentOk (ops : Array Oper) (ment : Nat → List Nat) : Bool := (List.range ops.size).all fun i => (List.range ops.size).all fun j => match ops[i]?, ops[j]? with
  | some oi, some oj => decide (i = j) || (dependsB oj i || (match oi.dst with
    | some t => !(ment j).contains t
    | none => true))
  | _, _ => true
def dstsIn (ops : Array Oper) (n : Nat) : Bool := ops.all fun o => match o.dst with
  | some t => decide (t < n)
  | none => true

theorem wp_region_vals {P : Program} {id : Nat} {ops : Array Oper} {Q : Exit → Act → World → Prop} {a : Act} {w : World} (hm : P.follows .mixedOrders = true) (hu : upward ops = true)
    (ment : Nat → List Nat) (hment : mentOk ops ment = true) (hdst : dstsIn ops a.tmps.size = true) (Ok : World → Prop) (R : Nat → (Nat → Value) → World → Prop) (h0 : Ok w.drew)
    (hout : ∀ j f w, ops.size ≤ j → R j f w)
    (hstab : ∀ j f f' w w', Below w.heap.size w w' → (∀ t ∈ ment j, f' t = f t) → R j f w → R j f' w')
    (hstep : ∀ (i : Nat) (o : Oper) (a' : Act) (w' : World), ops[i]? = some o → Kept ops a a' → Ok w' → (∀ k, dependsB o k = true → R k (vals a') w') →
      ∀ K : Act → World → Prop, (∀ v w'', Below w'.heap.size w' w'' → Ok w'' → (∀ f : Nat → Value, (∀ t, o.dst = some t → f t = v) → (∀ t, o.dst ≠ some t → f t = vals a' t) → R i f w'') → K (a'.put o.dst v) w'') →
        (∀ w'', o.dst = none → Ok w'' → R i (vals a') w'' → (∀ j, j ≠ i → R j (vals a') w' → R j (vals a') w'') → K (a'.put o.dst undef) w'') → o.wp P a' w' K Q)
    (hend : ∀ (a' : Act) (w' : World), Kept ops a a' → Ok w' → (∀ j, j < ops.size → R j (vals a') w') → Q .normal a' w') : (Code.region id ops true).wp P Q a w := by
  refine wp_region_rel hm hu Ok (fun j a w => R j (vals a) w) h0 ?_ hend
  intro i o a' w' ho hk hok hR
  have hi : i < ops.size := (Array.getElem?_eq_some_iff.1 ho).1
  refine hstep i o a' w' ho hk hok (fun k hd => ?_) _ ?_ ?_
  · unfold dependsB at hd
    rw [Array.any_eq_true'] at hd
    obtain ⟨e, he, hb⟩ := hd
    simp only [Bool.and_eq_true, decide_eq_true_eq] at hb
    rw [← hb.2]
    exact hR e he hb.1
  · intro v w'' hb hok' hRi
    have hmem : o ∈ ops := Array.mem_of_getElem? ho
    refine ⟨v, rfl, hok', hRi _ (fun t ht => put_slot v ht ?_) (fun t ht => put_other v ht), fun j hji hno hj => ?_⟩
    · have h1 := Array.all_eq_true_iff_forall_mem.1 hdst o hmem
      rw [ht] at h1
      rw [hk.n]
      simpa using h1
    by_cases hjs : j < ops.size
    · obtain ⟨oj, hoj⟩ : ∃ oj, ops[j]? = some oj := ⟨ops[j], by simp [hjs]⟩
      refine hstab j _ _ _ _ hb (fun t ht => ?_) hj
      have h1 := List.all_eq_true.1 (List.all_eq_true.1 hment i (List.mem_range.2 hi)) j (List.mem_range.2 hjs)
      rw [ho, hoj] at h1
      simp only [Bool.or_eq_true, decide_eq_true_eq] at h1
      unfold vals
      rcases h1 with h1 | h1 | h1
      · exact absurd h1.symm hji
      · exfalso
        unfold dependsB at h1
        rw [Array.any_eq_true'] at h1
        obtain ⟨e, he, hbb⟩ := h1
        simp only [Bool.and_eq_true, decide_eq_true_eq] at hbb
        exact hno oj hoj e he hbb.1 hbb.2
      · cases hd : o.dst with
        | none => rfl
        | some d =>
          rw [hd] at h1
          simp only [Bool.not_eq_true', List.contains_eq_mem, decide_eq_false_iff_not] at h1
          have : (some d : Option Tmp) ≠ some t := fun e => h1 (by injection e with e; rw [e]; exact ht)
          have h2 := put_other (o := o) (a := a') v (t := t) (by rw [hd]; exact this)
          rw [hd] at h2
          exact h2
    · exact hout j _ _ (by omega)
  · intro w'' hd hok' hRi hst
    have e : a'.put o.dst undef = a' := by rw [hd]; rfl
    refine ⟨undef, rfl, hok', ?_, fun j hji _ hj => ?_⟩
    · rw [e]; exact hRi
    · show R j (vals (a'.put o.dst undef)) w''
      rw [e]; exact hst j hji hj
end Go.Proofs.Ytefhhldfelmnkaa.Cw
