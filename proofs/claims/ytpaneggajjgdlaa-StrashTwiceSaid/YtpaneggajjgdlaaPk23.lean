/- A region that draws its order, where what is told of the world may speak of slots; and a list put together there: an empty one, a row behind it, one element more, stored in a box; no condition. -/
import Derived.Test.YtpaneggajjgdlaaPk10
import Derived.Test.YtpaneggajjgdlaaPk09
import Derived.Test.YtpaneggajjgdlaaPk20
namespace Go.Proofs.Ytpaneggajjgdlaa.Str
open Go.ChangeShapes Go.WideShapes Go.ChangeAt Go.RowKit Go.Maps Circ Cw

theorem wp_region_valsG {P : Program} {id : Nat} {ops : Array Oper} {Q : Exit → Act → World → Prop} {a : Act} {w : World} (hm : P.follows .mixedOrders = true) (hu : upward ops = true)
    (ment : Nat → List Nat) (hment : mentOk ops ment = true) (hdst : dstsIn ops a.tmps.size = true) (Ok : (Nat → Bool) → (Nat → Value) → World → Prop) (R : Nat → (Nat → Value) → World → Prop) (h0 : Ok (fun _ => false) (vals a) w.drew)
    (hstab : ∀ j f f' w w', Below w.heap.size w w' → (∀ t ∈ ment j, f' t = f t) → R j f w → R j f' w')
    (hstep : ∀ (i : Nat) (o : Oper) (d : Nat → Bool) (a' : Act) (w' : World), ops[i]? = some o → (∀ k, behindB ops ops.size i k = true → d k = false) → (∀ t, untouched ops i t = true → a'.tmps.getD t undef = a.tmps.getD t undef) → a'.defers = a.defers → Ok d (vals a') w' → (∀ k, dependsB o k = true → d k = true ∧ R k (vals a') w') →
      ∀ K : Act → World → Prop, (∀ v w'', Below w'.heap.size w' w'' → (∀ f : Nat → Value, (∀ t, o.dst = some t → f t = v) → (∀ t, o.dst ≠ some t → f t = vals a' t) → Ok (fun j => decide (j = i) || d j) f w'') → (∀ f : Nat → Value, (∀ t, o.dst = some t → f t = v) → (∀ t, o.dst ≠ some t → f t = vals a' t) → R i f w'') → K (a'.put o.dst v) w'') →
        (∀ v w'', (∀ f : Nat → Value, (∀ t, o.dst = some t → f t = v) → (∀ t, o.dst ≠ some t → f t = vals a' t) → Ok (fun j => decide (j = i) || d j) f w'') → (∀ f : Nat → Value, (∀ t, o.dst = some t → f t = v) → (∀ t, o.dst ≠ some t → f t = vals a' t) → R i f w'') → (∀ j f, j ≠ i → (∀ t ∈ ment j, f t = vals a' t) → R j (vals a') w' → R j f w'') → K (a'.put o.dst v) w'') → o.wp P a' w' K Q)
    (hend : ∀ (a' : Act) (w' : World), a'.tmps.size = a.tmps.size → a'.defers = a.defers → (∀ t, (∀ o ∈ ops, o.dst ≠ some t) → a'.tmps.getD t undef = a.tmps.getD t undef) → (∃ d, Ok d (vals a') w' ∧ ∀ j, j < ops.size → d j = true) → (∀ j, j < ops.size → R j (vals a') w') → Q .normal a' w') : (Code.region id ops true).wp P Q a w := by
  refine wp_region_any hm (wpAny_inv (fun listed a' w' => listed.size = ops.size ∧ (a'.tmps.size = a.tmps.size ∧ a'.defers = a.defers) ∧ (∀ t, (∀ (k : Nat) ok, ops[k]? = some ok → ok.dst = some t → listed[k]? ≠ some true) → a'.tmps.getD t undef = a.tmps.getD t undef) ∧ Ok (fun j => listed.getD j false) (vals a') w' ∧ (∀ j : Nat, listed[j]? = some true → R j (vals a') w') ∧ ∀ (j : Nat) (oj : Oper), ops[j]? = some oj → listed[j]? = some true → ∀ e ∈ oj.after, Region.binds .any e = true → listed[e.on]? = some true) ?_ ?_ _ _ _ _ ?_ (by simp))
  · rintro listed a' w' i ⟨hs, hk, hun, hok, hR, hC⟩ hi
    obtain ⟨hl, hio, hd⟩ := ready_open hi
    have hl' : listed[i]? = some false := by rw [← Array.getElem?_toList]; exact hl
    obtain ⟨o, ho⟩ : ∃ o, ops[i]? = some o := ⟨ops[i], by simp [hio]⟩
    have hmem : o ∈ ops := Array.mem_of_getElem? ho
    have hg : o.guard.isNone = true := by
      have h1 := List.all_eq_true.1 hu i (List.mem_range.2 hio)
      rw [ho] at h1
      simp only [Bool.and_eq_true] at h1
      exact h1.2
    have hw : Region.wanted o (yielded ops a'.tmps) = true := by
      unfold Region.wanted
      cases hgg : o.guard with
      | none => rfl
      | some x => rw [hgg] at hg; cases hg
    have hdep : ∀ e ∈ o.after, Region.binds .any e = true → listed[e.on]? = some true := fun e he hb => by
      have h2 := hd o ho e he hb
      rw [Array.getD_eq_getD_getElem?] at h2
      cases hq : listed[e.on]? with
      | none => rw [hq] at h2; simp at h2
      | some b => rw [hq] at h2; simp at h2; rw [h2]
    have hback : ∀ j, j ≠ i → (listed.setIfInBounds i true)[j]? = some true → listed[j]? = some true := fun j hji hj => by
      rw [Array.getElem?_setIfInBounds, if_neg (Ne.symm hji)] at hj
      exact hj
    have hfwd : ∀ j : Nat, listed[j]? = some true → (listed.setIfInBounds i true)[j]? = some true := fun j hj => by
      have : i ≠ j := by rintro rfl; rw [hl'] at hj; cases hj
      rw [Array.getElem?_setIfInBounds, if_neg this]; exact hj
    have hself : (listed.setIfInBounds i true)[i]? = some true := by
      rw [Array.getElem?_setIfInBounds, if_pos rfl, if_pos (by omega)]
    -- whatever the step does, what follows of it
    have fin : ∀ v w'', Ok (fun j => decide (j = i) || listed.getD j false) (vals (a'.put o.dst v)) w'' → R i (vals (a'.put o.dst v)) w'' → (∀ j, j ≠ i → listed[j]? = some true → R j (vals (a'.put o.dst v)) w'') → (listed.setIfInBounds i true).size = ops.size ∧ ((a'.put o.dst v).tmps.size = a.tmps.size ∧ (a'.put o.dst v).defers = a.defers) ∧ (∀ t, (∀ (k : Nat) ok, ops[k]? = some ok → ok.dst = some t → (listed.setIfInBounds i true)[k]? ≠ some true) → (a'.put o.dst v).tmps.getD t undef = a.tmps.getD t undef) ∧ Ok (fun j => (listed.setIfInBounds i true).getD j false) (vals (a'.put o.dst v)) w'' ∧ (∀ j : Nat, (listed.setIfInBounds i true)[j]? = some true → R j (vals (a'.put o.dst v)) w'') ∧ ∀ (j : Nat) (oj : Oper), ops[j]? = some oj → (listed.setIfInBounds i true)[j]? = some true → ∀ e ∈ oj.after, Region.binds .any e = true → (listed.setIfInBounds i true)[e.on]? = some true := fun v w'' hok' hRi hRj => by
      refine ⟨by simpa using hs, ⟨(put_size o a' v).1.trans hk.1, (put_size o a' v).2.trans hk.2⟩, fun t ht => ?_, ?_, fun j hj => ?_, fun j oj hoj hj e he hb => ?_⟩
      · have hne : o.dst ≠ some t := fun e => ht i o ho e hself
        rw [put_other v hne]
        exact hun t fun k ok hk' hd' hl2 => ht k ok hk' hd' (hfwd k hl2)
      · have e : (fun j => (listed.setIfInBounds i true).getD j false) = fun j => decide (j = i) || listed.getD j false := by
          funext j
          rw [Array.getD_eq_getD_getElem?, Array.getD_eq_getD_getElem?, Array.getElem?_setIfInBounds]
          by_cases hji : i = j
          · subst hji
            rw [if_pos rfl, if_pos (by omega)]
            simp
          · rw [if_neg hji]
            have : decide (j = i) = false := by simpa using Ne.symm hji
            rw [this]; rfl
        rw [e]; exact hok'
      · by_cases hji : j = i
        · subst hji; exact hRi
        · exact hRj j hji (hback j hji hj)
      · by_cases hji : j = i
        · subst hji
          rw [ho] at hoj
          obtain rfl := Option.some.inj hoj
          exact hfwd _ (hdep e he hb)
        · exact hfwd _ (hC j oj hoj (hback j hji hj) e he hb)
    have hslot : ∀ v t, o.dst = some t → vals (a'.put o.dst v) t = v := fun v t ht => by
      refine put_slot v ht ?_
      have h1 := Array.all_eq_true_iff_forall_mem.1 hdst o hmem
      rw [ht] at h1
      rw [hk.1]
      simpa using h1
    have hment2 : ∀ v j, j ≠ i → listed[j]? = some true → ∀ t ∈ ment j, vals (a'.put o.dst v) t = vals a' t := fun v j hji hlj t ht => by
      have hjs : j < ops.size := by
        have := (Array.getElem?_eq_some_iff.1 hlj).1
        omega
      obtain ⟨oj, hoj⟩ : ∃ oj, ops[j]? = some oj := ⟨ops[j], by simp [hjs]⟩
      have h1 := List.all_eq_true.1 (List.all_eq_true.1 hment i (List.mem_range.2 hio)) j (List.mem_range.2 hjs)
      rw [ho, hoj] at h1
      simp only [Bool.or_eq_true, decide_eq_true_eq] at h1
      rcases h1 with h1 | h1 | h1
      · exact absurd h1.symm hji
      · exfalso
        unfold dependsB at h1
        rw [Array.any_eq_true'] at h1
        obtain ⟨e, he, hbb⟩ := h1
        simp only [Bool.and_eq_true, decide_eq_true_eq] at hbb
        have := hC j oj hoj hlj e he hbb.1
        rw [hbb.2, hl'] at this
        cases this
      · cases hd2 : o.dst with
        | none => rfl
        | some d =>
          rw [hd2] at h1
          simp only [Bool.not_eq_true', List.contains_eq_mem, decide_eq_false_iff_not] at h1
          have hne : o.dst ≠ some t := fun e => h1 (by rw [hd2] at e; injection e with e; rw [e]; exact ht)
          have h2 := put_other (a := a') v hne
          rw [hd2] at h2
          exact h2
    unfold wpOp
    rw [ho]
    simp only [hw, if_true]
    refine .inl (hstep i o (fun j => listed.getD j false) a' w' ho (fun k hbk => ?_) (fun t ht => hun t fun k ok hk' hd' hl2 => ?_) hk.2 hok (fun k hdk => ?_) _ ?_ ?_)
    · rw [Array.getD_eq_getD_getElem?]
      cases hq : listed[k]? with
      | none => rfl
      | some b =>
        cases b with
        | false => rfl
        | true =>
          have := behind_listed hC _ i k hbk hq
          rw [hl'] at this; cases this
    · have h1 := List.all_eq_true.1 ht k (List.mem_range.2 (Array.getElem?_eq_some_iff.1 hk').1)
      rw [hk'] at h1
      simp only [hd', decide_true, Bool.not_true, Bool.false_or] at h1
      have := behind_listed hC _ i k h1 hl2
      rw [hl'] at this; cases this
    · unfold dependsB at hdk
      rw [Array.any_eq_true'] at hdk
      obtain ⟨e, he, hb⟩ := hdk
      simp only [Bool.and_eq_true, decide_eq_true_eq] at hb
      rw [← hb.2]
      refine ⟨?_, hR e.on (hdep e he hb.1)⟩
      rw [Array.getD_eq_getD_getElem?, hdep e he hb.1]; rfl
    · intro v w'' hb hok' hRi
      exact fin v w'' (hok' _ (hslot v) (fun t ht => put_other v ht)) (hRi _ (hslot v) (fun t ht => put_other v ht)) (fun j hji hlj => hstab j _ _ _ _ hb (hment2 v j hji hlj) (hR j hlj))
    · intro v w'' hok' hRi hst
      exact fin v w'' (hok' _ (hslot v) (fun t ht => put_other v ht)) (hRi _ (hslot v) (fun t ht => put_other v ht)) (fun j hji hlj => hst j _ hji (hment2 v j hji hlj) (hR j hlj))
  · rintro listed a' w' ⟨hs, hk, hun, hok, hR, -⟩ hr
    exact hend a' w' hk.1 hk.2 (fun t ht => hun t fun k ok hk' hd' _ => ht ok (Array.mem_of_getElem? hk') hd') ⟨_, hok, fun j hj => by
      rw [Array.getD_eq_getD_getElem?, all_listed hu hs hr j hj]; rfl⟩ fun j hj => hR j (all_listed hu hs hr j hj)
  · refine ⟨by simp, ⟨rfl, rfl⟩, fun _ _ => rfl, ?_, fun j hj => ?_, fun j oj _ hj => ?_⟩
    · have e : (fun j => (Array.replicate ops.size false).getD j false) = fun _ => false := by
        funext j
        rw [Array.getD_eq_getD_getElem?, Array.getElem?_replicate]
        split <;> rfl
      rw [e]; exact h0
    · simp [Array.getElem?_replicate] at hj
    · simp [Array.getElem?_replicate] at hj

/-- all that a row behind an empty one leaves, whatever the element's type -/
theorem run_cat (w : World) (T e m bytes : Nat) (z : Value) (hT : Try.prog.underlying T = some (.slice e)) (hi : (Try.prog.info? e).map (fun i => (i.zero, i.size, i.bytes)) = some (some z, m, bytes)) (hzs : z.cells.size = m) (hm : 0 < m)
    (base B b : Nat) (hown : OwnC w base e m (.slice (some ⟨b, 0, none⟩) 0 0) []) (l : List (List Value)) (A : Option Addr) (c : Nat) (hr : LRow w B m A l)
    (hlen : ∀ y ∈ l, y.length = m) (hone : ∀ y ∈ l, ∀ u ∈ y, u.oneCell' = true) (hbytes : l.length * bytes ≤ 140737488355328) (hbase : base ≤ w.heap.size) (hmax : l.length ≤ 9223372036854775807) (ty : TypeId) :
    ∃ v' w', (Builtin.append_ #[T, T] ty #[.slice (some ⟨b, 0, none⟩) 0 0, .slice A l.length c]).run Try.prog w = .ok v' w' ∧ OwnC w' base e m v' l ∧ Below base w w' ∧ (∀ k, k < w.heap.size → k ≠ b → w'.heap[k]? = w.heap[k]?) := by
  obtain ⟨i0, hi0, hz0, hz1, hz2⟩ := info_parts hi
  have go : ∀ ad : Addr, A = some ad → (∀ j u, l.flatten[j]? = some u → w.cell? (ad.add j) = some u) → ∃ v' w', (Builtin.append_ #[T, T] ty #[.slice (some ⟨b, 0, none⟩) 0 0, .slice A l.length c]).run Try.prog w = .ok v' w' ∧ OwnC w' base e m v' l ∧ Below base w w' ∧ (∀ k, k < w.heap.size → k ≠ b → w'.heap[k]? = w.heap[k]?) := fun ad hA hc => by
    obtain ⟨v', w', h1, h2, h3, _, h5⟩ := run_append_own_at (P := Try.prog) w base T ty e i0 z m bytes hT hi0 hz0 hz1 hz2 hzs hm (.slice (some ⟨b, 0, none⟩) 0 0) 0 [] (by simpa [OwnC] using hown) ad l.length c l.flatten (flatten_len m l hlen) hc (fun u hu => by
      obtain ⟨y, hy, hu'⟩ := List.mem_flatten.1 hu
      exact hone y hy u hu') (by unfold maxLen; omega) (by simpa using hbytes) hbase
    refine ⟨v', w', by rw [hA]; exact h1, ?_, ⟨h3.os, h3.tape, h3.output, h3.size, fun k hk => h3.block k (by omega) (fun e => ?_)⟩, fun k hk hne => h3.block k hk (fun e => hne (Option.some.inj e))⟩
    · unfold OwnC
      simpa using h2
    · have := hown.block_lt k e.symm
      omega
  rcases hr with h0 | ⟨b', o', e', hb, hc⟩
  · subst h0
    rcases A with _ | ad
    · refine ⟨.slice (some ⟨b, 0, none⟩) 0 0, w, ?_, hown, Below.refl _ _, fun _ _ _ => rfl⟩
      simp [Builtin.append_, run_underlying hT, sizeOf, typeInfo, hi0, Builtin.lenOf, Builtin.firstCells, storeCells]
    · exact go ad rfl (fun j u hj => by simp at hj)
  · refine go _ e' (fun j u hj => ?_)
    rw [flatten_at m hm l hlen] at hj
    cases hq : l[j / m]? with
    | none => rw [hq] at hj; cases hj
    | some y =>
      rw [hq] at hj
      have h1 := hc (j / m) y hq (j % m) u hj
      have h3 : (⟨b', o', none⟩ : Addr).add j = ⟨b', o' + (j / m * m + j % m), none⟩ := by
        rw [show j / m * m + j % m = j by rw [Nat.mul_comm]; exact Nat.div_add_mod j m]
        unfold Addr.add
        by_cases hz : j = 0
        · simp [hz]
        · simp [hz]
      rw [h3]; exact h1
/-- .. and one element more -/
theorem run_more (w : World) (T e m bytes : Nat) (z : Value) (hT : Try.prog.underlying T = some (.slice e)) (hi : (Try.prog.info? e).map (fun i => (i.zero, i.size, i.bytes)) = some (some z, m, bytes)) (hzs : z.cells.size = m) (hm : 0 < m)
    (base g : Nat) (v : Value) (xs : List (List Value)) (hown : OwnC w base e m v xs) (y : List Value) (hy : w.heap[g]? = some (.cells y.toArray e (0, 0)))
    (hlen : y.length = m) (hone : ∀ u ∈ y, u.oneCell' = true) (hbytes : (xs.length + 1) * bytes ≤ 140737488355328) (hmax : xs.length + 1 ≤ 9223372036854775807) (hbase : base ≤ w.heap.size) (ty : TypeId) :
    ∃ v' w', (Builtin.append_ #[T, T] ty #[v, .slice (some ⟨g, 0, none⟩) 1 1]).run Try.prog w = .ok v' w' ∧ OwnC w' base e m v' (xs ++ [y]) ∧ Below base w w' := by
  obtain ⟨i0, hi0, hz0, hz1, hz2⟩ := info_parts hi
  obtain ⟨v', w', h1, h2, h3, _, h5⟩ := run_append_own_at (P := Try.prog) w base T ty e i0 z m bytes hT hi0 hz0 hz1 hz2 hzs hm v xs.length xs.flatten hown ⟨g, 0, none⟩ 1 1 y (by rw [Nat.one_mul]; exact hlen) (fun j u hj => by
    have e : (⟨g, 0, none⟩ : Addr).add j = ⟨g, j, none⟩ := by unfold Addr.add; by_cases hz : j = 0 <;> simp [hz]
    rw [e]
    simpa [World.cell?, hy] using hj) hone (by unfold maxLen; omega) hbytes hbase
  refine ⟨v', w', h1, ?_, ⟨h3.os, h3.tape, h3.output, h3.size, fun k hk => h3.block k (by omega) (fun e => by have := hown.block_lt k e.symm; omega)⟩⟩
  unfold OwnC
  simpa using h2
theorem op_cat (a : Act) (w w' : World) (T t s : Nat) (v v' x : Value) (h1 : a.tmps.getD t undef = v) (h2 : a.tmps.getD s undef = x) (oo : Oper) (hr : (Builtin.append_ #[T, T] oo.type #[v, x]).run Try.prog w = .ok v' w') (ho : oo.op = .call { callee := .builtin .append, args := #[.tmp t, .tmp s], argTypes := #[T, T] }) :
    (execOp a.eval oo).run Try.prog w = .ok (.value v') w' := by
  have hs : a.eval (.tmp t) = v := h1
  have hx : a.eval (.tmp s) = x := h2
  unfold execOp
  simp only [ho, resolve, invoke, builtin, Sem.run_bind, Sem.run_pure, Result.andThen_ok, List.map_toArray, List.map_cons, List.map_nil, hs, hx, hr]
theorem own_empty {w : World} {base : Nat} {e : TypeId} {m g0 : Nat} (h : OwnC w base e m (.slice (some ⟨g0, 0, none⟩) 0 0) []) : ∃ cur, w.heap[g0]? = some (.cells cur e (0, 0)) ∧ cur.size = 0 := by
  rcases h.2 with ⟨h, _⟩ | ⟨g, cap, cur, hv, _, hh, _, _, hs, _⟩
  · cases h
  · injection hv with h1 h2 h3
    injection h1 with h1
    injection h1 with h1
    subst h1
    refine ⟨cur, hh, ?_⟩
    rw [hs, ← h3, Nat.zero_mul]
theorem op_mul2 (a : Act) (w : World) (x : Int) (t : Nat) (h : a.tmps.getD t undef = .int .i64 x) (hx : 0 ≤ x ∧ x ≤ 4611686018427387903) (oo : Oper) (ho : oo.op = .binOp .mul 3 (.const (.int .i64 2)) (.tmp t) 3) : (execOp a.eval oo).run Try.prog w = .ok (.value (.int .i64 (2 * x))) w := by
  have h' : a.tmps[t]?.getD undef = .int .i64 x := by simpa using h
  unfold execOp
  rw [ho]
  go_simp
  rw [IntKind.wrap_i64]; omega
theorem op_store_ints (a : Act) (w : World) (g k : Nat) (u : Value) (A : Option Addr) (n q : Nat) (t s : Nat) (h1 : a.tmps.getD t undef = .pointer (some ⟨g, k, none⟩)) (h2 : a.tmps.getD s undef = .slice A n q) (hc : w.cell? ⟨g, k, none⟩ = some u) (hz : w.frozen? ⟨g, k, none⟩ = false) (oo : Oper) (ho : oo.op = .store 22 (.tmp t) (.tmp s)) : (execOp a.eval oo).run Try.prog w = .ok .skip (w.setCell ⟨g, k, none⟩ (.slice A n q)) := by
  have h1' : a.tmps[t]?.getD undef = .pointer (some ⟨g, k, none⟩) := by simpa using h1
  have h2' : a.tmps[s]?.getD undef = .slice A n q := by simpa using h2
  unfold execOp
  rw [ho]
  go_simp
theorem op_empty_and (a : Act) (w : World) (oo : Oper) (ho : oo.op = .buildSlice 24 0 #[]) : (execOp a.eval oo).run Try.prog w = .ok (.value (.slice (some ⟨w.heap.size, 0, none⟩) 0 0)) (w.alloc (.cells #[] 43)) := by
  unfold execOp
  rw [ho]
  go_simp
theorem op_empty_int (a : Act) (w : World) (oo : Oper) (ho : oo.op = .buildSlice 22 0 #[]) : (execOp a.eval oo).run Try.prog w = .ok (.value (.slice (some ⟨w.heap.size, 0, none⟩) 0 0)) (w.alloc (.cells #[] 3)) := by
  unfold execOp
  rw [ho]
  go_simp
theorem op_one_int (a : Act) (w : World) (t : Nat) (x : Int) (h : a.tmps.getD t undef = .int .i64 x) (oo : Oper) (ho : oo.op = .buildSlice 22 1 #[(0, .tmp t)]) : (execOp a.eval oo).run Try.prog w = .ok (.value (.slice (some ⟨w.heap.size, 0, none⟩) 1 1)) (w.alloc (.cells #[.int .i64 x] 3)) := by
  have h' : a.tmps[t]?.getD undef = .int .i64 x := by simpa using h
  unfold execOp
  rw [ho]
  go_simp
theorem op_one_and (a : Act) (w : World) (t : Nat) (x y z : Int) (h : a.tmps.getD t undef = .agg #[.int .i64 x, .int .i64 y, .int .i64 z]) (oo : Oper) (ho : oo.op = .buildSlice 24 1 #[(0, .tmp t)]) : (execOp a.eval oo).run Try.prog w = .ok (.value (.slice (some ⟨w.heap.size, 0, none⟩) 1 1)) (w.alloc (.cells #[.int .i64 x, .int .i64 y, .int .i64 z] 43)) := by
  have h' : a.tmps[t]?.getD undef = .agg #[.int .i64 x, .int .i64 y, .int .i64 z] := by simpa using h
  unfold execOp
  rw [ho]
  go_simp
theorem dne {d : Nat → Bool} {i j : Nat} (h : j ≠ i) : (decide (j = i) || d j) = d j := by simp [h]
/-- where a region stands that puts a list together (operation i0 an empty one, i3 the row xs behind it, i2 a list of x alone, ia it behind all) and lays it in field fi of box gd (operation is) -/
structure Cat (W : World) (gd : Nat) (Z : Array Value) (T e m fi : Nat) (xs : List (List Value)) (x : List Value) (i0 i3 i2 ia is s0 s3 s2 sa : Nat) (d : Nat → Bool) (f : Nat → Value) (w : World) : Prop where
  b : Below gd W w
  k : ∀ k, k < W.heap.size → k ≠ gd → w.heap[k]? = W.heap[k]?
  n0 : d is = false → w.heap[gd]? = some (.cells Z T (0, 0))
  n1 : d is = true → w.heap[gd]? = some (.cells (Z.setIfInBounds fi (f sa)) T (0, 0))
  o0 : d i0 = true → d i3 = false → ∃ g, f s0 = .slice (some ⟨g, 0, none⟩) 0 0 ∧ OwnC w W.heap.size e m (f s0) []
  o3 : d i3 = true → d ia = false → OwnC w W.heap.size e m (f s3) xs
  o2 : d i2 = true → d ia = false → ∃ g, f s2 = .slice (some ⟨g, 0, none⟩) 1 1 ∧ W.heap.size ≤ g ∧ w.heap[g]? = some (.cells x.toArray e (0, 0))
  oa : d ia = true → OwnC w W.heap.size e m (f sa) (xs ++ [x])
  dd : (d i3 = true → d i0 = true) ∧ (d ia = true → d i3 = true ∧ d i2 = true) ∧ (d is = true → d ia = true)
section
variable {W : World} {gd : Nat} {Z : Array Value} {T e m fi : Nat} {xs : List (List Value)} {x : List Value} {i0 i3 i2 ia is s0 s3 s2 sa : Nat} {d : Nat → Bool} {f f' : Nat → Value} {w w' : World}
theorem Cat.start (hg : W.heap[gd]? = some (.cells Z T (0, 0))) (f : Nat → Value) : Cat W gd Z T e m fi xs x i0 i3 i2 ia is s0 s3 s2 sa (fun _ => false) f W.drew :=
  ⟨(Below.refl _ _).drew, fun _ _ _ => rfl, fun _ => hg, (fun h => by cases h), (fun h => by cases h), (fun h => by cases h), (fun h => by cases h), (fun h => by cases h), (fun h => by cases h), (fun h => by cases h), (fun h => by cases h)⟩
theorem Cat.read (h : Cat W gd Z T e m fi xs x i0 i3 i2 ia is s0 s3 s2 sa d f w) (i : Nat) (hn : i0 ≠ i ∧ i3 ≠ i ∧ i2 ≠ i ∧ ia ≠ i ∧ is ≠ i) (e0 : f' s0 = f s0) (e3 : f' s3 = f s3) (e2 : f' s2 = f s2) (ea : f' sa = f sa) : Cat W gd Z T e m fi xs x i0 i3 i2 ia is s0 s3 s2 sa (fun j => decide (j = i) || d j) f' w := by
  obtain ⟨n0, n3, n2, na, ns⟩ := hn
  obtain ⟨b, k, a0, a1, o0, o3, o2, oa, dd⟩ := h
  constructor <;> (try simp only [dne n0, dne n3, dne n2, dne na, dne ns, e0, e3, e2, ea]) <;> assumption
theorem Cat.empty (h : Cat W gd Z T e m fi xs x i0 i3 i2 ia is s0 s3 s2 sa d f w) (hn : i3 ≠ i0 ∧ i2 ≠ i0 ∧ ia ≠ i0 ∧ is ≠ i0) (hgd : gd < W.heap.size) (h3 : d i3 = false) (e0 : f' s0 = .slice (some ⟨w.heap.size, 0, none⟩) 0 0) (e2 : f' s2 = f s2) : Cat W gd Z T e m fi xs x i0 i3 i2 ia is s0 s3 s2 sa (fun j => decide (j = i0) || d j) f' (w.alloc (.cells #[] e)) := by
  obtain ⟨n3, n2, na, ns⟩ := hn
  obtain ⟨b, k, a0, a1, o0, o3, o2, oa, d1, d2, d3⟩ := h
  have hz := b.size
  have hb : Below w.heap.size w (w.alloc (.cells #[] e)) := (Below.refl _ _).alloc (Nat.le_refl _) _
  have fa : d ia = false := by
    cases q : d ia with
    | false => rfl
    | true => rw [(d2 q).1] at h3; cases h3
  have fs : d is = false := by
    cases q : d is with
    | false => rfl
    | true => rw [d3 q] at fa; cases fa
  constructor <;> (try simp only [decide_true, Bool.true_or, dne n3, dne n2, dne na, dne ns]) <;> (try simp only [h3, fa, fs])
  · exact b.trans (hb.mono (by omega))
  · exact fun j hj hg => (hb.block j (by omega)).trans (k j hj hg)
  · exact fun _ => (hb.block gd (by omega)).trans (a0 fs)
  · exact fun h => by cases h
  · intro _ _
    refine ⟨_, e0, ?_⟩
    rw [e0]
    exact World.ownsRow_made w #[] 0 hz (Nat.zero_le _) (by simp)
  · exact fun h => by cases h
  · intro h _
    obtain ⟨g, p1, p2, p3⟩ := o2 h fa
    exact ⟨g, e2.trans p1, p2, (hb.block g (lt_of_block p3)).trans p3⟩
  · exact fun h => by cases h
  · simp
theorem Cat.row (h : Cat W gd Z T e m fi xs x i0 i3 i2 ia is s0 s3 s2 sa d f w) (hn : i0 ≠ i3 ∧ i2 ≠ i3 ∧ ia ≠ i3 ∧ is ≠ i3) (hgd : gd < W.heap.size) (h0 : d i0 = true) (ha : d ia = false) (g0 : Nat) (hg0 : OwnC w W.heap.size e m (.slice (some ⟨g0, 0, none⟩) 0 0) []) (hm : 0 < m) (hx : x.length = m) (hb : Below W.heap.size w w') (hk : ∀ k, k < w.heap.size → k ≠ g0 → w'.heap[k]? = w.heap[k]?) (ho : OwnC w' W.heap.size e m (f' s3) xs) (e2 : f' s2 = f s2) : Cat W gd Z T e m fi xs x i0 i3 i2 ia is s0 s3 s2 sa (fun j => decide (j = i3) || d j) f' w' := by
  obtain ⟨n0, n2, na, ns⟩ := hn
  obtain ⟨b, k, a0, a1, o0, o3, o2, oa, d1, d2, d3⟩ := h
  have hz := b.size
  have fs : d is = false := by
    cases q : d is with
    | false => rfl
    | true => rw [d3 q] at ha; cases ha
  constructor <;> (try simp only [decide_true, Bool.true_or, dne n0, dne n2, dne na, dne ns]) <;> (try simp only [h0, ha, fs])
  · exact b.trans (hb.mono (by omega))
  · exact fun j hj hg => (hb.block j hj).trans (k j hj hg)
  · exact fun _ => (hb.block gd hgd).trans (a0 fs)
  · exact fun h => by cases h
  · exact fun _ h => by cases h
  · exact fun _ _ => ho
  · intro h _
    obtain ⟨g, p1, p2, p3⟩ := o2 h ha
    refine ⟨g, e2.trans p1, p2, (hk g (lt_of_block p3) ?_).trans p3⟩
    rintro rfl
    obtain ⟨cur, q1, q2⟩ := own_empty hg0
    rw [p3] at q1
    injection q1 with q1
    injection q1 with q1
    rw [← q1] at q2
    have : x.toArray.size = x.length := by simp
    omega
  · exact fun h => by cases h
  · simp
theorem Cat.one (h : Cat W gd Z T e m fi xs x i0 i3 i2 ia is s0 s3 s2 sa d f w) (hn : i0 ≠ i2 ∧ i3 ≠ i2 ∧ ia ≠ i2 ∧ is ≠ i2) (hgd : gd < W.heap.size) (ha : d ia = false) (e0 : f' s0 = f s0) (e3 : f' s3 = f s3) (e2 : f' s2 = .slice (some ⟨w.heap.size, 0, none⟩) 1 1) : Cat W gd Z T e m fi xs x i0 i3 i2 ia is s0 s3 s2 sa (fun j => decide (j = i2) || d j) f' (w.alloc (.cells x.toArray e)) := by
  obtain ⟨n0, n3, na, ns⟩ := hn
  obtain ⟨b, k, a0, a1, o0, o3, o2, oa, d1, d2, d3⟩ := h
  have hz := b.size
  have hb : Below w.heap.size w (w.alloc (.cells x.toArray e)) := (Below.refl _ _).alloc (Nat.le_refl _) _
  have fs : d is = false := by
    cases q : d is with
    | false => rfl
    | true => rw [d3 q] at ha; cases ha
  constructor <;> (try simp only [decide_true, Bool.true_or, dne n0, dne n3, dne na, dne ns]) <;> (try simp only [ha, fs])
  · exact b.trans (hb.mono (by omega))
  · exact fun j hj hg => (hb.block j (by omega)).trans (k j hj hg)
  · exact fun _ => (hb.block gd (by omega)).trans (a0 fs)
  · exact fun h => by cases h
  · intro h1 h2
    obtain ⟨g, p1, p2⟩ := o0 h1 h2
    exact ⟨g, e0.trans p1, by rw [e0]; exact p2.keep hb⟩
  · intro h1 _
    rw [e3]; exact (o3 h1 ha).keep hb
  · intro _ _
    exact ⟨_, e2, hz, Array.getElem?_push_size⟩
  · exact fun h => by cases h
  · exact ⟨d1, by simp, by simp⟩
theorem Cat.more (h : Cat W gd Z T e m fi xs x i0 i3 i2 ia is s0 s3 s2 sa d f w) (hn : i0 ≠ ia ∧ i3 ≠ ia ∧ i2 ≠ ia ∧ is ≠ ia) (hgd : gd < W.heap.size) (h3 : d i3 = true) (h2 : d i2 = true) (hs : d is = false) (hb : Below W.heap.size w w') (ho : OwnC w' W.heap.size e m (f' sa) (xs ++ [x])) : Cat W gd Z T e m fi xs x i0 i3 i2 ia is s0 s3 s2 sa (fun j => decide (j = ia) || d j) f' w' := by
  obtain ⟨n0, n3, n2, ns⟩ := hn
  obtain ⟨b, k, a0, a1, o0, o3, o2, oa, d1, d2, d3⟩ := h
  have hz := b.size
  constructor <;> (try simp only [decide_true, Bool.true_or, dne n0, dne n3, dne n2, dne ns]) <;> (try simp only [h3, h2, hs])
  · exact b.trans (hb.mono (by omega))
  · exact fun j hj hg => (hb.block j hj).trans (k j hj hg)
  · exact fun _ => (hb.block gd hgd).trans (a0 hs)
  · exact fun h => by cases h
  · exact fun _ h => by cases h
  · exact fun _ h => by cases h
  · exact fun _ h => by cases h
  · exact fun _ => ho
  · simp [d1 h3]
theorem Cat.laid (h : Cat W gd Z T e m fi xs x i0 i3 i2 ia is s0 s3 s2 sa d f w) (hn : i0 ≠ is ∧ i3 ≠ is ∧ i2 ≠ is ∧ ia ≠ is) (hgd : gd < W.heap.size) (ha : d ia = true) (hk : But gd w w') (hv : w'.heap[gd]? = some (.cells (Z.setIfInBounds fi (f sa)) T (0, 0))) (ea : f' sa = f sa) : Cat W gd Z T e m fi xs x i0 i3 i2 ia is s0 s3 s2 sa (fun j => decide (j = is) || d j) f' w' := by
  obtain ⟨n0, n3, n2, na⟩ := hn
  obtain ⟨b, k, a0, a1, o0, o3, o2, oa, d1, d2, d3⟩ := h
  have hz := b.size
  constructor <;> (try simp only [decide_true, Bool.true_or, dne n0, dne n3, dne n2, dne na]) <;> (try simp only [ha])
  · exact b.trans ⟨hk.os, hk.tape, hk.output, by rw [hk.z]; exact Nat.le_refl _, fun j hj => hk.b j (by omega)⟩
  · exact fun j hj hg => (hk.b j hg).trans (k j hj hg)
  · exact fun h => by cases h
  · exact fun _ => by rw [ea]; exact hv
  · intro _ h
    rw [(d2 ha).1] at h; cases h
  · exact fun _ h => by cases h
  · exact fun _ h => by cases h
  · intro _
    rw [ea]; exact (oa ha).keep_at fun g hg _ => hk.b g (by omega)
  · exact ⟨d1, fun _ => d2 ha, by simp⟩
end
end Go.Proofs.Ytpaneggajjgdlaa.Str
