/- Circuits come back from their octets, and octets from their circuits, on plain lists; no program is named here, no condition. -/
import Derived.Test.YtopjddmgejfalaaGreatDoorPk07
namespace Go.Proofs.YtopjddmgejfalaaGreatDoor.Aig
open Go.Lib Dig Circ Cw Aag

/- the names, to the end -/
theorem names5_of : ∀ (xs : List Nam) (k : Nat) (acc : List Nam), (∀ x ∈ xs, NamFine x) → xs.length ≤ k → rdNames k (nlL (xs.map namL)) acc = some (acc ++ xs)
  | [], k, acc, _, _ => by cases k <;> simp [rdNames, nlL]
  | x :: xs, k, acc, h, hk => by
    obtain ⟨m, rfl⟩ : ∃ m, k = m + 1 := ⟨k - 1, by simp at hk; omega⟩
    have hx := h x List.mem_cons_self
    have e : nlL ((x :: xs).map namL) = namL x ++ 10 :: nlL (xs.map namL) := by unfold nlL; simp
    rw [e, rdNames, if_neg (by simp), rdLine_of (l := namL x) _ (join_no10 _ (nam_words x hx)) (formNam_of x hx)]
    simp only
    rw [names5_of xs m (acc ++ [x]) (fun y hy => h y (List.mem_cons_of_mem _ hy)) (by simpa using hk)]
    simp
theorem names5_get : ∀ (k : Nat) (s : List UInt8) (acc l : List Nam), rdNames k s acc = some l → ∃ xs, l = acc ++ xs ∧ s = nlL (xs.map namL) ∧ ∀ x ∈ xs, OkN x.num ∧ x.kind.size ≤ s.length + 1 ∧ x.text.size ≤ s.length + 1
  | 0, s, acc, l, h => by
    rw [rdNames] at h
    split at h
    · rename_i hs
      simp only [Option.some.injEq] at h
      exact ⟨[], by simp [h], by rw [hs]; rfl, by simp⟩
    · cases h
  | k + 1, s, acc, l, h => by
    rw [rdNames] at h
    split at h
    · rename_i hs
      simp only [Option.some.injEq] at h
      exact ⟨[], by simp [h], by rw [hs]; rfl, by simp⟩
    · cases hq : rdLine formNam s with
      | none => rw [hq] at h; cases h
      | some q =>
        rw [hq] at h
        simp only at h
        obtain ⟨ln, e, _, hf⟩ := rdLine_get hq
        obtain ⟨e2, o1, o2, o3⟩ := formNam_fits ln q.1 hf
        obtain ⟨xs, h1, h2, h3⟩ := names5_get k q.2 (acc ++ [q.1]) l h
        have hl : ln.length ≤ s.length := by rw [e]; simp
        have hr : q.2.length ≤ s.length := by rw [e]; simp; omega
        refine ⟨q.1 :: xs, by rw [h1]; simp, ?_, fun x hx => ?_⟩
        · rw [e, e2, h2]; unfold nlL; simp
        · rcases List.mem_cons.1 hx with rfl | hx
          · exact ⟨o1, by omega, by omega⟩
          · obtain ⟨a, b, c⟩ := h3 x hx
            exact ⟨a, by omega, by omega⟩

/-- what octets need to be read: numbers and names within bounds, own literals in order -/
structure Fine5 (c : Cir) : Prop where
  f : Fine c
  m : c.max ≤ 2048
  n : c.max = c.ins.length + c.lats.length + c.ands.length
  i : c.ins = evens c.ins.length
  l : ∀ (j : Nat) t, c.lats[j]? = some t → t.a = lit (c.ins.length + j)
  a : ∀ (j : Nat) t, c.ands[j]? = some t → t.a = lit (c.ins.length + c.lats.length + j)
  d : ∀ t ∈ c.ands, (0 ≤ t.a - t.b ∧ t.a - t.b < 16384) ∧ (0 ≤ t.b - t.c ∧ t.b - t.c < 16384)

theorem line5 {α : Type} {form : List UInt8 → Option α} {f : α → List UInt8} {x : α} (r : List UInt8) (hn : (10 : UInt8) ∉ f x) (h : form (f x) = some x) : rdLine form (f x ++ [10] ++ r) = some (x, r) := by
  rw [List.append_assoc]; exact rdLine_of r hn h
theorem lit_no10 (x : Int) (h : OkN x) : (10 : UInt8) ∉ litL x := join_no10 _ (nums_words [x] (by simpa using h.1))
theorem lat_no10 (t : Tri) (h : OkN t.b ∧ OkN t.c) : (10 : UInt8) ∉ lat5 t := by
  unfold lat5
  split
  · exact join_no10 _ (nums_words [t.b] (by simpa using h.1.1))
  · exact join_no10 _ (nums_words [t.b, t.c] (by simpa using ⟨h.1.1, h.2.1⟩))
theorem head_no10 (ns : List Int) (h : ∀ x ∈ ns, OkN x) : (10 : UInt8) ∉ joinL ([97, 105, 103] :: nums ns) := join_no10 _ fun w hw => by
  rcases List.mem_cons.1 hw with rfl | hw
  · exact aig_word
  · exact nums_words ns (fun x hx => (h x hx).1) w hw

def headN (c : Cir) : List Int := [c.max, c.ins.length, c.lats.length, c.outs.length, c.ands.length, c.bads.length, c.invs.length]
theorem headN_ok (c : Cir) (h : Fine c) : ∀ x ∈ headN c, OkN x := fun x hx => by
  unfold headN at hx
  simp only [List.mem_cons, List.not_mem_nil, or_false] at hx
  have := h.li; have := h.ll; have := h.lo; have := h.lb; have := h.lc; have := h.la
  rcases hx with rfl | rfl | rfl | rfl | rfl | rfl | rfl
  · exact h.max
  all_goals exact nonneg_len _ (by omega)
theorem bare_core (c : Cir) : core5 c = (head5 c ++ [10]) ++ ((c.lats.map fun x => lat5 x ++ [10]).flatten ++ ((c.outs.map fun x => litL x ++ [10]).flatten ++ ((c.bads.map fun x => litL x ++ [10]).flatten ++ ((c.invs.map fun x => litL x ++ [10]).flatten ++ (c.ands.map and5).flatten)))) := by
  unfold core5 lines5
  rw [show nlL (head5 c :: (c.lats.map lat5 ++ (c.outs.map litL ++ (c.bads.map litL ++ c.invs.map litL)))) = (head5 c ++ [10]) ++ nlL (c.lats.map lat5 ++ (c.outs.map litL ++ (c.bads.map litL ++ c.invs.map litL))) by unfold nlL; simp]
  rw [nl_append, nl_append, nl_append, nl_map, nl_map, nl_map, nl_map]
  simp only [List.append_assoc]
theorem lits_of (l : List Int) (r : List UInt8) (h : ∀ x ∈ l, OkN x) : rdMany (fun _ => rdLine formLit) l.length 0 ((l.map fun x => litL x ++ [10]).flatten ++ r) [] = some (l, r) :=
  many5_of (p := fun _ => rdLine formLit) (f := fun x => litL x ++ [10]) r l 0 [] (fun j x hj r => by
    have hx := h x (List.mem_of_getElem? hj)
    exact line5 r (lit_no10 x hx) (formLit_of x hx))
/-- THE CORE OF A CIRCUIT IN ORDER IS READ -/
theorem core_of (c : Cir) (h : Fine5 c) (r : List UInt8) : rdCore (core5 c ++ r) = some ({ c with names := [] }, r) := by
  obtain ⟨hf, hm, hn, hi, hl, ha, hd⟩ := h
  rw [bare_core]
  simp only [List.append_assoc]
  unfold rdCore
  have e0 : ∀ Z, rdLine formHead5 (head5 c ++ ([10] ++ Z)) = some (headN c, Z) := fun Z =>
    rdLine_of Z (head_no10 (headN c) (headN_ok c hf)) (formHead5_of (headN c) rfl (headN_ok c hf) ⟨hm, by unfold headN; simpa using hn⟩)
  rw [e0]
  simp only [Option.bind_some]
  rw [show (headN c).getD 0 0 = c.max from rfl, show (headN c).getD 1 0 = (c.ins.length : Int) from rfl, show (headN c).getD 2 0 = (c.lats.length : Int) from rfl, show (headN c).getD 3 0 = (c.outs.length : Int) from rfl, show (headN c).getD 4 0 = (c.ands.length : Int) from rfl, show (headN c).getD 5 0 = (c.bads.length : Int) from rfl, show (headN c).getD 6 0 = (c.invs.length : Int) from rfl]
  simp only [Int.toNat_natCast]
  rw [many5_of (f := fun x => lat5 x ++ [10]) _ c.lats 0 [] (fun j x hj r => by
    have hx := hf.lats x (List.mem_of_getElem? hj)
    rw [Nat.zero_add, ← hl j x hj]
    exact line5 r (lat_no10 x hx.2) (formLat5_of x hx.2))]
  simp only [Option.bind_some, List.nil_append]
  rw [lits_of c.outs _ hf.outs]
  simp only [Option.bind_some]
  rw [lits_of c.bads _ hf.bads]
  simp only [Option.bind_some]
  rw [lits_of c.invs _ hf.invs]
  simp only [Option.bind_some]
  rw [many5_of (f := and5) r c.ands 0 [] (fun j x hj r => by
    have hx := hd x (List.mem_of_getElem? hj)
    rw [Nat.zero_add, ← ha j x hj]
    exact and_of x hx.1 hx.2 r)]
  simp only [Option.bind_some, List.nil_append]
  rw [← hi]
theorem lits_get {n : Nat} {s : List UInt8} {l : List Int} {r : List UInt8} (h : rdMany (fun _ => rdLine formLit) n 0 s [] = some (l, r)) : l.length = n ∧ s = (l.map fun x => litL x ++ [10]).flatten ++ r ∧ ∀ x ∈ l, OkN x := by
  obtain ⟨xs, h1, h2, h3, h4⟩ := many5_get (fun _ => reads_lit) n 0 s [] l r h
  rw [List.nil_append] at h1
  subst h1
  refine ⟨h2, h3, fun x hx => ?_⟩
  obtain ⟨j, hj, e⟩ := List.getElem_of_mem hx
  exact h4 j x (by rw [List.getElem?_eq_getElem hj, e])
/-- WHAT IS READ AHEAD OF THE NAMES IS A CIRCUIT'S CORE -/
theorem core_get {s : List UInt8} {c : Cir} {r : List UInt8} (h : rdCore s = some (c, r)) : s = core5 c ++ r ∧ c.names = [] ∧ c.max = c.ins.length + c.lats.length + c.ands.length ∧ c.max ≤ 2048 ∧ c.ins = evens c.ins.length ∧ (∀ t ∈ c.lats, OkN t.b ∧ OkN t.c) ∧ (∀ x ∈ c.outs, OkN x) ∧ (∀ x ∈ c.bads, OkN x) ∧ (∀ x ∈ c.invs, OkN x) ∧
    (∀ (j : Nat) t, c.lats[j]? = some t → t.a = lit (c.ins.length + j)) ∧ (∀ (j : Nat) t, c.ands[j]? = some t → t.a = lit (c.ins.length + c.lats.length + j)) := by
  unfold rdCore at h
  obtain ⟨h0, e0, h⟩ := Option.bind_eq_some_iff.1 h
  obtain ⟨r2, e2, h⟩ := Option.bind_eq_some_iff.1 h
  obtain ⟨r3, e3, h⟩ := Option.bind_eq_some_iff.1 h
  obtain ⟨r4, e4, h⟩ := Option.bind_eq_some_iff.1 h
  obtain ⟨r5, e5, h⟩ := Option.bind_eq_some_iff.1 h
  obtain ⟨r6, e6, h⟩ := Option.bind_eq_some_iff.1 h
  simp only [Option.some.injEq, Prod.mk.injEq] at h
  obtain ⟨rfl, rfl⟩ := h
  obtain ⟨g0, hl, hok, hm, hn⟩ := reads_head.get s h0.1 h0.2 e0
  obtain ⟨n2, s2, k2⟩ : r2.1.length = (h0.1.getD 2 0).toNat ∧ h0.2 = (r2.1.map fun x => lat5 x ++ [10]).flatten ++ r2.2 ∧ ∀ (j : Nat) t, r2.1[j]? = some t → (t.a = lit ((h0.1.getD 1 0).toNat + (0 + j)) ∧ OkN t.b ∧ OkN t.c) := by
    obtain ⟨xs, a1, a2, a3, a4⟩ := many5_get (fun i => reads_lat (lit ((h0.1.getD 1 0).toNat + i))) _ 0 h0.2 [] r2.1 r2.2 e2
    rw [List.nil_append] at a1
    subst a1
    exact ⟨a2, a3, a4⟩
  obtain ⟨n3, s3, k3⟩ := lits_get (l := r3.1) (r := r3.2) e3
  obtain ⟨n4, s4, k4⟩ := lits_get (l := r4.1) (r := r4.2) e4
  obtain ⟨n5, s5, k5⟩ := lits_get (l := r5.1) (r := r5.2) e5
  obtain ⟨n6, s6, k6⟩ : r6.1.length = (h0.1.getD 4 0).toNat ∧ r5.2 = (r6.1.map and5).flatten ++ r6.2 ∧ ∀ (j : Nat) t, r6.1[j]? = some t → t.a = lit ((h0.1.getD 1 0).toNat + (h0.1.getD 2 0).toNat + (0 + j)) := by
    obtain ⟨xs, a1, a2, a3, a4⟩ := many5_get (fun i => reads_and (lit ((h0.1.getD 1 0).toNat + (h0.1.getD 2 0).toNat + i))) _ 0 r5.2 [] r6.1 r6.2 e6
    rw [List.nil_append] at a1
    subst a1
    exact ⟨a2, a3, a4⟩
  match hns : h0.1, hl with
  | [x0, x1, x2, x3, x4, x5, x6], _ =>
    rw [hns] at hok hm hn n2 n3 n4 n5 n6 k2 k6 g0
    simp only [List.getD_cons_zero, List.getD_cons_succ] at hm hn n2 n3 n4 n5 n6 k2 k6 ⊢
    have p : ∀ x ∈ ([x0, x1, x2, x3, x4, x5, x6] : List Int), 0 ≤ x := fun x hx => (hok x hx).1
    have p1 := p x1 (by simp); have p2 := p x2 (by simp); have p3 := p x3 (by simp); have p4 := p x4 (by simp); have p5 := p x5 (by simp); have p6 := p x6 (by simp)
    refine ⟨?_, trivial, ?_, hm, by rw [evens_len], fun t ht => ?_, k3, k4, k5, fun j t hj => ?_, fun j t hj => ?_⟩
    · rw [bare_core]
      simp only [List.append_assoc]
      rw [← s6, ← s5, ← s4, ← s3, ← s2]
      unfold head5
      simp only [evens_len]
      rw [n2, n3, n4, n5, n6, Int.toNat_of_nonneg p1, Int.toNat_of_nonneg p2, Int.toNat_of_nonneg p3, Int.toNat_of_nonneg p4, Int.toNat_of_nonneg p5, Int.toNat_of_nonneg p6]
      rw [g0]; simp
    · rw [evens_len, n2, n6]; omega
    · obtain ⟨j, hj, e⟩ := List.getElem_of_mem ht
      exact (k2 j t (by rw [List.getElem?_eq_getElem hj, e])).2
    · rw [evens_len]; have := (k2 j t hj).1; rw [Nat.zero_add] at this; exact this
    · rw [evens_len, n2]; have := k6 j t hj; rw [Nat.zero_add] at this; exact this
theorem core_more {s : List UInt8} {c : Cir} {r : List UInt8} (t : List UInt8) (h : rdCore s = some (c, r)) : rdCore (s ++ t) = some (c, r ++ t) := by
  unfold rdCore at h ⊢
  obtain ⟨h0, e0, h⟩ := Option.bind_eq_some_iff.1 h
  obtain ⟨r2, e2, h⟩ := Option.bind_eq_some_iff.1 h
  obtain ⟨r3, e3, h⟩ := Option.bind_eq_some_iff.1 h
  obtain ⟨r4, e4, h⟩ := Option.bind_eq_some_iff.1 h
  obtain ⟨r5, e5, h⟩ := Option.bind_eq_some_iff.1 h
  obtain ⟨r6, e6, h⟩ := Option.bind_eq_some_iff.1 h
  simp only [Option.some.injEq, Prod.mk.injEq] at h
  obtain ⟨rfl, rfl⟩ := h
  rw [reads_head.more s h0.1 h0.2 t e0]
  simp only [Option.bind_some]
  rw [many5_more (fun i => reads_lat (lit ((h0.1.getD 1 0).toNat + i))) t _ _ _ _ r2.1 r2.2 e2]
  simp only [Option.bind_some]
  rw [many5_more (fun _ => reads_lit) t _ _ _ _ r3.1 r3.2 e3]
  simp only [Option.bind_some]
  rw [many5_more (fun _ => reads_lit) t _ _ _ _ r4.1 r4.2 e4]
  simp only [Option.bind_some]
  rw [many5_more (fun _ => reads_lit) t _ _ _ _ r5.1 r5.2 e5]
  simp only [Option.bind_some]
  rw [many5_more (fun i => reads_and (lit ((h0.1.getD 1 0).toNat + (h0.1.getD 2 0).toNat + i))) t _ _ _ _ r6.1 r6.2 e6]
  simp only [Option.bind_some]

/-- OCTETS OF A CIRCUIT IN ORDER ARE READ -/
theorem circ5_of (c : Cir) (h : Fine5 c) : circ5 (oct5 c) = some c := by
  unfold circ5 oct5
  rw [core_of c h]
  simp only [Option.bind_some]
  rw [names5_of c.names _ [] h.f.names (by rw [nl_size]; simp)]
  simp
theorem read5_of (good : Cir → Bool) (c : Cir) (h : Fine5 c) (hg : good c = true) (hs : (oct5 c).length ≤ 65536) : read5 good (oct5 c) = .ok c := by
  unfold read5
  rw [if_neg (by omega), circ5_of c h]
  simp only
  rw [if_pos hg]
/-- OCTETS THAT ARE READ ARE THEIR CIRCUIT'S -/
theorem circ5_get {s : List UInt8} {c : Cir} (h : circ5 s = some c) : s = oct5 c := by
  unfold circ5 at h
  obtain ⟨r, e, h⟩ := Option.bind_eq_some_iff.1 h
  cases hq : rdNames r.2.length r.2 [] with
  | none => rw [hq] at h; cases h
  | some l =>
    rw [hq] at h
    simp only [Option.map_some, Option.some.injEq] at h
    subst h
    obtain ⟨g, _⟩ := core_get (c := r.1) (r := r.2) e
    obtain ⟨xs, h1, h2, _⟩ := names5_get _ _ _ _ hq
    rw [List.nil_append] at h1
    subst h1
    rw [g]
    unfold oct5
    rw [← h2]
    rfl
theorem read5_get {good : Cir → Bool} {s : List UInt8} {c : Cir} (h : read5 good s = .ok c) : s = oct5 c ∧ good c = true ∧ s.length ≤ 65536 ∧ circ5 s = some c := by
  unfold read5 at h
  split at h
  · cases h
  · rename_i hl
    split at h
    · cases h
    · rename_i d hd
      split at h
      · rename_i hg
        simp only [Except.ok.injEq] at h
        subst h
        exact ⟨circ5_get hd, hg, by omega, hd⟩
      · cases h
/-- A BEGINNING OF A CIRCUIT'S OCTETS, AHEAD OF ITS NAMES, IS REFUSED -/
theorem read5_cut (good : Cir → Bool) (c : Cir) (h : Fine5 c) (hn : c.names = []) (hs : (oct5 c).length ≤ 65536) (k : Nat) (hk : k < (oct5 c).length) : read5 good ((oct5 c).take k) = .error eSyntax := by
  have e : oct5 c = core5 c := by unfold oct5; rw [hn]; simp [nlL]
  rw [e] at hk hs ⊢
  have hnone : circ5 ((core5 c).take k) = none := by
    cases hq : circ5 ((core5 c).take k) with
    | none => rfl
    | some d =>
      exfalso
      unfold circ5 at hq
      obtain ⟨r, e, _⟩ := Option.bind_eq_some_iff.1 hq
      have h1 := core_more (c := r.1) (r := r.2) ((core5 c).drop k) e
      rw [List.take_append_drop] at h1
      have h2 := core_of c h []
      rw [List.append_nil, h1] at h2
      simp only [Option.some.injEq, Prod.mk.injEq] at h2
      have h3 := congrArg List.length h2.2
      rw [List.length_append, List.length_drop, List.length_nil] at h3
      omega
  unfold read5
  rw [if_neg (by rw [List.length_take]; omega), hnone]
end Go.Proofs.YtopjddmgejfalaaGreatDoor.Aig
