/- An argument that is a circuit, opened: its names' texts, too, are within the form's reach; no condition. -/
import Derived.Test.YtckdlbfndmmjjaaGreatDoorOpen
namespace Go.Proofs.YtckdlbfndmmjjaaGreatDoor.Cw
open Go.ChangeShapes Go.WideShapes Go.RowKit Go.Deep Circ

section
variable {H : Type} {enc : TypeId × Value → H} {w : World}

theorem weightsAll_mem {P : Program} {e : TypeId} : ∀ {ds : List (DataW H)} {d : DataW H}, d ∈ ds → ∀ n ∈ d.weights P e, n ∈ DataW.weightsAll P e ds
  | [], d, h, _, _ => nomatch h
  | x :: r, d, h, n, hn => by
    rw [DataW.weightsAll, List.mem_append]
    rcases List.mem_cons.1 h with rfl | h
    · exact .inl hn
    · exact .inr (weightsAll_mem h n hn)
theorem str_small {n : Nat} {cs : List Value} {y : DataW H × List MemPlace} (h : DataW.trod enc Tryz.prog w 0 (fun _ => true) true n 9 cs = some y) (hw : ∀ k ∈ DataW.weights Tryz.prog 9 y.1, k ≤ reachBytes) : ∃ s : ByteArray, cs = [.string s] ∧ s.size ≤ 281474976710656 := by
  obtain ⟨s, hc, rfl, _⟩ := DataW.trod_string Tryz.underlying9 h
  refine ⟨s, hc, ?_⟩
  have := hw s.data.toList.length (by simp [DataW.weights])
  unfold reachBytes at this
  have e : s.data.toList.length = s.size := by simp
  omega
theorem nam_small {n : Nat} {cs : List Value} {y : DataW H × List MemPlace} (h : DataW.trod enc Tryz.prog w 0 (fun _ => true) true n 56 cs = some y) (hw : ∀ k ∈ DataW.weights Tryz.prog 56 y.1, k ≤ reachBytes) : ∃ (s t : ByteArray) (v : Value), cs = [.string s, v, .string t] ∧ s.size ≤ 281474976710656 ∧ t.size ≤ 281474976710656 := by
  obtain ⟨xs, n', _, hx', hl, hx, hf⟩ := DataW.trod_struct Tryz.underlying56 h
  rw [c45] at hl
  obtain ⟨u0, u1, u2, rfl⟩ := three_of cs hl
  obtain ⟨y0, y1, y2, rfl⟩ := three_of xs hx
  have f0 := hf 0 _ rfl
  have f2 := hf 2 _ rfl
  simp [c9] at f0 f2
  have hy : y.1 = .agg [y0.1, y1.1, y2.1] := by rw [hx']; rfl
  rw [hy] at hw
  have hm : ∀ (j : Nat) (t : TypeId) (x : DataW H), ([9, 3, 9] : List TypeId)[j]? = some t → ([y0.1, y1.1, y2.1] : List (DataW H))[j]? = some x → ∀ n ∈ DataW.weights Tryz.prog t x, n ≤ reachBytes := fun j t x ht hx n hn => by
    refine hw n ?_
    simp only [DataW.weights, Tryz.underlying56]
    exact DataW.weights_mem_each (ts := [9, 3, 9]) ht hx n hn
  obtain ⟨s, e0, b0⟩ := str_small f0 (hm 0 9 _ rfl rfl)
  obtain ⟨t, e2, b2⟩ := str_small f2 (hm 2 9 _ rfl rfl)
  simp at e0 e2
  subst e0; subst e2
  exact ⟨s, t, u1, rfl, b0, b2⟩
theorem names_small {fuel : Nat} {A : Option Addr} {l : List Nam} {q B : Nat} {x : DataW H × List MemPlace} (h : DataW.trod enc Tryz.prog w 0 (fun _ => true) true fuel 25 [.slice A l.length q] = some x) (hr : LRow w B 3 A (nams l)) (hw : ∀ k ∈ DataW.weights Tryz.prog 25 x.1, k ≤ reachBytes) :
    ∀ y ∈ l, y.kind.size ≤ 281474976710656 ∧ y.text.size ≤ 281474976710656 := by
  intro y hy
  rcases open_slice Tryz.underlying25 h with ⟨e, -⟩ | ⟨a, len, cap, m', n, D, Pl, e, _, hl, _, hmm, rfl, hi⟩
  · simp at e
    have h0 : l = [] := e.2.1
    subst h0; cases hy
  · have hm' : m' = cap := by rw [hmm]; rfl
    subst hm'
    rw [c45] at hi
    simp at e
    obtain ⟨rfl, rfl, rfl⟩ := e
    obtain ⟨i, hil, rfl⟩ := List.mem_iff_getElem.1 hy
    obtain ⟨cs', hc, ht⟩ := hi i (by omega)
    obtain ⟨s, t, v, rfl, b0, b2⟩ := nam_small ht (fun k hk => hw k (by
      simp only [DataW.weights, Tryz.underlying25]
      refine List.mem_cons_of_mem _ (List.mem_append_left _ (weightsAll_mem (List.mem_map.2 ⟨i, List.mem_range.2 hil, rfl⟩) k hk))))
    obtain ⟨b, o, hA, hb, c0, c1, c2⟩ := hr.nam hil
    injection hA with hA
    subst hA
    obtain ⟨_, _, hat⟩ := World.cells?_some hc
    have h0 := hat 0 (by decide)
    have h2 := hat 2 (by decide)
    rw [add_at] at h0 h2
    rw [Nat.add_zero] at h0
    rw [c0] at h0
    rw [← Nat.add_assoc, c2] at h2
    simp at h0 h2
    rw [h0, h2]
    exact ⟨b0, b2⟩

set_option maxRecDepth 100000 in
theorem open_circ_n {r : Reach} {b0 : Nat} {v : Value} {d : DataW H} {p : List MemPlace} (hv : Value.okWide Tryz.prog w r b0 27 v) (h : DataW.Trod enc Tryz.prog w 0 (fun _ => true) true 27 v d p)
    (hw : ∀ n ∈ DataW.weights Tryz.prog 27 d, n ≤ reachBytes) : ∃ (c : Cir) (s : Places), v = cirV c s ∧ CLies w w.heap.size c s ∧ CFits c s ∧ ∀ x ∈ c.names, x.kind.size ≤ 281474976710656 ∧ x.text.size ≤ 281474976710656 := by
  obtain ⟨c, s, rfl, hl, hF⟩ := open_circ hv h hw
  refine ⟨c, s, rfl, hl, hF, ?_⟩
  obtain ⟨fuel, hf⟩ := h
  obtain ⟨xs, n, hx', hx, _, hlen, hg⟩ := DataW.trod_struct Tryz.underlying27 hf
  obtain ⟨y0, y1, y2, y3, y4, y5, y6, y7, rfl⟩ := eight_of xs hlen
  have g7 := hg 7 _ rfl
  simp [cirV, cirC, Value.cells, c25] at g7
  have hd : d = .agg [y0.1, y1.1, y2.1, y3.1, y4.1, y5.1, y6.1, y7.1] := by
    simp only [Prod.mk.injEq] at hx
    simpa using hx.1
  subst hd
  refine names_small g7 hl.names (fun n hn => hw n ?_)
  simp only [DataW.weights, Tryz.underlying27]
  exact DataW.weights_mem_each (ts := [3, 22, 23, 22, 22, 22, 24, 25]) (j := 7) (t := 25) (d := y7.1) rfl rfl n hn
end
end Go.Proofs.YtckdlbfndmmjjaaGreatDoor.Cw
