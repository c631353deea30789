/- The pages' look whether circuits are one, of circuits that are one; no condition. An argument that is a circuit, opened: numbers, triples and names in memory; condition: the form's own reach. An argument that is a circuit, opened: its names' texts, too, are within the form's reach; no condition. What stage 6's laws share, and the walk of StrashLess; condition: what is asked of it fits. -/
import Derived.Sort.QuietIn
import Derived.Test.YtpaneggajjgdlaaPk08
import Derived.Test.YtpaneggajjgdlaaPk00
import Derived.Test.YtpaneggajjgdlaaChecked
import Derived.Deep.Slices
import Derived.OpenShut
import Derived.ChangeArms
import Derived.SizedLaws
import Derived.KernelRfl
import Derived.Test.YtpaneggajjgdlaaPk20
import Derived.Test.YtpaneggajjgdlaaPk14
import Derived.Deep.QuietTactic
import Derived.BigQuiet
namespace Go.Proofs.Ytpaneggajjgdlaa.Cw
open Go.ChangeShapes Go.WideShapes Go.ChangeAt Go.RowKit Go.Maps Circ

/-- two circuits that are one, each in its box, the boxes in blocks g and g + 1 -/
structure Two (g : Nat) (c : Cir) (s s' : Places) (w : World) : Prop where
  b : Box w g c s
  b' : Box w (g + 1) c s'
  l : CLies w g c s
  l' : CLies w g c s'
  z : g + 2 ≤ w.heap.size
theorem Two.below {g : Nat} {c : Cir} {s s' : Places} {w w' : World} (h : Two g c s s' w) (hb : Below w.heap.size w w') : Two g c s s' w' :=
  have hz := h.z
  ⟨h.b.keep hb (by omega), h.b'.keep hb (by omega), h.l.below (hb.mono (by omega)), h.l'.below (hb.mono (by omega)), Nat.le_trans h.z hb.size⟩
end Go.Proofs.Ytpaneggajjgdlaa.Cw
namespace Go.Proofs.Ytpaneggajjgdlaa.Cw
open Go.ChangeShapes Go.WideShapes Go.RowKit Go.Deep Circ

section
variable {H : Type} {enc : TypeId × Value → H} {w : World}

theorem add_at (b o p k : Nat) : ((⟨b, o, none⟩ : Addr).add p).add k = ⟨b, o + (p + k), none⟩ := by
  unfold Addr.add
  by_cases hp : p = 0 <;> by_cases hk : k = 0 <;> simp [hp, hk, Nat.add_assoc]
theorem spot_none {a : Addr} {v : Value} (h : w.cell? a = some v) : a.spot = none := by
  unfold World.cell? at h
  split at h
  · split at h
    · cases h
    · rename_i hs
      cases hq : a.spot with
      | none => rfl
      | some x => rw [hq] at hs; exact absurd rfl hs
  · cases h

/-- A slice whose elements each read as an a: the list, and where it lies. -/
theorem open_rows {α : Type} [Inhabited α] (m : Nat) (hm : 0 < m) (cells : α → List Value) (good : α → Prop) (hlen : ∀ a, (cells a).length = m) {t e : TypeId} (ht : Try.prog.underlying t = some (.slice e)) (hC : Try.prog.cellsOf e = m)
    (hel : ∀ n cs' y, DataW.trod enc Try.prog w 0 (fun _ => true) true n e cs' = some y → ∃ a : α, cs' = cells a ∧ good a)
    {fuel : Nat} {cs : List Value} {x : DataW H × List MemPlace} (h : DataW.trod enc Try.prog w 0 (fun _ => true) true fuel t cs = some x) :
    ∃ (A : Option Addr) (l : List α) (q : Nat), cs = [.slice A l.length q] ∧ LRow w w.heap.size m A (l.map cells) ∧ (∀ a ∈ l, good a) ∧ l.length ≤ q ∧ (l = [] ∨ ∃ es sp : List (DataW H), x.1 = .slice es sp ∧ es.length = l.length) := by
  rcases open_slice ht h with ⟨rfl, rfl⟩ | ⟨a, len, cap, m', n, D, Pl, rfl, _, hl, _, hmm, rfl, hi⟩
  · exact ⟨none, [], 0, rfl, .inl rfl, (fun _ h => nomatch h), Nat.le_refl _, .inl rfl⟩
  · have hm' : m' = cap := by rw [hmm]; rfl
    subst hm'
    rw [hC] at hi
    have ex : ∀ i, ∃ y : α, i < len → (w.cells? 0 (a.add (i * m)) m = some (cells y) ∧ good y) := fun i => by
      by_cases hlt : i < len
      · obtain ⟨cs', hc, ht'⟩ := hi i (by omega)
        obtain ⟨y, rfl, hg⟩ := hel n cs' _ ht'
        exact ⟨y, fun _ => ⟨hc, hg⟩⟩
      · exact ⟨default, fun h => absurd h hlt⟩
    obtain ⟨f, hf⟩ := Classical.axiomOfChoice ex
    refine ⟨some a, (List.range len).map f, m', by simp, ?_, ?_, by simpa using hl, .inr ⟨_, _, rfl, by simp⟩⟩
    · rcases Nat.eq_zero_or_pos len with h0 | h0
      · subst h0; exact .inl rfl
      · right
        obtain ⟨hc0, _⟩ := hf 0 h0
        obtain ⟨_, hcl, hat⟩ := World.cells?_some hc0
        have hz := hat 0 hm
        have hlt0 : 0 < (cells (f 0)).length := by rw [hlen]; exact hm
        rw [List.getElem?_eq_getElem hlt0] at hz
        have hsp : a.spot = none := by
          have hs := spot_none hz
          have e : (a.add (0 * m)).add 0 = a := by simp [Addr.add]
          rw [e] at hs
          exact hs
        obtain ⟨b, o, sp⟩ := a
        simp only at hsp
        subst hsp
        have hlt : b < w.heap.size := by
          have e : ((⟨b, o, none⟩ : Addr).add (0 * m)).add 0 = ⟨b, o, none⟩ := by simp [Addr.add]
          rw [e] at hz
          exact World.block_lt_of_cell? _ _ hz
        refine ⟨b, o, rfl, hlt, fun i ys hi' j u hj => ?_⟩
        rw [List.map_map, List.getElem?_map] at hi'
        have hil : i < len := by
          rcases Nat.lt_or_ge i len with h1 | h1
          · exact h1
          · rw [List.getElem?_eq_none (by simpa using h1)] at hi'; cases hi'
        rw [List.getElem?_eq_getElem (by simpa using hil)] at hi'
        simp at hi'
        subst hi'
        obtain ⟨hci, _⟩ := hf i hil
        obtain ⟨_, _, hat'⟩ := World.cells?_some hci
        have hjm : j < m := by
          have := (List.getElem?_eq_some_iff.1 hj).1
          rw [hlen] at this; exact this
        have := hat' j hjm
        rw [add_at] at this
        rw [this]; exact hj
    · intro y hy
      obtain ⟨i, hi', rfl⟩ := List.mem_map.1 hy
      exact (hf i (List.mem_range.1 hi')).2

theorem wf_bounds {x : Int} (h : (Lit.int .i64 x).wf = true) : I64 x := bounds_i64 h

theorem c3 : Try.prog.cellsOf 3 = 1 := by kernel_rfl
theorem c9 : Try.prog.cellsOf 9 = 1 := by kernel_rfl
theorem c22 : Try.prog.cellsOf 22 = 1 := by kernel_rfl
theorem c23 : Try.prog.cellsOf 23 = 1 := by kernel_rfl
theorem c24 : Try.prog.cellsOf 24 = 1 := by kernel_rfl
theorem c25 : Try.prog.cellsOf 25 = 1 := by kernel_rfl
theorem c40 : Try.prog.cellsOf 43 = 3 := by kernel_rfl
theorem c45 : Try.prog.cellsOf 73 = 3 := by kernel_rfl
theorem c47 : Try.prog.cellsOf 39 = 3 := by kernel_rfl
theorem c27 : Try.prog.cellsOf 27 = 8 := by kernel_rfl
instance : Inhabited Tri := ⟨⟨0, 0, 0⟩⟩
instance : Inhabited Nam := ⟨⟨⟨#[]⟩, 0, ⟨#[]⟩⟩⟩

theorem el_int {n : Nat} {cs : List Value} {y : DataW H × List MemPlace} (h : DataW.trod enc Try.prog w 0 (fun _ => true) true n 3 cs = some y) : ∃ x : Int, cs = [.int .i64 x] ∧ I64 x := by
  obtain ⟨x, hc, _, hw⟩ := DataW.trod_int Try.underlying3 h
  exact ⟨x, hc, wf_bounds hw⟩
theorem el_str {n : Nat} {cs : List Value} {y : DataW H × List MemPlace} (h : DataW.trod enc Try.prog w 0 (fun _ => true) true n 9 cs = some y) : ∃ s : ByteArray, cs = [.string s] ∧ s.size ≤ 9223372036854775807 := by
  obtain ⟨s, hc, _, hw⟩ := DataW.trod_string Try.underlying9 h
  exact ⟨s, hc, by unfold maxLen at hw; exact hw⟩

theorem three_of {α : Type} (l : List α) (h : l.length = 3) : ∃ a b c, l = [a, b, c] := by
  match l, h with
  | [a, b, c], _ => exact ⟨a, b, c, rfl⟩
theorem eight_of {α : Type} (l : List α) (h : l.length = 8) : ∃ a b c d e f g i, l = [a, b, c, d, e, f, g, i] := by
  match l, h with
  | [a, b, c, d, e, f, g, i], _ => exact ⟨a, b, c, d, e, f, g, i, rfl⟩

theorem el_tri {t : TypeId} (a b c : Field) (ha : a.type = 3 ∧ a.offset = 0) (hb : b.type = 3 ∧ b.offset = 1) (hc : c.type = 3 ∧ c.offset = 2) (hu : Try.prog.underlying t = some (.struct #[a, b, c])) (h3 : Try.prog.cellsOf t = 3)
    {n : Nat} {cs : List Value} {y : DataW H × List MemPlace} (h : DataW.trod enc Try.prog w 0 (fun _ => true) true n t cs = some y) : ∃ x : Tri, cs = x.cells ∧ x.fits := by
  obtain ⟨xs, n', _, _, hl, hx, hf⟩ := DataW.trod_struct hu h
  rw [h3] at hl
  obtain ⟨u0, u1, u2, rfl⟩ := three_of cs hl
  obtain ⟨y0, y1, y2, rfl⟩ := three_of xs hx
  have f0 := hf 0 a rfl
  have f1 := hf 1 b rfl
  have f2 := hf 2 c rfl
  rw [ha.1, ha.2, c3] at f0
  rw [hb.1, hb.2, c3] at f1
  rw [hc.1, hc.2, c3] at f2
  obtain ⟨x0, e0, g0⟩ := el_int f0
  obtain ⟨x1, e1, g1⟩ := el_int f1
  obtain ⟨x2, e2, g2⟩ := el_int f2
  simp at e0 e1 e2
  subst e0; subst e1; subst e2
  exact ⟨⟨x0, x1, x2⟩, rfl, g0, g1, g2⟩
theorem el_nam {n : Nat} {cs : List Value} {y : DataW H × List MemPlace} (h : DataW.trod enc Try.prog w 0 (fun _ => true) true n 73 cs = some y) : ∃ x : Nam, cs = x.cells ∧ x.fits := by
  obtain ⟨xs, n', _, _, hl, hx, hf⟩ := DataW.trod_struct Try.underlying73 h
  rw [c45] at hl
  obtain ⟨u0, u1, u2, rfl⟩ := three_of cs hl
  obtain ⟨y0, y1, y2, rfl⟩ := three_of xs hx
  have f0 := hf 0 _ rfl
  have f1 := hf 1 _ rfl
  have f2 := hf 2 _ rfl
  simp [c3, c9] at f0 f1 f2
  obtain ⟨x0, e0, g0⟩ := el_str f0
  obtain ⟨x1, e1, g1⟩ := el_int f1
  obtain ⟨x2, e2, g2⟩ := el_str f2
  simp at e0 e1 e2
  subst e0; subst e1; subst e2
  exact ⟨⟨x0, x1, x2⟩, rfl, g0, g1, g2⟩

theorem tri_len (t : Tri) : t.cells.length = 3 := rfl
theorem nam_len (t : Nam) : t.cells.length = 3 := rfl

/-- the list's bytes are within the reach -/
theorem row_bytes {α : Type} {l : List α} {x : DataW H} {t e : TypeId} (k : Nat) (hk : Try.prog.bytesOf e = k) (ht : Try.prog.underlying t = some (.slice e)) (h : l = [] ∨ ∃ es sp : List (DataW H), x = .slice es sp ∧ es.length = l.length)
    (hw : ∀ n ∈ DataW.weights Try.prog t x, n ≤ reachBytes) : l.length * k ≤ 140737488355328 := by
  rcases h with rfl | ⟨es, sp, rfl, hl⟩
  · simp
  · have := hw ((es.length + sp.length) * Try.prog.bytesOf e) (by simp [DataW.weights, ht])
    rw [hk, hl] at this
    unfold reachBytes at this
    have h2 : l.length * k ≤ (l.length + sp.length) * k := Nat.mul_le_mul_right _ (by omega)
    omega

set_option maxRecDepth 100000 in
theorem open_circ {r : Reach} {b0 : Nat} {v : Value} {d : DataW H} {p : List MemPlace} (hv : Value.okWide Try.prog w r b0 27 v) (h : DataW.Trod enc Try.prog w 0 (fun _ => true) true 27 v d p)
    (hw : ∀ n ∈ DataW.weights Try.prog 27 d, n ≤ reachBytes) : ∃ (c : Cir) (s : Places), v = cirV c s ∧ CLies w w.heap.size c s ∧ CFits c s := by
  obtain ⟨cs, rfl, hsz⟩ := okWide_struct Try.underlying27 hv
  rw [c27] at hsz
  obtain ⟨l⟩ := cs
  obtain ⟨u0, u1, u2, u3, u4, u5, u6, u7, rfl⟩ := eight_of l hsz
  obtain ⟨fuel, hf⟩ := h
  obtain ⟨xs, n, _, hx, _, hlen, hg⟩ := DataW.trod_struct Try.underlying27 hf
  obtain ⟨y0, y1, y2, y3, y4, y5, y6, y7, rfl⟩ := eight_of xs hlen
  have g0 := hg 0 _ rfl
  have g1 := hg 1 _ rfl
  have g2 := hg 2 _ rfl
  have g3 := hg 3 _ rfl
  have g4 := hg 4 _ rfl
  have g5 := hg 5 _ rfl
  have g6 := hg 6 _ rfl
  have g7 := hg 7 _ rfl
  simp [Value.cells, c3, c22, c23, c24, c25] at g0 g1 g2 g3 g4 g5 g6 g7
  obtain ⟨x0, e0, f0⟩ := el_int g0
  obtain ⟨A1, l1, q1, e1, r1, f1, k1, z1⟩ := open_rows 1 (by decide) (fun x : Int => [Value.int .i64 x]) I64 (fun _ => rfl) Try.underlying22 c3 (fun n cs' y h => el_int h) g1
  obtain ⟨A2, l2, q2, e2, r2, f2, k2, z2⟩ := open_rows 3 (by decide) Tri.cells Tri.fits tri_len Try.underlying23 c47 (fun n cs' y h => el_tri _ _ _ ⟨rfl, rfl⟩ ⟨rfl, rfl⟩ ⟨rfl, rfl⟩ Try.underlying39 c47 h) g2
  obtain ⟨A3, l3, q3, e3, r3, f3, k3, z3⟩ := open_rows 1 (by decide) (fun x : Int => [Value.int .i64 x]) I64 (fun _ => rfl) Try.underlying22 c3 (fun n cs' y h => el_int h) g3
  obtain ⟨A4, l4, q4, e4, r4, f4, k4, z4⟩ := open_rows 1 (by decide) (fun x : Int => [Value.int .i64 x]) I64 (fun _ => rfl) Try.underlying22 c3 (fun n cs' y h => el_int h) g4
  obtain ⟨A5, l5, q5, e5, r5, f5, k5, z5⟩ := open_rows 1 (by decide) (fun x : Int => [Value.int .i64 x]) I64 (fun _ => rfl) Try.underlying22 c3 (fun n cs' y h => el_int h) g5
  obtain ⟨A6, l6, q6, e6, r6, f6, k6, z6⟩ := open_rows 3 (by decide) Tri.cells Tri.fits tri_len Try.underlying24 c40 (fun n cs' y h => el_tri _ _ _ ⟨rfl, rfl⟩ ⟨rfl, rfl⟩ ⟨rfl, rfl⟩ Try.underlying43 c40 h) g6
  obtain ⟨A7, l7, q7, e7, r7, f7, k7, z7⟩ := open_rows 3 (by decide) Nam.cells Nam.fits nam_len Try.underlying25 c45 (fun n cs' y h => el_nam h) g7
  simp at e0 e1 e2 e3 e4 e5 e6 e7
  subst e0; subst e1; subst e2; subst e3; subst e4; subst e5; subst e6; subst e7
  have hd : d = .agg [y0.1, y1.1, y2.1, y3.1, y4.1, y5.1, y6.1, y7.1] := by
    simp only [Prod.mk.injEq] at hx
    simpa using hx.1
  subst hd
  have hm : ∀ (t : TypeId) (x : DataW H) (j : Nat), (Try.prog.underlying 27 = some (.struct (#[] : Array Field)) → False) → ([3, 22, 23, 22, 22, 22, 24, 25] : List TypeId)[j]? = some t → ([y0.1, y1.1, y2.1, y3.1, y4.1, y5.1, y6.1, y7.1] : List (DataW H))[j]? = some x → ∀ n ∈ DataW.weights Try.prog t x, n ≤ reachBytes := fun t x j _ ht hx n hn => by
    refine hw n ?_
    simp only [DataW.weights, Try.underlying27]
    exact DataW.weights_mem_each (ts := [3, 22, 23, 22, 22, 22, 24, 25]) ht hx n hn
  have hE : Try.prog.underlying 27 = some (.struct (#[] : Array Field)) → False := by rw [Try.underlying27]; simp
  refine ⟨⟨x0, l1, l2, l3, l4, l5, l6, l7⟩, ⟨A1, A2, A3, A4, A5, A6, A7, q1, q2, q3, q4, q5, q6, q7⟩, rfl, ⟨r1, r2, r3, r4, r5, r6, r7⟩, ?_⟩
  exact ⟨f0, f1, f3, f4, f5, f2, f6, f7,
    row_bytes 8 (by kernel_rfl) Try.underlying22 z1 (hm 22 _ 1 hE rfl rfl), row_bytes 8 (by kernel_rfl) Try.underlying22 z3 (hm 22 _ 3 hE rfl rfl), row_bytes 8 (by kernel_rfl) Try.underlying22 z4 (hm 22 _ 4 hE rfl rfl), row_bytes 8 (by kernel_rfl) Try.underlying22 z5 (hm 22 _ 5 hE rfl rfl),
    row_bytes 24 (by kernel_rfl) Try.underlying23 z2 (hm 23 _ 2 hE rfl rfl), row_bytes 24 (by kernel_rfl) Try.underlying24 z6 (hm 24 _ 6 hE rfl rfl), row_bytes 40 (by kernel_rfl) Try.underlying25 z7 (hm 25 _ 7 hE rfl rfl),
    k1, k3, k4, k5, k2, k6, k7⟩
end
end Go.Proofs.Ytpaneggajjgdlaa.Cw
namespace Go.Proofs.Ytpaneggajjgdlaa.Cw
open Go.ChangeShapes Go.WideShapes Go.RowKit Go.Deep Circ

section
variable {H : Type} {enc : TypeId × Value → H} {w : World}

theorem weightsAll_mem {P : Program} {e : TypeId} : ∀ {ds : List (DataW H)} {d : DataW H}, d ∈ ds → ∀ n ∈ d.weights P e, n ∈ DataW.weightsAll P e ds
  | [], d, h, _, _ => nomatch h
  | x :: r, d, h, n, hn => by
    rw [DataW.weightsAll, List.mem_append]
    rcases List.mem_cons.1 h with rfl | h
    · exact .inl hn
    · exact .inr (weightsAll_mem h n hn)
theorem str_small {n : Nat} {cs : List Value} {y : DataW H × List MemPlace} (h : DataW.trod enc Try.prog w 0 (fun _ => true) true n 9 cs = some y) (hw : ∀ k ∈ DataW.weights Try.prog 9 y.1, k ≤ reachBytes) : ∃ s : ByteArray, cs = [.string s] ∧ s.size ≤ 281474976710656 := by
  obtain ⟨s, hc, rfl, _⟩ := DataW.trod_string Try.underlying9 h
  refine ⟨s, hc, ?_⟩
  have := hw s.data.toList.length (by simp [DataW.weights])
  unfold reachBytes at this
  have e : s.data.toList.length = s.size := by simp
  omega
theorem nam_small {n : Nat} {cs : List Value} {y : DataW H × List MemPlace} (h : DataW.trod enc Try.prog w 0 (fun _ => true) true n 73 cs = some y) (hw : ∀ k ∈ DataW.weights Try.prog 73 y.1, k ≤ reachBytes) : ∃ (s t : ByteArray) (v : Value), cs = [.string s, v, .string t] ∧ s.size ≤ 281474976710656 ∧ t.size ≤ 281474976710656 := by
  obtain ⟨xs, n', _, hx', hl, hx, hf⟩ := DataW.trod_struct Try.underlying73 h
  rw [c45] at hl
  obtain ⟨u0, u1, u2, rfl⟩ := three_of cs hl
  obtain ⟨y0, y1, y2, rfl⟩ := three_of xs hx
  have f0 := hf 0 _ rfl
  have f2 := hf 2 _ rfl
  simp [c9] at f0 f2
  have hy : y.1 = .agg [y0.1, y1.1, y2.1] := by rw [hx']; rfl
  rw [hy] at hw
  have hm : ∀ (j : Nat) (t : TypeId) (x : DataW H), ([9, 3, 9] : List TypeId)[j]? = some t → ([y0.1, y1.1, y2.1] : List (DataW H))[j]? = some x → ∀ n ∈ DataW.weights Try.prog t x, n ≤ reachBytes := fun j t x ht hx n hn => by
    refine hw n ?_
    simp only [DataW.weights, Try.underlying73]
    exact DataW.weights_mem_each (ts := [9, 3, 9]) ht hx n hn
  obtain ⟨s, e0, b0⟩ := str_small f0 (hm 0 9 _ rfl rfl)
  obtain ⟨t, e2, b2⟩ := str_small f2 (hm 2 9 _ rfl rfl)
  simp at e0 e2
  subst e0; subst e2
  exact ⟨s, t, u1, rfl, b0, b2⟩
theorem names_small {fuel : Nat} {A : Option Addr} {l : List Nam} {q B : Nat} {x : DataW H × List MemPlace} (h : DataW.trod enc Try.prog w 0 (fun _ => true) true fuel 25 [.slice A l.length q] = some x) (hr : LRow w B 3 A (nams l)) (hw : ∀ k ∈ DataW.weights Try.prog 25 x.1, k ≤ reachBytes) :
    ∀ y ∈ l, y.kind.size ≤ 281474976710656 ∧ y.text.size ≤ 281474976710656 := by
  intro y hy
  rcases open_slice Try.underlying25 h with ⟨e, -⟩ | ⟨a, len, cap, m', n, D, Pl, e, _, hl, _, hmm, rfl, hi⟩
  · simp at e
    have h0 : l = [] := e.2.1
    subst h0; cases hy
  · have hm' : m' = cap := by rw [hmm]; rfl
    subst hm'
    rw [c45] at hi
    simp at e
    obtain ⟨rfl, rfl, rfl⟩ := e
    obtain ⟨i, hil, rfl⟩ := List.mem_iff_getElem.1 hy
    obtain ⟨cs', hc, ht⟩ := hi i (by omega)
    obtain ⟨s, t, v, rfl, b0, b2⟩ := nam_small ht (fun k hk => hw k (by
      simp only [DataW.weights, Try.underlying25]
      refine List.mem_cons_of_mem _ (List.mem_append_left _ (weightsAll_mem (List.mem_map.2 ⟨i, List.mem_range.2 hil, rfl⟩) k hk))))
    obtain ⟨b, o, hA, hb, c0, c1, c2⟩ := hr.nam hil
    injection hA with hA
    subst hA
    obtain ⟨_, _, hat⟩ := World.cells?_some hc
    have h0 := hat 0 (by decide)
    have h2 := hat 2 (by decide)
    rw [add_at] at h0 h2
    rw [Nat.add_zero] at h0
    rw [c0] at h0
    rw [← Nat.add_assoc, c2] at h2
    simp at h0 h2
    rw [h0, h2]
    exact ⟨b0, b2⟩

set_option maxRecDepth 100000 in
theorem open_circ_n {r : Reach} {b0 : Nat} {v : Value} {d : DataW H} {p : List MemPlace} (hv : Value.okWide Try.prog w r b0 27 v) (h : DataW.Trod enc Try.prog w 0 (fun _ => true) true 27 v d p)
    (hw : ∀ n ∈ DataW.weights Try.prog 27 d, n ≤ reachBytes) : ∃ (c : Cir) (s : Places), v = cirV c s ∧ CLies w w.heap.size c s ∧ CFits c s ∧ ∀ x ∈ c.names, x.kind.size ≤ 281474976710656 ∧ x.text.size ≤ 281474976710656 := by
  obtain ⟨c, s, rfl, hl, hF⟩ := open_circ hv h hw
  refine ⟨c, s, rfl, hl, hF, ?_⟩
  obtain ⟨fuel, hf⟩ := h
  obtain ⟨xs, n, hx', hx, _, hlen, hg⟩ := DataW.trod_struct Try.underlying27 hf
  obtain ⟨y0, y1, y2, y3, y4, y5, y6, y7, rfl⟩ := eight_of xs hlen
  have g7 := hg 7 _ rfl
  simp [cirV, cirC, Value.cells, c25] at g7
  have hd : d = .agg [y0.1, y1.1, y2.1, y3.1, y4.1, y5.1, y6.1, y7.1] := by
    simp only [Prod.mk.injEq] at hx
    simpa using hx.1
  subst hd
  refine names_small g7 hl.names (fun n hn => hw n ?_)
  simp only [DataW.weights, Try.underlying27]
  exact DataW.weights_mem_each (ts := [3, 22, 23, 22, 22, 22, 24, 25]) (j := 7) (t := 25) (d := y7.1) rfl rfl n hn
end
end Go.Proofs.Ytpaneggajjgdlaa.Cw
namespace Go.Proofs.Ytpaneggajjgdlaa.Str
open Go.ChangeShapes Go.WideShapes Go.ChangeAt Go.RowKit Go.Maps Circ Cw

theorem num_any (x : Int) (w : World) : Calls Try.prog 11 #[.int .i64 x] w fun e w' => e = .returned (.int .i64 x) ∧ w = w' := by
  go_enter Try.func11, Try.ntmps11
  go_wp2
  go_ret
  exact ⟨rfl, rfl⟩
theorem alive_any (w : World) : Calls Try.prog 9 #[] w fun e w' => e = .returned (.bool true) ∧ w = w' := by
  have PL := Lib.hid (plain_any 4 5 (by constructor <;> decide) (by constructor <;> decide) w)
  rw [show (plainM 4 5) = some 0 from by decide] at PL
  go_enter Try.func9, Try.ntmps9
  go_wp2_with fail
  refine PL.out.mono ?_
  rintro e w' ⟨rfl, rfl⟩
  clear PL
  simp only [Option.getD_some, Option.isSome_some]
  go_wp2
  go_ret
  exact ⟨rfl, rfl⟩
theorem size_any (c : Cir) (s : Places) (w : World) : Calls Try.prog 16 #[cirV c s] w fun e w' => e = .returned (.int .i64 c.ands.length) ∧ Below w.heap.size w w' := by
  obtain ⟨WA, hWA⟩ : ∃ x, w.alloc (.cells #[.int .i64 c.max, .slice s.ai c.ins.length s.ki, .slice s.al c.lats.length s.kl, .slice s.ao c.outs.length s.ko, .slice s.ab c.bads.length s.kb, .slice s.ac c.invs.length s.kc, .slice s.aa c.ands.length s.ka, .slice s.an c.names.length s.kn] 27) = x := ⟨_, rfl⟩
  have bA : Hid (Below w.heap.size w WA) := by unfold Hid; rw [← hWA]; exact (Below.refl _ _).alloc (Nat.le_refl _) _
  have hA : WA.heap[w.heap.size]? = some (.cells (cirC c s) 27 (0, 0)) := by rw [← hWA]; exact Array.getElem?_push_size
  obtain ⟨e0, e1, e2, e3, e4, e5, e6, e7⟩ := cells8 hA
  clear hA
  unfold cirV
  rw [show cirC c s = #[.int .i64 c.max, .slice s.ai c.ins.length s.ki, .slice s.al c.lats.length s.kl, .slice s.ao c.outs.length s.ko, .slice s.ab c.bads.length s.kb, .slice s.ac c.invs.length s.kc, .slice s.aa c.ands.length s.ka, .slice s.an c.names.length s.kn] from rfl]
  go_enter Try.func16, Try.ntmps16
  go_wp2
  go_ret
  exact ⟨rfl, bA.out⟩
end Go.Proofs.Ytpaneggajjgdlaa.Str
