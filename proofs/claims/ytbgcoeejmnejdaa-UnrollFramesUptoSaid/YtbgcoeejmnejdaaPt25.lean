/- An argument that is a circuit, opened: numbers, triples and names in memory; condition: the form's own reach. An argument that is a circuit, opened: its names' texts, too, are within the form's reach; no condition. Rows of clauses in memory, and arguments that are such, opened; no condition. -/
import Derived.Test.YtbgcoeejmnejdaaPt02
import Derived.Test.YtbgcoeejmnejdaaChecked
import Derived.Deep.Slices
import Derived.OpenShut
import Derived.ChangeArms
import Derived.SizedLaws
import Derived.KernelRfl
namespace Go.Proofs.Ytbgcoeejmnejdaa.Cw
open Go.ChangeShapes Go.WideShapes Go.RowKit Go.Deep Circ

section
variable {H : Type} {enc : TypeId × Value → H} {w : World}

theorem add_at (b o p k : Nat) : ((⟨b, o, none⟩ : Addr).add p).add k = ⟨b, o + (p + k), none⟩ := by
  unfold Addr.add
  by_cases hp : p = 0 <;> by_cases hk : k = 0 <;> simp [hp, hk, Nat.add_assoc]
theorem spot_none {a : Addr} {v : Value} (h : w.cell? a = some v) : a.spot = none := by
  unfold World.cell? at h
  split at h
  · split at h
    · cases h
    · rename_i hs
      cases hq : a.spot with
      | none => rfl
      | some x => rw [hq] at hs; exact absurd rfl hs
  · cases h

/-- A slice whose elements each read as an a: the list, and where it lies. -/
theorem open_rows {α : Type} [Inhabited α] (m : Nat) (hm : 0 < m) (cells : α → List Value) (good : α → Prop) (hlen : ∀ a, (cells a).length = m) {t e : TypeId} (ht : Try.prog.underlying t = some (.slice e)) (hC : Try.prog.cellsOf e = m)
    (hel : ∀ n cs' y, DataW.trod enc Try.prog w 0 (fun _ => true) true n e cs' = some y → ∃ a : α, cs' = cells a ∧ good a)
    {fuel : Nat} {cs : List Value} {x : DataW H × List MemPlace} (h : DataW.trod enc Try.prog w 0 (fun _ => true) true fuel t cs = some x) :
    ∃ (A : Option Addr) (l : List α) (q : Nat), cs = [.slice A l.length q] ∧ LRow w w.heap.size m A (l.map cells) ∧ (∀ a ∈ l, good a) ∧ l.length ≤ q ∧ (l = [] ∨ ∃ es sp : List (DataW H), x.1 = .slice es sp ∧ es.length = l.length) := by
  rcases open_slice ht h with ⟨rfl, rfl⟩ | ⟨a, len, cap, m', n, D, Pl, rfl, _, hl, _, hmm, rfl, hi⟩
  · exact ⟨none, [], 0, rfl, .inl rfl, (fun _ h => nomatch h), Nat.le_refl _, .inl rfl⟩
  · have hm' : m' = cap := by rw [hmm]; rfl
    subst hm'
    rw [hC] at hi
    have ex : ∀ i, ∃ y : α, i < len → (w.cells? 0 (a.add (i * m)) m = some (cells y) ∧ good y) := fun i => by
      by_cases hlt : i < len
      · obtain ⟨cs', hc, ht'⟩ := hi i (by omega)
        obtain ⟨y, rfl, hg⟩ := hel n cs' _ ht'
        exact ⟨y, fun _ => ⟨hc, hg⟩⟩
      · exact ⟨default, fun h => absurd h hlt⟩
    obtain ⟨f, hf⟩ := Classical.axiomOfChoice ex
    refine ⟨some a, (List.range len).map f, m', by simp, ?_, ?_, by simpa using hl, .inr ⟨_, _, rfl, by simp⟩⟩
    · rcases Nat.eq_zero_or_pos len with h0 | h0
      · subst h0; exact .inl rfl
      · right
        obtain ⟨hc0, _⟩ := hf 0 h0
        obtain ⟨_, hcl, hat⟩ := World.cells?_some hc0
        have hz := hat 0 hm
        have hlt0 : 0 < (cells (f 0)).length := by rw [hlen]; exact hm
        rw [List.getElem?_eq_getElem hlt0] at hz
        have hsp : a.spot = none := by
          have hs := spot_none hz
          have e : (a.add (0 * m)).add 0 = a := by simp [Addr.add]
          rw [e] at hs
          exact hs
        obtain ⟨b, o, sp⟩ := a
        simp only at hsp
        subst hsp
        have hlt : b < w.heap.size := by
          have e : ((⟨b, o, none⟩ : Addr).add (0 * m)).add 0 = ⟨b, o, none⟩ := by simp [Addr.add]
          rw [e] at hz
          exact World.block_lt_of_cell? _ _ hz
        refine ⟨b, o, rfl, hlt, fun i ys hi' j u hj => ?_⟩
        rw [List.map_map, List.getElem?_map] at hi'
        have hil : i < len := by
          rcases Nat.lt_or_ge i len with h1 | h1
          · exact h1
          · rw [List.getElem?_eq_none (by simpa using h1)] at hi'; cases hi'
        rw [List.getElem?_eq_getElem (by simpa using hil)] at hi'
        simp at hi'
        subst hi'
        obtain ⟨hci, _⟩ := hf i hil
        obtain ⟨_, _, hat'⟩ := World.cells?_some hci
        have hjm : j < m := by
          have := (List.getElem?_eq_some_iff.1 hj).1
          rw [hlen] at this; exact this
        have := hat' j hjm
        rw [add_at] at this
        rw [this]; exact hj
    · intro y hy
      obtain ⟨i, hi', rfl⟩ := List.mem_map.1 hy
      exact (hf i (List.mem_range.1 hi')).2

theorem wf_bounds {x : Int} (h : (Lit.int .i64 x).wf = true) : I64 x := bounds_i64 h

theorem c3 : Try.prog.cellsOf 3 = 1 := by kernel_rfl
theorem c9 : Try.prog.cellsOf 9 = 1 := by kernel_rfl
theorem c22 : Try.prog.cellsOf 22 = 1 := by kernel_rfl
theorem c23 : Try.prog.cellsOf 23 = 1 := by kernel_rfl
theorem c24 : Try.prog.cellsOf 24 = 1 := by kernel_rfl
theorem c25 : Try.prog.cellsOf 25 = 1 := by kernel_rfl
theorem c40 : Try.prog.cellsOf 43 = 3 := by kernel_rfl
theorem c45 : Try.prog.cellsOf 84 = 3 := by kernel_rfl
theorem c47 : Try.prog.cellsOf 39 = 3 := by kernel_rfl
theorem c27 : Try.prog.cellsOf 27 = 8 := by kernel_rfl
instance : Inhabited Tri := ⟨⟨0, 0, 0⟩⟩
instance : Inhabited Nam := ⟨⟨⟨#[]⟩, 0, ⟨#[]⟩⟩⟩

theorem el_int {n : Nat} {cs : List Value} {y : DataW H × List MemPlace} (h : DataW.trod enc Try.prog w 0 (fun _ => true) true n 3 cs = some y) : ∃ x : Int, cs = [.int .i64 x] ∧ I64 x := by
  obtain ⟨x, hc, _, hw⟩ := DataW.trod_int Try.underlying3 h
  exact ⟨x, hc, wf_bounds hw⟩
theorem el_str {n : Nat} {cs : List Value} {y : DataW H × List MemPlace} (h : DataW.trod enc Try.prog w 0 (fun _ => true) true n 9 cs = some y) : ∃ s : ByteArray, cs = [.string s] ∧ s.size ≤ 9223372036854775807 := by
  obtain ⟨s, hc, _, hw⟩ := DataW.trod_string Try.underlying9 h
  exact ⟨s, hc, by unfold maxLen at hw; exact hw⟩

theorem three_of {α : Type} (l : List α) (h : l.length = 3) : ∃ a b c, l = [a, b, c] := by
  match l, h with
  | [a, b, c], _ => exact ⟨a, b, c, rfl⟩
theorem eight_of {α : Type} (l : List α) (h : l.length = 8) : ∃ a b c d e f g i, l = [a, b, c, d, e, f, g, i] := by
  match l, h with
  | [a, b, c, d, e, f, g, i], _ => exact ⟨a, b, c, d, e, f, g, i, rfl⟩

theorem el_tri {t : TypeId} (a b c : Field) (ha : a.type = 3 ∧ a.offset = 0) (hb : b.type = 3 ∧ b.offset = 1) (hc : c.type = 3 ∧ c.offset = 2) (hu : Try.prog.underlying t = some (.struct #[a, b, c])) (h3 : Try.prog.cellsOf t = 3)
    {n : Nat} {cs : List Value} {y : DataW H × List MemPlace} (h : DataW.trod enc Try.prog w 0 (fun _ => true) true n t cs = some y) : ∃ x : Tri, cs = x.cells ∧ x.fits := by
  obtain ⟨xs, n', _, _, hl, hx, hf⟩ := DataW.trod_struct hu h
  rw [h3] at hl
  obtain ⟨u0, u1, u2, rfl⟩ := three_of cs hl
  obtain ⟨y0, y1, y2, rfl⟩ := three_of xs hx
  have f0 := hf 0 a rfl
  have f1 := hf 1 b rfl
  have f2 := hf 2 c rfl
  rw [ha.1, ha.2, c3] at f0
  rw [hb.1, hb.2, c3] at f1
  rw [hc.1, hc.2, c3] at f2
  obtain ⟨x0, e0, g0⟩ := el_int f0
  obtain ⟨x1, e1, g1⟩ := el_int f1
  obtain ⟨x2, e2, g2⟩ := el_int f2
  simp at e0 e1 e2
  subst e0; subst e1; subst e2
  exact ⟨⟨x0, x1, x2⟩, rfl, g0, g1, g2⟩
theorem el_nam {n : Nat} {cs : List Value} {y : DataW H × List MemPlace} (h : DataW.trod enc Try.prog w 0 (fun _ => true) true n 84 cs = some y) : ∃ x : Nam, cs = x.cells ∧ x.fits := by
  obtain ⟨xs, n', _, _, hl, hx, hf⟩ := DataW.trod_struct Try.underlying84 h
  rw [c45] at hl
  obtain ⟨u0, u1, u2, rfl⟩ := three_of cs hl
  obtain ⟨y0, y1, y2, rfl⟩ := three_of xs hx
  have f0 := hf 0 _ rfl
  have f1 := hf 1 _ rfl
  have f2 := hf 2 _ rfl
  simp [c3, c9] at f0 f1 f2
  obtain ⟨x0, e0, g0⟩ := el_str f0
  obtain ⟨x1, e1, g1⟩ := el_int f1
  obtain ⟨x2, e2, g2⟩ := el_str f2
  simp at e0 e1 e2
  subst e0; subst e1; subst e2
  exact ⟨⟨x0, x1, x2⟩, rfl, g0, g1, g2⟩

theorem tri_len (t : Tri) : t.cells.length = 3 := rfl
theorem nam_len (t : Nam) : t.cells.length = 3 := rfl

/-- the list's bytes are within the reach -/
theorem row_bytes {α : Type} {l : List α} {x : DataW H} {t e : TypeId} (k : Nat) (hk : Try.prog.bytesOf e = k) (ht : Try.prog.underlying t = some (.slice e)) (h : l = [] ∨ ∃ es sp : List (DataW H), x = .slice es sp ∧ es.length = l.length)
    (hw : ∀ n ∈ DataW.weights Try.prog t x, n ≤ reachBytes) : l.length * k ≤ 140737488355328 := by
  rcases h with rfl | ⟨es, sp, rfl, hl⟩
  · simp
  · have := hw ((es.length + sp.length) * Try.prog.bytesOf e) (by simp [DataW.weights, ht])
    rw [hk, hl] at this
    unfold reachBytes at this
    have h2 : l.length * k ≤ (l.length + sp.length) * k := Nat.mul_le_mul_right _ (by omega)
    omega

set_option maxRecDepth 100000 in
theorem open_circ {r : Reach} {b0 : Nat} {v : Value} {d : DataW H} {p : List MemPlace} (hv : Value.okWide Try.prog w r b0 27 v) (h : DataW.Trod enc Try.prog w 0 (fun _ => true) true 27 v d p)
    (hw : ∀ n ∈ DataW.weights Try.prog 27 d, n ≤ reachBytes) : ∃ (c : Cir) (s : Places), v = cirV c s ∧ CLies w w.heap.size c s ∧ CFits c s := by
  obtain ⟨cs, rfl, hsz⟩ := okWide_struct Try.underlying27 hv
  rw [c27] at hsz
  obtain ⟨l⟩ := cs
  obtain ⟨u0, u1, u2, u3, u4, u5, u6, u7, rfl⟩ := eight_of l hsz
  obtain ⟨fuel, hf⟩ := h
  obtain ⟨xs, n, _, hx, _, hlen, hg⟩ := DataW.trod_struct Try.underlying27 hf
  obtain ⟨y0, y1, y2, y3, y4, y5, y6, y7, rfl⟩ := eight_of xs hlen
  have g0 := hg 0 _ rfl
  have g1 := hg 1 _ rfl
  have g2 := hg 2 _ rfl
  have g3 := hg 3 _ rfl
  have g4 := hg 4 _ rfl
  have g5 := hg 5 _ rfl
  have g6 := hg 6 _ rfl
  have g7 := hg 7 _ rfl
  simp [Value.cells, c3, c22, c23, c24, c25] at g0 g1 g2 g3 g4 g5 g6 g7
  obtain ⟨x0, e0, f0⟩ := el_int g0
  obtain ⟨A1, l1, q1, e1, r1, f1, k1, z1⟩ := open_rows 1 (by decide) (fun x : Int => [Value.int .i64 x]) I64 (fun _ => rfl) Try.underlying22 c3 (fun n cs' y h => el_int h) g1
  obtain ⟨A2, l2, q2, e2, r2, f2, k2, z2⟩ := open_rows 3 (by decide) Tri.cells Tri.fits tri_len Try.underlying23 c47 (fun n cs' y h => el_tri _ _ _ ⟨rfl, rfl⟩ ⟨rfl, rfl⟩ ⟨rfl, rfl⟩ Try.underlying39 c47 h) g2
  obtain ⟨A3, l3, q3, e3, r3, f3, k3, z3⟩ := open_rows 1 (by decide) (fun x : Int => [Value.int .i64 x]) I64 (fun _ => rfl) Try.underlying22 c3 (fun n cs' y h => el_int h) g3
  obtain ⟨A4, l4, q4, e4, r4, f4, k4, z4⟩ := open_rows 1 (by decide) (fun x : Int => [Value.int .i64 x]) I64 (fun _ => rfl) Try.underlying22 c3 (fun n cs' y h => el_int h) g4
  obtain ⟨A5, l5, q5, e5, r5, f5, k5, z5⟩ := open_rows 1 (by decide) (fun x : Int => [Value.int .i64 x]) I64 (fun _ => rfl) Try.underlying22 c3 (fun n cs' y h => el_int h) g5
  obtain ⟨A6, l6, q6, e6, r6, f6, k6, z6⟩ := open_rows 3 (by decide) Tri.cells Tri.fits tri_len Try.underlying24 c40 (fun n cs' y h => el_tri _ _ _ ⟨rfl, rfl⟩ ⟨rfl, rfl⟩ ⟨rfl, rfl⟩ Try.underlying43 c40 h) g6
  obtain ⟨A7, l7, q7, e7, r7, f7, k7, z7⟩ := open_rows 3 (by decide) Nam.cells Nam.fits nam_len Try.underlying25 c45 (fun n cs' y h => el_nam h) g7
  simp at e0 e1 e2 e3 e4 e5 e6 e7
  subst e0; subst e1; subst e2; subst e3; subst e4; subst e5; subst e6; subst e7
  have hd : d = .agg [y0.1, y1.1, y2.1, y3.1, y4.1, y5.1, y6.1, y7.1] := by
    simp only [Prod.mk.injEq] at hx
    simpa using hx.1
  subst hd
  have hm : ∀ (t : TypeId) (x : DataW H) (j : Nat), (Try.prog.underlying 27 = some (.struct (#[] : Array Field)) → False) → ([3, 22, 23, 22, 22, 22, 24, 25] : List TypeId)[j]? = some t → ([y0.1, y1.1, y2.1, y3.1, y4.1, y5.1, y6.1, y7.1] : List (DataW H))[j]? = some x → ∀ n ∈ DataW.weights Try.prog t x, n ≤ reachBytes := fun t x j _ ht hx n hn => by
    refine hw n ?_
    simp only [DataW.weights, Try.underlying27]
    exact DataW.weights_mem_each (ts := [3, 22, 23, 22, 22, 22, 24, 25]) ht hx n hn
  have hE : Try.prog.underlying 27 = some (.struct (#[] : Array Field)) → False := by rw [Try.underlying27]; simp
  refine ⟨⟨x0, l1, l2, l3, l4, l5, l6, l7⟩, ⟨A1, A2, A3, A4, A5, A6, A7, q1, q2, q3, q4, q5, q6, q7⟩, rfl, ⟨r1, r2, r3, r4, r5, r6, r7⟩, ?_⟩
  exact ⟨f0, f1, f3, f4, f5, f2, f6, f7,
    row_bytes 8 (by kernel_rfl) Try.underlying22 z1 (hm 22 _ 1 hE rfl rfl), row_bytes 8 (by kernel_rfl) Try.underlying22 z3 (hm 22 _ 3 hE rfl rfl), row_bytes 8 (by kernel_rfl) Try.underlying22 z4 (hm 22 _ 4 hE rfl rfl), row_bytes 8 (by kernel_rfl) Try.underlying22 z5 (hm 22 _ 5 hE rfl rfl),
    row_bytes 24 (by kernel_rfl) Try.underlying23 z2 (hm 23 _ 2 hE rfl rfl), row_bytes 24 (by kernel_rfl) Try.underlying24 z6 (hm 24 _ 6 hE rfl rfl), row_bytes 40 (by kernel_rfl) Try.underlying25 z7 (hm 25 _ 7 hE rfl rfl),
    k1, k3, k4, k5, k2, k6, k7⟩
end
end Go.Proofs.Ytbgcoeejmnejdaa.Cw
namespace Go.Proofs.Ytbgcoeejmnejdaa.Cw
open Go.ChangeShapes Go.WideShapes Go.RowKit Go.Deep Circ

section
variable {H : Type} {enc : TypeId × Value → H} {w : World}

theorem weightsAll_mem {P : Program} {e : TypeId} : ∀ {ds : List (DataW H)} {d : DataW H}, d ∈ ds → ∀ n ∈ d.weights P e, n ∈ DataW.weightsAll P e ds
  | [], d, h, _, _ => nomatch h
  | x :: r, d, h, n, hn => by
    rw [DataW.weightsAll, List.mem_append]
    rcases List.mem_cons.1 h with rfl | h
    · exact .inl hn
    · exact .inr (weightsAll_mem h n hn)
end
end Go.Proofs.Ytbgcoeejmnejdaa.Cw
namespace Go.Proofs.Ytbgcoeejmnejdaa.Rep
open Go.ChangeShapes Go.WideShapes Go.RowKit Go.Deep Circ Cw

structure Clz where
  l : List Int
  A : Option Addr
  q : Nat
def Clz.cells (z : Clz) : List Value := [.slice z.A z.l.length z.q]
structure Clz.Lies (w : World) (B : Nat) (z : Clz) : Prop where
  row : LRow w B 1 z.A (ints z.l)
  fits : ∀ x ∈ z.l, I64 x
  len : z.l.length ≤ 9223372036854775807
/-- the clauses lie in memory below block B -/
structure ALies (w : World) (B : Nat) (A : Option Addr) (L : List Clz) : Prop where
  row : LRow w B 1 A (L.map Clz.cells)
  each : ∀ z ∈ L, z.Lies w B
  len : L.length ≤ 9223372036854775807
section
variable {w w' : World} {B B' : Nat} {A : Option Addr} {L : List Clz} {z : Clz}
theorem Clz.Lies.below (h : z.Lies w B) (hb : Below B w w') : z.Lies w' B := ⟨h.row.below hb, h.fits, h.len⟩
theorem Clz.Lies.more (h : z.Lies w B) (hB : B ≤ B') : z.Lies w B' := ⟨h.row.more hB, h.fits, h.len⟩
theorem ALies.below (h : ALies w B A L) (hb : Below B w w') : ALies w' B A L := ⟨h.row.below hb, fun z hz => (h.each z hz).below hb, h.len⟩
theorem ALies.more (h : ALies w B A L) (hB : B ≤ B') : ALies w B' A L := ⟨h.row.more hB, fun z hz => (h.each z hz).more hB, h.len⟩
/-- element number k of a row of elements of one cell -/
theorem LRow_one {xs : List (List Value)} (h : LRow w B 1 A xs) {k : Nat} (hk : k < xs.length) {v : Value} (hv : xs[k] = [v]) : ∃ b o, A = some ⟨b, o, none⟩ ∧ b < B ∧ w.cell? ⟨b, o + k, none⟩ = some v := by
  rcases h with h | ⟨b, o, e, hb, hc⟩
  · rw [h] at hk; exact absurd hk (Nat.not_lt_zero _)
  · refine ⟨b, o, e, hb, ?_⟩
    have := hc k [v] (by rw [List.getElem?_eq_getElem hk, hv]) 0 _ rfl
    simpa using this
theorem ALies.at (h : ALies w B A L) {k : Nat} (hk : k < L.length) : ∃ b o, A = some ⟨b, o, none⟩ ∧ b < B ∧ w.cell? ⟨b, o + k, none⟩ = some (.slice L[k].A L[k].l.length L[k].q) :=
  LRow_one h.row (by simpa using hk) (by rw [List.getElem_map]; rfl)
end
section
variable {H : Type} {enc : TypeId × Value → H} {w : World}
set_option maxRecDepth 100000 in
/-- as open_rows, where the element's weight is told, too -/
theorem open_rowsW {α : Type} [Inhabited α] (m : Nat) (hm : 0 < m) (cells : α → List Value) (good : α → Prop) (hlen : ∀ a, (cells a).length = m) {t e : TypeId} (ht : Try.prog.underlying t = some (.slice e)) (hC : Try.prog.cellsOf e = m)
    (hel : ∀ n cs' y, DataW.trod enc Try.prog w 0 (fun _ => true) true n e cs' = some y → (∀ k ∈ DataW.weights Try.prog e y.1, k ≤ reachBytes) → ∃ a : α, cs' = cells a ∧ good a)
    {fuel : Nat} {cs : List Value} {x : DataW H × List MemPlace} (h : DataW.trod enc Try.prog w 0 (fun _ => true) true fuel t cs = some x) (hw : ∀ k ∈ DataW.weights Try.prog t x.1, k ≤ reachBytes) :
    ∃ (A : Option Addr) (l : List α) (q : Nat), cs = [.slice A l.length q] ∧ LRow w w.heap.size m A (l.map cells) ∧ (∀ a ∈ l, good a) ∧ l.length ≤ q ∧ (l = [] ∨ ∃ es sp : List (DataW H), x.1 = .slice es sp ∧ es.length = l.length) := by
  rcases open_slice ht h with ⟨rfl, rfl⟩ | ⟨a, len, cap, m', n, D, Pl, rfl, _, hl, _, hmm, rfl, hi⟩
  · exact ⟨none, [], 0, rfl, .inl rfl, (fun _ h => nomatch h), Nat.le_refl _, .inl rfl⟩
  · have hm' : m' = cap := by rw [hmm]; rfl
    subst hm'
    rw [hC] at hi
    have ex : ∀ i, ∃ y : α, i < len → (w.cells? 0 (a.add (i * m)) m = some (cells y) ∧ good y) := fun i => by
      by_cases hlt : i < len
      · obtain ⟨cs', hc, ht'⟩ := hi i (by omega)
        obtain ⟨y, rfl, hg⟩ := hel n cs' _ ht' (fun k hk => hw k (by
          simp only [DataW.weights, ht]
          refine List.mem_cons_of_mem _ (List.mem_append_left _ (weightsAll_mem (List.mem_map.2 ⟨i, List.mem_range.2 hlt, rfl⟩) k hk))))
        exact ⟨y, fun _ => ⟨hc, hg⟩⟩
      · exact ⟨default, fun h => absurd h hlt⟩
    obtain ⟨f, hf⟩ := Classical.axiomOfChoice ex
    refine ⟨some a, (List.range len).map f, m', by simp, ?_, ?_, by simpa using hl, .inr ⟨_, _, rfl, by simp⟩⟩
    · rcases Nat.eq_zero_or_pos len with h0 | h0
      · subst h0; exact .inl rfl
      · right
        obtain ⟨hc0, _⟩ := hf 0 h0
        obtain ⟨_, hcl, hat⟩ := World.cells?_some hc0
        have hz := hat 0 hm
        have hlt0 : 0 < (cells (f 0)).length := by rw [hlen]; exact hm
        rw [List.getElem?_eq_getElem hlt0] at hz
        have hsp : a.spot = none := by
          have hs := spot_none hz
          have e : (a.add (0 * m)).add 0 = a := by simp [Addr.add]
          rw [e] at hs
          exact hs
        obtain ⟨b, o, sp⟩ := a
        simp only at hsp
        subst hsp
        have hlt : b < w.heap.size := by
          have e : ((⟨b, o, none⟩ : Addr).add (0 * m)).add 0 = ⟨b, o, none⟩ := by simp [Addr.add]
          rw [e] at hz
          exact World.block_lt_of_cell? _ _ hz
        refine ⟨b, o, rfl, hlt, fun i ys hi' j u hj => ?_⟩
        rw [List.map_map, List.getElem?_map] at hi'
        have hil : i < len := by
          rcases Nat.lt_or_ge i len with h1 | h1
          · exact h1
          · rw [List.getElem?_eq_none (by simpa using h1)] at hi'; cases hi'
        rw [List.getElem?_eq_getElem (by simpa using hil)] at hi'
        simp at hi'
        subst hi'
        obtain ⟨hci, _⟩ := hf i hil
        obtain ⟨_, _, hat'⟩ := World.cells?_some hci
        have hjm : j < m := by
          have := (List.getElem?_eq_some_iff.1 hj).1
          rw [hlen] at this; exact this
        have := hat' j hjm
        rw [add_at] at this
        rw [this]; exact hj
    · intro y hy
      obtain ⟨i, hi', rfl⟩ := List.mem_map.1 hy
      exact (hf i (List.mem_range.1 hi')).2
instance : Inhabited Clz := ⟨⟨[], none, 0⟩⟩
end
end Go.Proofs.Ytbgcoeejmnejdaa.Rep
