/- An argument that is a circuit, opened: numbers, triples and names in memory; condition: the form's own reach. An argument that is a circuit, opened: its names' texts, too, are within the form's reach; no condition. Rows of clauses in memory, and arguments that are such, opened; no condition. Clauses whose slices are no longer than their arrays: all that are handed in. No condition. -/
import Derived.Test.YtefbknpoehmfaaaPb00
import Derived.Test.YtefbknpoehmfaaaChecked
import Derived.Deep.Slices
import Derived.OpenShut
import Derived.ChangeArms
import Derived.SizedLaws
import Derived.KernelRfl
namespace Go.Proofs.Ytefbknpoehmfaaa.Cw
open Go.ChangeShapes Go.WideShapes Go.RowKit Go.Deep Circ

section
variable {H : Type} {enc : TypeId × Value → H} {w : World}

theorem add_at (b o p k : Nat) : ((⟨b, o, none⟩ : Addr).add p).add k = ⟨b, o + (p + k), none⟩ := by
  unfold Addr.add
  by_cases hp : p = 0 <;> by_cases hk : k = 0 <;> simp [hp, hk, Nat.add_assoc]
theorem spot_none {a : Addr} {v : Value} (h : w.cell? a = some v) : a.spot = none := by
  unfold World.cell? at h
  split at h
  · split at h
    · cases h
    · rename_i hs
      cases hq : a.spot with
      | none => rfl
      | some x => rw [hq] at hs; exact absurd rfl hs
  · cases h

/-- A slice whose elements each read as an a: the list, and where it lies. -/
theorem open_rows {α : Type} [Inhabited α] (m : Nat) (hm : 0 < m) (cells : α → List Value) (good : α → Prop) (hlen : ∀ a, (cells a).length = m) {t e : TypeId} (ht : Try.prog.underlying t = some (.slice e)) (hC : Try.prog.cellsOf e = m)
    (hel : ∀ n cs' y, DataW.trod enc Try.prog w 0 (fun _ => true) true n e cs' = some y → ∃ a : α, cs' = cells a ∧ good a)
    {fuel : Nat} {cs : List Value} {x : DataW H × List MemPlace} (h : DataW.trod enc Try.prog w 0 (fun _ => true) true fuel t cs = some x) :
    ∃ (A : Option Addr) (l : List α) (q : Nat), cs = [.slice A l.length q] ∧ LRow w w.heap.size m A (l.map cells) ∧ (∀ a ∈ l, good a) ∧ l.length ≤ q ∧ (l = [] ∨ ∃ es sp : List (DataW H), x.1 = .slice es sp ∧ es.length = l.length) := by
  rcases open_slice ht h with ⟨rfl, rfl⟩ | ⟨a, len, cap, m', n, D, Pl, rfl, _, hl, _, hmm, rfl, hi⟩
  · exact ⟨none, [], 0, rfl, .inl rfl, (fun _ h => nomatch h), Nat.le_refl _, .inl rfl⟩
  · have hm' : m' = cap := by rw [hmm]; rfl
    subst hm'
    rw [hC] at hi
    have ex : ∀ i, ∃ y : α, i < len → (w.cells? 0 (a.add (i * m)) m = some (cells y) ∧ good y) := fun i => by
      by_cases hlt : i < len
      · obtain ⟨cs', hc, ht'⟩ := hi i (by omega)
        obtain ⟨y, rfl, hg⟩ := hel n cs' _ ht'
        exact ⟨y, fun _ => ⟨hc, hg⟩⟩
      · exact ⟨default, fun h => absurd h hlt⟩
    obtain ⟨f, hf⟩ := Classical.axiomOfChoice ex
    refine ⟨some a, (List.range len).map f, m', by simp, ?_, ?_, by simpa using hl, .inr ⟨_, _, rfl, by simp⟩⟩
    · rcases Nat.eq_zero_or_pos len with h0 | h0
      · subst h0; exact .inl rfl
      · right
        obtain ⟨hc0, _⟩ := hf 0 h0
        obtain ⟨_, hcl, hat⟩ := World.cells?_some hc0
        have hz := hat 0 hm
        have hlt0 : 0 < (cells (f 0)).length := by rw [hlen]; exact hm
        rw [List.getElem?_eq_getElem hlt0] at hz
        have hsp : a.spot = none := by
          have hs := spot_none hz
          have e : (a.add (0 * m)).add 0 = a := by simp [Addr.add]
          rw [e] at hs
          exact hs
        obtain ⟨b, o, sp⟩ := a
        simp only at hsp
        subst hsp
        have hlt : b < w.heap.size := by
          have e : ((⟨b, o, none⟩ : Addr).add (0 * m)).add 0 = ⟨b, o, none⟩ := by simp [Addr.add]
          rw [e] at hz
          exact World.block_lt_of_cell? _ _ hz
        refine ⟨b, o, rfl, hlt, fun i ys hi' j u hj => ?_⟩
        rw [List.map_map, List.getElem?_map] at hi'
        have hil : i < len := by
          rcases Nat.lt_or_ge i len with h1 | h1
          · exact h1
          · rw [List.getElem?_eq_none (by simpa using h1)] at hi'; cases hi'
        rw [List.getElem?_eq_getElem (by simpa using hil)] at hi'
        simp at hi'
        subst hi'
        obtain ⟨hci, _⟩ := hf i hil
        obtain ⟨_, _, hat'⟩ := World.cells?_some hci
        have hjm : j < m := by
          have := (List.getElem?_eq_some_iff.1 hj).1
          rw [hlen] at this; exact this
        have := hat' j hjm
        rw [add_at] at this
        rw [this]; exact hj
    · intro y hy
      obtain ⟨i, hi', rfl⟩ := List.mem_map.1 hy
      exact (hf i (List.mem_range.1 hi')).2

theorem wf_bounds {x : Int} (h : (Lit.int .i64 x).wf = true) : I64 x := bounds_i64 h

theorem c3 : Try.prog.cellsOf 3 = 1 := by kernel_rfl
theorem c9 : Try.prog.cellsOf 9 = 1 := by kernel_rfl
instance : Inhabited Tri := ⟨⟨0, 0, 0⟩⟩
instance : Inhabited Nam := ⟨⟨⟨#[]⟩, 0, ⟨#[]⟩⟩⟩

theorem el_int {n : Nat} {cs : List Value} {y : DataW H × List MemPlace} (h : DataW.trod enc Try.prog w 0 (fun _ => true) true n 3 cs = some y) : ∃ x : Int, cs = [.int .i64 x] ∧ I64 x := by
  obtain ⟨x, hc, _, hw⟩ := DataW.trod_int Try.underlying3 h
  exact ⟨x, hc, wf_bounds hw⟩
/-- the list's bytes are within the reach -/
theorem row_bytes {α : Type} {l : List α} {x : DataW H} {t e : TypeId} (k : Nat) (hk : Try.prog.bytesOf e = k) (ht : Try.prog.underlying t = some (.slice e)) (h : l = [] ∨ ∃ es sp : List (DataW H), x = .slice es sp ∧ es.length = l.length)
    (hw : ∀ n ∈ DataW.weights Try.prog t x, n ≤ reachBytes) : l.length * k ≤ 140737488355328 := by
  rcases h with rfl | ⟨es, sp, rfl, hl⟩
  · simp
  · have := hw ((es.length + sp.length) * Try.prog.bytesOf e) (by simp [DataW.weights, ht])
    rw [hk, hl] at this
    unfold reachBytes at this
    have h2 : l.length * k ≤ (l.length + sp.length) * k := Nat.mul_le_mul_right _ (by omega)
    omega

end
end Go.Proofs.Ytefbknpoehmfaaa.Cw
namespace Go.Proofs.Ytefbknpoehmfaaa.Cw
open Go.ChangeShapes Go.WideShapes Go.RowKit Go.Deep Circ

section
variable {H : Type} {enc : TypeId × Value → H} {w : World}

theorem weightsAll_mem {P : Program} {e : TypeId} : ∀ {ds : List (DataW H)} {d : DataW H}, d ∈ ds → ∀ n ∈ d.weights P e, n ∈ DataW.weightsAll P e ds
  | [], d, h, _, _ => nomatch h
  | x :: r, d, h, n, hn => by
    rw [DataW.weightsAll, List.mem_append]
    rcases List.mem_cons.1 h with rfl | h
    · exact .inl hn
    · exact .inr (weightsAll_mem h n hn)
end
end Go.Proofs.Ytefbknpoehmfaaa.Cw
namespace Go.Proofs.Ytefbknpoehmfaaa.Rep
open Go.ChangeShapes Go.WideShapes Go.RowKit Go.Deep Circ Cw

structure Clz where
  l : List Int
  A : Option Addr
  q : Nat
def Clz.cells (z : Clz) : List Value := [.slice z.A z.l.length z.q]
structure Clz.Lies (w : World) (B : Nat) (z : Clz) : Prop where
  row : LRow w B 1 z.A (ints z.l)
  fits : ∀ x ∈ z.l, I64 x
  len : z.l.length ≤ 9223372036854775807
/-- the clauses lie in memory below block B -/
structure ALies (w : World) (B : Nat) (A : Option Addr) (L : List Clz) : Prop where
  row : LRow w B 1 A (L.map Clz.cells)
  each : ∀ z ∈ L, z.Lies w B
  len : L.length ≤ 9223372036854775807
section
variable {w w' : World} {B B' : Nat} {A : Option Addr} {L : List Clz} {z : Clz}
theorem Clz.Lies.below (h : z.Lies w B) (hb : Below B w w') : z.Lies w' B := ⟨h.row.below hb, h.fits, h.len⟩
theorem Clz.Lies.more (h : z.Lies w B) (hB : B ≤ B') : z.Lies w B' := ⟨h.row.more hB, h.fits, h.len⟩
theorem ALies.below (h : ALies w B A L) (hb : Below B w w') : ALies w' B A L := ⟨h.row.below hb, fun z hz => (h.each z hz).below hb, h.len⟩
theorem ALies.more (h : ALies w B A L) (hB : B ≤ B') : ALies w B' A L := ⟨h.row.more hB, fun z hz => (h.each z hz).more hB, h.len⟩
/-- element number k of a row of elements of one cell -/
theorem LRow_one {xs : List (List Value)} (h : LRow w B 1 A xs) {k : Nat} (hk : k < xs.length) {v : Value} (hv : xs[k] = [v]) : ∃ b o, A = some ⟨b, o, none⟩ ∧ b < B ∧ w.cell? ⟨b, o + k, none⟩ = some v := by
  rcases h with h | ⟨b, o, e, hb, hc⟩
  · rw [h] at hk; exact absurd hk (Nat.not_lt_zero _)
  · refine ⟨b, o, e, hb, ?_⟩
    have := hc k [v] (by rw [List.getElem?_eq_getElem hk, hv]) 0 _ rfl
    simpa using this
theorem ALies.at (h : ALies w B A L) {k : Nat} (hk : k < L.length) : ∃ b o, A = some ⟨b, o, none⟩ ∧ b < B ∧ w.cell? ⟨b, o + k, none⟩ = some (.slice L[k].A L[k].l.length L[k].q) :=
  LRow_one h.row (by simpa using hk) (by rw [List.getElem_map]; rfl)
end
section
variable {H : Type} {enc : TypeId × Value → H} {w : World}
set_option maxRecDepth 100000 in
/-- as open_rows, where the element's weight is told, too -/
theorem open_rowsW {α : Type} [Inhabited α] (m : Nat) (hm : 0 < m) (cells : α → List Value) (good : α → Prop) (hlen : ∀ a, (cells a).length = m) {t e : TypeId} (ht : Try.prog.underlying t = some (.slice e)) (hC : Try.prog.cellsOf e = m)
    (hel : ∀ n cs' y, DataW.trod enc Try.prog w 0 (fun _ => true) true n e cs' = some y → (∀ k ∈ DataW.weights Try.prog e y.1, k ≤ reachBytes) → ∃ a : α, cs' = cells a ∧ good a)
    {fuel : Nat} {cs : List Value} {x : DataW H × List MemPlace} (h : DataW.trod enc Try.prog w 0 (fun _ => true) true fuel t cs = some x) (hw : ∀ k ∈ DataW.weights Try.prog t x.1, k ≤ reachBytes) :
    ∃ (A : Option Addr) (l : List α) (q : Nat), cs = [.slice A l.length q] ∧ LRow w w.heap.size m A (l.map cells) ∧ (∀ a ∈ l, good a) ∧ l.length ≤ q ∧ (l = [] ∨ ∃ es sp : List (DataW H), x.1 = .slice es sp ∧ es.length = l.length) := by
  rcases open_slice ht h with ⟨rfl, rfl⟩ | ⟨a, len, cap, m', n, D, Pl, rfl, _, hl, _, hmm, rfl, hi⟩
  · exact ⟨none, [], 0, rfl, .inl rfl, (fun _ h => nomatch h), Nat.le_refl _, .inl rfl⟩
  · have hm' : m' = cap := by rw [hmm]; rfl
    subst hm'
    rw [hC] at hi
    have ex : ∀ i, ∃ y : α, i < len → (w.cells? 0 (a.add (i * m)) m = some (cells y) ∧ good y) := fun i => by
      by_cases hlt : i < len
      · obtain ⟨cs', hc, ht'⟩ := hi i (by omega)
        obtain ⟨y, rfl, hg⟩ := hel n cs' _ ht' (fun k hk => hw k (by
          simp only [DataW.weights, ht]
          refine List.mem_cons_of_mem _ (List.mem_append_left _ (weightsAll_mem (List.mem_map.2 ⟨i, List.mem_range.2 hlt, rfl⟩) k hk))))
        exact ⟨y, fun _ => ⟨hc, hg⟩⟩
      · exact ⟨default, fun h => absurd h hlt⟩
    obtain ⟨f, hf⟩ := Classical.axiomOfChoice ex
    refine ⟨some a, (List.range len).map f, m', by simp, ?_, ?_, by simpa using hl, .inr ⟨_, _, rfl, by simp⟩⟩
    · rcases Nat.eq_zero_or_pos len with h0 | h0
      · subst h0; exact .inl rfl
      · right
        obtain ⟨hc0, _⟩ := hf 0 h0
        obtain ⟨_, hcl, hat⟩ := World.cells?_some hc0
        have hz := hat 0 hm
        have hlt0 : 0 < (cells (f 0)).length := by rw [hlen]; exact hm
        rw [List.getElem?_eq_getElem hlt0] at hz
        have hsp : a.spot = none := by
          have hs := spot_none hz
          have e : (a.add (0 * m)).add 0 = a := by simp [Addr.add]
          rw [e] at hs
          exact hs
        obtain ⟨b, o, sp⟩ := a
        simp only at hsp
        subst hsp
        have hlt : b < w.heap.size := by
          have e : ((⟨b, o, none⟩ : Addr).add (0 * m)).add 0 = ⟨b, o, none⟩ := by simp [Addr.add]
          rw [e] at hz
          exact World.block_lt_of_cell? _ _ hz
        refine ⟨b, o, rfl, hlt, fun i ys hi' j u hj => ?_⟩
        rw [List.map_map, List.getElem?_map] at hi'
        have hil : i < len := by
          rcases Nat.lt_or_ge i len with h1 | h1
          · exact h1
          · rw [List.getElem?_eq_none (by simpa using h1)] at hi'; cases hi'
        rw [List.getElem?_eq_getElem (by simpa using hil)] at hi'
        simp at hi'
        subst hi'
        obtain ⟨hci, _⟩ := hf i hil
        obtain ⟨_, _, hat'⟩ := World.cells?_some hci
        have hjm : j < m := by
          have := (List.getElem?_eq_some_iff.1 hj).1
          rw [hlen] at this; exact this
        have := hat' j hjm
        rw [add_at] at this
        rw [this]; exact hj
    · intro y hy
      obtain ⟨i, hi', rfl⟩ := List.mem_map.1 hy
      exact (hf i (List.mem_range.1 hi')).2
instance : Inhabited Clz := ⟨⟨[], none, 0⟩⟩
end
end Go.Proofs.Ytefbknpoehmfaaa.Rep
namespace Go.Proofs.Ytefbknpoehmfaaa.For
open Go.ChangeShapes Go.WideShapes Go.RowKit Go.Deep Circ Cw Rep

def Caps (L : List Clz) : Prop := ∀ z ∈ L, z.l.length ≤ z.q
theorem el_intsC {H : Type} {enc : TypeId × Value → H} {w : World} {n : Nat} {cs : List Value} {y : DataW H × List MemPlace} (h : DataW.trod enc Try.prog w 0 (fun _ => true) true n 25 cs = some y) (hw : ∀ k ∈ DataW.weights Try.prog 25 y.1, k ≤ reachBytes) : ∃ z : Clz, cs = z.cells ∧ (z.Lies w w.heap.size ∧ z.l.length ≤ z.q) := by
  obtain ⟨A1, cl, q1, e1, r1, f1, k1, z1⟩ := open_rows 1 (by decide) (fun x : Int => [Value.int .i64 x]) I64 (fun _ => rfl) Try.underlying25 c3 (fun n cs' y h => el_int h) h
  have hbl : cl.length * 8 ≤ 140737488355328 := row_bytes (l := cl) 8 (by kernel_rfl) Try.underlying25 z1 hw
  have hlen : cl.length ≤ 9223372036854775807 := by omega
  exact ⟨⟨cl, A1, q1⟩, e1, ⟨r1, f1, hlen⟩, k1⟩
end Go.Proofs.Ytefbknpoehmfaaa.For
