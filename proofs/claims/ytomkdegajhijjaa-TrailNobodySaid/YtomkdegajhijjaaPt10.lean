/- An argument that is a circuit, opened: numbers, triples and names in memory; condition: the form's own reach. -/
import Derived.Test.YtomkdegajhijjaaPt00
import Derived.Test.YtomkdegajhijjaaChecked
import Derived.Deep.Slices
import Derived.OpenShut
import Derived.ChangeArms
import Derived.SizedLaws
import Derived.KernelRfl
namespace Go.Proofs.Ytomkdegajhijjaa.Cw
open Go.ChangeShapes Go.WideShapes Go.RowKit Go.Deep Circ

section
variable {H : Type} {enc : TypeId × Value → H} {w : World}

theorem add_at (b o p k : Nat) : ((⟨b, o, none⟩ : Addr).add p).add k = ⟨b, o + (p + k), none⟩ := by
  unfold Addr.add
  by_cases hp : p = 0 <;> by_cases hk : k = 0 <;> simp [hp, hk, Nat.add_assoc]
theorem spot_none {a : Addr} {v : Value} (h : w.cell? a = some v) : a.spot = none := by
  unfold World.cell? at h
  split at h
  · split at h
    · cases h
    · rename_i hs
      cases hq : a.spot with
      | none => rfl
      | some x => rw [hq] at hs; exact absurd rfl hs
  · cases h

/-- A slice whose elements each read as an a: the list, and where it lies. -/
theorem open_rows {α : Type} [Inhabited α] (m : Nat) (hm : 0 < m) (cells : α → List Value) (good : α → Prop) (hlen : ∀ a, (cells a).length = m) {t e : TypeId} (ht : Try.prog.underlying t = some (.slice e)) (hC : Try.prog.cellsOf e = m)
    (hel : ∀ n cs' y, DataW.trod enc Try.prog w 0 (fun _ => true) true n e cs' = some y → ∃ a : α, cs' = cells a ∧ good a)
    {fuel : Nat} {cs : List Value} {x : DataW H × List MemPlace} (h : DataW.trod enc Try.prog w 0 (fun _ => true) true fuel t cs = some x) :
    ∃ (A : Option Addr) (l : List α) (q : Nat), cs = [.slice A l.length q] ∧ LRow w w.heap.size m A (l.map cells) ∧ (∀ a ∈ l, good a) ∧ l.length ≤ q ∧ (l = [] ∨ ∃ es sp : List (DataW H), x.1 = .slice es sp ∧ es.length = l.length) := by
  rcases open_slice ht h with ⟨rfl, rfl⟩ | ⟨a, len, cap, m', n, D, Pl, rfl, _, hl, _, hmm, rfl, hi⟩
  · exact ⟨none, [], 0, rfl, .inl rfl, (fun _ h => nomatch h), Nat.le_refl _, .inl rfl⟩
  · have hm' : m' = cap := by rw [hmm]; rfl
    subst hm'
    rw [hC] at hi
    have ex : ∀ i, ∃ y : α, i < len → (w.cells? 0 (a.add (i * m)) m = some (cells y) ∧ good y) := fun i => by
      by_cases hlt : i < len
      · obtain ⟨cs', hc, ht'⟩ := hi i (by omega)
        obtain ⟨y, rfl, hg⟩ := hel n cs' _ ht'
        exact ⟨y, fun _ => ⟨hc, hg⟩⟩
      · exact ⟨default, fun h => absurd h hlt⟩
    obtain ⟨f, hf⟩ := Classical.axiomOfChoice ex
    refine ⟨some a, (List.range len).map f, m', by simp, ?_, ?_, by simpa using hl, .inr ⟨_, _, rfl, by simp⟩⟩
    · rcases Nat.eq_zero_or_pos len with h0 | h0
      · subst h0; exact .inl rfl
      · right
        obtain ⟨hc0, _⟩ := hf 0 h0
        obtain ⟨_, hcl, hat⟩ := World.cells?_some hc0
        have hz := hat 0 hm
        have hlt0 : 0 < (cells (f 0)).length := by rw [hlen]; exact hm
        rw [List.getElem?_eq_getElem hlt0] at hz
        have hsp : a.spot = none := by
          have hs := spot_none hz
          have e : (a.add (0 * m)).add 0 = a := by simp [Addr.add]
          rw [e] at hs
          exact hs
        obtain ⟨b, o, sp⟩ := a
        simp only at hsp
        subst hsp
        have hlt : b < w.heap.size := by
          have e : ((⟨b, o, none⟩ : Addr).add (0 * m)).add 0 = ⟨b, o, none⟩ := by simp [Addr.add]
          rw [e] at hz
          exact World.block_lt_of_cell? _ _ hz
        refine ⟨b, o, rfl, hlt, fun i ys hi' j u hj => ?_⟩
        rw [List.map_map, List.getElem?_map] at hi'
        have hil : i < len := by
          rcases Nat.lt_or_ge i len with h1 | h1
          · exact h1
          · rw [List.getElem?_eq_none (by simpa using h1)] at hi'; cases hi'
        rw [List.getElem?_eq_getElem (by simpa using hil)] at hi'
        simp at hi'
        subst hi'
        obtain ⟨hci, _⟩ := hf i hil
        obtain ⟨_, _, hat'⟩ := World.cells?_some hci
        have hjm : j < m := by
          have := (List.getElem?_eq_some_iff.1 hj).1
          rw [hlen] at this; exact this
        have := hat' j hjm
        rw [add_at] at this
        rw [this]; exact hj
    · intro y hy
      obtain ⟨i, hi', rfl⟩ := List.mem_map.1 hy
      exact (hf i (List.mem_range.1 hi')).2

theorem wf_bounds {x : Int} (h : (Lit.int .i64 x).wf = true) : I64 x := bounds_i64 h

theorem c3 : Try.prog.cellsOf 3 = 1 := by kernel_rfl
instance : Inhabited Tri := ⟨⟨0, 0, 0⟩⟩
instance : Inhabited Nam := ⟨⟨⟨#[]⟩, 0, ⟨#[]⟩⟩⟩

theorem el_int {n : Nat} {cs : List Value} {y : DataW H × List MemPlace} (h : DataW.trod enc Try.prog w 0 (fun _ => true) true n 3 cs = some y) : ∃ x : Int, cs = [.int .i64 x] ∧ I64 x := by
  obtain ⟨x, hc, _, hw⟩ := DataW.trod_int Try.underlying3 h
  exact ⟨x, hc, wf_bounds hw⟩
theorem three_of {α : Type} (l : List α) (h : l.length = 3) : ∃ a b c, l = [a, b, c] := by
  match l, h with
  | [a, b, c], _ => exact ⟨a, b, c, rfl⟩
theorem el_tri {t : TypeId} (a b c : Field) (ha : a.type = 3 ∧ a.offset = 0) (hb : b.type = 3 ∧ b.offset = 1) (hc : c.type = 3 ∧ c.offset = 2) (hu : Try.prog.underlying t = some (.struct #[a, b, c])) (h3 : Try.prog.cellsOf t = 3)
    {n : Nat} {cs : List Value} {y : DataW H × List MemPlace} (h : DataW.trod enc Try.prog w 0 (fun _ => true) true n t cs = some y) : ∃ x : Tri, cs = x.cells ∧ x.fits := by
  obtain ⟨xs, n', _, _, hl, hx, hf⟩ := DataW.trod_struct hu h
  rw [h3] at hl
  obtain ⟨u0, u1, u2, rfl⟩ := three_of cs hl
  obtain ⟨y0, y1, y2, rfl⟩ := three_of xs hx
  have f0 := hf 0 a rfl
  have f1 := hf 1 b rfl
  have f2 := hf 2 c rfl
  rw [ha.1, ha.2, c3] at f0
  rw [hb.1, hb.2, c3] at f1
  rw [hc.1, hc.2, c3] at f2
  obtain ⟨x0, e0, g0⟩ := el_int f0
  obtain ⟨x1, e1, g1⟩ := el_int f1
  obtain ⟨x2, e2, g2⟩ := el_int f2
  simp at e0 e1 e2
  subst e0; subst e1; subst e2
  exact ⟨⟨x0, x1, x2⟩, rfl, g0, g1, g2⟩
theorem tri_len (t : Tri) : t.cells.length = 3 := rfl
/-- the list's bytes are within the reach -/
theorem row_bytes {α : Type} {l : List α} {x : DataW H} {t e : TypeId} (k : Nat) (hk : Try.prog.bytesOf e = k) (ht : Try.prog.underlying t = some (.slice e)) (h : l = [] ∨ ∃ es sp : List (DataW H), x = .slice es sp ∧ es.length = l.length)
    (hw : ∀ n ∈ DataW.weights Try.prog t x, n ≤ reachBytes) : l.length * k ≤ 140737488355328 := by
  rcases h with rfl | ⟨es, sp, rfl, hl⟩
  · simp
  · have := hw ((es.length + sp.length) * Try.prog.bytesOf e) (by simp [DataW.weights, ht])
    rw [hk, hl] at this
    unfold reachBytes at this
    have h2 : l.length * k ≤ (l.length + sp.length) * k := Nat.mul_le_mul_right _ (by omega)
    omega

end
end Go.Proofs.Ytomkdegajhijjaa.Cw
