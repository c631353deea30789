/- Lists of a call's own whose elements are written over, one by one, and what stays while strash.Hash does so; no condition. The walk of strash.Hash; no condition but that what is asked of it fits. The pages' look whether circuits are one, of circuits that are one; no condition. An argument that is a circuit, opened: numbers, triples and names in memory; condition: the form's own reach. An argument that is a circuit, opened: its names' texts, too, are within the form's reach; no condition. What stage 6's laws share, and the walk of StrashLess; condition: what is asked of it fits. interlockref01.Var, Neg and bit: a literal's value among values that lie in a row; no condition but that the literal's variable has one. -/
import Derived.Test.YtpaneggajjgdlaaPt13
import Derived.Test.YtpaneggajjgdlaaPt15
import Derived.Test.YtpaneggajjgdlaaPt17
import Derived.Sort.QuietIn
import Derived.Test.YtpaneggajjgdlaaPt08
import Derived.Test.YtpaneggajjgdlaaPt01
import Derived.Test.YtpaneggajjgdlaaChecked
import Derived.Deep.Slices
import Derived.OpenShut
import Derived.ChangeArms
import Derived.SizedLaws
import Derived.KernelRfl
import Derived.Test.YtpaneggajjgdlaaPt14
import Derived.Deep.QuietTactic
import Derived.BigQuiet
import Derived.Deep.OwnRows
namespace Go.Proofs.Ytpaneggajjgdlaa.Str
open Go.ChangeShapes Go.WideShapes Go.ChangeAt Go.RowKit Go.Maps Circ Cw Cpy

theorem cells8 {w : World} {g : Nat} {c : Cir} {s : Places} (h : w.heap[g]? = some (.cells (cirC c s) 27 (0, 0))) : w.cell? ⟨g, 0, none⟩ = some (.int .i64 c.max) ∧ w.cell? ⟨g, 1, none⟩ = some (.slice s.ai c.ins.length s.ki) ∧ w.cell? ⟨g, 2, none⟩ = some (.slice s.al c.lats.length s.kl) ∧ w.cell? ⟨g, 3, none⟩ = some (.slice s.ao c.outs.length s.ko) ∧ w.cell? ⟨g, 4, none⟩ = some (.slice s.ab c.bads.length s.kb) ∧ w.cell? ⟨g, 5, none⟩ = some (.slice s.ac c.invs.length s.kc) ∧ w.cell? ⟨g, 6, none⟩ = some (.slice s.aa c.ands.length s.ka) ∧ w.cell? ⟨g, 7, none⟩ = some (.slice s.an c.names.length s.kn) := by
  have e : ∀ i, w.cell? ⟨g, i, none⟩ = (cirC c s)[i]? := fun i => by simp [World.cell?, h]
  exact ⟨e 0, e 1, e 2, e 3, e 4, e 5, e 6, e 7⟩
structure Save (g : Option Nat) (w w' : World) : Prop where
  os : w'.os = w.os
  tape : w'.tape = w.tape
  output : w'.output = w.output
  size : w.heap.size ≤ w'.heap.size
  b : ∀ k, k < w.heap.size → g ≠ some k → w'.heap[k]? = w.heap[k]?
theorem Save.of {g : Option Nat} {w w' : World} (h : Below w.heap.size w w') : Save g w w' := ⟨h.os, h.tape, h.output, h.size, fun k hk _ => h.block k hk⟩
theorem Save.trans {g : Option Nat} {a b c : World} (h : Save g a b) (k : Save g b c) : Save g a c :=
  ⟨k.os.trans h.os, k.tape.trans h.tape, k.output.trans h.output, Nat.le_trans h.size k.size, fun i hi hg => (k.b i (Nat.lt_of_lt_of_le hi h.size) hg).trans (h.b i hi hg)⟩
theorem Save.below {g : Option Nat} {N : Nat} {W w w' : World} (h : Save g w w') (hb : Below N W w) (hN : N ≤ w.heap.size) (hg : ∀ k, g = some k → N ≤ k) : Below N W w' :=
  ⟨h.os.trans hb.os, h.tape.trans hb.tape, h.output.trans hb.output, Nat.le_trans hb.size h.size, fun k hk => (h.b k (by omega) (fun e => by have := hg k e; omega)).trans (hb.block k hk)⟩
theorem HsAt.above {w w' : World} {C p m1 m2 n : Nat} {v : Value} {h : Hs} (H : HsAt w C p m1 m2 v h n) (hb : ∀ k, C ≤ k → k < w.heap.size → w'.heap[k]? = w.heap[k]?) : HsAt w' C p m1 m2 v h n := by
  obtain ⟨l1, l2, l3⟩ := H.lt
  obtain ⟨a, b, c⟩ := H.lo
  exact ⟨(hb p a l1).trans H.box, H.f.keep (hb m1 b l2), H.g.keep (hb m2 c l3), H.st.keep_at (fun g _ hg => hb g (H.st.block_lt g hg).1 (H.st.block_lt g hg).2), H.lo, H.ne, H.own⟩
/-- the copy's box, once its ands are those that stayed -/
def boxH (c : Cir) (s : Places) (va : Value) : Array Value := #[.int .i64 c.max, .slice s.ai c.ins.length s.ki, .slice s.al c.lats.length s.kl, .slice s.ao c.outs.length s.ko, .slice s.ab c.bads.length s.kb, .slice s.ac c.invs.length s.kc, va, .slice s.an c.names.length s.kn]
/-- the copy's lists while they are written over; what is being hashed lies above C -/
structure StH (N gd C p m1 m2 n : Nat) (va : Value) (h : Hs) (W : World) (c : Cir) (s : Places) (outs bads invs : List Int) (lats : List Tri) (w : World) : Prop where
  i : OwnC w N 3 1 (.slice s.ai c.ins.length s.ki) (ints c.ins)
  o : OwnC w N 3 1 (.slice s.ao c.outs.length s.ko) (ints outs)
  d : OwnC w N 3 1 (.slice s.ab c.bads.length s.kb) (ints bads)
  v : OwnC w N 3 1 (.slice s.ac c.invs.length s.kc) (ints invs)
  l : OwnC w N 39 3 (.slice s.al c.lats.length s.kl) (tris lats)
  nm : OwnC w N 73 3 (.slice s.an c.names.length s.kn) (nams c.names)
  x : w.heap[gd]? = some (.cells (boxH c s va) 27 (0, 0))
  hs : HsAt w C p m1 m2 va h n
  b : Below N W w
  z : N ≤ w.heap.size
  g : N ≤ gd
  lo : ∀ k, s.ao.map Addr.block = some k → k < C
  ld : ∀ k, s.ab.map Addr.block = some k → k < C
  lv : ∀ k, s.ac.map Addr.block = some k → k < C
  ll : ∀ k, s.al.map Addr.block = some k → k < C
section
variable {N gd C p m1 m2 n : Nat} {va : Value} {h : Hs} {W w w' : World} {c : Cir} {s : Places} {outs bads invs : List Int} {lats : List Tri}
theorem StH.below (H : StH N gd C p m1 m2 n va h W c s outs bads invs lats w) (hb : Below w.heap.size w w') : StH N gd C p m1 m2 n va h W c s outs bads invs lats w' :=
  ⟨H.i.keep hb, H.o.keep hb, H.d.keep hb, H.v.keep hb, H.l.keep hb, H.nm.keep hb, (hb.block gd (lt_of_block H.x)).trans H.x, H.hs.below hb, H.b.trans (hb.mono H.z), Nat.le_trans H.z hb.size, H.g, H.lo, H.ld, H.lv, H.ll⟩
end
end Go.Proofs.Ytpaneggajjgdlaa.Str
namespace Go.Proofs.Ytpaneggajjgdlaa.Str
open Go.ChangeShapes Go.WideShapes Go.ChangeAt Go.RowKit Go.Maps Circ Cw
open Cpy (copy_any Apart)

theorem ands_far {c : Cir} (h : refOk c = true) : ∀ (k : Nat) (hk : k < c.ands.length), 2 * (k : Int) + 2 ≤ c.ands[k].a
  | 0, hk => by have := (ands_own h (List.getElem_mem hk)).1; omega
  | k + 1, hk => by
    have h1 := ands_far h k (by omega)
    have h2 : c.ands[k].a < c.ands[k + 1].a := ands_less h (Nat.lt_succ_self k) hk
    have h3 := (ands_own h (List.getElem_mem hk)).2.1
    have h4 := (ands_own h (List.getElem_mem (show k < c.ands.length by omega))).2.1
    omega
theorem ref_sizes {c : Cir} (h : refOk c = true) : c.ins.length ≤ 64 ∧ c.lats.length ≤ 64 ∧ c.outs.length ≤ 64 ∧ c.bads.length ≤ 64 ∧ c.invs.length ≤ 64 ∧ c.ands.length ≤ 4097 := by
  obtain ⟨hh, -, -, -, ho, hb, hi⟩ := ref_parts h
  unfold refHead at hh
  unfold allKnown at ho hb hi
  simp only [Bool.and_eq_true, Bool.not_eq_true', decide_eq_false_iff_not, decide_eq_true_eq] at hh ho hb hi
  refine ⟨by omega, by omega, ho.2, hb.2, hi.2, ?_⟩
  rcases Nat.lt_or_ge 4097 c.ands.length with h1 | h1
  · have h2 := ands_far h 4097 h1
    have h3 := (ands_own h (List.getElem_mem h1)).2.2.1
    omega
  · exact h1
end Go.Proofs.Ytpaneggajjgdlaa.Str
namespace Go.Proofs.Ytpaneggajjgdlaa.Cw
open Go.ChangeShapes Go.WideShapes Go.ChangeAt Go.RowKit Go.Maps Circ

/-- two circuits that are one, each in its box, the boxes in blocks g and g + 1 -/
structure Two (g : Nat) (c : Cir) (s s' : Places) (w : World) : Prop where
  b : Box w g c s
  b' : Box w (g + 1) c s'
  l : CLies w g c s
  l' : CLies w g c s'
  z : g + 2 ≤ w.heap.size
theorem Two.below {g : Nat} {c : Cir} {s s' : Places} {w w' : World} (h : Two g c s s' w) (hb : Below w.heap.size w w') : Two g c s s' w' :=
  have hz := h.z
  ⟨h.b.keep hb (by omega), h.b'.keep hb (by omega), h.l.below (hb.mono (by omega)), h.l'.below (hb.mono (by omega)), Nat.le_trans h.z hb.size⟩
end Go.Proofs.Ytpaneggajjgdlaa.Cw
namespace Go.Proofs.Ytpaneggajjgdlaa.Cw
open Go.ChangeShapes Go.WideShapes Go.RowKit Go.Deep Circ

section
variable {H : Type} {enc : TypeId × Value → H} {w : World}

theorem add_at (b o p k : Nat) : ((⟨b, o, none⟩ : Addr).add p).add k = ⟨b, o + (p + k), none⟩ := by
  unfold Addr.add
  by_cases hp : p = 0 <;> by_cases hk : k = 0 <;> simp [hp, hk, Nat.add_assoc]
theorem spot_none {a : Addr} {v : Value} (h : w.cell? a = some v) : a.spot = none := by
  unfold World.cell? at h
  split at h
  · split at h
    · cases h
    · rename_i hs
      cases hq : a.spot with
      | none => rfl
      | some x => rw [hq] at hs; exact absurd rfl hs
  · cases h

/-- A slice whose elements each read as an a: the list, and where it lies. -/
theorem open_rows {α : Type} [Inhabited α] (m : Nat) (hm : 0 < m) (cells : α → List Value) (good : α → Prop) (hlen : ∀ a, (cells a).length = m) {t e : TypeId} (ht : Try.prog.underlying t = some (.slice e)) (hC : Try.prog.cellsOf e = m)
    (hel : ∀ n cs' y, DataW.trod enc Try.prog w 0 (fun _ => true) true n e cs' = some y → ∃ a : α, cs' = cells a ∧ good a)
    {fuel : Nat} {cs : List Value} {x : DataW H × List MemPlace} (h : DataW.trod enc Try.prog w 0 (fun _ => true) true fuel t cs = some x) :
    ∃ (A : Option Addr) (l : List α) (q : Nat), cs = [.slice A l.length q] ∧ LRow w w.heap.size m A (l.map cells) ∧ (∀ a ∈ l, good a) ∧ l.length ≤ q ∧ (l = [] ∨ ∃ es sp : List (DataW H), x.1 = .slice es sp ∧ es.length = l.length) := by
  rcases open_slice ht h with ⟨rfl, rfl⟩ | ⟨a, len, cap, m', n, D, Pl, rfl, _, hl, _, hmm, rfl, hi⟩
  · exact ⟨none, [], 0, rfl, .inl rfl, (fun _ h => nomatch h), Nat.le_refl _, .inl rfl⟩
  · have hm' : m' = cap := by rw [hmm]; rfl
    subst hm'
    rw [hC] at hi
    have ex : ∀ i, ∃ y : α, i < len → (w.cells? 0 (a.add (i * m)) m = some (cells y) ∧ good y) := fun i => by
      by_cases hlt : i < len
      · obtain ⟨cs', hc, ht'⟩ := hi i (by omega)
        obtain ⟨y, rfl, hg⟩ := hel n cs' _ ht'
        exact ⟨y, fun _ => ⟨hc, hg⟩⟩
      · exact ⟨default, fun h => absurd h hlt⟩
    obtain ⟨f, hf⟩ := Classical.axiomOfChoice ex
    refine ⟨some a, (List.range len).map f, m', by simp, ?_, ?_, by simpa using hl, .inr ⟨_, _, rfl, by simp⟩⟩
    · rcases Nat.eq_zero_or_pos len with h0 | h0
      · subst h0; exact .inl rfl
      · right
        obtain ⟨hc0, _⟩ := hf 0 h0
        obtain ⟨_, hcl, hat⟩ := World.cells?_some hc0
        have hz := hat 0 hm
        have hlt0 : 0 < (cells (f 0)).length := by rw [hlen]; exact hm
        rw [List.getElem?_eq_getElem hlt0] at hz
        have hsp : a.spot = none := by
          have hs := spot_none hz
          have e : (a.add (0 * m)).add 0 = a := by simp [Addr.add]
          rw [e] at hs
          exact hs
        obtain ⟨b, o, sp⟩ := a
        simp only at hsp
        subst hsp
        have hlt : b < w.heap.size := by
          have e : ((⟨b, o, none⟩ : Addr).add (0 * m)).add 0 = ⟨b, o, none⟩ := by simp [Addr.add]
          rw [e] at hz
          exact World.block_lt_of_cell? _ _ hz
        refine ⟨b, o, rfl, hlt, fun i ys hi' j u hj => ?_⟩
        rw [List.map_map, List.getElem?_map] at hi'
        have hil : i < len := by
          rcases Nat.lt_or_ge i len with h1 | h1
          · exact h1
          · rw [List.getElem?_eq_none (by simpa using h1)] at hi'; cases hi'
        rw [List.getElem?_eq_getElem (by simpa using hil)] at hi'
        simp at hi'
        subst hi'
        obtain ⟨hci, _⟩ := hf i hil
        obtain ⟨_, _, hat'⟩ := World.cells?_some hci
        have hjm : j < m := by
          have := (List.getElem?_eq_some_iff.1 hj).1
          rw [hlen] at this; exact this
        have := hat' j hjm
        rw [add_at] at this
        rw [this]; exact hj
    · intro y hy
      obtain ⟨i, hi', rfl⟩ := List.mem_map.1 hy
      exact (hf i (List.mem_range.1 hi')).2

theorem wf_bounds {x : Int} (h : (Lit.int .i64 x).wf = true) : I64 x := bounds_i64 h

theorem c3 : Try.prog.cellsOf 3 = 1 := by kernel_rfl
theorem c9 : Try.prog.cellsOf 9 = 1 := by kernel_rfl
theorem c22 : Try.prog.cellsOf 22 = 1 := by kernel_rfl
theorem c23 : Try.prog.cellsOf 23 = 1 := by kernel_rfl
theorem c24 : Try.prog.cellsOf 24 = 1 := by kernel_rfl
theorem c25 : Try.prog.cellsOf 25 = 1 := by kernel_rfl
theorem c40 : Try.prog.cellsOf 43 = 3 := by kernel_rfl
theorem c45 : Try.prog.cellsOf 73 = 3 := by kernel_rfl
theorem c47 : Try.prog.cellsOf 39 = 3 := by kernel_rfl
theorem c27 : Try.prog.cellsOf 27 = 8 := by kernel_rfl
instance : Inhabited Tri := ⟨⟨0, 0, 0⟩⟩
instance : Inhabited Nam := ⟨⟨⟨#[]⟩, 0, ⟨#[]⟩⟩⟩

theorem el_int {n : Nat} {cs : List Value} {y : DataW H × List MemPlace} (h : DataW.trod enc Try.prog w 0 (fun _ => true) true n 3 cs = some y) : ∃ x : Int, cs = [.int .i64 x] ∧ I64 x := by
  obtain ⟨x, hc, _, hw⟩ := DataW.trod_int Try.underlying3 h
  exact ⟨x, hc, wf_bounds hw⟩
theorem el_str {n : Nat} {cs : List Value} {y : DataW H × List MemPlace} (h : DataW.trod enc Try.prog w 0 (fun _ => true) true n 9 cs = some y) : ∃ s : ByteArray, cs = [.string s] ∧ s.size ≤ 9223372036854775807 := by
  obtain ⟨s, hc, _, hw⟩ := DataW.trod_string Try.underlying9 h
  exact ⟨s, hc, by unfold maxLen at hw; exact hw⟩

theorem three_of {α : Type} (l : List α) (h : l.length = 3) : ∃ a b c, l = [a, b, c] := by
  match l, h with
  | [a, b, c], _ => exact ⟨a, b, c, rfl⟩
theorem eight_of {α : Type} (l : List α) (h : l.length = 8) : ∃ a b c d e f g i, l = [a, b, c, d, e, f, g, i] := by
  match l, h with
  | [a, b, c, d, e, f, g, i], _ => exact ⟨a, b, c, d, e, f, g, i, rfl⟩

theorem el_tri {t : TypeId} (a b c : Field) (ha : a.type = 3 ∧ a.offset = 0) (hb : b.type = 3 ∧ b.offset = 1) (hc : c.type = 3 ∧ c.offset = 2) (hu : Try.prog.underlying t = some (.struct #[a, b, c])) (h3 : Try.prog.cellsOf t = 3)
    {n : Nat} {cs : List Value} {y : DataW H × List MemPlace} (h : DataW.trod enc Try.prog w 0 (fun _ => true) true n t cs = some y) : ∃ x : Tri, cs = x.cells ∧ x.fits := by
  obtain ⟨xs, n', _, _, hl, hx, hf⟩ := DataW.trod_struct hu h
  rw [h3] at hl
  obtain ⟨u0, u1, u2, rfl⟩ := three_of cs hl
  obtain ⟨y0, y1, y2, rfl⟩ := three_of xs hx
  have f0 := hf 0 a rfl
  have f1 := hf 1 b rfl
  have f2 := hf 2 c rfl
  rw [ha.1, ha.2, c3] at f0
  rw [hb.1, hb.2, c3] at f1
  rw [hc.1, hc.2, c3] at f2
  obtain ⟨x0, e0, g0⟩ := el_int f0
  obtain ⟨x1, e1, g1⟩ := el_int f1
  obtain ⟨x2, e2, g2⟩ := el_int f2
  simp at e0 e1 e2
  subst e0; subst e1; subst e2
  exact ⟨⟨x0, x1, x2⟩, rfl, g0, g1, g2⟩
theorem el_nam {n : Nat} {cs : List Value} {y : DataW H × List MemPlace} (h : DataW.trod enc Try.prog w 0 (fun _ => true) true n 73 cs = some y) : ∃ x : Nam, cs = x.cells ∧ x.fits := by
  obtain ⟨xs, n', _, _, hl, hx, hf⟩ := DataW.trod_struct Try.underlying73 h
  rw [c45] at hl
  obtain ⟨u0, u1, u2, rfl⟩ := three_of cs hl
  obtain ⟨y0, y1, y2, rfl⟩ := three_of xs hx
  have f0 := hf 0 _ rfl
  have f1 := hf 1 _ rfl
  have f2 := hf 2 _ rfl
  simp [c3, c9] at f0 f1 f2
  obtain ⟨x0, e0, g0⟩ := el_str f0
  obtain ⟨x1, e1, g1⟩ := el_int f1
  obtain ⟨x2, e2, g2⟩ := el_str f2
  simp at e0 e1 e2
  subst e0; subst e1; subst e2
  exact ⟨⟨x0, x1, x2⟩, rfl, g0, g1, g2⟩

theorem tri_len (t : Tri) : t.cells.length = 3 := rfl
theorem nam_len (t : Nam) : t.cells.length = 3 := rfl

/-- the list's bytes are within the reach -/
theorem row_bytes {α : Type} {l : List α} {x : DataW H} {t e : TypeId} (k : Nat) (hk : Try.prog.bytesOf e = k) (ht : Try.prog.underlying t = some (.slice e)) (h : l = [] ∨ ∃ es sp : List (DataW H), x = .slice es sp ∧ es.length = l.length)
    (hw : ∀ n ∈ DataW.weights Try.prog t x, n ≤ reachBytes) : l.length * k ≤ 140737488355328 := by
  rcases h with rfl | ⟨es, sp, rfl, hl⟩
  · simp
  · have := hw ((es.length + sp.length) * Try.prog.bytesOf e) (by simp [DataW.weights, ht])
    rw [hk, hl] at this
    unfold reachBytes at this
    have h2 : l.length * k ≤ (l.length + sp.length) * k := Nat.mul_le_mul_right _ (by omega)
    omega

set_option maxRecDepth 100000 in
theorem open_circ {r : Reach} {b0 : Nat} {v : Value} {d : DataW H} {p : List MemPlace} (hv : Value.okWide Try.prog w r b0 27 v) (h : DataW.Trod enc Try.prog w 0 (fun _ => true) true 27 v d p)
    (hw : ∀ n ∈ DataW.weights Try.prog 27 d, n ≤ reachBytes) : ∃ (c : Cir) (s : Places), v = cirV c s ∧ CLies w w.heap.size c s ∧ CFits c s := by
  obtain ⟨cs, rfl, hsz⟩ := okWide_struct Try.underlying27 hv
  rw [c27] at hsz
  obtain ⟨l⟩ := cs
  obtain ⟨u0, u1, u2, u3, u4, u5, u6, u7, rfl⟩ := eight_of l hsz
  obtain ⟨fuel, hf⟩ := h
  obtain ⟨xs, n, _, hx, _, hlen, hg⟩ := DataW.trod_struct Try.underlying27 hf
  obtain ⟨y0, y1, y2, y3, y4, y5, y6, y7, rfl⟩ := eight_of xs hlen
  have g0 := hg 0 _ rfl
  have g1 := hg 1 _ rfl
  have g2 := hg 2 _ rfl
  have g3 := hg 3 _ rfl
  have g4 := hg 4 _ rfl
  have g5 := hg 5 _ rfl
  have g6 := hg 6 _ rfl
  have g7 := hg 7 _ rfl
  simp [Value.cells, c3, c22, c23, c24, c25] at g0 g1 g2 g3 g4 g5 g6 g7
  obtain ⟨x0, e0, f0⟩ := el_int g0
  obtain ⟨A1, l1, q1, e1, r1, f1, k1, z1⟩ := open_rows 1 (by decide) (fun x : Int => [Value.int .i64 x]) I64 (fun _ => rfl) Try.underlying22 c3 (fun n cs' y h => el_int h) g1
  obtain ⟨A2, l2, q2, e2, r2, f2, k2, z2⟩ := open_rows 3 (by decide) Tri.cells Tri.fits tri_len Try.underlying23 c47 (fun n cs' y h => el_tri _ _ _ ⟨rfl, rfl⟩ ⟨rfl, rfl⟩ ⟨rfl, rfl⟩ Try.underlying39 c47 h) g2
  obtain ⟨A3, l3, q3, e3, r3, f3, k3, z3⟩ := open_rows 1 (by decide) (fun x : Int => [Value.int .i64 x]) I64 (fun _ => rfl) Try.underlying22 c3 (fun n cs' y h => el_int h) g3
  obtain ⟨A4, l4, q4, e4, r4, f4, k4, z4⟩ := open_rows 1 (by decide) (fun x : Int => [Value.int .i64 x]) I64 (fun _ => rfl) Try.underlying22 c3 (fun n cs' y h => el_int h) g4
  obtain ⟨A5, l5, q5, e5, r5, f5, k5, z5⟩ := open_rows 1 (by decide) (fun x : Int => [Value.int .i64 x]) I64 (fun _ => rfl) Try.underlying22 c3 (fun n cs' y h => el_int h) g5
  obtain ⟨A6, l6, q6, e6, r6, f6, k6, z6⟩ := open_rows 3 (by decide) Tri.cells Tri.fits tri_len Try.underlying24 c40 (fun n cs' y h => el_tri _ _ _ ⟨rfl, rfl⟩ ⟨rfl, rfl⟩ ⟨rfl, rfl⟩ Try.underlying43 c40 h) g6
  obtain ⟨A7, l7, q7, e7, r7, f7, k7, z7⟩ := open_rows 3 (by decide) Nam.cells Nam.fits nam_len Try.underlying25 c45 (fun n cs' y h => el_nam h) g7
  simp at e0 e1 e2 e3 e4 e5 e6 e7
  subst e0; subst e1; subst e2; subst e3; subst e4; subst e5; subst e6; subst e7
  have hd : d = .agg [y0.1, y1.1, y2.1, y3.1, y4.1, y5.1, y6.1, y7.1] := by
    simp only [Prod.mk.injEq] at hx
    simpa using hx.1
  subst hd
  have hm : ∀ (t : TypeId) (x : DataW H) (j : Nat), (Try.prog.underlying 27 = some (.struct (#[] : Array Field)) → False) → ([3, 22, 23, 22, 22, 22, 24, 25] : List TypeId)[j]? = some t → ([y0.1, y1.1, y2.1, y3.1, y4.1, y5.1, y6.1, y7.1] : List (DataW H))[j]? = some x → ∀ n ∈ DataW.weights Try.prog t x, n ≤ reachBytes := fun t x j _ ht hx n hn => by
    refine hw n ?_
    simp only [DataW.weights, Try.underlying27]
    exact DataW.weights_mem_each (ts := [3, 22, 23, 22, 22, 22, 24, 25]) ht hx n hn
  have hE : Try.prog.underlying 27 = some (.struct (#[] : Array Field)) → False := by rw [Try.underlying27]; simp
  refine ⟨⟨x0, l1, l2, l3, l4, l5, l6, l7⟩, ⟨A1, A2, A3, A4, A5, A6, A7, q1, q2, q3, q4, q5, q6, q7⟩, rfl, ⟨r1, r2, r3, r4, r5, r6, r7⟩, ?_⟩
  exact ⟨f0, f1, f3, f4, f5, f2, f6, f7,
    row_bytes 8 (by kernel_rfl) Try.underlying22 z1 (hm 22 _ 1 hE rfl rfl), row_bytes 8 (by kernel_rfl) Try.underlying22 z3 (hm 22 _ 3 hE rfl rfl), row_bytes 8 (by kernel_rfl) Try.underlying22 z4 (hm 22 _ 4 hE rfl rfl), row_bytes 8 (by kernel_rfl) Try.underlying22 z5 (hm 22 _ 5 hE rfl rfl),
    row_bytes 24 (by kernel_rfl) Try.underlying23 z2 (hm 23 _ 2 hE rfl rfl), row_bytes 24 (by kernel_rfl) Try.underlying24 z6 (hm 24 _ 6 hE rfl rfl), row_bytes 40 (by kernel_rfl) Try.underlying25 z7 (hm 25 _ 7 hE rfl rfl),
    k1, k3, k4, k5, k2, k6, k7⟩
end
end Go.Proofs.Ytpaneggajjgdlaa.Cw
namespace Go.Proofs.Ytpaneggajjgdlaa.Cw
open Go.ChangeShapes Go.WideShapes Go.RowKit Go.Deep Circ

section
variable {H : Type} {enc : TypeId × Value → H} {w : World}

end
end Go.Proofs.Ytpaneggajjgdlaa.Cw
namespace Go.Proofs.Ytpaneggajjgdlaa.Str
open Go.ChangeShapes Go.WideShapes Go.ChangeAt Go.RowKit Go.Maps Circ Cw

theorem num_any (x : Int) (w : World) : Calls Try.prog 11 #[.int .i64 x] w fun e w' => e = .returned (.int .i64 x) ∧ w = w' := by
  go_enter Try.func11, Try.ntmps11
  go_wp2
  go_ret
  exact ⟨rfl, rfl⟩
theorem alive_any (w : World) : Calls Try.prog 9 #[] w fun e w' => e = .returned (.bool true) ∧ w = w' := by
  have PL := Lib.hid (plain_any 4 5 (by constructor <;> decide) (by constructor <;> decide) w)
  rw [show (plainM 4 5) = some 0 from by decide] at PL
  go_enter Try.func9, Try.ntmps9
  go_wp2_with fail
  refine PL.out.mono ?_
  rintro e w' ⟨rfl, rfl⟩
  clear PL
  simp only [Option.getD_some, Option.isSome_some]
  go_wp2
  go_ret
  exact ⟨rfl, rfl⟩
end Go.Proofs.Ytpaneggajjgdlaa.Str
namespace Go.Proofs.Ytpaneggajjgdlaa.Str
open Go.ChangeShapes Go.WideShapes Go.ChangeAt Go.RowKit Go.Maps Circ Cw

structure IsBits (w : World) (g n : Nat) (V : Int → Bool) : Prop where
  blk : ∃ cur, w.heap[g]? = some (.cells cur 4 (0, 0)) ∧ cur.size = n ∧ ∀ k : Nat, k < n → cur[k]? = some (.bool (V k))
theorem IsBits.keep {w w' : World} {g n : Nat} {V : Int → Bool} (h : IsBits w g n V) (hk : w'.heap[g]? = w.heap[g]?) : IsBits w' g n V := by
  obtain ⟨cur, h1, h2⟩ := h.blk
  exact ⟨cur, hk.trans h1, h2⟩
theorem IsBits.lt {w : World} {g n : Nat} {V : Int → Bool} (h : IsBits w g n V) : g < w.heap.size := by
  obtain ⟨cur, h1, h2⟩ := h.blk
  exact lt_of_block h1
theorem IsBits.below {w w' : World} {g n : Nat} {V : Int → Bool} (h : IsBits w g n V) (hb : Below w.heap.size w w') : IsBits w' g n V := h.keep (hb.block _ h.lt)
theorem IsBits.cell {w : World} {g n : Nat} {V : Int → Bool} (h : IsBits w g n V) {k : Nat} (hk : k < n) : w.cell? ⟨g, k, none⟩ = some (.bool (V k)) := by
  obtain ⟨cur, h1, h2, h3⟩ := h.blk
  rw [Lib.cell_of_heap h1]
  exact h3 k hk
theorem rvar_any (x : Int) (h0 : 0 ≤ x) (hx : I64 x) (w : World) : Calls Try.prog 41 #[.int .i64 x] w fun e w' => e = .returned (.int .i64 (x / 2)) ∧ w = w' := by
  obtain ⟨h1, h2⟩ := hx
  have ht : x.tdiv 2 = x / 2 := Int.tdiv_eq_ediv_of_nonneg h0
  have hn : ¬ x < 0 := by omega
  have hd : decide (x < 0) = false := decide_eq_false hn
  go_enter Try.func41, Try.ntmps41
  go_wp2
  go_ret
  exact ⟨rfl, rfl⟩
theorem rneg_any (x : Int) (h0 : 0 ≤ x) (hx : I64 x) (w : World) : Calls Try.prog 42 #[.int .i64 x] w fun e w' => e = .returned (.bool (decide (x % 2 = 1))) ∧ w = w' := by
  obtain ⟨h1, h2⟩ := hx
  have ht : x.tmod 2 = x % 2 := Int.tmod_eq_emod_of_nonneg h0
  by_cases hz : 0 < x
  · have hd : decide (0 < x) = true := decide_eq_true hz
    go_enter Try.func42, Try.ntmps42
    go_wp2
    go_ret
    exact ⟨rfl, rfl⟩
  · obtain rfl : x = 0 := by omega
    go_enter Try.func42, Try.ntmps42
    go_wp2
    go_ret
    exact ⟨rfl, rfl⟩
theorem bit_any (g n : Nat) (V : Int → Bool) (l : Int) (w : World) (h : IsBits w g n V) (hn : n ≤ 1048576) (h0 : 0 ≤ l) (hl : l / 2 < n) :
    Calls Try.prog 15 #[.slice (some ⟨g, 0, none⟩) n n, .int .i64 l] w fun e w' => e = .returned (.bool (bitM V l)) ∧ ∃ q, w' = w.drewN q := by
  obtain ⟨k, hk⟩ : ∃ k : Nat, l / 2 = (k : Int) := ⟨(l / 2).toNat, by omega⟩
  have hkn : k < n := by omega
  have hI : I64 l := by constructor <;> omega
  have RV := Lib.hid (rvar_any l h0 hI w)
  rw [hk] at RV
  have hc := h.cell hkn
  have hd : decide ((k : Int) < n) = true := decide_eq_true (by omega)
  have hd2 : decide (k < n) = true := decide_eq_true hkn
  have RN := Lib.hid (fun w => rneg_any l h0 hI w)
  have HB : Hid (V k = V (l / 2)) := by unfold Hid; rw [hk]
  unfold bitM
  rw [← HB.out]
  clear h hl hI hk h0 HB
  generalize V (k : Int) = b at *
  generalize decide (l % 2 = 1) = c at *
  go_enter Try.func15, Try.ntmps15
  go_wp2_with fail
  refine RV.out.mono ?_
  rintro e w' ⟨rfl, rfl⟩
  clear RV
  go_wp2
  go_quiet ((go_at_call 42; exact Calls.quiet_of_same ((RN.out _).mono (by rintro e w' ⟨rfl, rfl⟩; exact ⟨rfl, rfl⟩))))
  go_wp2
  go_ret
  exact ⟨ret_bool (by cases b <;> cases c <;> rfl), nq, rfl⟩
end Go.Proofs.Ytpaneggajjgdlaa.Str
