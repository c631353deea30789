/- An argument that is a circuit, opened: numbers, triples and names in memory; condition: the form's own reach. An argument that is a circuit, opened: its names' texts, too, are within the form's reach; no condition. A frame for laws: whatever the parameters, if the call returns true and turns nothing below its own blocks, the row's post holds. No condition. The walks of what layer 5's laws share: num, alive, and the pages' own look whether a circuit is in order; condition: the table of powers of ten is as it is laid. Lists of numbers put one behind the other, operation by operation, in a region that draws its order; no condition. -/
import Derived.Test.YtopjddmgejfalaaDoorPk00
import Derived.Test.YtopjddmgejfalaaDoorChecked
import Derived.Deep.Slices
import Derived.OpenShut
import Derived.ChangeArms
import Derived.SizedLaws
import Derived.KernelRfl
import Derived.Test.YtopjddmgejfalaaDoorRows
import Derived.Carry
import Derived.Below
import Derived.ProofKit
import Derived.WalkSmall
import Derived.Deep.DeepHandedRow
import Derived.Lib.LaidTab
import Derived.JoinedCond
import Derived.Test.YtopjddmgejfalaaDoorPk22
import Derived.Test.YtopjddmgejfalaaDoorPk20
import Derived.Laws.BytesArg
import Derived.Test.YtopjddmgejfalaaDoorPk06
namespace Go.Proofs.YtopjddmgejfalaaDoor.Cw
open Go.ChangeShapes Go.WideShapes Go.RowKit Go.Deep Circ

section
variable {H : Type} {enc : TypeId × Value → H} {w : World}

theorem add_at (b o p k : Nat) : ((⟨b, o, none⟩ : Addr).add p).add k = ⟨b, o + (p + k), none⟩ := by
  unfold Addr.add
  by_cases hp : p = 0 <;> by_cases hk : k = 0 <;> simp [hp, hk, Nat.add_assoc]
theorem spot_none {a : Addr} {v : Value} (h : w.cell? a = some v) : a.spot = none := by
  unfold World.cell? at h
  split at h
  · split at h
    · cases h
    · rename_i hs
      cases hq : a.spot with
      | none => rfl
      | some x => rw [hq] at hs; exact absurd rfl hs
  · cases h

/-- A slice whose elements each read as an a: the list, and where it lies. -/
theorem open_rows {α : Type} [Inhabited α] (m : Nat) (hm : 0 < m) (cells : α → List Value) (good : α → Prop) (hlen : ∀ a, (cells a).length = m) {t e : TypeId} (ht : Tryd.prog.underlying t = some (.slice e)) (hC : Tryd.prog.cellsOf e = m)
    (hel : ∀ n cs' y, DataW.trod enc Tryd.prog w 0 (fun _ => true) true n e cs' = some y → ∃ a : α, cs' = cells a ∧ good a)
    {fuel : Nat} {cs : List Value} {x : DataW H × List MemPlace} (h : DataW.trod enc Tryd.prog w 0 (fun _ => true) true fuel t cs = some x) :
    ∃ (A : Option Addr) (l : List α) (q : Nat), cs = [.slice A l.length q] ∧ LRow w w.heap.size m A (l.map cells) ∧ (∀ a ∈ l, good a) ∧ l.length ≤ q ∧ (l = [] ∨ ∃ es sp : List (DataW H), x.1 = .slice es sp ∧ es.length = l.length) := by
  rcases open_slice ht h with ⟨rfl, rfl⟩ | ⟨a, len, cap, m', n, D, Pl, rfl, _, hl, _, hmm, rfl, hi⟩
  · exact ⟨none, [], 0, rfl, .inl rfl, (fun _ h => nomatch h), Nat.le_refl _, .inl rfl⟩
  · have hm' : m' = cap := by rw [hmm]; rfl
    subst hm'
    rw [hC] at hi
    have ex : ∀ i, ∃ y : α, i < len → (w.cells? 0 (a.add (i * m)) m = some (cells y) ∧ good y) := fun i => by
      by_cases hlt : i < len
      · obtain ⟨cs', hc, ht'⟩ := hi i (by omega)
        obtain ⟨y, rfl, hg⟩ := hel n cs' _ ht'
        exact ⟨y, fun _ => ⟨hc, hg⟩⟩
      · exact ⟨default, fun h => absurd h hlt⟩
    obtain ⟨f, hf⟩ := Classical.axiomOfChoice ex
    refine ⟨some a, (List.range len).map f, m', by simp, ?_, ?_, by simpa using hl, .inr ⟨_, _, rfl, by simp⟩⟩
    · rcases Nat.eq_zero_or_pos len with h0 | h0
      · subst h0; exact .inl rfl
      · right
        obtain ⟨hc0, _⟩ := hf 0 h0
        obtain ⟨_, hcl, hat⟩ := World.cells?_some hc0
        have hz := hat 0 hm
        have hlt0 : 0 < (cells (f 0)).length := by rw [hlen]; exact hm
        rw [List.getElem?_eq_getElem hlt0] at hz
        have hsp : a.spot = none := by
          have hs := spot_none hz
          have e : (a.add (0 * m)).add 0 = a := by simp [Addr.add]
          rw [e] at hs
          exact hs
        obtain ⟨b, o, sp⟩ := a
        simp only at hsp
        subst hsp
        have hlt : b < w.heap.size := by
          have e : ((⟨b, o, none⟩ : Addr).add (0 * m)).add 0 = ⟨b, o, none⟩ := by simp [Addr.add]
          rw [e] at hz
          exact World.block_lt_of_cell? _ _ hz
        refine ⟨b, o, rfl, hlt, fun i ys hi' j u hj => ?_⟩
        rw [List.map_map, List.getElem?_map] at hi'
        have hil : i < len := by
          rcases Nat.lt_or_ge i len with h1 | h1
          · exact h1
          · rw [List.getElem?_eq_none (by simpa using h1)] at hi'; cases hi'
        rw [List.getElem?_eq_getElem (by simpa using hil)] at hi'
        simp at hi'
        subst hi'
        obtain ⟨hci, _⟩ := hf i hil
        obtain ⟨_, _, hat'⟩ := World.cells?_some hci
        have hjm : j < m := by
          have := (List.getElem?_eq_some_iff.1 hj).1
          rw [hlen] at this; exact this
        have := hat' j hjm
        rw [add_at] at this
        rw [this]; exact hj
    · intro y hy
      obtain ⟨i, hi', rfl⟩ := List.mem_map.1 hy
      exact (hf i (List.mem_range.1 hi')).2

theorem wf_bounds {x : Int} (h : (Lit.int .i64 x).wf = true) : I64 x := bounds_i64 h

theorem c3 : Tryd.prog.cellsOf 3 = 1 := by kernel_rfl
theorem c9 : Tryd.prog.cellsOf 9 = 1 := by kernel_rfl
theorem c22 : Tryd.prog.cellsOf 22 = 1 := by kernel_rfl
theorem c23 : Tryd.prog.cellsOf 23 = 1 := by kernel_rfl
theorem c24 : Tryd.prog.cellsOf 24 = 1 := by kernel_rfl
theorem c25 : Tryd.prog.cellsOf 25 = 1 := by kernel_rfl
theorem c40 : Tryd.prog.cellsOf 43 = 3 := by kernel_rfl
theorem c45 : Tryd.prog.cellsOf 45 = 3 := by kernel_rfl
theorem c47 : Tryd.prog.cellsOf 41 = 3 := by kernel_rfl
theorem c27 : Tryd.prog.cellsOf 27 = 8 := by kernel_rfl
instance : Inhabited Tri := ⟨⟨0, 0, 0⟩⟩
instance : Inhabited Nam := ⟨⟨⟨#[]⟩, 0, ⟨#[]⟩⟩⟩

theorem el_int {n : Nat} {cs : List Value} {y : DataW H × List MemPlace} (h : DataW.trod enc Tryd.prog w 0 (fun _ => true) true n 3 cs = some y) : ∃ x : Int, cs = [.int .i64 x] ∧ I64 x := by
  obtain ⟨x, hc, _, hw⟩ := DataW.trod_int Tryd.underlying3 h
  exact ⟨x, hc, wf_bounds hw⟩
theorem el_str {n : Nat} {cs : List Value} {y : DataW H × List MemPlace} (h : DataW.trod enc Tryd.prog w 0 (fun _ => true) true n 9 cs = some y) : ∃ s : ByteArray, cs = [.string s] ∧ s.size ≤ 9223372036854775807 := by
  obtain ⟨s, hc, _, hw⟩ := DataW.trod_string Tryd.underlying9 h
  exact ⟨s, hc, by unfold maxLen at hw; exact hw⟩

theorem three_of {α : Type} (l : List α) (h : l.length = 3) : ∃ a b c, l = [a, b, c] := by
  match l, h with
  | [a, b, c], _ => exact ⟨a, b, c, rfl⟩
theorem eight_of {α : Type} (l : List α) (h : l.length = 8) : ∃ a b c d e f g i, l = [a, b, c, d, e, f, g, i] := by
  match l, h with
  | [a, b, c, d, e, f, g, i], _ => exact ⟨a, b, c, d, e, f, g, i, rfl⟩

theorem el_tri {t : TypeId} (a b c : Field) (ha : a.type = 3 ∧ a.offset = 0) (hb : b.type = 3 ∧ b.offset = 1) (hc : c.type = 3 ∧ c.offset = 2) (hu : Tryd.prog.underlying t = some (.struct #[a, b, c])) (h3 : Tryd.prog.cellsOf t = 3)
    {n : Nat} {cs : List Value} {y : DataW H × List MemPlace} (h : DataW.trod enc Tryd.prog w 0 (fun _ => true) true n t cs = some y) : ∃ x : Tri, cs = x.cells ∧ x.fits := by
  obtain ⟨xs, n', _, _, hl, hx, hf⟩ := DataW.trod_struct hu h
  rw [h3] at hl
  obtain ⟨u0, u1, u2, rfl⟩ := three_of cs hl
  obtain ⟨y0, y1, y2, rfl⟩ := three_of xs hx
  have f0 := hf 0 a rfl
  have f1 := hf 1 b rfl
  have f2 := hf 2 c rfl
  rw [ha.1, ha.2, c3] at f0
  rw [hb.1, hb.2, c3] at f1
  rw [hc.1, hc.2, c3] at f2
  obtain ⟨x0, e0, g0⟩ := el_int f0
  obtain ⟨x1, e1, g1⟩ := el_int f1
  obtain ⟨x2, e2, g2⟩ := el_int f2
  simp at e0 e1 e2
  subst e0; subst e1; subst e2
  exact ⟨⟨x0, x1, x2⟩, rfl, g0, g1, g2⟩
theorem el_nam {n : Nat} {cs : List Value} {y : DataW H × List MemPlace} (h : DataW.trod enc Tryd.prog w 0 (fun _ => true) true n 45 cs = some y) : ∃ x : Nam, cs = x.cells ∧ x.fits := by
  obtain ⟨xs, n', _, _, hl, hx, hf⟩ := DataW.trod_struct Tryd.underlying45 h
  rw [c45] at hl
  obtain ⟨u0, u1, u2, rfl⟩ := three_of cs hl
  obtain ⟨y0, y1, y2, rfl⟩ := three_of xs hx
  have f0 := hf 0 _ rfl
  have f1 := hf 1 _ rfl
  have f2 := hf 2 _ rfl
  simp [c3, c9] at f0 f1 f2
  obtain ⟨x0, e0, g0⟩ := el_str f0
  obtain ⟨x1, e1, g1⟩ := el_int f1
  obtain ⟨x2, e2, g2⟩ := el_str f2
  simp at e0 e1 e2
  subst e0; subst e1; subst e2
  exact ⟨⟨x0, x1, x2⟩, rfl, g0, g1, g2⟩

theorem tri_len (t : Tri) : t.cells.length = 3 := rfl
theorem nam_len (t : Nam) : t.cells.length = 3 := rfl

/-- the list's bytes are within the reach -/
theorem row_bytes {α : Type} {l : List α} {x : DataW H} {t e : TypeId} (k : Nat) (hk : Tryd.prog.bytesOf e = k) (ht : Tryd.prog.underlying t = some (.slice e)) (h : l = [] ∨ ∃ es sp : List (DataW H), x = .slice es sp ∧ es.length = l.length)
    (hw : ∀ n ∈ DataW.weights Tryd.prog t x, n ≤ reachBytes) : l.length * k ≤ 140737488355328 := by
  rcases h with rfl | ⟨es, sp, rfl, hl⟩
  · simp
  · have := hw ((es.length + sp.length) * Tryd.prog.bytesOf e) (by simp [DataW.weights, ht])
    rw [hk, hl] at this
    unfold reachBytes at this
    have h2 : l.length * k ≤ (l.length + sp.length) * k := Nat.mul_le_mul_right _ (by omega)
    omega

set_option maxRecDepth 100000 in
theorem open_circ {r : Reach} {b0 : Nat} {v : Value} {d : DataW H} {p : List MemPlace} (hv : Value.okWide Tryd.prog w r b0 27 v) (h : DataW.Trod enc Tryd.prog w 0 (fun _ => true) true 27 v d p)
    (hw : ∀ n ∈ DataW.weights Tryd.prog 27 d, n ≤ reachBytes) : ∃ (c : Cir) (s : Places), v = cirV c s ∧ CLies w w.heap.size c s ∧ CFits c s := by
  obtain ⟨cs, rfl, hsz⟩ := okWide_struct Tryd.underlying27 hv
  rw [c27] at hsz
  obtain ⟨l⟩ := cs
  obtain ⟨u0, u1, u2, u3, u4, u5, u6, u7, rfl⟩ := eight_of l hsz
  obtain ⟨fuel, hf⟩ := h
  obtain ⟨xs, n, _, hx, _, hlen, hg⟩ := DataW.trod_struct Tryd.underlying27 hf
  obtain ⟨y0, y1, y2, y3, y4, y5, y6, y7, rfl⟩ := eight_of xs hlen
  have g0 := hg 0 _ rfl
  have g1 := hg 1 _ rfl
  have g2 := hg 2 _ rfl
  have g3 := hg 3 _ rfl
  have g4 := hg 4 _ rfl
  have g5 := hg 5 _ rfl
  have g6 := hg 6 _ rfl
  have g7 := hg 7 _ rfl
  simp [Value.cells, c3, c22, c23, c24, c25] at g0 g1 g2 g3 g4 g5 g6 g7
  obtain ⟨x0, e0, f0⟩ := el_int g0
  obtain ⟨A1, l1, q1, e1, r1, f1, k1, z1⟩ := open_rows 1 (by decide) (fun x : Int => [Value.int .i64 x]) I64 (fun _ => rfl) Tryd.underlying22 c3 (fun n cs' y h => el_int h) g1
  obtain ⟨A2, l2, q2, e2, r2, f2, k2, z2⟩ := open_rows 3 (by decide) Tri.cells Tri.fits tri_len Tryd.underlying23 c47 (fun n cs' y h => el_tri _ _ _ ⟨rfl, rfl⟩ ⟨rfl, rfl⟩ ⟨rfl, rfl⟩ Tryd.underlying41 c47 h) g2
  obtain ⟨A3, l3, q3, e3, r3, f3, k3, z3⟩ := open_rows 1 (by decide) (fun x : Int => [Value.int .i64 x]) I64 (fun _ => rfl) Tryd.underlying22 c3 (fun n cs' y h => el_int h) g3
  obtain ⟨A4, l4, q4, e4, r4, f4, k4, z4⟩ := open_rows 1 (by decide) (fun x : Int => [Value.int .i64 x]) I64 (fun _ => rfl) Tryd.underlying22 c3 (fun n cs' y h => el_int h) g4
  obtain ⟨A5, l5, q5, e5, r5, f5, k5, z5⟩ := open_rows 1 (by decide) (fun x : Int => [Value.int .i64 x]) I64 (fun _ => rfl) Tryd.underlying22 c3 (fun n cs' y h => el_int h) g5
  obtain ⟨A6, l6, q6, e6, r6, f6, k6, z6⟩ := open_rows 3 (by decide) Tri.cells Tri.fits tri_len Tryd.underlying24 c40 (fun n cs' y h => el_tri _ _ _ ⟨rfl, rfl⟩ ⟨rfl, rfl⟩ ⟨rfl, rfl⟩ Tryd.underlying43 c40 h) g6
  obtain ⟨A7, l7, q7, e7, r7, f7, k7, z7⟩ := open_rows 3 (by decide) Nam.cells Nam.fits nam_len Tryd.underlying25 c45 (fun n cs' y h => el_nam h) g7
  simp at e0 e1 e2 e3 e4 e5 e6 e7
  subst e0; subst e1; subst e2; subst e3; subst e4; subst e5; subst e6; subst e7
  have hd : d = .agg [y0.1, y1.1, y2.1, y3.1, y4.1, y5.1, y6.1, y7.1] := by
    simp only [Prod.mk.injEq] at hx
    simpa using hx.1
  subst hd
  have hm : ∀ (t : TypeId) (x : DataW H) (j : Nat), (Tryd.prog.underlying 27 = some (.struct (#[] : Array Field)) → False) → ([3, 22, 23, 22, 22, 22, 24, 25] : List TypeId)[j]? = some t → ([y0.1, y1.1, y2.1, y3.1, y4.1, y5.1, y6.1, y7.1] : List (DataW H))[j]? = some x → ∀ n ∈ DataW.weights Tryd.prog t x, n ≤ reachBytes := fun t x j _ ht hx n hn => by
    refine hw n ?_
    simp only [DataW.weights, Tryd.underlying27]
    exact DataW.weights_mem_each (ts := [3, 22, 23, 22, 22, 22, 24, 25]) ht hx n hn
  have hE : Tryd.prog.underlying 27 = some (.struct (#[] : Array Field)) → False := by rw [Tryd.underlying27]; simp
  refine ⟨⟨x0, l1, l2, l3, l4, l5, l6, l7⟩, ⟨A1, A2, A3, A4, A5, A6, A7, q1, q2, q3, q4, q5, q6, q7⟩, rfl, ⟨r1, r2, r3, r4, r5, r6, r7⟩, ?_⟩
  exact ⟨f0, f1, f3, f4, f5, f2, f6, f7,
    row_bytes 8 (by kernel_rfl) Tryd.underlying22 z1 (hm 22 _ 1 hE rfl rfl), row_bytes 8 (by kernel_rfl) Tryd.underlying22 z3 (hm 22 _ 3 hE rfl rfl), row_bytes 8 (by kernel_rfl) Tryd.underlying22 z4 (hm 22 _ 4 hE rfl rfl), row_bytes 8 (by kernel_rfl) Tryd.underlying22 z5 (hm 22 _ 5 hE rfl rfl),
    row_bytes 24 (by kernel_rfl) Tryd.underlying23 z2 (hm 23 _ 2 hE rfl rfl), row_bytes 24 (by kernel_rfl) Tryd.underlying24 z6 (hm 24 _ 6 hE rfl rfl), row_bytes 40 (by kernel_rfl) Tryd.underlying25 z7 (hm 25 _ 7 hE rfl rfl),
    k1, k3, k4, k5, k2, k6, k7⟩
end
end Go.Proofs.YtopjddmgejfalaaDoor.Cw
namespace Go.Proofs.YtopjddmgejfalaaDoor.Cw
open Go.ChangeShapes Go.WideShapes Go.RowKit Go.Deep Circ

section
variable {H : Type} {enc : TypeId × Value → H} {w : World}

end
end Go.Proofs.YtopjddmgejfalaaDoor.Cw
namespace Go.Proofs.YtopjddmgejfalaaDoor.Frame
open Go.ChangeShapes Go.WideShapes Go.ChangeAt Go.RowKit

theorem trodAll_stays {H : Type} {enc : TypeId × Value → H} {P : Program} (hl : laidOutB P = true) {W W' : World} (hb : Below W.heap.size W W') :
    ∀ (ts : List TypeId) (vs : List Value) (ds : List (DataW H)) (ps : List MemPlace), (∀ t ∈ ts, P.readableRec t = true ∧ t < P.types.size) →
      DataW.TrodAll enc P W 0 (fun _ => true) true ts vs ds ps → (∀ p ∈ ps, p.block < W.heap.size) →
      DataW.TrodAll enc P W' 0 (fun b => decide (b < W.heap.size)) true ts vs ds ps
  | [], [], [], _, _, h, _ => h
  | t :: ts, v :: vs, d :: ds, _, ht, ⟨p, q, h0, hr, e⟩, hlt => by
    subst e
    obtain ⟨hr1, hr2⟩ := ht t (List.mem_cons_self ..)
    exact ⟨p, q, Below.trod hl hr1 hr2 h0 hb (fun x hx => hlt x (List.mem_append_left _ hx)), trodAll_stays hl hb ts vs ds q (fun t' h' => ht t' (List.mem_cons_of_mem _ h')) hr (fun x hx => hlt x (List.mem_append_right _ hx)), rfl⟩
  | [], [], _ :: _, _, _, h, _ => h.elim
  | [], _ :: _, _, _, _, h, _ => h.elim
  | _ :: _, [], _, _, _, h, _ => h.elim
  | _ :: _, _ :: _, [], _, _, h, _ => h.elim

theorem trodAll_length {H : Type} {enc : TypeId × Value → H} {P : Program} {W : World} {base : Nat} {sp : Nat → Bool} {held : Bool} :
    ∀ (ts : List TypeId) (vs : List Value) (ds : List (DataW H)) (ps : List MemPlace), DataW.TrodAll enc P W base sp held ts vs ds ps → ds.length = ts.length
  | [], [], [], _, _ => rfl
  | _ :: ts, _ :: vs, _ :: ds, _, ⟨_, q, _, hr, _⟩ => by simp only [List.length_cons]; rw [trodAll_length ts vs ds q hr]
  | [], [], _ :: _, _, h => h.elim
  | [], _ :: _, _, _, h => h.elim
  | _ :: _, [], _, _, h => h.elim
  | _ :: _, _ :: _, [], _, h => h.elim

/-- THE POST OF A LAW: true; each argument reads as it did. -/
theorem law_post {H : Type} {enc : TypeId × Value → H} {P : Program} {f : Func} {s : ChangeSpec} {W W' : World} {args : Array Value} {ds gs : List (DataW H)} {before : List MemPlace} {tb : TypeId}
    (hl : laidOutB P = true) (hts : f.params.toList.all (fun t => P.readableRec t && decide (t < P.types.size)) = true) (hv : s.vars = []) (hres : f.resultTypes = #[tb]) (htb : P.underlying tb = some .bool)
    (hspec : ∀ ds : List (DataW H), ds.length = f.params.size → s.fn H ds = { results := [.lit (.bool true)], args := ds })
    (hW : DataW.Whole enc P f.params.toList s.vars false W args.toList ds gs before) (hb : Below W.heap.size W W') :
    s.post enc P f false true false false W args (.bool true) W' := by
  have hW' := hW
  obtain ⟨p, q, hA, hV, rfl, hfz, hnd⟩ := hW
  rw [hv] at hV
  obtain ⟨rfl, rfl⟩ := trodVars_none hV
  have hlen := trodAll_length _ _ _ _ hA
  have hlt : ∀ x ∈ p, x.block < W.heap.size := fun x hx => hW'.lt x (by simpa using hx)
  have hs := hspec ds (by rw [hlen]; simp)
  refine ⟨ds, [], p ++ [], [], p, [], hW', ?_, ?_, ?_, Below.frame hb _, fun h => by cases h⟩
  · rw [List.append_nil, hs, hres]
    exact trodAll_mk1 (shut_bool htb true)
  · rw [List.append_nil, hs]
    exact trodAll_stays hl hb _ _ _ _ (fun t ht => by
      have := List.all_eq_true.1 hts t ht
      simp only [Bool.and_eq_true, decide_eq_true_eq] at this
      exact this) hA hlt
  · rw [hv, List.append_nil, hs]
    rfl

/-- A list of listed variables without its first one. -/
theorem laid_tail {P : Program} {W : World} {x : String × DataW Unit} {rest : List (String × DataW Unit)} (h : laidMet P (x :: rest) W) : laidMet P rest W := by
  obtain ⟨n, d⟩ := x
  obtain ⟨ps, ⟨g', t', cs, fuel, p, q, hg', ht', hvar, hd, hr, hps⟩, hnd, hall⟩ := h
  subst hps
  exact ⟨q, hr, (List.nodup_append.1 hnd).2.1, fun b off hm => hall b off (List.mem_append_right _ hm)⟩
end Go.Proofs.YtopjddmgejfalaaDoor.Frame
namespace Go.Proofs.YtopjddmgejfalaaDoor.Aig
open Go.ChangeShapes Go.WideShapes Go.ChangeAt Go.RowKit Go.Maps Dig Circ Cw Aag

theorem num_any (x : Int) (w : World) : Calls Tryd.prog 9 #[.int .i64 x] w fun e w' => e = .returned (.int .i64 x) ∧ w = w' := by
  go_enter Tryd.func9, Tryd.ntmps9
  go_wp2
  go_ret
  exact ⟨rfl, rfl⟩
theorem nums_back' (l : List UInt8) : strOfNums (l.map fun b => (b.toNat : Int)) = ⟨l.toArray⟩ := by
  unfold strOfNums
  congr 2
  rw [List.map_map]
  exact map_id_of _ l fun b _ => by simp
/-- octets of a row, as a text -/
theorem conv_cells {w : World} {g o n cap : Nat} {l : List UInt8} (hn : l.length = n) (h : ∀ (i : Nat) (b : UInt8), l[i]? = some b → w.cell? ⟨g, o + i, none⟩ = some (.int .u8 b.toNat)) : (convert 36 9 (.slice (some ⟨g, o, none⟩) n cap)).run Tryd.prog w = .ok (sv l) w := by
  have := run_convert_bytes_arg (P := Tryd.prog) (w := w) 36 5 Tryd.underlying36 Tryd.underlying5 g o n cap (l.map fun b => (b.toNat : Int)) (by simpa using hn) (fun i hi => by
    rw [h i (l[i]'(by omega)) (List.getElem?_eq_getElem (by omega)), List.getD_eq_getElem?_getD, List.getElem?_map, List.getElem?_eq_getElem (by omega)]; rfl) 9 Tryd.underlying9
  rw [this, nums_back']; rfl
theorem row_cells {w : World} {B g n cap : Nat} {l : List UInt8} (h : w.ownsRow B 5 1 (.slice (some ⟨g, 0, none⟩) n cap) n (Lib.byteCells l)) : l.length = n ∧ n ≤ cap ∧ cap ≤ 9223372036854775807 ∧ B ≤ g ∧ g < w.heap.size ∧ ∀ (i : Nat) (b : UInt8), l[i]? = some b → w.cell? ⟨g, 0 + i, none⟩ = some (.int .u8 b.toNat) := by
  obtain ⟨h0, h⟩ := h
  rw [Lib.byteCells_length, Nat.mul_one] at h0
  rcases h with ⟨h, _⟩ | ⟨g', cp, cur, hv, hb, hh, hn, hc, hs, ht⟩
  · simp at h
  · simp only [Value.slice.injEq, Option.some.injEq, Addr.mk.injEq, and_true, true_and] at hv
    obtain ⟨rfl, rfl⟩ := hv
    unfold maxLen at hc
    refine ⟨h0, hn, hc, hb, lt_of_block hh, fun i b hi => ?_⟩
    rw [Nat.zero_add, Lib.cell_of_heap hh]
    have e := congrArg (fun x : List Value => x[i]?) ht
    have hil : i < l.length := (List.getElem?_eq_some_iff.1 hi).1
    simp only [List.getElem?_take, Nat.mul_one] at e
    rw [if_pos (by omega), Array.getElem?_toList] at e
    rw [e]
    unfold Lib.byteCells
    rw [List.getElem?_map, hi]; rfl
theorem conv_row {w : World} {B g n cap : Nat} {l : List UInt8} (h : w.ownsRow B 5 1 (.slice (some ⟨g, 0, none⟩) n cap) n (Lib.byteCells l)) : (convert 36 9 (.slice (some ⟨g, 0, none⟩) n cap)).run Tryd.prog w = .ok (sv l) w := by
  obtain ⟨h1, _, _, _, _, h2⟩ := row_cells h
  exact conv_cells h1 h2
theorem z_oct : oct5 cirZ = [97, 105, 103, 32, 48, 32, 48, 32, 48, 32, 48, 32, 48, 32, 48, 32, 48, 10] := by
  have h0 : Lib.itoa 0 = [48] := by unfold Lib.itoa; rw [if_neg (by decide)]; exact dec_zero
  simp [oct5, core5, lines5, head5, cirZ, nums, nlL, joinL, h0]
theorem z_ord : ordV cirZ = true := by decide
theorem z_lies (w : World) (B : Nat) : CLies w B cirZ plZ := ⟨.inl rfl, .inl rfl, .inl rfl, .inl rfl, .inl rfl, .inl rfl, .inl rfl⟩
theorem z_fits : CFits cirZ plZ := by
  constructor <;> simp [cirZ, plZ, I64]

set_option maxHeartbeats 4000000 in
set_option maxRecDepth 100000 in
theorem alive_any (w : World) (htab : Tab w) : Calls Tryd.prog 5 #[] w fun e w' => e = .returned (.bool true) ∧ Below w.heap.size w w' := by
  have WR := Lib.hid (write_yes cirZ plZ w (z_lies _ _) z_fits z_ord htab)
  rw [z_oct, show cirV cirZ plZ = .agg #[.int .i64 0, .slice none 0 0, .slice none 0 0, .slice none 0 0, .slice none 0 0, .slice none 0 0, .slice none 0 0, .slice none 0 0] from rfl] at WR
  go_enter Tryd.func5, Tryd.ntmps5
  go_wp2_with fail
  refine WR.out.mono ?_
  rintro e w1 ⟨⟨g, cap, rfl, hown⟩, hb⟩
  have hcv := conv_row hown
  have HB1 := Lib.hid hb
  have OD := Lib.hid (ordered_any cirZ plZ w1 (z_lies _ _) z_fits)
  rw [z_ord, show cirV cirZ plZ = .agg #[.int .i64 0, .slice none 0 0, .slice none 0 0, .slice none 0 0, .slice none 0 0, .slice none 0 0, .slice none 0 0, .slice none 0 0] from rfl] at OD
  clear hown hb
  unfold sv at hcv
  simp only [List.length_cons, List.length_nil] at hcv ⊢
  go_wp2_with (go_at_call 9; refine (num_any _ _).mono ?_; rintro e w' ⟨rfl, rfl⟩)
  refine OD.out.mono ?_
  rintro e w2 ⟨rfl, hb⟩
  have HB2 := Lib.hid (HB1.out.trans (hb.mono HB1.out.size))
  clear hb
  go_wp2
  go_ret
  exact ⟨rfl, HB2.out⟩

/- the pages' own look -/
/-- a literal of the circuit's own -/
def OwnAt (c : Cir) (j : Nat) : Prop := ∀ (k : Nat) (hk : k < (own c).length), k < j → (own c)[k] = lit k
theorem OwnAt.more {c : Cir} {j : Nat} (h : OwnAt c j) (hj : j < (own c).length) (e : (own c)[j] = lit j) : OwnAt c (j + 1) := fun k hk hlt => by
  by_cases q : k = j
  · subst q; exact e
  · exact h k hk (by omega)

end Go.Proofs.YtopjddmgejfalaaDoor.Aig
namespace Go.Proofs.YtopjddmgejfalaaDoor.Aig
open Go.ChangeShapes Go.WideShapes Go.ChangeAt Go.RowKit Go.Maps Dig Circ Cw Aag

theorem op_app (a : Act) (w w' : World) (t s : Nat) (v v' x : Value) (h1 : a.tmps.getD t undef = v) (h2 : a.tmps.getD s undef = x) (oo : Oper) (hr : ∀ ty, (Builtin.append_ #[22, 22] ty #[v, x]).run Tryd.prog w = .ok v' w') (ho : oo.op = .call { callee := .builtin .append, args := #[.tmp t, .tmp s], argTypes := #[22, 22] }) :
    (execOp a.eval oo).run Tryd.prog w = .ok (.value v') w' := by
  have hs : a.eval (.tmp t) = v := h1
  have hx : a.eval (.tmp s) = x := h2
  unfold execOp
  simp only [ho, resolve, invoke, builtin, Sem.run_bind, Sem.run_pure, Result.andThen_ok, List.map_toArray, List.map_cons, List.map_nil, hs, hx, hr]
/-- where a region of three appends (operations 3, 6, 9) stands -/
structure Told (W0 W1 W2 W3 : World) (d : Nat → Bool) (w : World) : Prop where
  c0 : d 3 = false → w = W0
  c1 : d 3 = true → d 6 = false → w = W1
  c2 : d 6 = true → d 9 = false → w = W2
  c3 : d 9 = true → w = W3
  o6 : d 6 = true → d 3 = true
  o9 : d 9 = true → d 6 = true
theorem Told.start (W0 W1 W2 W3 : World) : Told W0 W1 W2 W3 (fun _ => false) W0 := ⟨fun _ => rfl, (fun h => by cases h), (fun h => by cases h), (fun h => by cases h), (fun h => by cases h), (fun h => by cases h)⟩
theorem Told.read {W0 W1 W2 W3 : World} {d : Nat → Bool} {w : World} (h : Told W0 W1 W2 W3 d w) {i : Nat} (h3 : 3 ≠ i) (h6 : 6 ≠ i) (h9 : 9 ≠ i) : Told W0 W1 W2 W3 (fun j => decide (j = i) || d j) w := by
  obtain ⟨a, b, c, e, f, g⟩ := h
  constructor <;> simp only [h3, h6, h9, decide_false, Bool.false_or] <;> assumption
theorem Told.first {W0 W1 W2 W3 : World} {d : Nat → Bool} {w : World} (_h : Told W0 W1 W2 W3 d w) (h6 : d 6 = false) (h9 : d 9 = false) : Told W0 W1 W2 W3 (fun j => decide (j = 3) || d j) W1 := by
  constructor <;> simp [h6, h9]
theorem Told.second {W0 W1 W2 W3 : World} {d : Nat → Bool} {w : World} (_h : Told W0 W1 W2 W3 d w) (h3 : d 3 = true) (h9 : d 9 = false) : Told W0 W1 W2 W3 (fun j => decide (j = 6) || d j) W2 := by
  constructor <;> simp [h3, h9]
theorem Told.third {W0 W1 W2 W3 : World} {d : Nat → Bool} {w : World} (h : Told W0 W1 W2 W3 d w) (h6 : d 6 = true) : Told W0 W1 W2 W3 (fun j => decide (j = 9) || d j) W3 := by
  constructor <;> simp [h6, h.o6 h6]
theorem Told.bel {W0 W1 W2 W3 : World} {d : Nat → Bool} {w : World} (h : Told W0 W1 W2 W3 d w) {B : Nat} (h1 : Below B W0 W1) (h2 : Below B W0 W2) (h3 : Below B W0 W3) : Below B W0 w := by
  cases e3 : d 3
  · rw [h.c0 e3]; exact Below.refl _ _
  · cases e6 : d 6
    · rw [h.c1 e3 e6]; exact h1
    · cases e9 : d 9
      · rw [h.c2 e6 e9]; exact h2
      · rw [h.c3 e9]; exact h3
/-- the three appends, one after the other -/
theorem told_runs (w : World) (x1 x2 x3 : List Int) (A1 A2 A3 : Option Addr) (q1 q2 q3 : Nat) (r1 : LRow w w.heap.size 1 A1 (ints x1)) (r2 : LRow w w.heap.size 1 A2 (ints x2)) (r3 : LRow w w.heap.size 1 A3 (ints x3)) (hz : x1.length ≤ 64 ∧ x2.length ≤ 64 ∧ x3.length ≤ 64) :
    ∃ v1 W1 v2 W2 v3 W3, (∀ ty, (Builtin.append_ #[22, 22] ty #[.slice none 0 0, .slice A1 x1.length q1]).run Tryd.prog w = .ok v1 W1) ∧ (∀ ty, (Builtin.append_ #[22, 22] ty #[v1, .slice A2 x2.length q2]).run Tryd.prog W1 = .ok v2 W2) ∧ (∀ ty, (Builtin.append_ #[22, 22] ty #[v2, .slice A3 x3.length q3]).run Tryd.prog W2 = .ok v3 W3) ∧
      Below w.heap.size w W1 ∧ Below w.heap.size w W2 ∧ Below w.heap.size w W3 ∧ OwnI W3 w.heap.size v3 (x1 ++ (x2 ++ x3)) := by
  obtain ⟨z1, z2, z3⟩ := hz
  obtain ⟨v1, W1, a1, o1, g1, _⟩ := run_append_ints w w.heap.size w.heap.size 22 (.slice none 0 0) [] x1 (OwnI.nil _ _) A1 q1 r1 (by simp; omega) (Nat.le_refl _)
  have b1 := own_below (OwnI.nil w _) g1 (Nat.le_refl _)
  obtain ⟨v2, W2, a2, o2, g2, _⟩ := run_append_ints W1 w.heap.size w.heap.size 22 v1 _ x2 o1 A2 q2 (r2.below b1) (by simp; omega) b1.size
  have b2 := b1.trans (own_below o1 g2 b1.size)
  obtain ⟨v3, W3, a3, o3, g3, _⟩ := run_append_ints W2 w.heap.size w.heap.size 22 v2 _ x3 o2 A3 q3 (r3.below b2) (by simp; omega) b2.size
  have b3 := b2.trans (own_below o2 g3 b2.size)
  refine ⟨v1, W1, v2, W2, v3, W3, fun ty => a1, fun ty => a2, fun ty => a3, b1, b2, b3, ?_⟩
  have e : x1 ++ (x2 ++ x3) = [] ++ x1 ++ x2 ++ x3 := by simp
  rw [e]
  exact o3
theorem op_field_api_Circuit_3 (a : Act) (w : World) (b : Nat) (t : Nat) (h : a.tmps.getD t undef = .pointer (some ⟨b, 0, none⟩)) (oo : Oper) (ho : oo.op = .fieldAddr 27 (.tmp t) 3) : (execOp a.eval oo).run Tryd.prog w = .ok (.value (.pointer (some ⟨b, 3, none⟩))) w := by
  have h' : a.tmps[t]?.getD undef = .pointer (some ⟨b, 0, none⟩) := by simpa using h
  unfold execOp
  rw [ho]
  go_simp
theorem op_field_api_Circuit_4 (a : Act) (w : World) (b : Nat) (t : Nat) (h : a.tmps.getD t undef = .pointer (some ⟨b, 0, none⟩)) (oo : Oper) (ho : oo.op = .fieldAddr 27 (.tmp t) 4) : (execOp a.eval oo).run Tryd.prog w = .ok (.value (.pointer (some ⟨b, 4, none⟩))) w := by
  have h' : a.tmps[t]?.getD undef = .pointer (some ⟨b, 0, none⟩) := by simpa using h
  unfold execOp
  rw [ho]
  go_simp
theorem op_field_api_Circuit_5 (a : Act) (w : World) (b : Nat) (t : Nat) (h : a.tmps.getD t undef = .pointer (some ⟨b, 0, none⟩)) (oo : Oper) (ho : oo.op = .fieldAddr 27 (.tmp t) 5) : (execOp a.eval oo).run Tryd.prog w = .ok (.value (.pointer (some ⟨b, 5, none⟩))) w := by
  have h' : a.tmps[t]?.getD undef = .pointer (some ⟨b, 0, none⟩) := by simpa using h
  unfold execOp
  rw [ho]
  go_simp
/-- what operation j of the region leaves -/
def toldR (G : Nat) (x1 x2 x3 v1 v2 v3 : Value) : Nat → (Nat → Value) → World → Prop
  | 0, f, _ => f 98 = .slice none 0 0
  | 1, f, _ => f 99 = .pointer (some ⟨G, 3, none⟩)
  | 2, f, _ => f 100 = x1
  | 3, f, _ => f 101 = v1
  | 4, f, _ => f 102 = .pointer (some ⟨G, 4, none⟩)
  | 5, f, _ => f 103 = x2
  | 6, f, _ => f 104 = v2
  | 7, f, _ => f 105 = .pointer (some ⟨G, 5, none⟩)
  | 8, f, _ => f 106 = x3
  | 9, f, _ => f 107 = v3
  | 10, f, _ => f 9 = v3
  | _, _, _ => True
def toldM : Nat → List Nat
  | 0 => [98]
  | 1 => [99]
  | 2 => [100]
  | 3 => [101]
  | 4 => [102]
  | 5 => [103]
  | 6 => [104]
  | 7 => [105]
  | 8 => [106]
  | 9 => [107]
  | 10 => [9]
  | _ => []
theorem told_stab {G : Nat} {x1 x2 x3 v1 v2 v3 : Value} (jj : Nat) {f f' : Nat → Value} {w w' : World}  (hf : ∀ t ∈ toldM jj, f' t = f t) (h : toldR G x1 x2 x3 v1 v2 v3 jj f w) : toldR G x1 x2 x3 v1 v2 v3 jj f' w' := by
  match jj, hf, h with
  | 0, hf, h => exact (hf 98 (by decide)).trans h
  | 1, hf, h => exact (hf 99 (by decide)).trans h
  | 2, hf, h => exact (hf 100 (by decide)).trans h
  | 3, hf, h => exact (hf 101 (by decide)).trans h
  | 4, hf, h => exact (hf 102 (by decide)).trans h
  | 5, hf, h => exact (hf 103 (by decide)).trans h
  | 6, hf, h => exact (hf 104 (by decide)).trans h
  | 7, hf, h => exact (hf 105 (by decide)).trans h
  | 8, hf, h => exact (hf 106 (by decide)).trans h
  | 9, hf, h => exact (hf 107 (by decide)).trans h
  | 10, hf, h => exact (hf 9 (by decide)).trans h
  | _ + 11, _, _ => trivial
end Go.Proofs.YtopjddmgejfalaaDoor.Aig
