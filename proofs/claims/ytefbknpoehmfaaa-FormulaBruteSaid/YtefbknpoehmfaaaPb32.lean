/- The program's Add. Condition: together no more clauses than Go lays (2^48 octets of them). -/
import Derived.Test.YtefbknpoehmfaaaPb28
import Derived.Test.YtefbknpoehmfaaaPb29
import Derived.Test.YtefbknpoehmfaaaPb31
import Derived.Test.YtefbknpoehmfaaaPb06
namespace Go.Proofs.Ytefbknpoehmfaaa.For
open Go.ChangeShapes Go.WideShapes Go.ChangeAt Go.RowKit Go.Maps Circ Cw Cla Rep Str

theorem op_fld_form_1 (a : Act) (w : World) (b : Nat) (t : Nat) (h : a.tmps.getD t undef = .pointer (some ⟨b, 0, none⟩)) (oo : Oper) (ho : oo.op = .fieldAddr 24 (.tmp t) 1) : (execOp a.eval oo).run Try.prog w = .ok (.value (.pointer (some ⟨b, 1, none⟩))) w := by
  have h' : a.tmps[t]?.getD undef = .pointer (some ⟨b, 0, none⟩) := by simpa using h
  unfold execOp
  rw [ho]
  go_simp
theorem op_cell_clauses (a : Act) (w : World) (A : Addr) (t : Nat) (v : Value) (h : a.tmps.getD t undef = .pointer (some A)) (hc : w.cell? A = some v) (oo : Oper) (ho : oo.op = .load 22 (.tmp t)) : (execOp a.eval oo).run Try.prog w = .ok (.value v) w := by
  have h' : a.tmps[t]?.getD undef = .pointer (some A) := by simpa using h
  unfold execOp
  rw [ho]
  go_simp
theorem op_at_clauses (a : Act) (w : World) (b o n q k : Nat) (t s : Nat) (h : a.tmps.getD t undef = .slice (some ⟨b, o, none⟩) n q) (h2 : a.tmps.getD s undef = .int .i64 (k : Int)) (hk : k < n) (oo : Oper) (ho : oo.op = .indexAddr 22 (.tmp t) (.tmp s)) : (execOp a.eval oo).run Try.prog w = .ok (.value (.pointer (some ⟨b, o + k, none⟩))) w := by
  have h' : a.tmps[t]?.getD undef = .slice (some ⟨b, o, none⟩) n q := by simpa using h
  have h2' : a.tmps[s]?.getD undef = .int .i64 (k : Int) := by simpa using h2
  unfold execOp
  rw [ho]
  have h0 : (0 : Int) ≤ k := by omega
  have h1 : (k : Int) < n := by omega
  go_simp
theorem op_two_lists (a : Act) (w : World) (A B : Option Addr) (n q m r : Nat) (t s : Nat) (h : a.tmps.getD t undef = .slice A n q) (h2 : a.tmps.getD s undef = .slice B m r) (oo : Oper) (ho : oo.op = .buildSlice 91 2 #[(0, .tmp t), (1, .tmp s)]) : (execOp a.eval oo).run Try.prog w = .ok (.value (.slice (some ⟨w.heap.size, 0, none⟩) 2 2)) (w.alloc (.cells #[.slice A n q, .slice B m r] 22)) := by
  have h' : a.tmps[t]?.getD undef = .slice A n q := by simpa using h
  have h2' : a.tmps[s]?.getD undef = .slice B m r := by simpa using h2
  unfold execOp
  rw [ho]
  go_simp
theorem op_build_form (a : Act) (w : World) (x : Int) (B : Option Addr) (m r : Nat) (t s : Nat) (h : a.tmps.getD t undef = .int .i64 x) (h2 : a.tmps.getD s undef = .slice B m r) (oo : Oper) (ho : oo.op = .build 24 #[(0, .tmp t), (1, .tmp s)]) : (execOp a.eval oo).run Try.prog w = .ok (.value (.agg #[.int .i64 x, .slice B m r])) w := by
  have h' : a.tmps[t]?.getD undef = .int .i64 x := by simpa using h
  have h2' : a.tmps[s]?.getD undef = .slice B m r := by simpa using h2
  unfold execOp
  rw [ho]
  go_simp
theorem op_alloc_form (a : Act) (w : World) (oo : Oper) (ho : oo.op = .alloc 24) : (execOp a.eval oo).run Try.prog w = .ok (.value (.pointer (some ⟨w.heap.size, 0, none⟩))) (w.alloc (.cells #[.int .i64 0, .slice none 0 0] 24)) := by
  unfold execOp
  rw [ho]
  go_simp
theorem op_store_form (a : Act) (w : World) (R : Nat) (x : Int) (B : Option Addr) (m r : Nat) (z0 z1 : Value) (t s : Nat) (h : a.tmps.getD t undef = .pointer (some ⟨R, 0, none⟩)) (h2 : a.tmps.getD s undef = .agg #[.int .i64 x, .slice B m r]) (hR : w.heap[R]? = some (.cells #[z0, z1] 24 (0, 0))) (oo : Oper) (ho : oo.op = .store 24 (.tmp t) (.tmp s)) :
    ∃ Z, (execOp a.eval oo).run Try.prog w = .ok .skip Z ∧ Z.heap[R]? = some (.cells #[.int .i64 x, .slice B m r] 24 (0, 0)) ∧ (∀ k, k ≠ R → Z.heap[k]? = w.heap[k]?) ∧ ∀ n, n ≤ R → Below n w Z := by
  have h' : a.tmps[t]?.getD undef = .pointer (some ⟨R, 0, none⟩) := by simpa using h
  have h2' : a.tmps[s]?.getD undef = .agg #[.int .i64 x, .slice B m r] := by simpa using h2
  obtain ⟨Z1, Z2, u0, u1, ⟨e0, a0, b0⟩, ⟨e1, a1, b1⟩, hZ, -⟩ := store2 hR rfl (.int .i64 x) (.slice B m r)
  refine ⟨Z2, ?_, hZ, fun k hk => ?_, fun n hn => ?_⟩
  · unfold execOp
    rw [ho]
    go_simp
  · rw [← e1, ← e0]
    exact (set_others _ _ _ _ k hk).trans (set_others _ _ _ _ k hk)
  · rw [← e1, ← e0]
    exact ((Below.refl _ _).setCell (by exact hn) _).setCell (by exact hn) _
theorem _root_.Go.Proofs.Ytefbknpoehmfaaa.Cw.OwnC.le {w : World} {B B' : Nat} {e : TypeId} {m : Nat} {v : Value} {xs : List (List Value)} (h : OwnC w B e m v xs) (hB : B' ≤ B) : OwnC w B' e m v xs := by
  obtain ⟨h0, h1⟩ := h
  refine ⟨h0, ?_⟩
  rcases h1 with h1 | ⟨g, cap, cur, hv, hg, r⟩
  · exact .inl h1
  · exact .inr ⟨g, cap, cur, hv, Nat.le_trans hB hg, r⟩
def ad1R (g bf : Nat) (vars : Int) (A : Option Addr) (n q : Nat) (B : Option Addr) (m r : Nat) (X : List Clz) : Nat → (Nat → Value) → World → Prop
  | 0, f, _ => f 10 = .pointer (some ⟨bf, 0, none⟩)
  | 1, f, _ => f 11 = .int .i64 vars
  | 2, f, _ => f 12 = .pointer (some ⟨bf, 1, none⟩)
  | 3, f, _ => f 13 = .slice A n q
  | 4, f, _ => f 14 = .slice B m r
  | 5, f, w => ∃ b, f 15 = .slice (some ⟨b, 0, none⟩) 2 2 ∧ w.heap[b]? = some (.cells #[.slice A n q, .slice B m r] 22 (0, 0))
  | 6, f, w => ∃ A2 q2, f 16 = .slice A2 X.length q2 ∧ OwnC w g 25 1 (.slice A2 X.length q2) (clz X)
  | 7, f, w => ∃ A2 q2, f 17 = .agg #[.int .i64 vars, .slice A2 X.length q2] ∧ OwnC w g 25 1 (.slice A2 X.length q2) (clz X)
  | 8, f, w => ∃ b, f 6 = .pointer (some ⟨b, 0, none⟩) ∧ g ≤ b ∧ ∃ z0 z1, w.heap[b]? = some (.cells #[z0, z1] 24 (0, 0))
  | 9, f, w => ∃ b A2 q2, f 6 = .pointer (some ⟨b, 0, none⟩) ∧ g ≤ b ∧ w.heap[b]? = some (.cells #[.int .i64 vars, .slice A2 X.length q2] 24 (0, 0)) ∧ OwnC w g 25 1 (.slice A2 X.length q2) (clz X)
  | _, _, _ => True
def ad1M : Nat → List Nat
  | 0 => [10]
  | 1 => [11]
  | 2 => [12]
  | 3 => [13]
  | 4 => [14]
  | 5 => [15]
  | 6 => [16]
  | 7 => [17]
  | 8 => [6]
  | 9 => [6]
  | _ => []
theorem ad1_stab {g bf : Nat} {vars : Int} {A : Option Addr} {n q : Nat} {B : Option Addr} {m r : Nat} {X : List Clz} (jj : Nat) {f f' : Nat → Value} {w w' : World} (hb : Below w.heap.size w w') (hf : ∀ t ∈ ad1M jj, f' t = f t) (h : ad1R g bf vars A n q B m r X jj f w) : ad1R g bf vars A n q B m r X jj f' w' := by
  match jj, hf, h with
  | 0, hf, h => exact (hf 10 (by decide)).trans h
  | 1, hf, h => exact (hf 11 (by decide)).trans h
  | 2, hf, h => exact (hf 12 (by decide)).trans h
  | 3, hf, h => exact (hf 13 (by decide)).trans h
  | 4, hf, h => exact (hf 14 (by decide)).trans h
  | 5, hf, h =>
    obtain ⟨b, h1, h2⟩ := h
    exact ⟨b, (hf 15 (by decide)).trans h1, (hb.block b (at_heap h2)).trans h2⟩
  | 6, hf, h =>
    obtain ⟨A2, q2, h1, h2⟩ := h
    exact ⟨A2, q2, (hf 16 (by decide)).trans h1, h2.keep hb⟩
  | 7, hf, h =>
    obtain ⟨A2, q2, h1, h2⟩ := h
    exact ⟨A2, q2, (hf 17 (by decide)).trans h1, h2.keep hb⟩
  | 8, hf, h =>
    obtain ⟨b, h1, h2, z0, z1, h3⟩ := h
    exact ⟨b, (hf 6 (by decide)).trans h1, h2, z0, z1, (hb.block b (at_heap h3)).trans h3⟩
  | 9, hf, h =>
    obtain ⟨b, A2, q2, h1, h2, h3, h4⟩ := h
    exact ⟨b, A2, q2, (hf 6 (by decide)).trans h1, h2, (hb.block b (at_heap h3)).trans h3, h4.keep hb⟩
  | _ + 10, _, _ => trivial
theorem ad1_put {g bf : Nat} {vars : Int} {A : Option Addr} {n q : Nat} {B : Option Addr} {m r : Nat} {X : List Clz} {R : Nat} {w Z : World} {z0 z1 : Value} (hR : w.heap[R]? = some (.cells #[z0, z1] 24 (0, 0))) (ho : ∀ k, k ≠ R → Z.heap[k]? = w.heap[k]?) (hZ : ∃ y0 y1, Z.heap[R]? = some (.cells #[y0, y1] 24 (0, 0))) (jj : Nat) (hj : jj ≠ 9) {f f' : Nat → Value} (hf : ∀ t ∈ ad1M jj, f' t = f t) (h : ad1R g bf vars A n q B m r X jj f w) : ad1R g bf vars A n q B m r X jj f' Z := by
  match jj, hj, hf, h with
  | 0, _, hf, h => exact (hf 10 (by decide)).trans h
  | 1, _, hf, h => exact (hf 11 (by decide)).trans h
  | 2, _, hf, h => exact (hf 12 (by decide)).trans h
  | 3, _, hf, h => exact (hf 13 (by decide)).trans h
  | 4, _, hf, h => exact (hf 14 (by decide)).trans h
  | 5, _, hf, h =>
    obtain ⟨b, h1, h2⟩ := h
    exact ⟨b, (hf 15 (by decide)).trans h1, (ho b (ne_type h2 hR (by decide))).trans h2⟩
  | 6, _, hf, h =>
    obtain ⟨A2, q2, h1, h2⟩ := h
    exact ⟨A2, q2, (hf 16 (by decide)).trans h1, h2.keep_at fun j _ hj => ho j fun e => (h2.ne_block hR (by decide)) (e ▸ hj)⟩
  | 7, _, hf, h =>
    obtain ⟨A2, q2, h1, h2⟩ := h
    exact ⟨A2, q2, (hf 17 (by decide)).trans h1, h2.keep_at fun j _ hj => ho j fun e => (h2.ne_block hR (by decide)) (e ▸ hj)⟩
  | 8, _, hf, h =>
    obtain ⟨b, h1, h2, y0, y1, h3⟩ := h
    by_cases hb : b = R
    · subst hb
      obtain ⟨x0, x1, hx⟩ := hZ
      exact ⟨b, (hf 6 (by decide)).trans h1, h2, x0, x1, hx⟩
    · exact ⟨b, (hf 6 (by decide)).trans h1, h2, y0, y1, (ho b hb).trans h3⟩
  | 9, hj, _, _ => exact absurd rfl hj
  | _ + 10, _, _, _ => trivial
def ad8R (b6 k : Nat) (g0 q2 : Nat) (n : Nat) (z : Clz) (base : Nat) : Nat → (Nat → Value) → World → Prop
  | 0, f, _ => f 32 = .pointer (some ⟨b6, 1, none⟩)
  | 1, f, _ => f 33 = .slice (some ⟨g0, 0, none⟩) n q2
  | 2, f, _ => f 34 = .int .i64 (k : Int)
  | 3, f, _ => f 35 = .slice z.A z.l.length z.q
  | 4, f, w => ∃ A3 q3, f 36 = .slice A3 z.l.length q3 ∧ OwnI w base (.slice A3 z.l.length q3) z.l
  | 5, f, _ => f 37 = .pointer (some ⟨g0, 0 + k, none⟩)
  | _, _, _ => True
def ad8M : Nat → List Nat
  | 0 => [32]
  | 1 => [33]
  | 2 => [34]
  | 3 => [35]
  | 4 => [36]
  | 5 => [37]
  | _ => []
theorem ad8_stab {b6 k : Nat} {g0 q2 : Nat} {n : Nat} {z : Clz} {base : Nat} (jj : Nat) {f f' : Nat → Value} {w w' : World} (hb : Below w.heap.size w w') (hf : ∀ t ∈ ad8M jj, f' t = f t) (h : ad8R b6 k g0 q2 n z base jj f w) : ad8R b6 k g0 q2 n z base jj f' w' := by
  match jj, hf, h with
  | 0, hf, h => exact (hf 32 (by decide)).trans h
  | 1, hf, h => exact (hf 33 (by decide)).trans h
  | 2, hf, h => exact (hf 34 (by decide)).trans h
  | 3, hf, h => exact (hf 35 (by decide)).trans h
  | 4, hf, h =>
    obtain ⟨A3, q3, h1, h2⟩ := h
    exact ⟨A3, q3, (hf 36 (by decide)).trans h1, h2.keep hb⟩
  | 5, hf, h => exact (hf 37 (by decide)).trans h
  | _ + 6, _, _ => trivial
theorem ad8_put {b6 k : Nat} {g0 q2 : Nat} {n : Nat} {z : Clz} {base : Nat} (jj : Nat) {f f' : Nat → Value} {w w' : World} (hI : ∀ A3 q3, OwnI w base (.slice A3 z.l.length q3) z.l → OwnI w' base (.slice A3 z.l.length q3) z.l) (hf : ∀ t ∈ ad8M jj, f' t = f t) (h : ad8R b6 k g0 q2 n z base jj f w) : ad8R b6 k g0 q2 n z base jj f' w' := by
  match jj, hf, h with
  | 0, hf, h => exact (hf 32 (by decide)).trans h
  | 1, hf, h => exact (hf 33 (by decide)).trans h
  | 2, hf, h => exact (hf 34 (by decide)).trans h
  | 3, hf, h => exact (hf 35 (by decide)).trans h
  | 4, hf, h =>
    obtain ⟨A3, q3, h1, h2⟩ := h
    exact ⟨A3, q3, (hf 36 (by decide)).trans h1, hI _ _ h2⟩
  | 5, hf, h => exact (hf 37 (by decide)).trans h
  | _ + 6, _, _ => trivial
theorem res_form {Z : World} {b : Nat} {x y : Int} {A : Option Addr} {n q : Nat} (h0 : Z.cell? ⟨b, 0, none⟩ = some (.int .i64 x)) (h1 : Z.cell? ⟨b, 1, none⟩ = some (.slice A n q)) : ∀ tmps : Array Value, tmps.getD 4 undef = .pointer (some ⟨b, 0, none⟩) → tmps.getD 5 undef = .int .i64 y → (results Try.f15 tmps).run Try.prog Z = .ok (.tuple #[.agg #[.int .i64 x, .slice A n q], .int .i64 y]) Z := fun tmps ht h5 => by
  simp only [results, show Try.f15.results = #[ResultVar.cell 4 24, ResultVar.slot 5] from rfl]
  have ht' : tmps[4]?.getD undef = .pointer (some ⟨b, 0, none⟩) := by simpa using ht
  have h5' : tmps[5]?.getD undef = .int .i64 y := by simpa using h5
  go_simp
def clzV (L : List Clz) : List Value := L.map fun z => .slice z.A z.l.length z.q
theorem clz_flat (L : List Clz) : (clz L).flatten = clzV L := by
  unfold clz clzV
  induction L with
  | nil => rfl
  | cons a l ih => simp only [List.map_cons, List.flatten_cons, ih]; rfl
/-- a clause is put in the place of another -/
theorem own_put {W : World} {G : Nat} {A : Option Addr} {n q : Nat} {Y : List Clz} (h : OwnC W G 25 1 (.slice A n q) (clz Y)) {k : Nat} (hk : k < Y.length) : ∃ g0 cur, A = some ⟨g0, 0, none⟩ ∧ G ≤ g0 ∧ n = Y.length ∧ W.heap[g0]? = some (.cells cur 25 (0, 0)) ∧ W.cell? ⟨g0, 0 + k, none⟩ = some (.slice Y[k].A Y[k].l.length Y[k].q) ∧
    ∀ W' : World, W'.heap[g0]? = some (.cells cur 25 (0, 0)) → ∀ z : Clz, OwnC (W'.setCell ⟨g0, 0 + k, none⟩ (.slice z.A z.l.length z.q)) G 25 1 (.slice A n q) (clz (Y.set k z)) := by
  obtain ⟨h0, h1⟩ := h
  rw [clz_len] at h1
  rcases h1 with ⟨_, h1⟩ | ⟨g0, cap, cur, hv, hg, hh, hc1, hc2, hc3, ht⟩
  · omega
  · simp only [Value.slice.injEq] at hv
    obtain ⟨rfl, rfl, rfl⟩ := hv
    rw [clz_flat] at ht
    have hcell : cur[k]? = some (.slice Y[k].A Y[k].l.length Y[k].q) := by
      have e := congrArg (fun l : List Value => l[k]?) ht
      simp only [List.getElem?_take] at e
      rw [if_pos (by omega)] at e
      rw [← Array.getElem?_toList, e]
      simp [clzV, hk]
    refine ⟨g0, cur, rfl, hg, rfl, hh, ?_, fun W' hW z => ?_⟩
    · rw [Nat.zero_add]
      simp [World.cell?, hh, hcell]
    · rw [Nat.zero_add]
      refine ⟨by rw [clz_len, clz_flat]; simp [clzV], ?_⟩
      rw [clz_len, List.length_set]
      refine .inr ⟨g0, q, cur.setIfInBounds k (.slice z.A z.l.length z.q), rfl, hg, set_cells hW k _, hc1, hc2, by simpa using hc3, ?_⟩
      rw [clz_flat]
      simp only [Array.toList_setIfInBounds]
      rw [List.take_set, ht]
      unfold clzV
      rw [List.map_set]
theorem form_two (vars : Int) (L : List (List Int)) : formM vars L = 0 ∨ formM vars L = 9 := by
  unfold formM
  split
  · exact .inr rfl
  · split
    · exact .inr rfl
    · split
      · exact .inr rfl
      · split
        · exact .inl rfl
        · exact .inr rfl
set_option maxHeartbeats 32000000 in
set_option maxRecDepth 100000 in
theorem add_p (vars : Int) (L : List Clz) (A : Option Addr) (q : Nat) (M : List Clz) (B : Option Addr) (r : Nat) (W : World) (hA : ALies W W.heap.size A L) (hM : ALies W W.heap.size B M) (hn : L.length + M.length ≤ 11728124029610) :
    Calls Try.prog 15 #[forV vars A L.length q, .slice B M.length r] W fun e w' =>
      ((formM vars (L.map Clz.l ++ M.map Clz.l) = 0 → ∃ K A' q', e = .returned (.tuple #[forV vars A' K.length q', .int .i64 0]) ∧ ALies w' w'.heap.size A' K ∧ K.map Clz.l = L.map Clz.l ++ M.map Clz.l) ∧
        (formM vars (L.map Clz.l ++ M.map Clz.l) ≠ 0 → ∃ v' A' q', e = .returned (.tuple #[forV v' A' 0 q', .int .i64 9]))) ∧ Below W.heap.size W w' := by
  obtain ⟨WA, hWA⟩ : ∃ x, W.alloc (.cells #[.int .i64 vars, .slice A L.length q] 24) = x := ⟨_, rfl⟩
  have bA : Below W.heap.size W WA := by rw [← hWA]; exact (Below.refl _ _).alloc (Nat.le_refl _) _
  have sA : WA.heap.size = W.heap.size + 1 := by rw [← hWA]; simp
  obtain ⟨WB, hWB⟩ : ∃ x, WA.alloc (.cells #[.int .i64 0, .slice none 0 0] 24) = x := ⟨_, rfl⟩
  have bB : Below WA.heap.size WA WB := by rw [← hWB]; exact (Below.refl _ _).alloc (Nat.le_refl _) _
  have sB : WB.heap.size = W.heap.size + 2 := by rw [← hWB]; simp [sA]
  have gA : WA.heap[W.heap.size]? = some (.cells #[.int .i64 vars, .slice A L.length q] 24 (0, 0)) := by rw [← hWA]; exact Array.getElem?_push_size
  have gB : WB.heap[W.heap.size]? = some (.cells #[.int .i64 vars, .slice A L.length q] 24 (0, 0)) := (bB.block _ (by omega)).trans gA
  have rB : WB.heap[W.heap.size + 1]? = some (.cells #[.int .i64 0, .slice none 0 0] 24 (0, 0)) := by rw [← hWB, ← sA]; exact Array.getElem?_push_size
  have BB : Below W.heap.size W WB := bA.trans (bB.mono (by omega))
  have SB := Lib.hid sB
  have HBB := Lib.hid BB
  have HVC : Hid (∀ w, Below WB.heap.size WB w → w.cell? ⟨W.heap.size, 0, none⟩ = some (.int .i64 vars) ∧ w.cell? ⟨W.heap.size, 1, none⟩ = some (.slice A L.length q)) := fun w hw => cells2 ((hw.block _ (at_heap gB)).trans gB)
  have HRB : Hid (∀ w, Below WB.heap.size WB w → w.heap[W.heap.size + 1]? = some (.cells #[.int .i64 0, .slice none 0 0] 24 (0, 0))) := fun w hw => (hw.block _ (at_heap rB)).trans rB
  have HAL : Hid (∀ w, Below WB.heap.size WB w → ALies w W.heap.size A L ∧ ALies w W.heap.size B M) := fun w hw => ⟨hA.below (BB.trans (hw.mono BB.size)), hM.below (BB.trans (hw.mono BB.size))⟩
  have CONC : Hid (∀ w b, Below WB.heap.size WB w → WB.heap.size ≤ w.heap.size → w.heap[b]? = some (.cells #[.slice A L.length q, .slice B M.length r] 22 (0, 0)) → Calls Try.prog 41 #[.slice (some ⟨b, 0, none⟩) 2 2] w fun e w' => (∃ v, e = .returned v ∧ OwnC w' w.heap.size 25 1 v (clz (L ++ M))) ∧ Below w.heap.size w w') := fun w b hw hs hb => by
    obtain ⟨h1, h2⟩ := HAL.out w hw
    obtain ⟨d0, d1⟩ := cells2 hb
    have hWs : W.heap.size ≤ w.heap.size := by omega
    have := cconcat_any [⟨A, L, q⟩, ⟨B, M, r⟩] b 2 w (fun i hi => by
      match i, hi with
      | 0, _ => exact d0
      | 1, _ => exact d1) (at_heap hb) (fun x hx => by
      rcases List.mem_cons.1 hx with rfl | hx
      · exact (h1.row).more hWs
      · rw [List.mem_singleton.1 hx]; exact (h2.row).more hWs) (by simp) (by simp [allC]; omega)
    simpa [allC] using this
  have EVC : Hid (∀ args w, (callFunc 41 args).run Try.prog w = .ok (.enter 41 args) w) := enters_of Try.func41 (by kernel_rfl) rfl
  have HOK2 : Hid (∀ (Y Z : World), (Below WB.heap.size WB Y ∧ WB.heap.size ≤ Y.heap.size) → Below Y.heap.size Y Z → Below WB.heap.size WB Z ∧ WB.heap.size ≤ Z.heap.size) := fun Y Z h k => ⟨h.1.trans (k.mono h.2), Nat.le_trans h.2 k.size⟩
  have hLn := hA.len
  have hMn := hM.len
  have HXL : Hid ((L ++ M).map Clz.l = L.map Clz.l ++ M.map Clz.l) := by unfold Hid; rw [List.map_append]
  rw [← HXL.out]
  obtain ⟨X, hX⟩ : ∃ X, L ++ M = X := ⟨_, rfl⟩
  have hXl : X.length ≤ 11728124029610 := by rw [← hX, List.length_append]; exact hn
  rw [hX] at CONC HXL ⊢
  have HX := Lib.hid hX
  clear hX
  have HF2 := Lib.hid (form_two vars (X.map Clz.l))
  obtain ⟨y, hy⟩ : ∃ y, formM vars (X.map Clz.l) = y := ⟨_, rfl⟩
  rw [hy] at HF2 ⊢
  have HY := Lib.hid hy
  clear hy
  unfold forV at *
  clear hA hM bA bB gA gB rB
  go_enter Try.func15, Try.ntmps15
  go_wp2_with fail
  refine wp_region_valsE (by kernel_rfl) (by kernel_rfl) ad1M (by kernel_rfl) (by kernel_rfl)
    (fun _ w' => Below WB.heap.size WB w' ∧ WB.heap.size ≤ w'.heap.size) (ad1R WB.heap.size W.heap.size vars A L.length q B M.length r X) ⟨(Below.refl _ _).drew, Nat.le_refl _⟩ (fun jj f f' w w' hb hf h => ad1_stab jj hb hf h) ?_ ?_
  · intro i oo d a' w' ho hd hun hdf hok hDE K hK hK0
    have hok2 := HOK2.out
    match i, ho, hd, hDE, hK, hK0, hun with
    | 0, ho, hd, hD, hK, hK0, hun =>
      have e := (congrArg Oper.op (Option.some.inj ho)).symm
      obtain rfl := Option.some.inj ho
      exact wp_val (op_fld_form_0 a' w' _ 2 (hun 2 (by kernel_rfl)) _ e) (hK _ _ (Below.refl _ _) hok (fun f h1 _ => h1 _ rfl))
    | 1, ho, hd, hD, hK, hK0, hun =>
      have e := (congrArg Oper.op (Option.some.inj ho)).symm
      obtain rfl := Option.some.inj ho
      exact wp_val (op_cell_int a' w' _ 10 _ (hDE 0 (by kernel_rfl)).2 (HVC.out w' hok.1).1 _ e) (hK _ _ (Below.refl _ _) hok (fun f h1 _ => h1 _ rfl))
    | 2, ho, hd, hD, hK, hK0, hun =>
      have e := (congrArg Oper.op (Option.some.inj ho)).symm
      obtain rfl := Option.some.inj ho
      exact wp_val (op_fld_form_1 a' w' _ 2 (hun 2 (by kernel_rfl)) _ e) (hK _ _ (Below.refl _ _) hok (fun f h1 _ => h1 _ rfl))
    | 3, ho, hd, hD, hK, hK0, hun =>
      have e := (congrArg Oper.op (Option.some.inj ho)).symm
      obtain rfl := Option.some.inj ho
      exact wp_val (op_cell_clauses a' w' _ 12 _ (hDE 2 (by kernel_rfl)).2 (HVC.out w' hok.1).2 _ e) (hK _ _ (Below.refl _ _) hok (fun f h1 _ => h1 _ rfl))
    | 4, ho, hd, hD, hK, hK0, hun =>
      have e := (congrArg Oper.op (Option.some.inj ho)).symm
      obtain rfl := Option.some.inj ho
      exact wp_val (op_mv a' w' 1 _ e) (hK _ _ (Below.refl _ _) hok (fun f h1 _ => (h1 _ rfl).trans (hun 1 (by kernel_rfl))))
    | 5, ho, hd, hD, hK, hK0, hun =>
      have e := (congrArg Oper.op (Option.some.inj ho)).symm
      obtain rfl := Option.some.inj ho
      exact wp_val (op_two_lists a' w' _ _ _ _ _ _ 13 14 (hDE 3 (by kernel_rfl)).2 (hDE 4 (by kernel_rfl)).2 _ e) (hK _ _ ((Below.refl _ _).alloc (Nat.le_refl _) _) (hok2 _ _ hok ((Below.refl _ _).alloc (Nat.le_refl _) _)) (fun f h1 _ => ⟨_, h1 _ rfl, Array.getElem?_push_size⟩))
    | 6, ho, hd, hD, hK, hK0, hun =>
      have e := (congrArg Oper.op (Option.some.inj ho)).symm
      obtain rfl := Option.some.inj ho
      obtain ⟨b, hs, hb⟩ := (hDE 5 (by kernel_rfl)).2
      refine wp_enter (op_call1 a' w' 41 15 91 EVC.out _ e) ?_
      rw [show a'.tmps.getD 15 undef = _ from hs]
      refine (CONC.out w' b hok.1 hok.2 hb).mono ?_
      rintro ee w2 ⟨⟨v2, rfl, hown⟩, hb2⟩
      have hown2 := hown.le hok.2
      obtain ⟨A2, q2, rfl, -, -, -⟩ := hown2.row (by decide) (clz_each _)
      rw [clz_len] at hown2 ⊢
      exact .inl ⟨_, rfl, hK _ _ hb2 (hok2 _ _ hok hb2) (fun f h1 _ => ⟨A2, q2, h1 _ rfl, hown2⟩)⟩
    | 7, ho, hd, hD, hK, hK0, hun =>
      have e := (congrArg Oper.op (Option.some.inj ho)).symm
      obtain rfl := Option.some.inj ho
      obtain ⟨A2, q2, hs, ho2⟩ := (hDE 6 (by kernel_rfl)).2
      exact wp_val (op_build_form a' w' _ _ _ _ 11 16 (hDE 1 (by kernel_rfl)).2 hs _ e) (hK _ _ (Below.refl _ _) hok (fun f h1 _ => ⟨A2, q2, h1 _ rfl, ho2⟩))
    | 8, ho, hd, hD, hK, hK0, hun =>
      have e := (congrArg Oper.op (Option.some.inj ho)).symm
      obtain rfl := Option.some.inj ho
      exact wp_val (op_alloc_form a' w' _ e) (hK _ _ ((Below.refl _ _).alloc (Nat.le_refl _) _) (hok2 _ _ hok ((Below.refl _ _).alloc (Nat.le_refl _) _)) (fun f h1 _ => ⟨_, h1 _ rfl, hok.2, _, _, Array.getElem?_push_size⟩))
    | 9, ho, hd, hD, hK, hK0, hun =>
      have e := (congrArg Oper.op (Option.some.inj ho)).symm
      obtain rfl := Option.some.inj ho
      obtain ⟨A2, q2, hs2, ho2⟩ := (hDE 7 (by kernel_rfl)).2
      obtain ⟨R, hs3, hg3, z0, z1, hh3⟩ := (hDE 8 (by kernel_rfl)).2
      obtain ⟨Z, hrun, hZR, hZo, hZb⟩ := op_store_form a' w' R vars A2 X.length q2 z0 z1 6 17 hs3 hs2 hh3 _ e
      exact wp_skip' hrun (hK0 _ _ ⟨hok.1.trans (hZb _ hg3), Nat.le_trans hok.2 (hZb _ hg3).size⟩ (fun f _ h2 => ⟨R, A2, q2, (h2 6 (by decide)).trans hs3, hg3, hZR, ho2.keep_at fun j _ hj => hZo j fun e => (ho2.ne_block hh3 (by decide)) (e ▸ hj)⟩) (fun j f hj hf hq => ad1_put hh3 (fun k hk => hZo k hk) ⟨_, _, hZR⟩ j hj hf hq))
    | i + 10, ho, _, _, _, _, _ => exact absurd ho (by simp)
  · intro a' w3 hsz hdf hkt hok hR
    have HF3 := frame_sets [10, 11, 12, 13, 14, 15, 16, 17, 6] (by kernel_rfl) hsz hkt
    obtain ⟨d, hok, hall⟩ := hok
    obtain ⟨b6, A2, q2, h6, hg6, hh6, hown⟩ := hR 9 (by decide)
    have HB3 := Lib.hid hok.1
    clear hok hall
    obtain ⟨tm, df⟩ := a'
    obtain rfl : df = _ := hdf
    simp only [List.foldl_cons, List.foldl_nil] at HF3
    clear hkt hR hsz
    replace h6 : tm.getD 6 undef = _ := h6
    rw [h6] at HF3
    clear h6
    generalize tm.getD 10 undef = y10 at HF3
    generalize tm.getD 11 undef = y11 at HF3
    generalize tm.getD 12 undef = y12 at HF3
    generalize tm.getD 13 undef = y13 at HF3
    generalize tm.getD 14 undef = y14 at HF3
    generalize tm.getD 15 undef = y15 at HF3
    generalize tm.getD 16 undef = y16 at HF3
    generalize tm.getD 17 undef = y17 at HF3
    simp only [List.setIfInBounds_toArray, List.set_cons_succ, List.set_cons_zero] at HF3
    subst HF3
    obtain ⟨Ax, qx, hvx, hrow, -, -⟩ := hown.row (by decide) (clz_each _)
    rw [clz_len] at hvx
    simp only [Value.slice.injEq, true_and] at hvx
    obtain ⟨rfl, rfl⟩ := hvx
    obtain ⟨hA3, hM3⟩ := HAL.out w3 HB3.out
    have hW3 : W.heap.size ≤ w3.heap.size := by have := HB3.out.size; omega
    have hAL3 : ALies w3 w3.heap.size A2 X := ⟨hrow, fun z hz => by
      rw [← HX.out] at hz
      rcases List.mem_append.1 hz with hz | hz
      · exact (hA3.each z hz).more hW3
      · exact (hM3.each z hz).more hW3, by omega⟩
    have CK := Lib.hid (fcheck_any vars X A2 q2 w3 hAL3)
    unfold forV at CK
    obtain ⟨c0, c1⟩ := cells2 hh6
    have HH6 := Lib.hid hh6
    have HOW := Lib.hid hown
    have HG6 := Lib.hid hg6
    clear hAL3 hrow hA3 hM3 hown hh6 hg6
    rw [HY.out] at CK
    rcases HF2.out with rfl | rfl
    · go_wp2_with fail
      refine CK.out.mono ?_
      rintro e w4 ⟨rfl, hb⟩
      have HB4 : Hid (Below WB.heap.size WB w4) := HB3.out.trans (hb.mono HB3.out.size)
      have g6 := (hb.block _ (at_heap HH6.out)).trans HH6.out
      have o4 := HOW.out.keep hb
      obtain ⟨d0, d1⟩ := cells2 g6
      have HG := Lib.hid g6
      have HO := Lib.hid o4
      have hck := (form_ok HY.out).2.2.2
      have HCK := Lib.hid hck
      clear hb CK c0 c1 g6 o4 hck
      go_wp2
      go_loopw [27] (fun i wr => ∃ (k : Nat) (Ks : List Clz), k ≤ X.length ∧ i = .int .i64 k ∧ Ks.length = k ∧ Ks.map Clz.l = (X.take k).map Clz.l ∧ OwnC wr WB.heap.size 25 1 (.slice A2 X.length q2) (clz (Ks ++ X.drop k)) ∧ (∀ z ∈ Ks, OwnI wr WB.heap.size (.slice z.A z.l.length z.q) z.l) ∧ wr.heap[b6]? = some (.cells #[.int .i64 vars, .slice A2 X.length q2] 24 (0, 0)) ∧ Below WB.heap.size WB wr) (fun i _ => X.length - (intOf i).toNat)
      case atStart => exact ⟨0, [], Nat.zero_le _, rfl, rfl, by simp, by simpa using HO.out, (fun z hz => absurd hz List.not_mem_nil), HG.out, HB4.out⟩
      case round =>
        clear HB4 HG HO d0 d1 HB3
        obtain ⟨k, Ks, hk, rfl, hKl, hKm, hown, hKs, hg6, hb⟩ := hrel
        have HOWN := Lib.hid hown
        have HKS := Lib.hid hKs
        have HG6b := Lib.hid hg6
        have HBB4 := Lib.hid hb
        have HKL2 := Lib.hid hKl
        have HKM := Lib.hid hKm
        obtain ⟨d0, d1⟩ := cells2 hg6
        by_cases hlt : k < X.length
        · have hkz : (k : Int) < (X.length : Int) := by omega
          have hYk : k < (Ks ++ X.drop k).length := by rw [List.length_append, List.length_drop]; omega
          obtain ⟨g0, cur, rfl, hg0, -, hh0, hcell, hput⟩ := own_put hown hYk
          obtain ⟨z, hz⟩ : ∃ z, X[k] = z := ⟨_, rfl⟩
          have hYz : (Ks ++ X.drop k)[k] = z := by
            rw [List.getElem_append_right (by omega)]
            simp [hKl, hz]
          rw [hYz] at hcell
          have hzX : z ∈ X := hz ▸ List.getElem_mem hlt
          obtain ⟨hA3, hM3⟩ := HAL.out _ hb
          have hzl : z.Lies wr W.heap.size := by
            rw [← HX.out] at hzX
            rcases List.mem_append.1 hzX with h | h
            · exact hA3.each z h
            · exact hM3.each z h
          have hz8 : z.l.length * 8 ≤ 140737488355328 := by
            have := HCK.out z.l (List.mem_map.2 ⟨z, hzX, rfl⟩)
            unfold chk at this
            split at this
            · cases this
            · omega
          have hWr : W.heap.size ≤ wr.heap.size := by have := hb.size; omega
          have hGr : WB.heap.size ≤ wr.heap.size := hb.size
          have HC6 : Hid (∀ w', Below wr.heap.size wr w' → w'.cell? ⟨b6, 1, none⟩ = some (.slice (some ⟨g0, 0, none⟩) X.length q2)) := fun w' hw => (cells2 ((hw.block _ (at_heap hg6)).trans hg6)).2
          have HST : Hid (∀ w', Below wr.heap.size wr w' → w'.cell? ⟨g0, 0 + k, none⟩ = some (.slice z.A z.l.length z.q) ∧ w'.frozen? ⟨g0, 0 + k, none⟩ = false) := fun w' hw => ⟨(hw.cell (p := ⟨g0, 0 + k, none⟩) (at_heap hh0)).trans hcell, thaw3 ((hw.block _ (at_heap hh0)).trans hh0) _⟩
          have HKP : Hid (∀ w', Below wr.heap.size wr w' → ∀ (v' : Value) (A4 : Option Addr) (q4 : Nat), OwnI w' WB.heap.size (.slice A4 z.l.length q4) z.l → OwnI (w'.setCell ⟨g0, 0 + k, none⟩ v') WB.heap.size (.slice A4 z.l.length q4) z.l) := fun w' hw v' A4 q4 ho => ownI_C.2 ((ownI_C.1 ho).keep_at fun j _ hj => set_others _ _ _ _ j fun e => ((ownI_C.1 ho).ne_block ((hw.block _ (at_heap hh0)).trans hh0) (by decide)) (e ▸ hj))
          have CLO : Hid (∀ w', Below wr.heap.size wr w' → Calls Try.prog 42 #[.slice z.A z.l.length z.q] w' fun e w2 => (∃ v, e = .returned v ∧ OwnC w2 w'.heap.size 3 1 v (ints z.l)) ∧ Below w'.heap.size w' w2) := fun w' hw => clone22_any z.l z.A z.q w' (((hzl.row.below (hw.mono hWr)).more (Nat.le_trans hWr hw.size))) hz8
          have EVK : Hid (∀ args w, (callFunc 42 args).run Try.prog w = .ok (.enter 42 args) w) := enters_of Try.func42 (by kernel_rfl) rfl
          obtain ⟨N2, hN2⟩ : ∃ N, X.length = N := ⟨_, rfl⟩
          have HKLN : Hid (k < N2) := by unfold Hid; omega
          have hcX : wr.cell? ⟨g0, k, none⟩ = some (.slice z.A z.l.length z.q) := by rw [Nat.zero_add] at hcell; exact hcell
          have HPUT := Lib.hid hput
          have HH0 := Lib.hid hh0
          have HGR := Lib.hid hGr
          have HZX : Hid (X[k].l = z.l) := by unfold Hid; rw [hz]
          have HTK : Hid (X.take (k + 1) = X.take k ++ [z]) := by unfold Hid; rw [List.take_succ_eq_append_getElem hlt, hz]
          have HDR : Hid ((Ks ++ X.drop k).length = X.length) := by unfold Hid; rw [List.length_append, List.length_drop]; omega
          have HSET : Hid (∀ z2 : Clz, (Ks ++ X.drop k).set k z2 = (Ks ++ [z2]) ++ X.drop (k + 1)) := fun z2 => by
            rw [List.drop_eq_getElem_cons hlt, List.set_append_right _ _ (by omega), hKl, Nat.sub_self, List.set_cons_zero, List.append_assoc]
            rfl
          have HG0 := Lib.hid hg0
          have hNE6 : b6 ≠ g0 := ne_type hg6 hh0 (by decide)
          clear hown hKs hg6 hb hKl hKm hYk hcell hput hh0 hYz hzX hA3 hM3 hzl hz8 hWr hGr hz hg0
          have HKL := HKLN
          rw [hN2] at HC6
          go_wp2_with fail
          refine wp_region_valsE (by kernel_rfl) (by kernel_rfl) ad8M (by kernel_rfl) (by kernel_rfl)
            (fun d w' => (d 6 = false → Below wr.heap.size wr w') ∧ (d 6 = true → ∃ (u : World) (A3 : Option Addr) (q3 : Nat), Below wr.heap.size wr u ∧ w' = u.setCell ⟨g0, 0 + k, none⟩ (.slice A3 z.l.length q3) ∧ OwnI u WB.heap.size (.slice A3 z.l.length q3) z.l)) (ad8R b6 k g0 q2 N2 z WB.heap.size) ⟨fun _ => (Below.refl _ _).drew, (fun h => by cases h)⟩ (fun jj f f' w w' hb hf h => ad8_stab jj hb hf h) ?_ ?_
          · intro i oo d a' w' ho hd hun hdf hok hDE K hK hK0
            match i, ho, hd, hDE, hK, hK0, hun with
            | 0, ho, hd, hD, hK, hK0, hun =>
              have e := (congrArg Oper.op (Option.some.inj ho)).symm
              obtain rfl := Option.some.inj ho
              exact wp_val (op_fld_form_1 a' w' _ 6 (hun 6 (by kernel_rfl)) _ e) (hK _ _ (Below.refl _ _) ⟨fun _ => hok.1 (hd 6 (by kernel_rfl)), fun h => by have h6 := hd 6 (by kernel_rfl); simp [h6] at h⟩ (fun f h1 _ => h1 _ rfl))
            | 1, ho, hd, hD, hK, hK0, hun =>
              have e := (congrArg Oper.op (Option.some.inj ho)).symm
              obtain rfl := Option.some.inj ho
              exact wp_val (op_cell_clauses a' w' _ 32 _ (hDE 0 (by kernel_rfl)).2 (HC6.out w' (hok.1 (hd 6 (by kernel_rfl)))) _ e) (hK _ _ (Below.refl _ _) ⟨fun _ => hok.1 (hd 6 (by kernel_rfl)), fun h => by have h6 := hd 6 (by kernel_rfl); simp [h6] at h⟩ (fun f h1 _ => h1 _ rfl))
            | 2, ho, hd, hD, hK, hK0, hun =>
              have e := (congrArg Oper.op (Option.some.inj ho)).symm
              obtain rfl := Option.some.inj ho
              exact wp_val (op_mv a' w' 8 _ e) (hK _ _ (Below.refl _ _) ⟨fun _ => hok.1 (hd 6 (by kernel_rfl)), fun h => by have h6 := hd 6 (by kernel_rfl); simp [h6] at h⟩ (fun f h1 _ => (h1 _ rfl).trans (hun 8 (by kernel_rfl))))
            | 3, ho, hd, hD, hK, hK0, hun =>
              have e := (congrArg Oper.op (Option.some.inj ho)).symm
              obtain rfl := Option.some.inj ho
              exact wp_val (op_mv a' w' 9 _ e) (hK _ _ (Below.refl _ _) ⟨fun _ => hok.1 (hd 6 (by kernel_rfl)), fun h => by have h6 := hd 6 (by kernel_rfl); simp [h6] at h⟩ (fun f h1 _ => (h1 _ rfl).trans (hun 9 (by kernel_rfl))))
            | 4, ho, hd, hD, hK, hK0, hun =>
              have e := (congrArg Oper.op (Option.some.inj ho)).symm
              obtain rfl := Option.some.inj ho
              refine wp_enter (op_call1 a' w' 42 35 25 EVK.out _ e) ?_
              rw [show a'.tmps.getD 35 undef = .slice z.A z.l.length z.q from (hDE 3 (by kernel_rfl)).2]
              refine (CLO.out w' (hok.1 (hd 6 (by kernel_rfl)))).mono ?_
              rintro ee w2 ⟨⟨v2, rfl, hown⟩, hb2⟩
              have hown2 := ownI_C.2 (hown.le (Nat.le_trans HGR.out (hok.1 (hd 6 (by kernel_rfl))).size))
              obtain ⟨A3, q3, rfl, -, -, -⟩ := hown2.row
              exact .inl ⟨_, rfl, hK _ _ hb2 ⟨fun _ => (hok.1 (hd 6 (by kernel_rfl))).trans (hb2.mono (hok.1 (hd 6 (by kernel_rfl))).size), fun h => by have h6 := hd 6 (by kernel_rfl); simp [h6] at h⟩ (fun f h1 _ => ⟨A3, q3, h1 _ rfl, hown2⟩)⟩
            | 5, ho, hd, hD, hK, hK0, hun =>
              have e := (congrArg Oper.op (Option.some.inj ho)).symm
              obtain rfl := Option.some.inj ho
              exact wp_val (op_at_clauses a' w' g0 0 N2 q2 k 33 34 (hDE 1 (by kernel_rfl)).2 (hDE 2 (by kernel_rfl)).2 HKL.out _ e) (hK _ _ (Below.refl _ _) ⟨fun _ => hok.1 (hd 6 (by kernel_rfl)), fun h => by have h6 := hd 6 (by kernel_rfl); simp [h6] at h⟩ (fun f h1 _ => h1 _ rfl))
            | 6, ho, hd, hD, hK, hK0, hun =>
              have e := (congrArg Oper.op (Option.some.inj ho)).symm
              obtain rfl := Option.some.inj ho
              obtain ⟨A3, q3, hs, ho3⟩ := (hDE 4 (by kernel_rfl)).2
              have hB := hok.1 (hd 6 (by kernel_rfl))
              obtain ⟨hcc, hff⟩ := HST.out w' hB
              exact wp_skip' (op_put_ints a' w' g0 (0 + k) _ A3 z.l.length q3 37 36 (hDE 5 (by kernel_rfl)).2 hs hcc hff _ e) (hK0 _ _ ⟨(fun h => by simp at h), fun _ => ⟨w', A3, q3, hB, rfl, ho3⟩⟩ (fun _ _ _ => trivial) (fun j f _ hf hq => ad8_put j (fun A4 q4 h4 => HKP.out w' hB _ _ _ h4) hf hq))
            | i + 7, ho, _, _, _, _, _ => exact absurd ho (by simp)
          · intro a' w5 hsz hdf hkt hok hR
            have HF3 := frame_sets [32, 33, 34, 35, 36, 37] (by kernel_rfl) hsz hkt
            obtain ⟨d, hok, hall⟩ := hok
            obtain ⟨u, A3, q3, hu1, rfl, hu3⟩ := hok.2 (hall 6 (by decide))
            clear hok hall
            obtain ⟨tm, df⟩ := a'
            obtain rfl : df = _ := hdf
            simp only [List.foldl_cons, List.foldl_nil] at HF3
            clear hkt hR hsz
            generalize tm.getD 32 undef = y32 at HF3
            generalize tm.getD 33 undef = y33 at HF3
            generalize tm.getD 34 undef = y34 at HF3
            generalize tm.getD 35 undef = y35 at HF3
            generalize tm.getD 36 undef = y36 at HF3
            generalize tm.getD 37 undef = y37 at HF3
            simp only [List.setIfInBounds_toArray, List.set_cons_succ, List.set_cons_zero] at HF3
            subst HF3
            have hu0 := (hu1.block _ (at_heap HH0.out)).trans HH0.out
            have HOW2 : Hid (OwnC (u.setCell ⟨g0, 0 + k, none⟩ (.slice A3 z.l.length q3)) WB.heap.size 25 1 (.slice (some ⟨g0, 0, none⟩) X.length q2) (clz ((Ks ++ [(⟨z.l, A3, q3⟩ : Clz)]) ++ X.drop (k + 1)))) := by
              have := HPUT.out u hu0 ⟨z.l, A3, q3⟩
              rw [HSET.out] at this
              exact this
            have HKS2 : Hid (∀ y ∈ Ks ++ [(⟨z.l, A3, q3⟩ : Clz)], OwnI (u.setCell ⟨g0, 0 + k, none⟩ (.slice A3 z.l.length q3)) WB.heap.size (.slice y.A y.l.length y.q) y.l) := fun y hy => by
              have key : ∀ {v : Value} {l : List Int}, OwnI u WB.heap.size v l → OwnI (u.setCell ⟨g0, 0 + k, none⟩ (.slice A3 z.l.length q3)) WB.heap.size v l := fun {v l} ho => ownI_C.2 ((ownI_C.1 ho).keep_at fun j _ hj => set_others _ _ _ _ j fun e => ((ownI_C.1 ho).ne_block hu0 (by decide)) (e ▸ hj))
              rcases List.mem_append.1 hy with hy | hy
              · exact key ((HKS.out y hy).keep hu1)
              · rw [List.mem_singleton.1 hy]; exact key hu3
            have HKM2 : Hid ((Ks ++ [(⟨z.l, A3, q3⟩ : Clz)]).map Clz.l = (X.take (k + 1)).map Clz.l) := by unfold Hid; rw [HTK.out, List.map_append, List.map_append, HKM.out]; rfl
            have HG62 : Hid ((u.setCell ⟨g0, 0 + k, none⟩ (.slice A3 z.l.length q3)).heap[b6]? = some (.cells #[.int .i64 vars, .slice (some ⟨g0, 0, none⟩) X.length q2] 24 (0, 0))) := (set_others _ _ _ _ b6 hNE6).trans ((hu1.block _ (at_heap HG6b.out)).trans HG6b.out)
            have HB62 : Hid (Below WB.heap.size WB (u.setCell ⟨g0, 0 + k, none⟩ (.slice A3 z.l.length q3))) := (HBB4.out.trans (hu1.mono HGR.out)).setCell (by exact HG0.out) _
            have HKL3 : Hid ((Ks ++ [(⟨z.l, A3, q3⟩ : Clz)]).length = k + 1) := by unfold Hid; rw [List.length_append, HKL2.out]; rfl
            clear hu1 hu3 hu0
            generalize u.setCell ⟨g0, 0 + k, none⟩ (.slice A3 z.l.length q3) = w6 at *
            rw [← hN2] at *
            go_wp2
            go_roundw
            case rel => exact ⟨k + 1, _, by omega, by go_num, HKL3.out, HKM2.out, HOW2.out, HKS2.out, HG62.out, HB62.out⟩
            case measure => simp [intOf]; omega
        · obtain rfl : k = X.length := by omega
          obtain ⟨Z1, Z2, u0, u1, ⟨e0, a0, b0⟩, ⟨e1, a1, b1⟩, hZ, -⟩ := store2 (HRB.out _ hb) rfl (.int .i64 vars) (.slice A2 X.length q2)
          have hZo : ∀ j, W.heap.size + 1 ≠ j → Z2.heap[j]? = wr.heap[j]? := fun j hj => by
            rw [← e1, ← e0]
            exact (set_others _ _ _ _ j (Ne.symm hj)).trans (set_others _ _ _ _ j (Ne.symm hj))
          have hZs : Z2.heap.size = wr.heap.size := by rw [← e1, ← e0]; simp
          have HBF : Hid (Below W.heap.size W Z2) := by
            have h1 := HBB.out.trans (hb.mono HBB.out.size)
            unfold Hid
            rw [← e1, ← e0]
            exact (h1.setCell (by simp) _).setCell (by simp) _
          obtain ⟨r0, r1⟩ := cells2 hZ
          have hKX : Ks.map Clz.l = X.map Clz.l := by rw [hKm, List.take_length]
          have hown2 : OwnC Z2 WB.heap.size 25 1 (.slice A2 X.length q2) (clz Ks) := by
            have := hown.keep_at (w' := Z2) fun j hj _ => hZo j (by have := SB.out; omega)
            rw [List.drop_length, List.append_nil] at this
            exact this
          obtain ⟨Ay, qy, hvy, hrow, -, -⟩ := hown2.row (by decide) (clz_each _)
          rw [clz_len] at hvy
          simp only [Value.slice.injEq] at hvy
          obtain ⟨rfl, hlen, rfl⟩ := hvy
          have HAK : Hid (ALies Z2 Z2.heap.size A2 Ks) := ⟨hrow, fun z hz => by
            have ho := hKs z hz
            have ho2 : OwnI Z2 WB.heap.size (.slice z.A z.l.length z.q) z.l := ownI_C.2 ((ownI_C.1 ho).keep_at fun j hj _ => hZo j (by have := SB.out; omega))
            obtain ⟨A5, q5, hv5, hr5, -, -⟩ := ho2.row
            simp only [Value.slice.injEq, true_and] at hv5
            obtain ⟨rfl, rfl⟩ := hv5
            have hzm : z.l ∈ X.map Clz.l := by rw [← hKX]; exact List.mem_map.2 ⟨z, hz, rfl⟩
            obtain ⟨y, hy, hyl⟩ := List.mem_map.1 hzm
            obtain ⟨hA3, hM3⟩ := HAL.out _ hb
            have hyL : y.Lies wr W.heap.size := by
              rw [← HX.out] at hy
              rcases List.mem_append.1 hy with h | h
              · exact hA3.each y h
              · exact hM3.each y h
            exact ⟨hr5, by rw [← hyl]; exact hyL.fits, by rw [← hyl]; exact hyL.len⟩, by omega⟩
          have HKX := Lib.hid hKX
          have HLEN : Hid (X.length = Ks.length) := hlen
          clear hown hKs hg6 hb hKl hKm hZo hZs hown2 hrow hKX hlen
          go_wp2
          refine bodyPost_ret (res_form r0 r1 _ rfl rfl) rfl ?_
          exact ⟨⟨Ks, A2, ⟨q2, by rw [HLEN.out]⟩, HAK.out, HKX.out⟩, HBF.out⟩
    · go_wp2_with fail
      refine CK.out.mono ?_
      rintro e w4 ⟨rfl, hb⟩
      have HB4 : Hid (Below WB.heap.size WB w4) := HB3.out.trans (hb.mono HB3.out.size)
      obtain ⟨Z1, Z2, u0, u1, ⟨e0, a0, b0⟩, ⟨e1, a1, b1⟩, hZ, -⟩ := store2 (HRB.out w4 HB4.out) rfl (.int .i64 0) (.slice none 0 0)
      have HBF : Hid (Below W.heap.size W Z2) := by
        have h1 := HBB.out.trans (HB4.out.mono HBB.out.size)
        unfold Hid
        rw [← e1, ← e0]
        exact (h1.setCell (by simp) _).setCell (by simp) _
      obtain ⟨r0, r1⟩ := cells2 hZ
      clear hb CK c0 c1
      go_wp2
      refine bodyPost_ret (res_form r0 r1 _ rfl rfl) rfl ?_
      exact ⟨⟨fun h => absurd h (by decide), fun _ => ⟨_, _, _, rfl⟩⟩, HBF.out⟩
end Go.Proofs.Ytefbknpoehmfaaa.For
