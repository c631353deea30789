/- interlockref10.less, Norm; condition: the list lies in memory. -/
import Derived.Test.YtefbknpoehmfaaaPt08
import Derived.Test.YtefbknpoehmfaaaPt04
import Derived.Test.YtefbknpoehmfaaaPt09
namespace Go.Proofs.Ytefbknpoehmfaaa.For
open Go.ChangeShapes Go.WideShapes Go.ChangeAt Go.RowKit Go.Maps Circ Cw Cla Rep

set_option maxRecDepth 100000 in
theorem less_any (x y : Int) (w : World) (hx : I64 x) (hy : I64 y) :
    Calls Try.prog 50 #[.int .i64 x, .int .i64 y] w fun e w' => e = .returned (.bool (decide (lt x y))) ∧ w = w' := by
  have AX := Lib.hid (fun w => abs_any x w hx)
  have AY := Lib.hid (fun w => abs_any y w hy)
  have HD : Hid (decide (lt x y) = (decide (absW x < absW y) || (decide (absW x = absW y) && decide (x < y)))) := by
    unfold Hid
    rw [Bool.eq_iff_iff, decide_eq_true_eq]
    unfold lt
    simp
  rw [HD.out]
  clear hx hy HD
  generalize absW x = a at *
  generalize absW y = b at *
  by_cases h1 : a < b
  · go_enter Try.func50, Try.ntmps50
    go_wp2_with fail
    refine (AX.out w).mono ?_
    rintro e w' ⟨rfl, rfl⟩
    go_wp2_with fail
    refine (AY.out w).mono ?_
    rintro e w' ⟨rfl, rfl⟩
    go_wp2
    go_ret
    exact ⟨by simp [h1], rfl⟩
  · by_cases h2 : a = b
    · have h2b : (a == b) = true := beq_iff_eq.2 h2
      have H2 := Lib.hid h2
      clear h2
      by_cases h3 : x < y
      · go_enter Try.func50, Try.ntmps50
        go_wp2_with fail
        refine (AX.out w).mono ?_
        rintro e w' ⟨rfl, rfl⟩
        go_wp2_with fail
        refine (AY.out w).mono ?_
        rintro e w' ⟨rfl, rfl⟩
        go_wp2_with fail
        refine (AX.out w).mono ?_
        rintro e w' ⟨rfl, rfl⟩
        go_wp2_with fail
        refine (AY.out w).mono ?_
        rintro e w' ⟨rfl, rfl⟩
        go_wp2
        go_ret
        exact ⟨by have h2 := H2.out; simp [h2, h3], rfl⟩
      · go_enter Try.func50, Try.ntmps50
        go_wp2_with fail
        refine (AX.out w).mono ?_
        rintro e w' ⟨rfl, rfl⟩
        go_wp2_with fail
        refine (AY.out w).mono ?_
        rintro e w' ⟨rfl, rfl⟩
        go_wp2_with fail
        refine (AX.out w).mono ?_
        rintro e w' ⟨rfl, rfl⟩
        go_wp2_with fail
        refine (AY.out w).mono ?_
        rintro e w' ⟨rfl, rfl⟩
        go_wp2
        go_ret
        exact ⟨by have h2 := H2.out; simp [h2], rfl⟩
    · have h2b : (a == b) = false := beq_eq_false_iff_ne.2 h2
      have H2 := Lib.hid h2
      clear h2
      go_enter Try.func50, Try.ntmps50
      go_wp2_with fail
      refine (AX.out w).mono ?_
      rintro e w' ⟨rfl, rfl⟩
      go_wp2_with fail
      refine (AY.out w).mono ?_
      rintro e w' ⟨rfl, rfl⟩
      go_wp2_with fail
      refine (AX.out w).mono ?_
      rintro e w' ⟨rfl, rfl⟩
      go_wp2_with fail
      refine (AY.out w).mono ?_
      rintro e w' ⟨rfl, rfl⟩
      go_wp2
      go_ret
      exact ⟨by have h2 := H2.out; simp [h2], rfl⟩
theorem lt_asymm {x y : Int} (h : lt x y) : ¬ lt y x := fun k => lt_irrefl _ (lt_trans h k)
theorem ins_mem (x : Int) : ∀ o : List Int, o.Pairwise lt → x ∈ o → insM x o = o
  | [], _, h => (List.not_mem_nil h).elim
  | y :: r, ho, h => by
    obtain ⟨h1, h2⟩ := List.pairwise_cons.1 ho
    unfold insM
    by_cases e : y = x
    · rw [if_pos e]
    · rw [if_neg e]
      have hx : x ∈ r := (List.mem_cons.1 h).resolve_left (fun e' => e e'.symm)
      rw [if_neg (lt_asymm (h1 x hx)), ins_mem x r h2 hx]
theorem ins_at (x : Int) : ∀ (o : List Int) (k : Nat), k ≤ o.length → (∀ y ∈ o.take k, lt y x) → (∀ y, o[k]? = some y → ¬ lt y x) → x ∉ o → insM x o = o.take k ++ [x] ++ o.drop k
  | [], k, _, _, _, _ => by simp [insM]
  | y :: r, 0, _, _, h2, h3 => by
    have hne : y ≠ x := fun e => h3 (by rw [e]; exact List.mem_cons_self)
    have hl := h2 y rfl
    unfold insM
    rw [if_neg hne, if_pos ((lt_total x y).resolve_right (fun h => h.elim (fun e => hne e.symm) hl))]
    rfl
  | y :: r, k + 1, hk, h1, h2, h3 => by
    have hne : y ≠ x := fun e => h3 (by rw [e]; exact List.mem_cons_self)
    have hl : lt y x := h1 y (by simp)
    unfold insM
    rw [if_neg hne, if_neg (lt_asymm hl), ins_at x r k (by simpa using hk) (fun z hz => h1 z (by rw [List.take_succ_cons]; exact List.mem_cons_of_mem _ hz)) (fun z hz => h2 z (by simpa using hz)) (fun h => h3 (List.mem_cons_of_mem _ h))]
    rfl
/-- one more number, put in its place -/
def stepN (o : List Int) (x : Int) : List Int := if x = 0 then o else insM x o
def upto (l : List Int) (k : Nat) : List Int := (l.take k).foldl stepN []
theorem upto_all (l : List Int) : upto l l.length = normM l := by unfold upto; rw [List.take_length]; rfl
theorem upto_next (l : List Int) (k : Nat) (h : k < l.length) : upto l (k + 1) = stepN (upto l k) l[k] := by
  unfold upto
  rw [List.take_succ_eq_append_getElem h, List.foldl_append]; rfl
theorem upto_sorted (l : List Int) (k : Nat) : (upto l k).Pairwise lt := fold_sorted (l.take k) [] List.Pairwise.nil
theorem upto_len (l : List Int) (k : Nat) : (upto l k).length ≤ k := by
  have := norm_len (l.take k)
  unfold upto
  exact Nat.le_trans this (by rw [List.length_take]; omega)
theorem upto_mem {l : List Int} {k : Nat} {z : Int} (h : z ∈ upto l k) : z ∈ l := by
  rcases (fold_mem (l.take k) [] z).1 h with h | h
  · exact (List.not_mem_nil h).elim
  · exact List.mem_of_mem_take h.1
/-- of two neighbours, is one the other's opposite, up to the k'th pair? -/
def adjB (o : List Int) (k : Nat) : Bool := (List.range k).any fun i => decide (o.getD i 0 = negW (o.getD (i + 1) 0))
theorem adj_next (o : List Int) (k : Nat) : adjB o (k + 1) = (adjB o k || decide (o.getD k 0 = negW (o.getD (k + 1) 0))) := by
  unfold adjB
  rw [List.range_succ, List.any_append]; simp
/-- where out[k:] lies -/
def tailA (A : Option Addr) (q k : Nat) : Option Addr := if q = k then A else A.map (·.add (k * 1))
theorem tail_row {w : World} {B : Nat} {A : Option Addr} {o : List Int} (h : LRow w B 1 A (ints o)) {q k : Nat} (hq : o.length ≤ q) : LRow w B 1 (tailA A q k) (ints (o.drop k)) := by
  by_cases he : o.drop k = []
  · rw [he]; exact .inl rfl
  · have hlt : k < o.length := by
      rcases Nat.lt_or_ge k o.length with h | h
      · exact h
      · exact absurd (List.drop_of_length_le h) he
    rcases h with h | ⟨b, of, rfl, hb, hc⟩
    · have : o.length = 0 := by have := congrArg List.length h; simpa [ints] using this
      omega
    · refine .inr ⟨b, of + k, ?_, hb, fun i ys hi j u hj => ?_⟩
      · unfold tailA
        rw [if_neg (by omega), Nat.mul_one]
        show some ((⟨b, of, none⟩ : Addr).add k) = _
        unfold Addr.add
        by_cases hz : k = 0 <;> simp [hz]
      · have := hc (k + i) ys (by unfold ints at hi ⊢; rw [List.getElem?_map] at hi ⊢; rw [List.getElem?_drop] at hi; exact hi) j u hj
        rw [show of + k + (i * 1 + j) = of + ((k + i) * 1 + j) by omega]
        exact this
theorem op_app (a : Act) (w w' : World) (t s : Nat) (v v' x : Value) (h1 : a.tmps.getD t undef = v) (h2 : a.tmps.getD s undef = x) (oo : Oper) (hr : ∀ ty, (Builtin.append_ #[25, 25] ty #[v, x]).run Try.prog w = .ok v' w') (ho : oo.op = .call { callee := .builtin .append, args := #[.tmp t, .tmp s], argTypes := #[25, 25] }) :
    (execOp a.eval oo).run Try.prog w = .ok (.value v') w' := by
  have hs : a.eval (.tmp t) = v := h1
  have hx : a.eval (.tmp s) = x := h2
  unfold execOp
  simp only [ho, resolve, invoke, builtin, Sem.run_bind, Sem.run_pure, Result.andThen_ok, List.map_toArray, List.map_cons, List.map_nil, hs, hx, hr]
theorem op_slice_one (a : Act) (w W1 : World) (x : Int) (i : Nat) (h1 : a.tmps.getD i undef = .int .i64 x) (hw : w.alloc (.cells #[.int .i64 x] 3) = W1) (oo : Oper) (ho : oo.op = .buildSlice 25 1 #[(0, .tmp i)]) : (execOp a.eval oo).run Try.prog w = .ok (.value (.slice (some ⟨w.heap.size, 0, none⟩) 1 1)) W1 := by
  have h1' : a.tmps[i]?.getD undef = .int .i64 x := by simpa using h1
  rw [← hw]
  unfold execOp
  rw [ho]
  go_simp
theorem op_slice_lo (a : Act) (w : World) (A : Option Addr) (n q k t s : Nat) (h1 : a.tmps.getD t undef = .slice A n q) (h2 : a.tmps.getD s undef = .int .i64 (k : Int)) (hk : k ≤ n) (hq : n ≤ q) (oo : Oper) (ho : oo.op = .slice 25 (.tmp t) (some (.tmp s)) none none) : (execOp a.eval oo).run Try.prog w = .ok (.value (.slice (tailA A q k) (n - k) (q - k))) w := by
  have h1' : a.tmps[t]?.getD undef = .slice A n q := by simpa using h1
  have h2' : a.tmps[s]?.getD undef = .int .i64 (k : Int) := by simpa using h2
  have k0 : (0 : Int) ≤ (k : Int) := by omega
  have k1 : (k : Int) ≤ (n : Int) := by omega
  have k2 : (n : Int) ≤ (q : Int) := by omega
  unfold tailA
  unfold execOp
  rw [ho]
  go_simp
theorem op_move (a : Act) (w : World) (t : Nat) (oo : Oper) (ho : oo.op = .move (.tmp t)) : (execOp a.eval oo).run Try.prog w = .ok (.value (a.tmps.getD t undef)) w := by
  unfold execOp
  rw [ho]
  go_simp
theorem op_assign (a : Act) (w : World) (t : Nat) (oo : Oper) (ho : oo.op = .assign (.tmp t)) : (execOp a.eval oo).run Try.prog w = .ok (.value (a.tmps.getD t undef)) w := by
  unfold execOp
  rw [ho]
  go_simp
/-- where a region of three writers (operations 2, 3, 7) stands -/
structure Put3 (W0 W1 W2 W3 : World) (d : Nat → Bool) (w : World) : Prop where
  c0 : d 2 = false → w = W0
  c1 : d 2 = true → d 3 = false → w = W1
  c2 : d 3 = true → d 7 = false → w = W2
  c3 : d 7 = true → w = W3
  o6 : d 3 = true → d 2 = true
  o9 : d 7 = true → d 3 = true
theorem Put3.start (W0 W1 W2 W3 : World) : Put3 W0 W1 W2 W3 (fun _ => false) W0 := ⟨fun _ => rfl, (fun h => by cases h), (fun h => by cases h), (fun h => by cases h), (fun h => by cases h), (fun h => by cases h)⟩
theorem Put3.read {W0 W1 W2 W3 : World} {d : Nat → Bool} {w : World} (h : Put3 W0 W1 W2 W3 d w) {i : Nat} (h3 : 2 ≠ i) (h6 : 3 ≠ i) (h9 : 7 ≠ i) : Put3 W0 W1 W2 W3 (fun j => decide (j = i) || d j) w := by
  obtain ⟨a, b, c, e, f, g⟩ := h
  constructor <;> simp only [h3, h6, h9, decide_false, Bool.false_or] <;> assumption
theorem Put3.first {W0 W1 W2 W3 : World} {d : Nat → Bool} {w : World} (_h : Put3 W0 W1 W2 W3 d w) (h6 : d 3 = false) (h9 : d 7 = false) : Put3 W0 W1 W2 W3 (fun j => decide (j = 2) || d j) W1 := by
  constructor <;> simp [h6, h9]
theorem Put3.second {W0 W1 W2 W3 : World} {d : Nat → Bool} {w : World} (_h : Put3 W0 W1 W2 W3 d w) (h3 : d 2 = true) (h9 : d 7 = false) : Put3 W0 W1 W2 W3 (fun j => decide (j = 3) || d j) W2 := by
  constructor <;> simp [h3, h9]
theorem Put3.third {W0 W1 W2 W3 : World} {d : Nat → Bool} {w : World} (h : Put3 W0 W1 W2 W3 d w) (h6 : d 3 = true) : Put3 W0 W1 W2 W3 (fun j => decide (j = 7) || d j) W3 := by
  constructor <;> simp [h6, h.o6 h6]
theorem ints_len (l : List Int) : (ints l).length = l.length := by unfold ints; simp
theorem ints_app (a b : List Int) : ints (a ++ b) = ints a ++ ints b := by unfold ints; simp
theorem ints_each (l : List Int) : ∀ y ∈ ints l, y.length = 1 := fun y hy => by
  obtain ⟨_, _, rfl⟩ := List.mem_map.1 hy; rfl
theorem ints_one (l : List Int) : ∀ y ∈ ints l, ∀ u ∈ y, u.oneCell' = true := fun y hy u hu => by
  obtain ⟨_, _, rfl⟩ := List.mem_map.1 hy
  simp only [List.mem_singleton] at hu
  subst hu; rfl
theorem info_int : (Try.prog.info? 3).map (fun i => (i.zero, i.size, i.bytes)) = some (some (.int .i64 0), 1, 8) := by kernel_rfl
/-- the three writers, one after the other -/
theorem put_runs (w : World) (B : Nat) (v : Value) (a t : List Int) (x : Int) (A : Option Addr) (q : Nat) (hown : OwnC w B 3 1 v (ints a)) (hr : LRow w B 1 A (ints t)) (hB : B ≤ w.heap.size) (hz : (a.length + 1 + t.length) * 8 ≤ 140737488355328) :
    ∃ v2 W2 v3 W3, (∀ ty, (Builtin.append_ #[25, 25] ty #[v, .slice (some ⟨w.heap.size, 0, none⟩) 1 1]).run Try.prog (w.alloc (.cells #[.int .i64 x] 3)) = .ok v2 W2) ∧ (∀ ty, (Builtin.append_ #[25, 25] ty #[v2, .slice A t.length q]).run Try.prog W2 = .ok v3 W3) ∧ Below B w W3 ∧ OwnC W3 B 3 1 v3 (ints (a ++ [x] ++ t)) := by
  have hal : Below w.heap.size w (w.alloc (.cells #[.int .i64 x] 3)) := (Below.refl _ _).alloc (Nat.le_refl _) _
  have hs1 : (w.alloc (.cells #[.int .i64 x] 3)).heap.size = w.heap.size + 1 := by simp
  have hone : LRow (w.alloc (.cells #[.int .i64 x] 3)) (w.heap.size + 1) 1 (some ⟨w.heap.size, 0, none⟩) (ints [x]) := .inr ⟨w.heap.size, 0, rfl, Nat.lt_succ_self _, fun i ys hi j u hj => by
    match i, hi with
    | 0, hi =>
      obtain rfl : [Value.int .i64 x] = ys := by simpa [ints] using hi
      match j, hj with
      | 0, hj =>
        obtain rfl : Value.int .i64 x = u := by simpa using hj
        rw [World.cell?_alloc_new]; rfl⟩
  obtain ⟨v2, W2, a1, o1, g1, k1⟩ := run_append_row (w.alloc (.cells #[.int .i64 x] 3)) B _ 25 3 25 1 8 (.int .i64 0) Try.underlying25 info_int rfl (by decide) v (ints a) (ints [x]) (hown.keep hal) _ 1 hone (ints_each _) (ints_one _) (by rw [ints_len, ints_len]; simp; omega) (by rw [ints_len, ints_len]; simp; omega) (by omega)
  have hrow2 : LRow W2 W2.heap.size 1 A (ints t) := by
    rcases hr with h | ⟨b, o, rfl, hb, hc⟩
    · exact .inl h
    · refine .inr ⟨b, o, rfl, by have := g1.size; omega, fun i ys hi j u hj => ?_⟩
      have h0 := hc i ys hi j u hj
      have h1 : W2.heap[b]? = w.heap[b]? := (k1 b (by omega) (fun e => by have := (hown.block_lt b e.symm).1; omega)).trans (hal.block b (by omega))
      unfold World.cell? at h0 ⊢
      simp only [h1]
      exact h0
  obtain ⟨v3, W3, a2, o2, g2, k2⟩ := run_append_row W2 B _ 25 3 25 1 8 (.int .i64 0) Try.underlying25 info_int rfl (by decide) v2 _ (ints t) o1 A q hrow2 (ints_each _) (ints_one _) (by rw [List.length_append, ints_len, ints_len, ints_len]; simp; omega) (by rw [List.length_append, ints_len, ints_len, ints_len]; simp; omega) (by have := g1.size; omega)
  rw [ints_len] at a2
  refine ⟨v2, W2, v3, W3, fun ty => a1, fun ty => a2, ((hal.mono hB).trans g1).trans g2, ?_⟩
  rw [ints_app, ints_app]
  exact o2
/-- what operation j of the region leaves -/
def putR (Ao : Option Addr) (n qo m G : Nat) (x : Int) (v7 v2 v3 : Value) : Nat → (Nat → Value) → World → Prop
  | 0, f, _ => f 49 = v7
  | 1, f, _ => f 50 = .int .i64 x
  | 2, f, _ => f 51 = .slice (some ⟨G, 0, none⟩) 1 1
  | 3, f, _ => f 52 = v2
  | 4, f, _ => f 53 = .slice Ao n qo
  | 5, f, _ => f 54 = .int .i64 (m : Int)
  | 6, f, _ => f 55 = .slice (tailA Ao qo m) (n - m) (qo - m)
  | 7, f, _ => f 56 = v3
  | 8, f, _ => f 4 = v3
  | _, _, _ => True
def putM : Nat → List Nat
  | 0 => [49]
  | 1 => [50]
  | 2 => [51]
  | 3 => [52]
  | 4 => [53]
  | 5 => [54]
  | 6 => [55]
  | 7 => [56]
  | 8 => [4]
  | _ => []
theorem put_stab {Ao : Option Addr} {n qo m G : Nat} {x : Int} {v7 v2 v3 : Value} (jj : Nat) {f f' : Nat → Value} {w w' : World}  (hf : ∀ t ∈ putM jj, f' t = f t) (h : putR Ao n qo m G x v7 v2 v3 jj f w) : putR Ao n qo m G x v7 v2 v3 jj f' w' := by
  match jj, hf, h with
  | 0, hf, h => exact (hf 49 (by decide)).trans h
  | 1, hf, h => exact (hf 50 (by decide)).trans h
  | 2, hf, h => exact (hf 51 (by decide)).trans h
  | 3, hf, h => exact (hf 52 (by decide)).trans h
  | 4, hf, h => exact (hf 53 (by decide)).trans h
  | 5, hf, h => exact (hf 54 (by decide)).trans h
  | 6, hf, h => exact (hf 55 (by decide)).trans h
  | 7, hf, h => exact (hf 56 (by decide)).trans h
  | 8, hf, h => exact (hf 4 (by decide)).trans h
  | _ + 9, _, _ => trivial
set_option maxHeartbeats 16000000 in
set_option maxRecDepth 100000 in
theorem norm_any (l : List Int) (A : Option Addr) (q : Nat) (w : World) (hl : ILies w w.heap.size A l) (hn : l.length * 8 ≤ 140737488355328) :
    Calls Try.prog 35 #[.slice A l.length q] w fun e w' => (∃ A' q', e = .returned (.tuple #[.slice A' (normM l).length q', .bool (adjB (normM l) ((normM l).length - 1))]) ∧ ILies w' w'.heap.size A' (normM l)) ∧ Below w.heap.size w w' := by
  have HL := Lib.hid hl
  have HN := Lib.hid hn
  have hll := hl.len
  clear hl hn
  go_enter Try.func35, Try.ntmps35
  go_wp2
  go_loopw [5, 4] (fun i v wr => ∃ (k : Nat) (o : List Int) (Ao : Option Addr) (qo : Nat), k ≤ l.length ∧ i = .int .i64 k ∧ v = .slice Ao o.length qo ∧ o = upto l k ∧ LRow wr wr.heap.size 1 Ao (ints o) ∧ o.length ≤ qo ∧ qo ≤ 9223372036854775807 ∧ Below w.heap.size w wr) (fun i _ _ => l.length - (intOf i).toNat)
  case atStart => exact ⟨0, [], none, 0, Nat.zero_le _, rfl, rfl, rfl, .inl rfl, by decide, by decide, Below.refl _ _⟩
  case round =>
    obtain ⟨k, o, Ao, qo, hk, rfl, rfl, ho, hrow, hqo, hq9, hb⟩ := hrel
    obtain ⟨wo, rfl⟩ : ∃ y, y = wr := ⟨_, rfl⟩
    have HO := Lib.hid ho
    have HRW := Lib.hid hrow
    have HQO := Lib.hid hqo
    have HQ9 := Lib.hid hq9
    have BO := Lib.hid hb
    have HOL : Hid (o.length ≤ k) := by unfold Hid; rw [ho]; exact upto_len l k
    have HOF : Hid (∀ y ∈ o, I64 y) := fun y hy => HL.out.fits y (upto_mem (by rw [← HO.out]; exact hy))
    clear ho hrow hqo hq9 hb
    by_cases hlt : k < l.length
    · obtain ⟨b, ox, hA, -, hc⟩ := LRow.int (HL.out.below BO.out).row hlt
      have HNX : Hid (upto l (k + 1) = stepN o l[k]) := by unfold Hid; rw [upto_next l k hlt, HO.out]
      have HX := Lib.hid (HL.out.fits _ (List.getElem_mem hlt))
      have HAS := Lib.hid (has_any o Ao qo l[k] wo (Nat.le_trans HQO.out HQ9.out) HRW.out)
      rw [has_is] at HAS
      have HLL : Hid (k < l.length) := hlt
      have HZ : Hid (∀ h : I64 l[k], True) := fun _ => trivial
      clear HZ
      subst hA
      have hkz : (k : Int) < (l.length : Int) := by omega
      generalize l[k] = x at *
      by_cases hx0 : x = 0
      · have hb0 : (x == 0) = true := beq_iff_eq.2 hx0
        have HE : Hid (o = upto l (k + 1)) := by unfold Hid; rw [HNX.out]; unfold stepN; rw [if_pos hx0]
        clear hx0
        go_wp2
        go_roundw
        case rel => exact ⟨k + 1, o, Ao, qo, by omega, by go_num, rfl, HE.out, HRW.out, HQO.out, HQ9.out, BO.out⟩
        case measure => simp [intOf]; omega
      · have hb0 : (x == 0) = false := beq_eq_false_iff_ne.2 hx0
        have HX0 := Lib.hid hx0
        clear hx0
        cases hc2 : o.contains x with
        | true =>
          rw [hc2] at HAS
          have HE : Hid (o = upto l (k + 1)) := by
            unfold Hid; rw [HNX.out]; unfold stepN
            rw [if_neg HX0.out, ins_mem x o (by rw [HO.out]; exact upto_sorted l k) (List.contains_iff_mem.1 hc2)]
          clear hc2
          go_wp2_with fail
          refine HAS.out.mono ?_
          rintro e w' ⟨rfl, rfl⟩
          go_wp2
          go_roundw
          case rel => exact ⟨k + 1, o, Ao, qo, by omega, by go_num, rfl, HE.out, HRW.out, HQO.out, HQ9.out, BO.out⟩
          case measure => simp [intOf]; omega
        | false =>
          rw [hc2] at HAS
          have HNI : Hid (x ∉ o) := fun h => by rw [List.contains_iff_mem.2 h] at hc2; cases hc2
          replace HNX : Hid (upto l (k + 1) = insM x o) := by unfold Hid; rw [HNX.out]; unfold stepN; rw [if_neg HX0.out]
          clear hc2
          go_wp2_with fail
          refine HAS.out.mono ?_
          rintro e w' ⟨rfl, rfl⟩
          clear HAS hc
          go_wp2
          go_loopw [8, 7] (fun i v wr => ∃ (m : Nat) (vv : Value), m ≤ o.length ∧ i = .int .i64 m ∧ vv = v ∧ (∀ y ∈ o.take m, lt y x) ∧ OwnC wr wo.heap.size 3 1 vv (ints (o.take m)) ∧ Below wo.heap.size wo wr) (fun i _ _ => o.length - (intOf i).toNat)
          case atStart => exact ⟨0, _, Nat.zero_le _, rfl, rfl, fun y hy => (List.not_mem_nil hy).elim, OwnC.nil _ _ _ _, Below.refl _ _⟩
          case round =>
            obtain ⟨m, v7, hm, rfl, rfl, htk, how, hb2⟩ := hrel
            have hol : o.length ≤ 9223372036854775807 := Nat.le_trans HQO.out HQ9.out
            have HTK := Lib.hid htk
            have HO2 := Lib.hid how
            have B2 := Lib.hid hb2
            clear htk how hb2
            by_cases hmo : m < o.length
            · obtain ⟨b2, o2, hA2, -, hc2⟩ := LRow.int (HRW.out.below B2.out) hmo
              have LE := Lib.hid (less_any o[m] x wr (HOF.out _ (List.getElem_mem hmo)) HX.out)
              have hmz : (m : Int) < (o.length : Int) := by omega
              have HMM : Hid (o[m]? = some o[m]) := List.getElem?_eq_getElem hmo
              have HTN : Hid (o.take (m + 1) = o.take m ++ [o[m]]) := List.take_succ_eq_append_getElem hmo
              subst hA2
              by_cases hlx : lt o[m] x
              · rw [decide_eq_true hlx] at LE
                have HLX := Lib.hid hlx
                clear hlx
                generalize o[m] = y at *
                go_wp2_with fail
                refine LE.out.mono ?_
                rintro e w' ⟨rfl, rfl⟩
                have hal : Below wr.heap.size wr (wr.alloc (.cells #[.int .i64 y] 3)) := (Below.refl _ _).alloc (Nat.le_refl _) _
                have O6 := Lib.hid (HO2.out.keep hal)
                have B6 : Hid (Below wo.heap.size wo (wr.alloc (.cells #[.int .i64 y] 3))) := B2.out.trans (hal.mono B2.out.size)
                have HC : Hid (∀ (i : Nat) u, [Value.int .i64 y][i]? = some u → (wr.alloc (.cells #[.int .i64 y] 3)).cell? ⟨wr.heap.size, i, none⟩ = some u) := fun i u hu => by
                  rw [Lib.cell_of_heap (show (wr.alloc (.cells #[.int .i64 y] 3)).heap[wr.heap.size]? = some (.cells #[.int .i64 y] 3 (0, 0)) from Array.getElem?_push_size)]; simpa using hu
                have HONE : Hid (∀ u ∈ [Value.int .i64 y], u.oneCell' = true) := fun u hu => by
                  simp only [List.mem_singleton] at hu
                  subst hu; rfl
                have HLN : Hid ((ints (o.take m)).length = m) := by unfold Hid; rw [ints_len, List.length_take]; omega
                clear hal LE
                go_wp2_with (at_builtin; refine wpList_push _ rfl (.tmp 40) (.tmp 45) 25 rfl 3 1 8 (.int .i64 0) Try.underlying25 info_int rfl (by decide) wo.heap.size v7 _ O6.out rfl wr.heap.size 1 rfl [.int .i64 y] HC.out rfl HONE.out (by have h1 := HLN.out; have h2 := HOL.out; have h3 := HN.out; omega) (by have h1 := HLN.out; have h2 := HOL.out; have h3 := HN.out; omega) B6.out.size ?_)
                intro v2 w6 hown hbel _
                have HO7 : Hid (OwnC w6 wo.heap.size 3 1 v2 (ints (o.take (m + 1)))) := by unfold Hid; rw [HTN.out, ints_app]; exact hown
                have B7 : Hid (Below wo.heap.size wo w6) := B6.out.trans hbel
                have HT7 : Hid (∀ z ∈ o.take (m + 1), lt z x) := fun z hz => by
                  rw [HTN.out] at hz
                  rcases List.mem_append.1 hz with hz | hz
                  · exact HTK.out z hz
                  · rw [List.mem_singleton.1 hz]; exact HLX.out
                clear hown hbel O6 B6 HC HONE
                go_wp2
                go_roundw
                case rel => exact ⟨m + 1, _, by omega, by go_num, rfl, HT7.out, HO7.out, B7.out⟩
                case measure => simp [intOf]; omega
              · rw [decide_eq_false hlx] at LE
                have HST : Hid (∀ y, o[m]? = some y → ¬ lt y x) := fun y hy => by rw [HMM.out] at hy; cases hy; exact hlx
                clear hlx HMM HTN
                generalize o[m] = y at *
                go_wp2_with fail
                refine LE.out.mono ?_
                rintro e w' ⟨rfl, rfl⟩
                clear LE hc2
                obtain ⟨wq, rfl⟩ : ∃ y, y = wr := ⟨_, rfl⟩
                have HMO : Hid (m ≤ o.length) := by unfold Hid; omega
                have HIN : Hid (insM x o = o.take m ++ [x] ++ o.drop m) := ins_at x o m HMO.out HTK.out HST.out HNI.out
                have HTR := Lib.hid (tail_row (k := m) (HRW.out.below B2.out) HQO.out)
                obtain ⟨W1, hW1⟩ : ∃ y, wq.drew.alloc (.cells #[.int .i64 x] 3) = y := ⟨_, rfl⟩
                obtain ⟨v2, W2, v3, W3, a1, a2, b3, o3⟩ := put_runs wq.drew wo.heap.size v7 (o.take m) (o.drop m) x (tailA (some ⟨b2, o2, none⟩) qo m) (qo - m) (HO2.out.keep (Below.refl _ _).drew) (HTR.out.below (Below.refl _ _).drew) B2.out.size (by have h1 := HMO.out; have h2 := HOL.out; have h3 := HN.out; rw [List.length_take, List.length_drop, Nat.min_eq_left h1]; omega)
                rw [List.length_drop] at a2
                rw [hW1] at a1
                have HR2 := Lib.hid a1
                have HR3 := Lib.hid a2
                have HW1 := Lib.hid hW1
                have HO3 := Lib.hid o3
                have B3 : Hid (Below wo.heap.size wo W3) := B2.out.trans ((Below.refl _ _).drew.trans b3)
                clear a1 a2 hW1 o3 b3 HTR HO2
                go_wp2
                refine wp_region_valsE (by kernel_rfl) (by kernel_rfl) putM (by kernel_rfl) (by kernel_rfl)
                  (Put3 wq.drew W1 W2 W3) (putR (some ⟨b2, o2, none⟩) o.length qo m wq.heap.size x v7 v2 v3) (Put3.start _ _ _ _) (fun jj f f' w w' hb hf h => put_stab jj  hf h) ?_ ?_
                · intro i oo d a' w' ho hd hun hdf hok hDE K hK hK0
                  match i, ho, hd, hDE, hK, hK0, hun with
                  | 0, ho, hd, hDE, hK, hK0, hun =>
                    have e := (congrArg Oper.op (Option.some.inj ho)).symm
                    obtain rfl := Option.some.inj ho
                    exact wp_val (op_move a' w' 7 _ e) (hK _ _ (Below.refl _ _) (hok.read (by decide) (by decide) (by decide)) (fun f h1 _ => (h1 _ rfl).trans (hun 7 (by kernel_rfl))))
                  | 1, ho, hd, hDE, hK, hK0, hun =>
                    have e := (congrArg Oper.op (Option.some.inj ho)).symm
                    obtain rfl := Option.some.inj ho
                    exact wp_val (op_move a' w' 6 _ e) (hK _ _ (Below.refl _ _) (hok.read (by decide) (by decide) (by decide)) (fun f h1 _ => (h1 _ rfl).trans (hun 6 (by kernel_rfl))))
                  | 2, ho, hd, hDE, hK, hK0, hun =>
                    have e := (congrArg Oper.op (Option.some.inj ho)).symm
                    obtain rfl := Option.some.inj ho
                    have hw' := hok.c0 (hd 2 (by kernel_rfl))
                    rw [hw']
                    exact wp_val (op_slice_one a' wq.drew W1 x 50 (hDE 1 (by kernel_rfl)).2 HW1.out _ e) (hK0 _ _ (hok.first (hd 3 (by kernel_rfl)) (hd 7 (by kernel_rfl))) (fun f h1 _ => h1 _ rfl) (fun j f hj hf hq => put_stab j hf hq))
                  | 3, ho, hd, hDE, hK, hK0, hun =>
                    have e := (congrArg Oper.op (Option.some.inj ho)).symm
                    obtain rfl := Option.some.inj ho
                    have hw' := hok.c1 (hDE 2 (by kernel_rfl)).1 (hd 3 (by kernel_rfl))
                    rw [hw']
                    exact wp_val (op_app a' _ _ 49 51 _ _ _ (hDE 0 (by kernel_rfl)).2 (hDE 2 (by kernel_rfl)).2 _ HR2.out e) (hK0 _ _ (hok.second (hDE 2 (by kernel_rfl)).1 (hd 7 (by kernel_rfl))) (fun f h1 _ => h1 _ rfl) (fun j f hj hf hq => put_stab j hf hq))
                  | 4, ho, hd, hDE, hK, hK0, hun =>
                    have e := (congrArg Oper.op (Option.some.inj ho)).symm
                    obtain rfl := Option.some.inj ho
                    exact wp_val (op_move a' w' 4 _ e) (hK _ _ (Below.refl _ _) (hok.read (by decide) (by decide) (by decide)) (fun f h1 _ => (h1 _ rfl).trans (hun 4 (by kernel_rfl))))
                  | 5, ho, hd, hDE, hK, hK0, hun =>
                    have e := (congrArg Oper.op (Option.some.inj ho)).symm
                    obtain rfl := Option.some.inj ho
                    exact wp_val (op_move a' w' 8 _ e) (hK _ _ (Below.refl _ _) (hok.read (by decide) (by decide) (by decide)) (fun f h1 _ => (h1 _ rfl).trans (hun 8 (by kernel_rfl))))
                  | 6, ho, hd, hDE, hK, hK0, hun =>
                    have e := (congrArg Oper.op (Option.some.inj ho)).symm
                    obtain rfl := Option.some.inj ho
                    exact wp_val (op_slice_lo a' w' _ _ _ _ 53 54 (hDE 4 (by kernel_rfl)).2 (hDE 5 (by kernel_rfl)).2 HMO.out HQO.out _ e) (hK _ _ (Below.refl _ _) (hok.read (by decide) (by decide) (by decide)) (fun f h1 _ => h1 _ rfl))
                  | 7, ho, hd, hDE, hK, hK0, hun =>
                    have e := (congrArg Oper.op (Option.some.inj ho)).symm
                    obtain rfl := Option.some.inj ho
                    have hw' := hok.c2 (hDE 3 (by kernel_rfl)).1 (hd 7 (by kernel_rfl))
                    rw [hw']
                    exact wp_val (op_app a' _ _ 52 55 _ _ _ (hDE 3 (by kernel_rfl)).2 (hDE 6 (by kernel_rfl)).2 _ HR3.out e) (hK0 _ _ (hok.third (hDE 3 (by kernel_rfl)).1) (fun f h1 _ => h1 _ rfl) (fun j f hj hf hq => put_stab j hf hq))
                  | 8, ho, hd, hDE, hK, hK0, hun =>
                    have e := (congrArg Oper.op (Option.some.inj ho)).symm
                    obtain rfl := Option.some.inj ho
                    exact wp_val (op_assign a' w' 56 _ e) (hK _ _ (Below.refl _ _) (hok.read (by decide) (by decide) (by decide)) (fun f h1 _ => (h1 _ rfl).trans (hDE 7 (by kernel_rfl)).2))
                  | i + 9, ho, _, _, _, _, _ => exact absurd ho (by simp)
                · intro a' w3 hsz hdf hkt hok hR
                  have HF3 := frame_sets [4, 49, 50, 51, 52, 53, 54, 55, 56] (by kernel_rfl) hsz hkt
                  obtain ⟨d, hok, hall⟩ := hok
                  have h4 : a'.tmps.getD 4 undef = v3 := (hR 8 (by decide))
                  have hw3 := hok.c3 (hall 7 (by decide))
                  subst hw3
                  clear hok hall
                  obtain ⟨tm, df⟩ := a'
                  obtain rfl : df = _ := hdf
                  simp only [List.foldl_cons, List.foldl_nil] at HF3
                  clear hkt hR hsz
                  replace h4 : tm.getD 4 undef = _ := h4
                  rw [h4] at HF3
                  clear h4
                  generalize tm.getD 49 undef = y49 at HF3
                  generalize tm.getD 50 undef = y50 at HF3
                  generalize tm.getD 51 undef = y51 at HF3
                  generalize tm.getD 52 undef = y52 at HF3
                  generalize tm.getD 53 undef = y53 at HF3
                  generalize tm.getD 54 undef = y54 at HF3
                  generalize tm.getD 55 undef = y55 at HF3
                  generalize tm.getD 56 undef = y56 at HF3
                  simp only [List.setIfInBounds_toArray, List.set_cons_succ, List.set_cons_zero] at HF3
                  subst HF3
                  clear HR2 HR3 HW1
                  obtain ⟨A9, q9, hv9, r9, c9, d9⟩ := HO3.out.row (by decide) (ints_each _)
                  rw [ints_len, ← HIN.out] at hv9
                  rw [← HIN.out] at r9
                  rw [ints_len, ← HIN.out] at c9
                  have HR9 := Lib.hid r9
                  have HC9 : Hid ((insM x o).length ≤ q9 ∧ q9 ≤ 9223372036854775807) := ⟨c9, d9⟩
                  have HBF : Hid (Below w.heap.size w w3) := BO.out.trans (B3.out.mono BO.out.size)
                  clear r9 c9 d9 HO3 B3 HIN HMO
                  subst hv9
                  go_wp2
                  go_roundw
                  case rel => exact ⟨k + 1, _, A9, q9, by omega, by go_num, rfl, HNX.out.symm, HR9.out, HC9.out.1, HC9.out.2, HBF.out⟩
                  case measure => simp [intOf]; omega
            · have HST : Hid (∀ y, o[m]? = some y → ¬ lt y x) := fun y hy => by rw [List.getElem?_eq_none (by omega)] at hy; cases hy
              have hme : ¬ (m : Int) < (o.length : Int) := by omega
              go_wp2
              obtain ⟨wq, rfl⟩ : ∃ y, y = wr := ⟨_, rfl⟩
              have HMO : Hid (m ≤ o.length) := by unfold Hid; omega
              have HIN : Hid (insM x o = o.take m ++ [x] ++ o.drop m) := ins_at x o m HMO.out HTK.out HST.out HNI.out
              have HTR := Lib.hid (tail_row (k := m) (HRW.out.below B2.out) HQO.out)
              obtain ⟨W1, hW1⟩ : ∃ y, wq.drew.alloc (.cells #[.int .i64 x] 3) = y := ⟨_, rfl⟩
              obtain ⟨v2, W2, v3, W3, a1, a2, b3, o3⟩ := put_runs wq.drew wo.heap.size v7 (o.take m) (o.drop m) x (tailA Ao qo m) (qo - m) (HO2.out.keep (Below.refl _ _).drew) (HTR.out.below (Below.refl _ _).drew) B2.out.size (by have h1 := HMO.out; have h2 := HOL.out; have h3 := HN.out; rw [List.length_take, List.length_drop, Nat.min_eq_left h1]; omega)
              rw [List.length_drop] at a2
              rw [hW1] at a1
              have HR2 := Lib.hid a1
              have HR3 := Lib.hid a2
              have HW1 := Lib.hid hW1
              have HO3 := Lib.hid o3
              have B3 : Hid (Below wo.heap.size wo W3) := B2.out.trans ((Below.refl _ _).drew.trans b3)
              clear a1 a2 hW1 o3 b3 HTR HO2
              go_wp2
              refine wp_region_valsE (by kernel_rfl) (by kernel_rfl) putM (by kernel_rfl) (by kernel_rfl)
                (Put3 wq.drew W1 W2 W3) (putR Ao o.length qo m wq.heap.size x v7 v2 v3) (Put3.start _ _ _ _) (fun jj f f' w w' hb hf h => put_stab jj  hf h) ?_ ?_
              · intro i oo d a' w' ho hd hun hdf hok hDE K hK hK0
                match i, ho, hd, hDE, hK, hK0, hun with
                | 0, ho, hd, hDE, hK, hK0, hun =>
                  have e := (congrArg Oper.op (Option.some.inj ho)).symm
                  obtain rfl := Option.some.inj ho
                  exact wp_val (op_move a' w' 7 _ e) (hK _ _ (Below.refl _ _) (hok.read (by decide) (by decide) (by decide)) (fun f h1 _ => (h1 _ rfl).trans (hun 7 (by kernel_rfl))))
                | 1, ho, hd, hDE, hK, hK0, hun =>
                  have e := (congrArg Oper.op (Option.some.inj ho)).symm
                  obtain rfl := Option.some.inj ho
                  exact wp_val (op_move a' w' 6 _ e) (hK _ _ (Below.refl _ _) (hok.read (by decide) (by decide) (by decide)) (fun f h1 _ => (h1 _ rfl).trans (hun 6 (by kernel_rfl))))
                | 2, ho, hd, hDE, hK, hK0, hun =>
                  have e := (congrArg Oper.op (Option.some.inj ho)).symm
                  obtain rfl := Option.some.inj ho
                  have hw' := hok.c0 (hd 2 (by kernel_rfl))
                  rw [hw']
                  exact wp_val (op_slice_one a' wq.drew W1 x 50 (hDE 1 (by kernel_rfl)).2 HW1.out _ e) (hK0 _ _ (hok.first (hd 3 (by kernel_rfl)) (hd 7 (by kernel_rfl))) (fun f h1 _ => h1 _ rfl) (fun j f hj hf hq => put_stab j hf hq))
                | 3, ho, hd, hDE, hK, hK0, hun =>
                  have e := (congrArg Oper.op (Option.some.inj ho)).symm
                  obtain rfl := Option.some.inj ho
                  have hw' := hok.c1 (hDE 2 (by kernel_rfl)).1 (hd 3 (by kernel_rfl))
                  rw [hw']
                  exact wp_val (op_app a' _ _ 49 51 _ _ _ (hDE 0 (by kernel_rfl)).2 (hDE 2 (by kernel_rfl)).2 _ HR2.out e) (hK0 _ _ (hok.second (hDE 2 (by kernel_rfl)).1 (hd 7 (by kernel_rfl))) (fun f h1 _ => h1 _ rfl) (fun j f hj hf hq => put_stab j hf hq))
                | 4, ho, hd, hDE, hK, hK0, hun =>
                  have e := (congrArg Oper.op (Option.some.inj ho)).symm
                  obtain rfl := Option.some.inj ho
                  exact wp_val (op_move a' w' 4 _ e) (hK _ _ (Below.refl _ _) (hok.read (by decide) (by decide) (by decide)) (fun f h1 _ => (h1 _ rfl).trans (hun 4 (by kernel_rfl))))
                | 5, ho, hd, hDE, hK, hK0, hun =>
                  have e := (congrArg Oper.op (Option.some.inj ho)).symm
                  obtain rfl := Option.some.inj ho
                  exact wp_val (op_move a' w' 8 _ e) (hK _ _ (Below.refl _ _) (hok.read (by decide) (by decide) (by decide)) (fun f h1 _ => (h1 _ rfl).trans (hun 8 (by kernel_rfl))))
                | 6, ho, hd, hDE, hK, hK0, hun =>
                  have e := (congrArg Oper.op (Option.some.inj ho)).symm
                  obtain rfl := Option.some.inj ho
                  exact wp_val (op_slice_lo a' w' _ _ _ _ 53 54 (hDE 4 (by kernel_rfl)).2 (hDE 5 (by kernel_rfl)).2 HMO.out HQO.out _ e) (hK _ _ (Below.refl _ _) (hok.read (by decide) (by decide) (by decide)) (fun f h1 _ => h1 _ rfl))
                | 7, ho, hd, hDE, hK, hK0, hun =>
                  have e := (congrArg Oper.op (Option.some.inj ho)).symm
                  obtain rfl := Option.some.inj ho
                  have hw' := hok.c2 (hDE 3 (by kernel_rfl)).1 (hd 7 (by kernel_rfl))
                  rw [hw']
                  exact wp_val (op_app a' _ _ 52 55 _ _ _ (hDE 3 (by kernel_rfl)).2 (hDE 6 (by kernel_rfl)).2 _ HR3.out e) (hK0 _ _ (hok.third (hDE 3 (by kernel_rfl)).1) (fun f h1 _ => h1 _ rfl) (fun j f hj hf hq => put_stab j hf hq))
                | 8, ho, hd, hDE, hK, hK0, hun =>
                  have e := (congrArg Oper.op (Option.some.inj ho)).symm
                  obtain rfl := Option.some.inj ho
                  exact wp_val (op_assign a' w' 56 _ e) (hK _ _ (Below.refl _ _) (hok.read (by decide) (by decide) (by decide)) (fun f h1 _ => (h1 _ rfl).trans (hDE 7 (by kernel_rfl)).2))
                | i + 9, ho, _, _, _, _, _ => exact absurd ho (by simp)
              · intro a' w3 hsz hdf hkt hok hR
                have HF3 := frame_sets [4, 49, 50, 51, 52, 53, 54, 55, 56] (by kernel_rfl) hsz hkt
                obtain ⟨d, hok, hall⟩ := hok
                have h4 : a'.tmps.getD 4 undef = v3 := (hR 8 (by decide))
                have hw3 := hok.c3 (hall 7 (by decide))
                subst hw3
                clear hok hall
                obtain ⟨tm, df⟩ := a'
                obtain rfl : df = _ := hdf
                simp only [List.foldl_cons, List.foldl_nil] at HF3
                clear hkt hR hsz
                replace h4 : tm.getD 4 undef = _ := h4
                rw [h4] at HF3
                clear h4
                generalize tm.getD 49 undef = y49 at HF3
                generalize tm.getD 50 undef = y50 at HF3
                generalize tm.getD 51 undef = y51 at HF3
                generalize tm.getD 52 undef = y52 at HF3
                generalize tm.getD 53 undef = y53 at HF3
                generalize tm.getD 54 undef = y54 at HF3
                generalize tm.getD 55 undef = y55 at HF3
                generalize tm.getD 56 undef = y56 at HF3
                simp only [List.setIfInBounds_toArray, List.set_cons_succ, List.set_cons_zero] at HF3
                subst HF3
                clear HR2 HR3 HW1
                obtain ⟨A9, q9, hv9, r9, c9, d9⟩ := HO3.out.row (by decide) (ints_each _)
                rw [ints_len, ← HIN.out] at hv9
                rw [← HIN.out] at r9
                rw [ints_len, ← HIN.out] at c9
                have HR9 := Lib.hid r9
                have HC9 : Hid ((insM x o).length ≤ q9 ∧ q9 ≤ 9223372036854775807) := ⟨c9, d9⟩
                have HBF : Hid (Below w.heap.size w w3) := BO.out.trans (B3.out.mono BO.out.size)
                clear r9 c9 d9 HO3 B3 HIN HMO
                subst hv9
                go_wp2
                go_roundw
                case rel => exact ⟨k + 1, _, A9, q9, by omega, by go_num, rfl, HNX.out.symm, HR9.out, HC9.out.1, HC9.out.2, HBF.out⟩
                case measure => simp [intOf]; omega
    · obtain rfl : k = l.length := by omega
      have HON : Hid (o = normM l) := by unfold Hid; rw [HO.out, upto_all]
      go_wp2
      go_loopw [10, 9] (fun i v wr => ∃ j : Nat, i = .int .i64 ((j : Int) + 1) ∧ v = .bool (adjB o j) ∧ (j + 1 ≤ o.length ∨ j = 0) ∧ Below wo.heap.size wo wr) (fun i _ _ => o.length - (intOf i).toNat)
      case atStart => exact ⟨0, rfl, rfl, .inr rfl, Below.refl _ _⟩
      case round =>
        obtain ⟨j, rfl, rfl, hj, hb2⟩ := hrel
        have hol : o.length ≤ 9223372036854775807 := Nat.le_trans HQO.out HQ9.out
        have B2 := Lib.hid hb2
        clear hb2
        by_cases hjo : j + 1 < o.length
        · obtain ⟨b2, o2, hA2, -, hc2⟩ := LRow.int (HRW.out.below B2.out) (k := j) (by omega)
          obtain ⟨b3, o3, hA3, -, hc3⟩ := LRow.int (HRW.out.below B2.out) hjo
          subst hA2
          obtain ⟨rfl, rfl⟩ : b2 = b3 ∧ o2 = o3 := by simp only [Option.some.injEq, Addr.mk.injEq] at hA3; exact ⟨hA3.1, hA3.2.1⟩
          clear hA3
          have HNEG := Lib.hid (neg_is (HOF.out _ (List.getElem_mem hjo)))
          have HAD : Hid (adjB o (j + 1) = (adjB o j || (o[j] == negW o[j + 1]))) := by
            unfold Hid
            rw [adj_next, List.getD_eq_getElem?_getD, List.getD_eq_getElem?_getD, List.getElem?_eq_getElem (by omega), List.getElem?_eq_getElem hjo]; rfl
          have j0 : (0 : Int) ≤ (j : Int) := by omega
          have j1 : (j : Int) < (o.length : Int) := by omega
          have j2 : (0 : Int) ≤ (j : Int) + 1 := by omega
          have j3 : (j : Int) + 1 < (o.length : Int) := by omega
          have hc3' : wr.cell? ⟨b2, o2 + (j + 1), none⟩ = some (.int .i64 o[j + 1]) := hc3
          have ut0 := Wd.cell hc2
          have ut1 := Wd.cell hc3'
          clear hc2 hc3 hc3'
          generalize o[j] = ya at *
          generalize o[j + 1] = yb at *
          generalize hab : adjB o j = ab at *
          clear hab
          cases ab with
          | true =>
            go_wp2
            refine wp_region_wd (by kernel_rfl) (by kernel_rfl) ?_
            repeat (first | go_big_quiet_skip | (go_big_quiet_want; go_big_quiet_op; go_big_quiet_on))
            refine wpQuiet_nil ?_
            intro w5 hw'
            obtain ⟨⟨_, hb9⟩, hw''⟩ := hw'
            subst hw''
            have B5 : Hid (Below wo.heap.size wo w5) := B2.out.trans (hb9.mono B2.out.size)
            clear hb9 ut0 ut1
            go_wp2
            go_roundw
            case rel => exact ⟨j + 1, by go_num, by rw [HAD.out, Bool.true_or], .inl (by omega), B5.out⟩
            case measure => simp [intOf]; omega
          | false =>
            rw [Bool.false_or, ← HNEG.out] at HAD
            generalize hcm : (ya == wrap64 (-yb)) = cm at *
            go_wp2
            refine wp_region_wd (by kernel_rfl) (by kernel_rfl) ?_
            repeat (first | go_big_quiet_skip | (go_big_quiet_want; go_big_quiet_op; go_big_quiet_on))
            refine wpQuiet_nil ?_
            intro w5 hw'
            obtain ⟨⟨_, hb9⟩, hw''⟩ := hw'
            subst hw''
            have B5 : Hid (Below wo.heap.size wo w5) := B2.out.trans (hb9.mono B2.out.size)
            clear hb9 ut0 ut1
            go_wp2
            go_roundw
            case rel => exact ⟨j + 1, by go_num, by rw [HAD.out], .inl (by omega), B5.out⟩
            case measure => simp [intOf]; omega
        · have hje : ¬ (j : Int) + 1 < (o.length : Int) := by omega
          have HJ : Hid (j = o.length - 1) := by unfold Hid; omega
          have HI : Hid (ILies wr wr.heap.size Ao o) := ⟨(HRW.out.below B2.out).more B2.out.size, HOF.out, Nat.le_trans HQO.out HQ9.out⟩
          have HBF : Hid (Below w.heap.size w wr) := BO.out.trans (B2.out.mono BO.out.size)
          go_wp2
          go_ret2
          rw [← HON.out, ← HJ.out]
          exact ⟨⟨Ao, ⟨qo, rfl⟩, HI.out⟩, HBF.out⟩

end Go.Proofs.Ytefbknpoehmfaaa.For
