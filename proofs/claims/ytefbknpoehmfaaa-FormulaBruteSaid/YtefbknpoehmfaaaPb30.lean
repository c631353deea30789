/- interlockplain.Lists, interlockref10.Models; condition: the lists lie in memory; Models: of at most 14 variables. -/
import Derived.Test.YtefbknpoehmfaaaPb10
namespace Go.Proofs.Ytefbknpoehmfaaa.For
open Go.ChangeShapes Go.WideShapes Go.ChangeAt Go.RowKit Go.Maps Circ Cw Cla Rep

/-- texts in memory -/
def txs (l : List ByteArray) : List (List Value) := l.map fun s => [.string s]
theorem txs_len (l : List ByteArray) : (txs l).length = l.length := by unfold txs; simp
theorem txs_app (a b : List ByteArray) : txs (a ++ b) = txs a ++ txs b := by unfold txs; simp
theorem txs_each (l : List ByteArray) : ∀ y ∈ txs l, y.length = 1 := fun y hy => by
  obtain ⟨_, _, rfl⟩ := List.mem_map.1 hy; rfl
theorem txs_one (l : List ByteArray) : ∀ y ∈ txs l, ∀ u ∈ y, u.oneCell' = true := fun y hy u hu => by
  obtain ⟨_, _, rfl⟩ := List.mem_map.1 hy
  simp only [List.mem_singleton] at hu
  subst hu; rfl
theorem txs_at {w : World} {B : Nat} {A : Option Addr} {l : List ByteArray} (h : LRow w B 1 A (txs l)) {k : Nat} (hk : k < l.length) : ∃ b o, A = some ⟨b, o, none⟩ ∧ b < B ∧ w.cell? ⟨b, o + k, none⟩ = some (.string l[k]) :=
  LRow_one h (by rw [txs_len]; exact hk) (by unfold txs; rw [List.getElem_map])
theorem info_text : (Try.prog.info? 9).map (fun i => (i.zero, i.size, i.bytes)) = some (some (.string ⟨#[]⟩), 1, 16) := by kernel_rfl
def twoS (s : ByteArray) : List ByteArray := [s ++ ⟨#[48]⟩, s ++ ⟨#[49]⟩]
/-- all texts of n bits, in order -/
def allS : Nat → List ByteArray
  | 0 => [⟨#[]⟩]
  | n + 1 => (allS n).flatMap twoS
theorem allS_bits : ∀ n, allS n = (bitsM n).map fun s => (⟨s.toArray⟩ : ByteArray)
  | 0 => rfl
  | n + 1 => by
    have key : ∀ (l : List (List UInt8)), (l.map fun s => (⟨s.toArray⟩ : ByteArray)).flatMap twoS = (l.flatMap fun s => [s ++ [48], s ++ [49]]).map fun s => (⟨s.toArray⟩ : ByteArray) := fun l => by
      induction l with
      | nil => rfl
      | cons s l ih =>
        have e : ∀ (c : UInt8), ((⟨s.toArray⟩ : ByteArray) ++ ⟨#[c]⟩) = ⟨(s ++ [c]).toArray⟩ := fun c => by
          apply ByteArray.ext
          rw [ByteArray.data_append]
          apply Array.toList_inj.1
          simp
        rw [List.map_cons, List.flatMap_cons, ih, List.flatMap_cons, List.map_append]
        unfold twoS
        rw [e, e]; rfl
    unfold allS bitsM
    rw [allS_bits n, key]
theorem allS_len : ∀ n, (allS n).length = 2 ^ n
  | 0 => rfl
  | n + 1 => by
    have key : ∀ l : List ByteArray, (l.flatMap twoS).length = 2 * l.length := fun l => by
      induction l with
      | nil => rfl
      | cons s l ih => rw [List.flatMap_cons, List.length_append, ih, List.length_cons]; unfold twoS; simp; omega
    unfold allS
    rw [key, allS_len n, Nat.pow_succ]; omega
theorem allS_few {n : Nat} (h : n ≤ 14) : (allS n).length ≤ 16384 := by
  rw [allS_len]
  exact Nat.le_trans (Nat.pow_le_pow_right (by decide) h) (by decide)
theorem allS_size : ∀ n, ∀ s ∈ allS n, s.size = n
  | 0, s, h => by rw [show s = ⟨#[]⟩ from List.mem_singleton.1 h]; rfl
  | n + 1, s, h => by
    unfold allS at h
    obtain ⟨t, ht, hs⟩ := List.mem_flatMap.1 h
    have := allS_size n t ht
    unfold twoS at hs
    rcases List.mem_cons.1 hs with rfl | hs
    · rw [ByteArray.size_append, this]; rfl
    · rw [List.mem_singleton.1 hs, ByteArray.size_append, this]; rfl
theorem flat_take (l : List ByteArray) (k : Nat) (h : k < l.length) : (l.take (k + 1)).flatMap twoS = (l.take k).flatMap twoS ++ twoS l[k] := by
  rw [List.take_succ_eq_append_getElem h, List.flatMap_append]; simp
theorem filter_take {α : Type} (p : α → Bool) (l : List α) (k : Nat) (h : k < l.length) : (l.take (k + 1)).filter p = (l.take k).filter p ++ (if p l[k] then [l[k]] else []) := by
  rw [List.take_succ_eq_append_getElem h, List.filter_append]
  cases hp : p l[k] <;> simp [hp]
theorem op_index_t (a : Act) (w : World) (b o n q k : Nat) (t s : Nat) (h : a.tmps.getD t undef = .slice (some ⟨b, o, none⟩) n q) (h2 : a.tmps.getD s undef = .int .i64 (k : Int)) (hk : k < n) (oo : Oper) (ho : oo.op = .indexAddr 43 (.tmp t) (.tmp s)) : (execOp a.eval oo).run Try.prog w = .ok (.value (.pointer (some ⟨b, o + k, none⟩))) w := by
  have h' : a.tmps[t]?.getD undef = .slice (some ⟨b, o, none⟩) n q := by simpa using h
  have h2' : a.tmps[s]?.getD undef = .int .i64 (k : Int) := by simpa using h2
  have h0 : (0 : Int) ≤ k := by omega
  have h1 : (k : Int) < n := by omega
  unfold execOp
  rw [ho]
  go_simp
theorem op_cat_48 (a : Act) (w : World) (s : ByteArray) (t : Nat) (h : a.tmps.getD t undef = .string s) (_hs : s.size ≤ 64) (oo : Oper) (ho : oo.op = .binOp .add 9 (.tmp t) (.const (.string ⟨#[48]⟩)) 9) : (execOp a.eval oo).run Try.prog w = .ok (.value (.string (s ++ ⟨#[48]⟩))) w := by
  have h' : a.tmps[t]?.getD undef = .string s := by simpa using h
  unfold execOp
  rw [ho]
  go_simp
  omega
theorem op_cat_49 (a : Act) (w : World) (s : ByteArray) (t : Nat) (h : a.tmps.getD t undef = .string s) (_hs : s.size ≤ 64) (oo : Oper) (ho : oo.op = .binOp .add 9 (.tmp t) (.const (.string ⟨#[49]⟩)) 9) : (execOp a.eval oo).run Try.prog w = .ok (.value (.string (s ++ ⟨#[49]⟩))) w := by
  have h' : a.tmps[t]?.getD undef = .string s := by simpa using h
  unfold execOp
  rw [ho]
  go_simp
  omega
theorem op_slice_two (a : Act) (w W1 : World) (x y : ByteArray) (i j : Nat) (h1 : a.tmps.getD i undef = .string x) (h2 : a.tmps.getD j undef = .string y) (hw : w.alloc (.cells #[.string x, .string y] 9) = W1) (oo : Oper) (ho : oo.op = .buildSlice 43 2 #[(0, .tmp i), (1, .tmp j)]) : (execOp a.eval oo).run Try.prog w = .ok (.value (.slice (some ⟨w.heap.size, 0, none⟩) 2 2)) W1 := by
  have h1' : a.tmps[i]?.getD undef = .string x := by simpa using h1
  have h2' : a.tmps[j]?.getD undef = .string y := by simpa using h2
  rw [← hw]
  unfold execOp
  rw [ho]
  go_simp
theorem op_app_t (a : Act) (w w' : World) (t s : Nat) (v v' x : Value) (h1 : a.tmps.getD t undef = v) (h2 : a.tmps.getD s undef = x) (oo : Oper) (hr : ∀ ty, (Builtin.append_ #[43, 43] ty #[v, x]).run Try.prog w = .ok v' w') (ho : oo.op = .call { callee := .builtin .append, args := #[.tmp t, .tmp s], argTypes := #[43, 43] }) :
    (execOp a.eval oo).run Try.prog w = .ok (.value v') w' := by
  have hs : a.eval (.tmp t) = v := h1
  have hx : a.eval (.tmp s) = x := h2
  unfold execOp
  simp only [ho, resolve, invoke, builtin, Sem.run_bind, Sem.run_pure, Result.andThen_ok, List.map_toArray, List.map_cons, List.map_nil, hs, hx, hr]
/-- where a region of two writers (operations 11, 12) stands -/
structure Duo (W0 W1 W2 : World) (d : Nat → Bool) (w : World) : Prop where
  c0 : d 11 = false → w = W0
  c1 : d 11 = true → d 12 = false → w = W1
  c2 : d 12 = true → w = W2
  o6 : d 12 = true → d 11 = true
theorem Duo.start (W0 W1 W2 : World) : Duo W0 W1 W2 (fun _ => false) W0 := ⟨fun _ => rfl, (fun h => by cases h), (fun h => by cases h), (fun h => by cases h)⟩
theorem Duo.read {W0 W1 W2 : World} {d : Nat → Bool} {w : World} (h : Duo W0 W1 W2 d w) {i : Nat} (h3 : 11 ≠ i) (h6 : 12 ≠ i) : Duo W0 W1 W2 (fun j => decide (j = i) || d j) w := by
  obtain ⟨a, b, c, e⟩ := h
  constructor <;> simp only [h3, h6, decide_false, Bool.false_or] <;> assumption
theorem Duo.first {W0 W1 W2 : World} {d : Nat → Bool} {w : World} (_h : Duo W0 W1 W2 d w) (h6 : d 12 = false) : Duo W0 W1 W2 (fun j => decide (j = 11) || d j) W1 := by
  constructor <;> simp [h6]
theorem Duo.second {W0 W1 W2 : World} {d : Nat → Bool} {w : World} (_h : Duo W0 W1 W2 d w) (h3 : d 11 = true) : Duo W0 W1 W2 (fun j => decide (j = 12) || d j) W2 := by
  constructor <;> simp [h3]
theorem two_runs (w : World) (B : Nat) (v : Value) (a : List ByteArray) (x y : ByteArray) (hown : OwnC w B 9 1 v (txs a)) (hB : B ≤ w.heap.size) (hz : a.length ≤ 65536) :
    ∃ v2 W2, (∀ ty, (Builtin.append_ #[43, 43] ty #[v, .slice (some ⟨w.heap.size, 0, none⟩) 2 2]).run Try.prog (w.alloc (.cells #[.string x, .string y] 9)) = .ok v2 W2) ∧ Below B w W2 ∧ OwnC W2 B 9 1 v2 (txs (a ++ [x, y])) := by
  have hal : Below w.heap.size w (w.alloc (.cells #[.string x, .string y] 9)) := (Below.refl _ _).alloc (Nat.le_refl _) _
  have hs1 : (w.alloc (.cells #[.string x, .string y] 9)).heap.size = w.heap.size + 1 := by simp
  have hone : LRow (w.alloc (.cells #[.string x, .string y] 9)) (w.heap.size + 1) 1 (some ⟨w.heap.size, 0, none⟩) (txs [x, y]) := .inr ⟨w.heap.size, 0, rfl, Nat.lt_succ_self _, fun i ys hi j u hj => by
    match i, hi with
    | 0, hi =>
      obtain rfl : [Value.string x] = ys := by simpa [txs] using hi
      match j, hj with
      | 0, hj =>
        obtain rfl : Value.string x = u := by simpa using hj
        rw [World.cell?_alloc_new]; rfl
    | 1, hi =>
      obtain rfl : [Value.string y] = ys := by simpa [txs] using hi
      match j, hj with
      | 0, hj =>
        obtain rfl : Value.string y = u := by simpa using hj
        rw [World.cell?_alloc_new]; rfl⟩
  obtain ⟨v2, W2, a1, o1, g1, _⟩ := run_append_row (w.alloc (.cells #[.string x, .string y] 9)) B _ 43 9 43 1 16 (.string ⟨#[]⟩) Try.underlying43 info_text rfl (by decide) v (txs a) (txs [x, y]) (hown.keep hal) _ 2 hone (txs_each _) (txs_one _) (by rw [txs_len, txs_len]; simp; omega) (by rw [txs_len, txs_len]; simp; omega) (by omega)
  refine ⟨v2, W2, fun ty => a1, (hal.mono hB).trans g1, ?_⟩
  rw [txs_app]
  exact o1
theorem op_load_string (a : Act) (w : World) (A : Addr) (t : Nat) (v : Value) (h : a.tmps.getD t undef = .pointer (some A)) (hc : w.cell? A = some v) (oo : Oper) (ho : oo.op = .load 9 (.tmp t)) : (execOp a.eval oo).run Try.prog w = .ok (.value v) w := by
  have h' : a.tmps[t]?.getD undef = .pointer (some A) := by simpa using h
  unfold execOp
  rw [ho]
  go_simp
/-- what operation j of the region leaves -/
def twoR (b o n qo k G : Nat) (sx : ByteArray) (v7 v2 : Value) : Nat → (Nat → Value) → World → Prop
  | 0, f, _ => f 26 = v7
  | 1, f, _ => f 27 = .slice (some ⟨b, o, none⟩) n qo
  | 2, f, _ => f 28 = .int .i64 (k : Int)
  | 3, f, _ => f 29 = .pointer (some ⟨b, o + k, none⟩)
  | 4, f, _ => f 30 = .string sx
  | 5, f, _ => f 31 = .string (sx ++ ⟨#[48]⟩)
  | 6, f, _ => f 32 = .slice (some ⟨b, o, none⟩) n qo
  | 7, f, _ => f 33 = .int .i64 (k : Int)
  | 8, f, _ => f 34 = .pointer (some ⟨b, o + k, none⟩)
  | 9, f, _ => f 35 = .string sx
  | 10, f, _ => f 36 = .string (sx ++ ⟨#[49]⟩)
  | 11, f, _ => f 37 = .slice (some ⟨G, 0, none⟩) 2 2
  | 12, f, _ => f 38 = v2
  | 13, f, _ => f 7 = v2
  | _, _, _ => True
def twoM : Nat → List Nat
  | 0 => [26]
  | 1 => [27]
  | 2 => [28]
  | 3 => [29]
  | 4 => [30]
  | 5 => [31]
  | 6 => [32]
  | 7 => [33]
  | 8 => [34]
  | 9 => [35]
  | 10 => [36]
  | 11 => [37]
  | 12 => [38]
  | 13 => [7]
  | _ => []
theorem two_stab {b o n qo k G : Nat} {sx : ByteArray} {v7 v2 : Value} (jj : Nat) {f f' : Nat → Value} {w w' : World}  (hf : ∀ t ∈ twoM jj, f' t = f t) (h : twoR b o n qo k G sx v7 v2 jj f w) : twoR b o n qo k G sx v7 v2 jj f' w' := by
  match jj, hf, h with
  | 0, hf, h => exact (hf 26 (by decide)).trans h
  | 1, hf, h => exact (hf 27 (by decide)).trans h
  | 2, hf, h => exact (hf 28 (by decide)).trans h
  | 3, hf, h => exact (hf 29 (by decide)).trans h
  | 4, hf, h => exact (hf 30 (by decide)).trans h
  | 5, hf, h => exact (hf 31 (by decide)).trans h
  | 6, hf, h => exact (hf 32 (by decide)).trans h
  | 7, hf, h => exact (hf 33 (by decide)).trans h
  | 8, hf, h => exact (hf 34 (by decide)).trans h
  | 9, hf, h => exact (hf 35 (by decide)).trans h
  | 10, hf, h => exact (hf 36 (by decide)).trans h
  | 11, hf, h => exact (hf 37 (by decide)).trans h
  | 12, hf, h => exact (hf 38 (by decide)).trans h
  | 13, hf, h => exact (hf 7 (by decide)).trans h
  | _ + 14, _, _ => trivial
set_option maxHeartbeats 16000000 in
set_option maxRecDepth 100000 in
theorem models_any (vars : Int) (L : List Clz) (A : Option Addr) (q : Nat) (asm : List Int) (B : Option Addr) (r : Nat) (w : World) (hA : ALies w w.heap.size A L) (hl : ILies w w.heap.size B asm) (hv0 : 0 ≤ vars) (hv1 : vars ≤ 14) :
    Calls Try.prog 19 #[forV vars A L.length q, .slice B asm.length r] w fun e w' => (∃ A' q', e = .returned (.slice A' (modelsM vars (L.map Clz.l) asm).length q') ∧ LRow w' w'.heap.size 1 A' (txs (modelsM vars (L.map Clz.l) asm))) ∧ Below w.heap.size w w' := by
  obtain ⟨WA, hWA⟩ : ∃ x, w.alloc (.cells #[.int .i64 vars, .slice A L.length q] 24) = x := ⟨_, rfl⟩
  have bA : Hid (Below w.heap.size w WA) := by unfold Hid; rw [← hWA]; exact (Below.refl _ _).alloc (Nat.le_refl _) _
  have GA : Hid (WA.heap[w.heap.size]? = some (.cells #[.int .i64 vars, .slice A L.length q] 24 (0, 0))) := by unfold Hid; rw [← hWA]; exact Array.getElem?_push_size
  have GW : Hid (∀ x, Below WA.heap.size WA x → x.heap[w.heap.size]? = some (.cells #[.int .i64 vars, .slice A L.length q] 24 (0, 0))) := fun x hx => (hx.block _ (lt_of_block GA.out)).trans GA.out
  have AW : Hid (∀ x, Below WA.heap.size WA x → ALies x x.heap.size A L) := fun x hx => by
    have h := bA.out.trans (hx.mono bA.out.size)
    exact (hA.below h).more h.size
  have LW : Hid (∀ x, Below WA.heap.size WA x → ILies x x.heap.size B asm) := fun x hx => by
    have h := bA.out.trans (hx.mono bA.out.size)
    exact (hl.below h).more h.size
  have hll := hl.len
  have HIF := Lib.hid hl.fits
  clear hA hl
  obtain ⟨nv, hnv⟩ : ∃ n : Nat, vars = (n : Int) := ⟨vars.toNat, by omega⟩
  have HM : Hid (modelsM vars (L.map Clz.l) asm = (allS nv).filter (fun s => trueM vars (L.map Clz.l) s && asm.all (isM s))) := by
    unfold Hid modelsM
    rw [allS_bits, hnv, Int.toNat_natCast]
  obtain ⟨p, hp⟩ : ∃ p : ByteArray → Bool, p = fun s => trueM vars (L.map Clz.l) s && asm.all (isM s) := ⟨_, rfl⟩
  rw [HM.out, ← hp]
  have HP : Hid (∀ s, p s = (trueM vars (L.map Clz.l) s && asm.all (isM s))) := fun s => by rw [hp]
  clear HM hp
  obtain ⟨W0, hW0⟩ : ∃ x, WA.alloc (.cells #[.string ⟨#[]⟩] 9) = x := ⟨_, rfl⟩
  have b0 : Hid (Below WA.heap.size WA W0) := by unfold Hid; rw [← hW0]; exact (Below.refl _ _).alloc (Nat.le_refl _) _
  have R0 : Hid (LRow W0 W0.heap.size 1 (some ⟨WA.heap.size, 0, none⟩) (txs (allS 0))) := .inr ⟨WA.heap.size, 0, rfl, by rw [← hW0]; simp, fun i ys hi j u hj => by
    match i, hi with
    | 0, hi =>
      obtain rfl : [Value.string ⟨#[]⟩] = ys := by simpa [txs, allS] using hi
      match j, hj with
      | 0, hj =>
        obtain rfl : Value.string ⟨#[]⟩ = u := by simpa using hj
        rw [← hW0, World.cell?_alloc_new]; rfl⟩
  have sA : WA.heap.size = w.heap.size + 1 := by rw [← hWA]; simp
  have hn14 : nv ≤ 14 := by omega
  have HNV := Lib.hid hnv
  clear hnv
  unfold forV
  go_enter Try.func19, Try.ntmps19
  go_wp2
  clear hW0 hWA
  rw [← sA]
  clear sA
  go_loopw [6, 5] (fun i v wr => ∃ (k : Nat) (Ao : Option Addr) (qo : Nat), k ≤ nv ∧ i = .int .i64 k ∧ v = .slice Ao (allS k).length qo ∧ LRow wr wr.heap.size 1 Ao (txs (allS k)) ∧ (allS k).length ≤ qo ∧ qo ≤ 9223372036854775807 ∧ Below WA.heap.size WA wr) (fun i _ _ => nv - (intOf i).toNat)
  case atStart => exact ⟨0, _, 1, Nat.zero_le _, rfl, rfl, R0.out, by decide, by decide, b0.out⟩
  case round =>
    clear R0 b0
    obtain ⟨i, Ao, qo, hi, rfl, rfl, hrow, hqo, hq9, hb⟩ := hrel
    obtain ⟨wo, rfl⟩ : ∃ y, y = wr := ⟨_, rfl⟩
    have HRW := Lib.hid hrow
    have HQO := Lib.hid hqo
    have HQ9 := Lib.hid hq9
    have BO := Lib.hid hb
    clear hrow hqo hq9 hb
    obtain ⟨e0, e1⟩ := cells2 (GW.out _ BO.out)
    have hal : (allS i).length ≤ 16384 := allS_few (by omega)
    by_cases hlt : i < nv
    · have hiv : (i : Int) < vars := by have := HNV.out; omega
      go_wp2
      go_loopw [8, 7] (fun kk v wr => ∃ (k : Nat) (vv : Value), k ≤ (allS i).length ∧ kk = .int .i64 k ∧ vv = v ∧ OwnC wr wo.heap.size 9 1 vv (txs (((allS i).take k).flatMap twoS)) ∧ Below wo.heap.size wo wr) (fun kk _ _ => (allS i).length - (intOf kk).toNat)
      case atStart => exact ⟨0, _, Nat.zero_le _, rfl, rfl, OwnC.nil _ _ _ _, Below.refl _ _⟩
      case round =>
        obtain ⟨k, v7, hk, rfl, rfl, how, hb2⟩ := hrel
        have HOW := Lib.hid how
        have B2 := Lib.hid hb2
        clear how hb2
        by_cases hlk : k < (allS i).length
        · obtain ⟨b, o, hAB, -, hc⟩ := txs_at (HRW.out.below B2.out) hlk
          have HFT := Lib.hid (flat_take (allS i) k hlk)
          have HSZ0 : Hid ((allS i)[k].size ≤ 64) := by unfold Hid; rw [allS_size i _ (List.getElem_mem hlk)]; omega
          have HKN : Hid (k < (allS i).length) := hlk
          have HLF : Hid ((((allS i).take k).flatMap twoS).length ≤ 65536) := by
            have key : ∀ l : List ByteArray, (l.flatMap twoS).length = 2 * l.length := fun l => by
              induction l with
              | nil => rfl
              | cons s l ih => rw [List.flatMap_cons, List.length_append, ih, List.length_cons]; unfold twoS; simp; omega
            unfold Hid; rw [key, List.length_take]; omega
          subst hAB
          generalize (allS i)[k] = sx at *
          have HSZ := HSZ0
          have HSX : Hid (wr.drew.cell? ⟨b, o + k, none⟩ = some (.string sx)) := hc
          obtain ⟨W1, hW1⟩ : ∃ y, wr.drew.alloc (.cells #[.string (sx ++ ⟨#[48]⟩), .string (sx ++ ⟨#[49]⟩)] 9) = y := ⟨_, rfl⟩
          obtain ⟨v2, W2, a1, b3, o3⟩ := two_runs wr.drew wo.heap.size v7 _ (sx ++ ⟨#[48]⟩) (sx ++ ⟨#[49]⟩) (HOW.out.keep (Below.refl _ _).drew) B2.out.size HLF.out
          rw [hW1] at a1
          have HR2 := Lib.hid a1
          have HW1 := Lib.hid hW1
          have HO7 : Hid (OwnC W2 wo.heap.size 9 1 v2 (txs (((allS i).take (k + 1)).flatMap twoS))) := by unfold Hid; rw [HFT.out]; exact o3
          have b3' : Below wo.heap.size wo W2 := B2.out.trans ((Below.refl _ _).drew.trans b3)
          have B7 := Lib.hid b3'
          clear a1 hW1 b3 o3 b3' HSZ0 hc e0 e1
          go_wp2
          refine wp_region_valsE (by kernel_rfl) (by kernel_rfl) twoM (by kernel_rfl) (by kernel_rfl)
            (Duo wr.drew W1 W2) (twoR b o (allS i).length qo k wr.heap.size sx v7 v2) (Duo.start _ _ _) (fun jj f f' w w' hb hf h => two_stab jj  hf h) ?_ ?_
          · intro i oo d a' w' ho hd hun hdf hok hDE K hK hK0
            match i, ho, hd, hDE, hK, hK0, hun with
            | 0, ho, hd, hDE, hK, hK0, hun =>
              have e := (congrArg Oper.op (Option.some.inj ho)).symm
              obtain rfl := Option.some.inj ho
              exact wp_val (op_move a' w' 7 _ e) (hK _ _ (Below.refl _ _) (hok.read (by decide) (by decide)) (fun f h1 _ => (h1 _ rfl).trans (hun 7 (by kernel_rfl))))
            | 1, ho, hd, hDE, hK, hK0, hun =>
              have e := (congrArg Oper.op (Option.some.inj ho)).symm
              obtain rfl := Option.some.inj ho
              exact wp_val (op_move a' w' 5 _ e) (hK _ _ (Below.refl _ _) (hok.read (by decide) (by decide)) (fun f h1 _ => (h1 _ rfl).trans (hun 5 (by kernel_rfl))))
            | 2, ho, hd, hDE, hK, hK0, hun =>
              have e := (congrArg Oper.op (Option.some.inj ho)).symm
              obtain rfl := Option.some.inj ho
              exact wp_val (op_move a' w' 8 _ e) (hK _ _ (Below.refl _ _) (hok.read (by decide) (by decide)) (fun f h1 _ => (h1 _ rfl).trans (hun 8 (by kernel_rfl))))
            | 3, ho, hd, hDE, hK, hK0, hun =>
              have e := (congrArg Oper.op (Option.some.inj ho)).symm
              obtain rfl := Option.some.inj ho
              exact wp_val (op_index_t a' w' _ _ _ _ _ 27 28 (hDE 1 (by kernel_rfl)).2 (hDE 2 (by kernel_rfl)).2 HKN.out _ e) (hK _ _ (Below.refl _ _) (hok.read (by decide) (by decide)) (fun f h1 _ => h1 _ rfl))
            | 4, ho, hd, hDE, hK, hK0, hun =>
              have e := (congrArg Oper.op (Option.some.inj ho)).symm
              obtain rfl := Option.some.inj ho
              exact wp_val (op_load_string a' w' _ 29 _ (hDE 3 (by kernel_rfl)).2 (by have hw := hok.c0 (hd 11 (by kernel_rfl)); rw [hw]; exact HSX.out) _ e) (hK _ _ (Below.refl _ _) (hok.read (by decide) (by decide)) (fun f h1 _ => h1 _ rfl))
            | 5, ho, hd, hDE, hK, hK0, hun =>
              have e := (congrArg Oper.op (Option.some.inj ho)).symm
              obtain rfl := Option.some.inj ho
              exact wp_val (op_cat_48 a' w' _ 30 (hDE 4 (by kernel_rfl)).2 HSZ.out _ e) (hK _ _ (Below.refl _ _) (hok.read (by decide) (by decide)) (fun f h1 _ => h1 _ rfl))
            | 6, ho, hd, hDE, hK, hK0, hun =>
              have e := (congrArg Oper.op (Option.some.inj ho)).symm
              obtain rfl := Option.some.inj ho
              exact wp_val (op_move a' w' 5 _ e) (hK _ _ (Below.refl _ _) (hok.read (by decide) (by decide)) (fun f h1 _ => (h1 _ rfl).trans (hun 5 (by kernel_rfl))))
            | 7, ho, hd, hDE, hK, hK0, hun =>
              have e := (congrArg Oper.op (Option.some.inj ho)).symm
              obtain rfl := Option.some.inj ho
              exact wp_val (op_move a' w' 8 _ e) (hK _ _ (Below.refl _ _) (hok.read (by decide) (by decide)) (fun f h1 _ => (h1 _ rfl).trans (hun 8 (by kernel_rfl))))
            | 8, ho, hd, hDE, hK, hK0, hun =>
              have e := (congrArg Oper.op (Option.some.inj ho)).symm
              obtain rfl := Option.some.inj ho
              exact wp_val (op_index_t a' w' _ _ _ _ _ 32 33 (hDE 6 (by kernel_rfl)).2 (hDE 7 (by kernel_rfl)).2 HKN.out _ e) (hK _ _ (Below.refl _ _) (hok.read (by decide) (by decide)) (fun f h1 _ => h1 _ rfl))
            | 9, ho, hd, hDE, hK, hK0, hun =>
              have e := (congrArg Oper.op (Option.some.inj ho)).symm
              obtain rfl := Option.some.inj ho
              exact wp_val (op_load_string a' w' _ 34 _ (hDE 8 (by kernel_rfl)).2 (by have hw := hok.c0 (hd 11 (by kernel_rfl)); rw [hw]; exact HSX.out) _ e) (hK _ _ (Below.refl _ _) (hok.read (by decide) (by decide)) (fun f h1 _ => h1 _ rfl))
            | 10, ho, hd, hDE, hK, hK0, hun =>
              have e := (congrArg Oper.op (Option.some.inj ho)).symm
              obtain rfl := Option.some.inj ho
              exact wp_val (op_cat_49 a' w' _ 35 (hDE 9 (by kernel_rfl)).2 HSZ.out _ e) (hK _ _ (Below.refl _ _) (hok.read (by decide) (by decide)) (fun f h1 _ => h1 _ rfl))
            | 11, ho, hd, hDE, hK, hK0, hun =>
              have e := (congrArg Oper.op (Option.some.inj ho)).symm
              obtain rfl := Option.some.inj ho
              have hw' := hok.c0 (hd 11 (by kernel_rfl))
              rw [hw']
              exact wp_val (op_slice_two a' wr.drew W1 _ _ 31 36 (hDE 5 (by kernel_rfl)).2 (hDE 10 (by kernel_rfl)).2 HW1.out _ e) (hK0 _ _ (hok.first (hd 12 (by kernel_rfl))) (fun f h1 _ => h1 _ rfl) (fun j f hj hf hq => two_stab j hf hq))
            | 12, ho, hd, hDE, hK, hK0, hun =>
              have e := (congrArg Oper.op (Option.some.inj ho)).symm
              obtain rfl := Option.some.inj ho
              have hw' := hok.c1 (hDE 11 (by kernel_rfl)).1 (hd 12 (by kernel_rfl))
              rw [hw']
              exact wp_val (op_app_t a' _ _ 26 37 _ _ _ (hDE 0 (by kernel_rfl)).2 (hDE 11 (by kernel_rfl)).2 _ HR2.out e) (hK0 _ _ (hok.second (hDE 11 (by kernel_rfl)).1) (fun f h1 _ => h1 _ rfl) (fun j f hj hf hq => two_stab j hf hq))
            | 13, ho, hd, hDE, hK, hK0, hun =>
              have e := (congrArg Oper.op (Option.some.inj ho)).symm
              obtain rfl := Option.some.inj ho
              exact wp_val (op_assign a' w' 38 _ e) (hK _ _ (Below.refl _ _) (hok.read (by decide) (by decide)) (fun f h1 _ => (h1 _ rfl).trans (hDE 12 (by kernel_rfl)).2))
            | i + 14, ho, _, _, _, _, _ => exact absurd ho (by simp)
          · intro a' w3 hsz hdf hkt hok hR
            have HF3 := frame_sets [7, 26, 27, 28, 29, 30, 31, 32, 33, 34, 35, 36, 37, 38] (by kernel_rfl) hsz hkt
            obtain ⟨d, hok, hall⟩ := hok
            have h7 : a'.tmps.getD 7 undef = v2 := (hR 13 (by decide))
            have hw3 := hok.c2 (hall 12 (by decide))
            subst hw3
            clear hok hall
            obtain ⟨tm, df⟩ := a'
            obtain rfl : df = _ := hdf
            simp only [List.foldl_cons, List.foldl_nil] at HF3
            clear hkt hR hsz
            replace h7 : tm.getD 7 undef = _ := h7
            rw [h7] at HF3
            clear h7
            generalize tm.getD 26 undef = y26 at HF3
            generalize tm.getD 27 undef = y27 at HF3
            generalize tm.getD 28 undef = y28 at HF3
            generalize tm.getD 29 undef = y29 at HF3
            generalize tm.getD 30 undef = y30 at HF3
            generalize tm.getD 31 undef = y31 at HF3
            generalize tm.getD 32 undef = y32 at HF3
            generalize tm.getD 33 undef = y33 at HF3
            generalize tm.getD 34 undef = y34 at HF3
            generalize tm.getD 35 undef = y35 at HF3
            generalize tm.getD 36 undef = y36 at HF3
            generalize tm.getD 37 undef = y37 at HF3
            generalize tm.getD 38 undef = y38 at HF3
            simp only [List.setIfInBounds_toArray, List.set_cons_succ, List.set_cons_zero] at HF3
            subst HF3
            clear HR2 HW1 HSX HKN HSZ
            go_wp2
            go_roundw
            case rel => exact ⟨k + 1, _, by omega, by go_num, rfl, HO7.out, B7.out⟩
            case measure => simp [intOf]; omega
        · obtain rfl : k = (allS i).length := by omega
          rw [List.take_length] at HOW
          obtain ⟨A9, q9, hv9, r9, c9, d9⟩ := HOW.out.row (by decide) (txs_each _)
          rw [txs_len] at hv9 c9
          have HR9 : Hid (LRow wr wr.heap.size 1 A9 (txs (allS (i + 1)))) := r9
          have HC9 : Hid ((allS (i + 1)).length ≤ q9 ∧ q9 ≤ 9223372036854775807) := ⟨c9, d9⟩
          have hv9' : v7 = .slice A9 (allS (i + 1)).length q9 := hv9
          have B9 : Hid (Below WA.heap.size WA wr) := BO.out.trans (B2.out.mono BO.out.size)
          clear r9 c9 d9 hv9 e0 e1
          subst hv9'
          go_wp2
          go_roundw
          case rel => exact ⟨i + 1, A9, q9, by omega, by go_num, rfl, HR9.out, HC9.out.1, HC9.out.2, B9.out⟩
          case measure => simp [intOf]; omega
    · obtain rfl : i = nv := by omega
      have hiv : ¬ (i : Int) < vars := by have := HNV.out; omega
      go_wp2
      go_loopw [10, 9] (fun kk v wr => ∃ (k : Nat) (vv : Value), k ≤ (allS i).length ∧ kk = .int .i64 k ∧ vv = v ∧ OwnC wr wo.heap.size 9 1 vv (txs (((allS i).take k).filter p)) ∧ Below wo.heap.size wo wr) (fun kk _ _ => (allS i).length - (intOf kk).toNat)
      case atStart => exact ⟨0, _, Nat.zero_le _, rfl, rfl, OwnC.nil _ _ _ _, Below.refl _ _⟩
      case round =>
        obtain ⟨k, v9, hk, rfl, rfl, how, hb2⟩ := hrel
        obtain ⟨wi, rfl⟩ : ∃ y, y = wr := ⟨_, rfl⟩
        have HOW := Lib.hid how
        have B2 := Lib.hid hb2
        have BW : Hid (Below WA.heap.size WA wi) := BO.out.trans (hb2.mono BO.out.size)
        clear how hb2 e0 e1
        by_cases hlk : k < (allS i).length
        · obtain ⟨b, o, hAB, hbo, hc⟩ := txs_at (HRW.out.below B2.out) hlk
          have HFI := Lib.hid (filter_take p (allS i) k hlk)
          have HLF : Hid ((((allS i).take k).filter p).length ≤ 16384) := by
            have := List.length_filter_le p ((allS i).take k)
            rw [List.length_take] at this
            unfold Hid; omega
          have HSZ : Hid ((allS i)[k].size ≤ 64) := by unfold Hid; rw [allS_size i _ (List.getElem_mem hlk)]; omega
          have HBO := Lib.hid hbo
          have HSX : Hid (∀ y, Below wo.heap.size wi y → y.cell? ⟨b, o + k, none⟩ = some (.string (allS i)[k])) := fun y hy => by rw [hy.cell (show b < wo.heap.size from hbo)]; exact hc
          have k0 : (0 : Int) ≤ (k : Int) := by omega
          have k1 : (k : Int) < ((allS i).length : Int) := by omega
          have hPX := Lib.hid (HP.out (allS i)[k])
          subst hAB
          have ut0 := Wd.cell hc
          clear hc hbo
          generalize (allS i)[k] = sx at *
          have KT := Lib.hid (fun (u : Wd wi.heap.size wi) => Calls.in_wd u (true_any vars L A q sx u.w (AW.out _ (BW.out.trans (u.ok.mono BW.out.size))) (Nat.le_trans HSZ.out (by decide))) (Nat.le_refl _))
          unfold forV at KT
          obtain ⟨e0, e1⟩ := cells2 (GW.out _ BW.out)
          have u0 := Wd.cell e0
          have u1 := Wd.cell e1
          clear e0 e1
          generalize trueM vars (L.map Clz.l) sx = tb at *
          go_wp2
          refine wp_region_wd (by kernel_rfl) (by kernel_rfl) ?_
          repeat (first | go_big_quiet_skip | (go_big_quiet_want; go_big_quiet_op; first | go_big_quiet_on | (apply Exists.intro; refine ⟨fun u => ?_, ?_⟩; (first | (go_at_call 14; with_reducible exact KT.out u)); go_big_quiet_on)))
          refine wpQuiet_nil ?_
          intro w5 hw'
          obtain ⟨⟨_, hb9⟩, hw''⟩ := hw'
          subst hw''
          have HO5 := Lib.hid (HOW.out.keep hb9)
          have B5 : Hid (Below wo.heap.size wo w5) := B2.out.trans (hb9.mono B2.out.size)
          have B5i : Hid (Below wi.heap.size wi w5) := hb9
          clear hb9 KT ut0 u0 u1
          go_wp2
          go_loopw [12, 11] (fun mm ok wr => ∃ m : Nat, m ≤ asm.length ∧ mm = .int .i64 m ∧ ok = .bool (tb && (asm.take m).all (isM sx)) ∧ Below w5.heap.size w5 wr) (fun mm _ _ => asm.length - (intOf mm).toNat)
          case atStart => exact ⟨0, Nat.zero_le _, rfl, by simp, Below.refl _ _⟩
          case round =>
            obtain ⟨m, hm, rfl, rfl, hb6⟩ := hrel
            have B6 := Lib.hid hb6
            have B6i : Hid (Below wo.heap.size wi wr) := (B5i.out.mono B2.out.size).trans (hb6.mono B5.out.size)
            clear hb6
            have BW6 : Hid (Below WA.heap.size WA wr) := BW.out.trans (B6i.out.mono BO.out.size)
            by_cases hlm : m < asm.length
            · obtain ⟨b4, o4, hB4, -, hc4⟩ := LRow.int (LW.out _ BW6.out).row hlm
              have HXI := Lib.hid (HIF.out _ (List.getElem_mem hlm))
              have HTK := Lib.hid (all_take asm (isM sx) m hlm)
              have m0 : (0 : Int) ≤ (m : Int) := by omega
              have m1 : (m : Int) < (asm.length : Int) := by omega
              have hcx := HSX.out _ B6i.out
              subst hB4
              have ut0 := Wd.cell hcx
              have ut1 := Wd.cell hc4
              clear hcx hc4
              generalize asm[m] = x at *
              have KI := Lib.hid (fun (u : Wd wr.heap.size wr) => Calls.in_wd u ((is_any sx x u.w (Nat.le_trans HSZ.out (by decide)) HXI.out).mono fun e w' ⟨h1, h2⟩ => ⟨h1, h2 ▸ Below.refl _ _⟩) (Nat.le_refl _))
              generalize isM sx x = ix at *
              generalize (asm.take m).all (isM sx) = al at *
              have HNB : Hid ((tb && (asm.take (m + 1)).all (isM sx)) = ((tb && al) && ix)) := by unfold Hid; rw [HTK.out, Bool.and_assoc]
              clear HTK
              generalize (tb && al) = ta at *
              cases ta with
              | true =>
                go_wp2
                refine wp_region_wd (by kernel_rfl) (by kernel_rfl) ?_
                repeat (first | go_big_quiet_skip | (go_big_quiet_want; go_big_quiet_op; first | go_big_quiet_on | (apply Exists.intro; refine ⟨fun u => ?_, ?_⟩; (first | (go_at_call 20; with_reducible exact KI.out u)); go_big_quiet_on)))
                refine wpQuiet_nil ?_
                intro w7 hw'
                obtain ⟨⟨_, hb9⟩, hw''⟩ := hw'
                subst hw''
                have B7 : Hid (Below w5.heap.size w5 w7) := B6.out.trans (hb9.mono B6.out.size)
                clear hb9 KI ut0 ut1
                go_wp2
                go_roundw
                case rel => exact ⟨m + 1, by omega, by go_num, by rw [HNB.out, Bool.true_and], B7.out⟩
                case measure => simp [intOf]; omega
              | false =>
                go_wp2
                refine wp_region_wd (by kernel_rfl) (by kernel_rfl) ?_
                repeat (first | go_big_quiet_skip | (go_big_quiet_want; go_big_quiet_op; go_big_quiet_on))
                refine wpQuiet_nil ?_
                intro w7 hw'
                obtain ⟨⟨_, hb9⟩, hw''⟩ := hw'
                subst hw''
                have B7 : Hid (Below w5.heap.size w5 w7) := B6.out.trans (hb9.mono B6.out.size)
                clear hb9 KI ut0 ut1
                go_wp2
                go_roundw
                case rel => exact ⟨m + 1, by omega, by go_num, by rw [HNB.out, Bool.false_and], B7.out⟩
                case measure => simp [intOf]; omega
            · obtain rfl : m = asm.length := by omega
              rw [List.take_length, ← hPX.out]
              have B8 : Hid (Below wo.heap.size wo wr) := B5.out.trans (B6.out.mono B5.out.size)
              have HO8 := Lib.hid (HO5.out.keep B6.out)
              have hcx := HSX.out _ B6i.out
              clear HO5 HOW
              cases hps : p sx with
              | true =>
                have HN : Hid (((allS i).take (k + 1)).filter p = ((allS i).take k).filter p ++ [sx]) := by unfold Hid; rw [HFI.out, hps, if_pos rfl]
                have hal2 : Below wr.heap.size wr (wr.alloc (.cells #[.string sx] 9)) := (Below.refl _ _).alloc (Nat.le_refl _) _
                have O6 := Lib.hid (HO8.out.keep hal2)
                have B9 : Hid (Below wo.heap.size wo (wr.alloc (.cells #[.string sx] 9))) := B8.out.trans (hal2.mono B8.out.size)
                have HC : Hid (∀ (i : Nat) u, [Value.string sx][i]? = some u → (wr.alloc (.cells #[.string sx] 9)).cell? ⟨wr.heap.size, i, none⟩ = some u) := fun i u hu => by
                  rw [Lib.cell_of_heap (show (wr.alloc (.cells #[.string sx] 9)).heap[wr.heap.size]? = some (.cells #[.string sx] 9 (0, 0)) from Array.getElem?_push_size)]; simpa using hu
                have HONE : Hid (∀ u ∈ [Value.string sx], u.oneCell' = true) := fun u hu => by
                  simp only [List.mem_singleton] at hu
                  subst hu; rfl
                have HLN : Hid ((txs (((allS i).take k).filter p)).length ≤ 16384) := by unfold Hid; rw [txs_len]; exact HLF.out
                clear hal2 hps
                go_wp2_with (at_builtin; refine wpList_push _ rfl (.tmp 71) (.tmp 76) 43 rfl 9 1 16 (.string ⟨#[]⟩) Try.underlying43 info_text rfl (by decide) wo.heap.size v9 _ O6.out rfl wr.heap.size 1 rfl [.string sx] HC.out rfl HONE.out (by have h1 := HLN.out; omega) (by have h1 := HLN.out; omega) B9.out.size ?_)
                intro v2 w6 hown hbel _
                have HO7 : Hid (OwnC w6 wo.heap.size 9 1 v2 (txs (((allS i).take (k + 1)).filter p))) := by unfold Hid; rw [HN.out, txs_app]; exact hown
                have B7 : Hid (Below wo.heap.size wo w6) := B9.out.trans hbel
                clear hown hbel O6 B9 HC HONE hcx
                go_wp2
                go_roundw
                case rel => exact ⟨k + 1, _, by omega, by go_num, rfl, HO7.out, B7.out⟩
                case measure => simp [intOf]; omega
              | false =>
                have HN : Hid (((allS i).take (k + 1)).filter p = ((allS i).take k).filter p) := by unfold Hid; rw [HFI.out, hps, if_neg (by decide), List.append_nil]
                clear hps hcx
                go_wp2
                go_roundw
                case rel => exact ⟨k + 1, _, by omega, by go_num, rfl, by rw [HN.out]; exact HO8.out, B8.out⟩
                case measure => simp [intOf]; omega
        · obtain rfl : k = (allS i).length := by omega
          rw [List.take_length] at HOW
          obtain ⟨A9, q9, hv9, r9, c9, d9⟩ := HOW.out.row (by decide) (txs_each _)
          rw [txs_len] at hv9
          have HR9 := Lib.hid r9
          have BF : Hid (Below w.heap.size w wi) := bA.out.trans (BW.out.mono bA.out.size)
          clear r9 c9 d9
          subst hv9
          go_wp2
          go_ret
          exact ⟨⟨A9, q9, rfl, HR9.out⟩, BF.out⟩
end Go.Proofs.Ytefbknpoehmfaaa.For
