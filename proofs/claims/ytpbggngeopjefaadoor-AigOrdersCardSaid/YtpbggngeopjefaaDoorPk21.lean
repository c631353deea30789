/- The walks of aag's reading of ands; no condition. The walks of aag's printing: numbers as words; condition: the table of powers of ten is as it is laid. strings.Builder as the embedded part of aag's writer, written and read: copyCheck, WriteString and String at this translation; no condition but sizes. How long a numeral is; no condition. The walks of aag's printing of lines; conditions: the table of powers of ten is as it is laid, sizes as stated. The walks of aag's printing of a latch's line and of the header; conditions: the table of powers of ten is as it is laid, sizes as stated. The walk of the region in which aag prints a name's line; conditions: the table of powers of ten is as it is laid, sizes as stated. -/
import Derived.Test.YtpbggngeopjefaaDoorPk19
import Derived.Test.YtpbggngeopjefaaDoorPk20
import Derived.Test.YtpbggngeopjefaaDoorChecked
import Derived.Test.YtpbggngeopjefaaDoorPk17
import Derived.Lib.Builder
import Derived.Lib.AppendStr
import Derived.Shelf.Strings.BuilderX
import Derived.WalkKit
import Derived.ProofKit
import Derived.WalkSpells
import Derived.Lib.Strings
import Derived.Lib.Walk
import Derived.Laws.Externs
import Derived.RegionTactic
import Derived.ChangeAlike
import Derived.Test.YtpbggngeopjefaaDoorPk18
namespace Go.Proofs.YtpbggngeopjefaaDoor.Aag
open Go.ChangeShapes Go.WideShapes Go.ChangeAt Go.RowKit Dig Circ Cw

theorem infoAnd : (Tryd.prog.info? 43).map (fun i => (i.zero, i.size, i.bytes)) = some (some (.agg #[.int .i64 0, .int .i64 0, .int .i64 0]), 3, 24) := by kernel_rfl
theorem infoLat : (Tryd.prog.info? 41).map (fun i => (i.zero, i.size, i.bytes)) = some (some (.agg #[.int .i64 0, .int .i64 0, .int .i64 0]), 3, 24) := by kernel_rfl
theorem infoNam : (Tryd.prog.info? 45).map (fun i => (i.zero, i.size, i.bytes)) = some (some (.agg #[.string ⟨#[]⟩, .int .i64 0, .string ⟨#[]⟩]), 3, 40) := by kernel_rfl
theorem tris_length1 (l : List Tri) : (tris l).length = l.length := by simp [tris]
theorem tris_snoc (l : List Tri) (t : Tri) : tris l ++ [t.cells] = tris (l ++ [t]) := by simp [tris]
theorem read_error {α β : Type} {L : List (List UInt8)} {wh a : Nat} {f : List UInt8 → Option α} {g : List UInt8 → Option β} (hfg : ∀ l, f l = none → g l = none) {b : Nat × Int} (h : readAt L wh f a = .error b) : readAt L wh g a = .error b := by
  unfold readAt at h ⊢
  split at h
  · rename_i hc
    rw [if_pos hc]
    cases h; rfl
  · rename_i hc
    rw [if_neg hc]
    cases hf : f (L.getD a []) with
    | none => rw [hf] at h; cases h; rw [hfg _ hf]
    | some ns => rw [hf] at h; cases h

theorem op_move (a : Act) (w : World) (t : Nat) (oo : Oper) (ho : oo.op = .move (.tmp t)) : (execOp a.eval oo).run Tryd.prog w = .ok (.value (a.tmps.getD t undef)) w := by
  unfold execOp
  rw [ho]
  go_simp
theorem op_assign (a : Act) (w : World) (t : Nat) (oo : Oper) (ho : oo.op = .assign (.tmp t)) : (execOp a.eval oo).run Tryd.prog w = .ok (.value (a.tmps.getD t undef)) w := by
  unfold execOp
  rw [ho]
  go_simp
theorem op_index_int (a : Act) (w : World) (b o n q k : Nat) (t : Nat) (h : a.tmps.getD t undef = .slice (some ⟨b, o, none⟩) n q) (hk : k < n) (oo : Oper) (ho : oo.op = .indexAddr 22 (.tmp t) (.const (.int .i64 (k : Int)))) : (execOp a.eval oo).run Tryd.prog w = .ok (.value (.pointer (some ⟨b, o + k, none⟩))) w := by
  have h' : a.tmps[t]?.getD undef = .slice (some ⟨b, o, none⟩) n q := by simpa using h
  unfold execOp
  rw [ho]
  have h0 : (0 : Int) ≤ k := by omega
  have h1 : (k : Int) < n := by omega
  go_simp
theorem op_load_int (a : Act) (w : World) (A : Addr) (t : Nat) (v : Value) (h : a.tmps.getD t undef = .pointer (some A)) (hc : w.cell? A = some v) (oo : Oper) (ho : oo.op = .load 3 (.tmp t)) : (execOp a.eval oo).run Tryd.prog w = .ok (.value v) w := by
  have h' : a.tmps[t]?.getD undef = .pointer (some A) := by simpa using h
  unfold execOp
  rw [ho]
  go_simp
theorem op_build_and (a : Act) (w : World) (x y z : Int) (i j k : Nat) (h1 : a.tmps.getD i undef = .int .i64 x) (h2 : a.tmps.getD j undef = .int .i64 y) (h3 : a.tmps.getD k undef = .int .i64 z) (oo : Oper) (ho : oo.op = .build 43 #[(0, .tmp i), (1, .tmp j), (2, .tmp k)]) : (execOp a.eval oo).run Tryd.prog w = .ok (.value (.agg #[.int .i64 x, .int .i64 y, .int .i64 z])) w := by
  have h1' : a.tmps[i]?.getD undef = .int .i64 x := by simpa using h1
  have h2' : a.tmps[j]?.getD undef = .int .i64 y := by simpa using h2
  have h3' : a.tmps[k]?.getD undef = .int .i64 z := by simpa using h3
  unfold execOp
  rw [ho]
  go_simp
theorem op_slice_and (a : Act) (w : World) (x y z : Int) (i : Nat) (h1 : a.tmps.getD i undef = .agg #[.int .i64 x, .int .i64 y, .int .i64 z]) (oo : Oper) (ho : oo.op = .buildSlice 24 1 #[(0, .tmp i)]) : (execOp a.eval oo).run Tryd.prog w = .ok (.value (.slice (some ⟨w.heap.size, 0, none⟩) 1 1)) (w.alloc (.cells #[.int .i64 x, .int .i64 y, .int .i64 z] 43)) := by
  have h1' : a.tmps[i]?.getD undef = .agg #[.int .i64 x, .int .i64 y, .int .i64 z] := by simpa using h1
  unfold execOp
  rw [ho]
  go_simp
/-- what operation j of the region leaves that appends an and -/
def andR (T : TypeId) (W : World) (B : Nat) (v : Value) (b o : Nat) (x y z : Int) (q' : Nat) (acc : List Tri) : Nat → (Nat → Value) → World → Prop
  | 0, f, _ => f 14 = v
  | 1, f, _ => f 15 = .slice (some ⟨b, o, none⟩) 3 q'
  | 2, f, _ => f 16 = .pointer (some ⟨b, o + (0 : Nat), none⟩)
  | 3, f, _ => f 17 = .int .i64 x
  | 4, f, _ => f 18 = .slice (some ⟨b, o, none⟩) 3 q'
  | 5, f, _ => f 19 = .pointer (some ⟨b, o + (1 : Nat), none⟩)
  | 6, f, _ => f 20 = .int .i64 y
  | 7, f, _ => f 21 = .slice (some ⟨b, o, none⟩) 3 q'
  | 8, f, _ => f 22 = .pointer (some ⟨b, o + (2 : Nat), none⟩)
  | 9, f, _ => f 23 = .int .i64 z
  | 10, f, _ => f 24 = .agg #[.int .i64 x, .int .i64 y, .int .i64 z]
  | 11, f, w => ∃ g, f 25 = .slice (some ⟨g, 0, none⟩) 1 1 ∧ W.heap.size ≤ g ∧ w.heap[g]? = some (.cells #[.int .i64 x, .int .i64 y, .int .i64 z] T (0, 0))
  | 12, f, w => OwnC w B T 3 (f 26) (tris (acc ++ [⟨x, y, z⟩]))
  | 13, f, _ => f 5 = f 26
  | _, _, _ => True
def andM (j : Nat) : List Nat := if j < 13 then [14 + j] else if j = 13 then [5, 26] else []
theorem and_stab {T : TypeId} {W : World} {B : Nat} {v : Value} {b o : Nat} {x y z : Int} {q' : Nat} {acc : List Tri} (j : Nat) {f f' : Nat → Value} {w w' : World} (hb : Below w.heap.size w w') (hf : ∀ t ∈ andM j, f' t = f t) (h : andR T W B v b o x y z q' acc j f w) : andR T W B v b o x y z q' acc j f' w' := by
  match j, hf, h with
  | 0, hf, h => exact (hf 14 (by decide)).trans h
  | 1, hf, h => exact (hf 15 (by decide)).trans h
  | 2, hf, h => exact (hf 16 (by decide)).trans h
  | 3, hf, h => exact (hf 17 (by decide)).trans h
  | 4, hf, h => exact (hf 18 (by decide)).trans h
  | 5, hf, h => exact (hf 19 (by decide)).trans h
  | 6, hf, h => exact (hf 20 (by decide)).trans h
  | 7, hf, h => exact (hf 21 (by decide)).trans h
  | 8, hf, h => exact (hf 22 (by decide)).trans h
  | 9, hf, h => exact (hf 23 (by decide)).trans h
  | 10, hf, h => exact (hf 24 (by decide)).trans h
  | 11, hf, h =>
    obtain ⟨g, h1, h2, h3⟩ := h
    exact ⟨g, (hf 25 (by decide)).trans h1, h2, (hb.block g (lt_of_block h3)).trans h3⟩
  | 12, hf, h =>
    show OwnC w' B T 3 (f' 26) _
    rw [hf 26 (by decide)]; exact OwnC.keep h hb
  | 13, hf, h => exact (hf 5 (by decide)).trans (Eq.trans h (hf 26 (by decide)).symm)
  | _ + 14, _, _ => trivial
/-- the append changes no more than the list's own block -/
theorem and_stab12 {T : TypeId} {W : World} {B : Nat} {v : Value} {b o : Nat} {x y z : Int} {q' : Nat} {acc : List Tri} (j : Nat) (hj : j ≠ 12) {f f' : Nat → Value} {w w' : World} (hb : ∀ g, W.heap.size ≤ g → g < w.heap.size → w'.heap[g]? = w.heap[g]?) (hf : ∀ t ∈ andM j, f' t = f t) (h : andR T W B v b o x y z q' acc j f w) : andR T W B v b o x y z q' acc j f' w' := by
  match j, hf, h with
  | 0, hf, h => exact (hf 14 (by decide)).trans h
  | 1, hf, h => exact (hf 15 (by decide)).trans h
  | 2, hf, h => exact (hf 16 (by decide)).trans h
  | 3, hf, h => exact (hf 17 (by decide)).trans h
  | 4, hf, h => exact (hf 18 (by decide)).trans h
  | 5, hf, h => exact (hf 19 (by decide)).trans h
  | 6, hf, h => exact (hf 20 (by decide)).trans h
  | 7, hf, h => exact (hf 21 (by decide)).trans h
  | 8, hf, h => exact (hf 22 (by decide)).trans h
  | 9, hf, h => exact (hf 23 (by decide)).trans h
  | 10, hf, h => exact (hf 24 (by decide)).trans h
  | 11, hf, h =>
    obtain ⟨g, h1, h2, h3⟩ := h
    exact ⟨g, (hf 25 (by decide)).trans h1, h2, (hb g h2 (lt_of_block h3)).trans h3⟩
  | 12, _, _ => exact absurd rfl hj
  | 13, hf, h => exact (hf 5 (by decide)).trans (Eq.trans h (hf 26 (by decide)).symm)
  | _ + 14, _, _ => trivial
end Go.Proofs.YtpbggngeopjefaaDoor.Aag
namespace Go.Proofs.YtpbggngeopjefaaDoor.Aag
open Go.ChangeShapes Go.WideShapes Go.ChangeAt Go.RowKit Dig Circ Cw

def svs (l : List (List UInt8)) : List (List Value) := l.map fun s => [sv s]
theorem svs_length (l : List (List UInt8)) : (svs l).length = l.length := by simp [svs]
theorem svs_flatten (l : List (List UInt8)) : (svs l).flatten = l.map sv := by
  induction l with
  | nil => rfl
  | cons a l ih => unfold svs at ih ⊢; simp [ih]
theorem svs_texts {w : World} {B : Nat} {v : Value} {l : List (List UInt8)} (h : OwnC w B 9 1 v (svs l)) : Texts B v l w := by
  unfold OwnC at h
  rw [svs_length, svs_flatten] at h
  exact h
theorem svs_snoc (l : List (List UInt8)) (s : List UInt8) : svs l ++ [[sv s]] = svs (l ++ [s]) := by simp [svs]
theorem nums_take (l : List Int) (k : Nat) (h : k < l.length) : nums (l.take (k + 1)) = nums (l.take k) ++ [Lib.itoa l[k]] := by
  unfold nums; rw [List.take_succ_eq_append_getElem h, List.map_append, List.map_cons, List.map_nil]
end Go.Proofs.YtpbggngeopjefaaDoor.Aag
namespace Go.Proofs.YtpbggngeopjefaaDoor.Bldw
open Go.RowKit

theorem sizeBuilder : (Tryd.prog.info? 111).map (·.size) = some 2 := by kernel_rfl
theorem infoByte : (Tryd.prog.info? 5).map (fun i => (i.zero, i.size, i.bytes)) = some (some (.int .u8 0), 1, 1) := by kernel_rfl

/-- all blocks but b, and but those of bytes, are as they were -/
def KeptT (b : Nat) (w w' : World) : Prop := ∀ k, k < w.heap.size → k ≠ b → (∀ c f, w.heap[k]? ≠ some (.cells c 5 f)) → w'.heap[k]? = w.heap[k]?
theorem KeptT.trans {b : Nat} {w w1 w2 : World} (h : KeptT b w w1) (hz : w.heap.size ≤ w1.heap.size) (k : KeptT b w1 w2) : KeptT b w w2 := fun i hi hb hc => by
  have e := h i hi hb hc
  rw [← e]
  exact k i (Nat.lt_of_lt_of_le hi hz) hb (fun c f => by rw [e]; exact hc c f)
theorem KeptT.of {b : Nat} {w w' : World} (h : Below w.heap.size w w') : KeptT b w w' := fun k hk _ _ => h.block k hk
set_option maxRecDepth 100000 in
theorem check_used (b : Nat) (w : World) (h0 : w.cell? ⟨b, 0, none⟩ = some (.pointer (some ⟨b, 0, none⟩))) :
    Calls Tryd.prog 87 #[.pointer (some ⟨b, 0, none⟩)] w fun e w' => e = .returned (.tuple #[]) ∧ w = w' := by
  obtain ⟨j, hj, _⟩ := Option.map_eq_some_iff.1 sizeBuilder
  go_enter Tryd.func87, Tryd.ntmps87
  go_wp2
  rw [Lib.run_neq_ptr_same w _ Tryd.underlying109 hj]
  go_wp2
  go_end0
  exact ⟨rfl, rfl⟩

theorem cellsByte : Tryd.prog.cellsOf 5 = 1 := by kernel_rfl
end Go.Proofs.YtpbggngeopjefaaDoor.Bldw
namespace Go.Proofs.YtpbggngeopjefaaDoor.Dig
open Go.ChangeShapes Go.WideShapes Go.ChangeAt Go.RowKit

theorem itoa_len (n : Int) (h0 : -9223372036854775808 ≤ n) (h1 : n ≤ 9223372036854775807) : (Lib.itoa n).length ≤ 21 := by
  have h : ∀ u : Nat, u < 10 ^ 20 → (Lib.decDigits u).length ≤ 20 := fun u hu => by
    rw [Lib.decDigits_length]
    rcases Nat.lt_or_ge 20 (Lib.nDigits u) with h | h
    · exfalso
      have : ∀ k u : Nat, k + 1 ≤ Lib.nDigits u → 10 ^ k ≤ u ∨ k = 0 := by
        intro k
        induction k with
        | zero => intro u _; exact .inr rfl
        | succ k ih =>
          intro u hu
          left
          by_cases hs : u < 10
          · rw [Lib.nDigits_small hs] at hu; omega
          · rw [Lib.nDigits_big hs] at hu
            have := ih (u / 10) (by omega)
            rw [Nat.pow_succ]
            rcases this with h | h
            · omega
            · subst h; omega
      rcases this 20 u (by omega) with h | h
      · omega
      · omega
    · exact h
  unfold Lib.itoa
  split
  · simp only [List.length_cons]; have := h n.natAbs (by omega); omega
  · have := h n.toNat (by omega); omega

end Go.Proofs.YtpbggngeopjefaaDoor.Dig
namespace Go.Proofs.YtpbggngeopjefaaDoor.Aag
open Go.ChangeShapes Go.WideShapes Go.ChangeAt Go.RowKit Dig Circ Cw

theorem builderAt_below {T e : TypeId} {B b : Nat} {p : Value} {bs : List Value} {w w' : World} (h : Lib.BuilderAt T e B b p bs w) (hb : Below w.heap.size w w') : Lib.BuilderAt T e B b p bs w' := by
  obtain ⟨h1, v, h2, h3, h4⟩ := h
  exact ⟨h1, v, (hb.block b (lt_of_block h2)).trans h2, ownsRow_below h3 hb, h4⟩
theorem op_nil (a : Act) (w : World) (A : Addr) (t : Nat) (h : a.tmps.getD t undef = .pointer (some A)) (oo : Oper) (ho : oo.op = .nilCheck (.tmp t)) : (execOp a.eval oo).run Tryd.prog w = .ok (.value (.pointer (some A))) w := by
  have h' : a.tmps[t]?.getD undef = .pointer (some A) := by simpa using h
  unfold execOp
  rw [ho]
  go_simp
theorem op_call1 (a : Act) (w : World) (f t T : Nat) (hf : ∀ args w, (callFunc f args).run Tryd.prog w = .ok (.enter f args) w) (oo : Oper) (ho : oo.op = .call { callee := .value (.func f), args := #[.tmp t], argTypes := #[T] }) : (execOp a.eval oo).run Tryd.prog w = .ok (.enter f #[a.tmps.getD t undef]) w := by
  unfold execOp
  rw [ho]
  go_simp
theorem op_call2 (a : Act) (w : World) (f t s T S : Nat) (hf : ∀ args w, (callFunc f args).run Tryd.prog w = .ok (.enter f args) w) (oo : Oper) (ho : oo.op = .call { callee := .value (.func f), args := #[.tmp t, .tmp s], argTypes := #[T, S] }) : (execOp a.eval oo).run Tryd.prog w = .ok (.enter f #[a.tmps.getD t undef, a.tmps.getD s undef]) w := by
  unfold execOp
  rw [ho]
  go_simp
def lineM (j : Nat) : List Nat := if j < 5 then [4 + j] else []
theorem own_type {w : World} {base : Nat} {e : TypeId} {m : Nat} {v : Value} {xs : List (List Value)} (h : OwnC w base e m v xs) {g : Nat} (hg : v.ownBlock = some g) : ∃ cur, w.heap[g]? = some (.cells cur e (0, 0)) := by
  obtain ⟨_, h⟩ := h
  rcases h with ⟨rfl, h0⟩ | ⟨g', cap, cur, rfl, hb, hh, _⟩
  · simp [Value.ownBlock] at hg
  · have : g' = g := by simpa [Value.ownBlock] using hg
    subst this
    exact ⟨cur, hh⟩
theorem nl_snoc (l : List (List UInt8)) (x : List UInt8) : nlL (l ++ [x]) = nlL l ++ (x ++ [10]) := by rw [nl_append]; simp [nlL]
theorem one_text (w : World) (s : List UInt8) : ReadsTexts (.slice (some ⟨w.heap.size, 0, none⟩) 1 1) [s] (w.alloc (.cells #[sv s] 9)) :=
  .inr ⟨w.heap.size, 0, 1, rfl, by simp, fun i hi => by
    have : i = 0 := by simpa using hi
    subst this
    rw [Nat.add_zero, new_cell]; rfl⟩
theorem itoa_short (n : Int) (h : I64 n) : (Lib.itoa n).length ≤ 21 := itoa_len n h.1 h.2
theorem nl_lits (l : List Int) (h : ∀ x ∈ l, I64 x) : (nlL (l.map litL)).length ≤ 22 * l.length := by
  induction l with
  | nil => simp [nlL]
  | cons x l ih =>
    have h1 := ih fun y hy => h y (List.mem_cons_of_mem _ hy)
    have h2 := itoa_short x (h x List.mem_cons_self)
    have e : nlL ((x :: l).map litL) = (Lib.itoa x ++ [10]) ++ nlL (l.map litL) := by unfold nlL litL nums; rfl
    rw [e, List.length_append, List.length_append, List.length_cons]
    simp only [List.length_cons, List.length_nil]
    omega
end Go.Proofs.YtpbggngeopjefaaDoor.Aag
namespace Go.Proofs.YtpbggngeopjefaaDoor.Aag
open Go.ChangeShapes Go.WideShapes Go.ChangeAt Go.RowKit Dig Circ Cw

/-- the numbers that a call lays as a row -/
theorem ints_row (w : World) (l : List Int) (cs : Array Value) (T : TypeId) (h : cs.toList = l.map (Value.int .i64)) : LRow (w.alloc (.cells cs T)) (w.heap.size + 1) 1 (some ⟨w.heap.size, 0, none⟩) (ints l) :=
  .inr ⟨_, 0, rfl, Nat.lt_succ_self _, fun i ys hi j u hj => by
    have hil : i < l.length := by
      have := (List.getElem?_eq_some_iff.1 hi).1
      simpa [ints] using this
    have e : ys = [.int .i64 l[i]] := by
      unfold ints at hi
      rw [List.getElem?_map, List.getElem?_eq_getElem hil] at hi
      simpa using hi.symm
    subst e
    have hj0 : j = 0 := by
      have := (List.getElem?_eq_some_iff.1 hj).1
      simpa using this
    subst hj0
    rw [new_cell, Nat.zero_add, Nat.mul_one, Nat.add_zero, ← Array.getElem?_toList, h, List.getElem?_map, List.getElem?_eq_getElem hil]
    simpa using hj⟩
theorem own_reads {w : World} {base : Nat} {A : Option Addr} {n q : Nat} {L : List (List UInt8)} (h : OwnC w base 9 1 (.slice A n q) (svs L)) : n = L.length ∧ ReadsAt A L w := by
  have hn : n = L.length := by
    have := (svs_texts h).reads.at_
    obtain ⟨a, c, h1, _⟩ := this
    injection h1
  subst hn
  refine ⟨rfl, ?_⟩
  obtain ⟨a, c, h1, h2⟩ := (svs_texts h).reads.at_
  injection h1 with h1 _ _
  subst h1
  exact h2
theorem reads_take {A : Option Addr} {L : List (List UInt8)} {w : World} (h : ReadsAt A L w) (k : Nat) : ReadsAt A (L.take k) w := by
  rcases h with h | ⟨g, off, e, hg, hc⟩
  · left; rw [h]; simp
  · refine .inr ⟨g, off, e, hg, fun i hi => ?_⟩
    have hi2 : i < k ∧ i < L.length := by rw [List.length_take] at hi; omega
    rw [hc i hi2.2, List.getD_eq_getElem?_getD, List.getD_eq_getElem?_getD, List.getElem?_take, if_pos hi2.1]

/-- a row of one that a call lays is its own -/
theorem own_one (w : World) (base : Nat) (T : TypeId) (u : Value) (hb : base ≤ w.heap.size) : OwnC (w.alloc (.cells #[u] T)) base T 1 (.slice (some ⟨w.heap.size, 0, none⟩) 1 1) [[u]] :=
  ⟨by simp, .inr ⟨w.heap.size, 1, #[u], rfl, hb, Array.getElem?_push_size, Nat.le_refl _, by decide, by simp, by simp⟩⟩
theorem wpList_adds {ops : Array Oper} {rest : List Oper} {o : Oper} {a : Act} {Q : Exit → Act → World → Prop} (w : World) (hgd : o.guard = none) (s x : Operand) (T : TypeId)
    (ho : o.op = .call { callee := .builtin .append, args := #[s, x], argTypes := #[T, T] })
    (e m bytes : Nat) (z : Value) (hT : Tryd.prog.underlying T = some (.slice e)) (hi : (Tryd.prog.info? e).map (fun i => (i.zero, i.size, i.bytes)) = some (some z, m, bytes)) (hzs : z.cells.size = m) (hm : 0 < m)
    (base B : Nat) (v : Value) (xs : List (List Value)) (hown : OwnC w base e m v xs) (hs : a.eval s = v) (A : Option Addr) (n c : Nat) (l : List (List Value)) (hn : n = l.length) (hx : a.eval x = .slice A n c) (hr : LRow w B m A l) (hne : l ≠ [])
    (hlen : ∀ y ∈ l, y.length = m) (hone : ∀ y ∈ l, ∀ u ∈ y, u.oneCell' = true) (hbytes : (xs.length + l.length) * bytes ≤ 140737488355328) (hmax : xs.length + l.length ≤ 9223372036854775807) (hbase : base ≤ w.heap.size)
    (h : ∀ v' w', OwnC w' base e m v' (xs ++ l) → Below base w w' → wpList Tryd.prog ops Q rest (a.put o.dst v') w') : wpList Tryd.prog ops Q (o :: rest) a w := by
  subst hn
  obtain ⟨i0, hi0, hz0, hz1, hz2⟩ := info_parts hi
  rcases hr with hr | ⟨b, o', rfl, hb, hc⟩
  · exact absurd hr hne
  obtain ⟨v', w', h1, h2, h3, _, h5⟩ := run_append_own_at (P := Tryd.prog) w base T o.type e i0 z m bytes hT hi0 hz0 hz1 hz2 hzs hm v xs.length xs.flatten hown ⟨b, o', none⟩ l.length c l.flatten (flatten_len m l hlen) (fun j u hj => by
    rw [flatten_at m hm l hlen] at hj
    cases hq : l[j / m]? with
    | none => rw [hq] at hj; cases hj
    | some y =>
      rw [hq] at hj
      have h1 := hc (j / m) y hq (j % m) u hj
      have h3 : (⟨b, o', none⟩ : Addr).add j = ⟨b, o' + (j / m * m + j % m), none⟩ := by
        rw [show j / m * m + j % m = j by rw [Nat.mul_comm]; exact Nat.div_add_mod j m]
        unfold Addr.add
        by_cases hz : j = 0
        · simp [hz]
        · simp [hz]
      rw [h3]; exact h1) (fun u hu => by
        obtain ⟨y, hy, hu'⟩ := List.mem_flatten.1 hu
        exact hone y hy u hu') (by unfold maxLen; omega) hbytes hbase
  refine wpList_plain hgd fun K hK => ?_
  unfold Oper.wp execOp
  simp only [ho, resolve, invoke, builtin, Sem.run_bind, Sem.run_pure, Result.andThen_ok, List.map_toArray, List.map_cons, List.map_nil, hs, hx, h1]
  refine hK _ _ (h v' w' ?_ ?_)
  · unfold OwnC
    simpa using h2
  · exact ⟨h3.os, h3.tape, h3.output, h3.size, fun k hk => h3.block k (by omega) (fun e => by have := hown.block_lt k e.symm; omega)⟩

def headNs (c : Cir) : List Int := [c.max, c.ins.length, c.lats.length, c.outs.length, c.ands.length, c.bads.length, c.invs.length]
theorem headL_eq (c : Cir) : headL c = joinL ([97, 97, 103] :: nums (headNs c)) := rfl
theorem svs_one (L : List (List UInt8)) : (∀ y ∈ svs L, y.length = 1) ∧ ∀ y ∈ svs L, ∀ u ∈ y, u.oneCell' = true := by
  refine ⟨fun y hy => ?_, fun y hy u hu => ?_⟩
  · obtain ⟨s, _, rfl⟩ := List.mem_map.1 hy; rfl
  · obtain ⟨s, _, rfl⟩ := List.mem_map.1 hy
    simp only [List.mem_singleton] at hu
    subst hu; rfl

end Go.Proofs.YtpbggngeopjefaaDoor.Aag
namespace Go.Proofs.YtpbggngeopjefaaDoor.Aag
open Go.ChangeShapes Go.WideShapes Go.ChangeAt Go.RowKit Dig Circ Cw

theorem op_field_name (a : Act) (w : World) (X k : Nat) (t : Nat) (hk : k = 0 ∨ k = 1 ∨ k = 2) (h : a.tmps.getD t undef = .pointer (some ⟨X, 0, none⟩)) (oo : Oper) (ho : oo.op = .fieldAddr 45 (.tmp t) k) : (execOp a.eval oo).run Tryd.prog w = .ok (.value (.pointer (some ⟨X, k, none⟩))) w := by
  have h' : a.tmps[t]?.getD undef = .pointer (some ⟨X, 0, none⟩) := by simpa using h
  unfold execOp
  rw [ho]
  rcases hk with rfl | rfl | rfl <;> go_simp
theorem op_load_str (a : Act) (w : World) (A : Addr) (t : Nat) (v : Value) (h : a.tmps.getD t undef = .pointer (some A)) (hc : w.cell? A = some v) (oo : Oper) (ho : oo.op = .load 9 (.tmp t)) : (execOp a.eval oo).run Tryd.prog w = .ok (.value v) w := by
  have h' : a.tmps[t]?.getD undef = .pointer (some A) := by simpa using h
  unfold execOp
  rw [ho]
  go_simp
theorem op_cat (a : Act) (w : World) (x y : ByteArray) (t s : Nat) (h1 : a.tmps.getD t undef = .string x) (h2 : a.tmps.getD s undef = .string y) (hl : x.size + y.size ≤ 140737488355328) (oo : Oper) (ho : oo.op = .binOp .add 9 (.tmp t) (.tmp s) 9) : (execOp a.eval oo).run Tryd.prog w = .ok (.value (.string (x ++ y))) w := by
  have h1' : a.tmps[t]?.getD undef = .string x := by simpa using h1
  have h2' : a.tmps[s]?.getD undef = .string y := by simpa using h2
  unfold execOp
  rw [ho]
  have hl2 : x.size + y.size ≤ 9223372036854775807 := by omega
  go_simp
theorem op_slice_two (a : Act) (w : World) (x y : ByteArray) (t s : Nat) (h1 : a.tmps.getD t undef = .string x) (h2 : a.tmps.getD s undef = .string y) (oo : Oper) (ho : oo.op = .buildSlice 92 2 #[(0, .tmp t), (1, .tmp s)]) : (execOp a.eval oo).run Tryd.prog w = .ok (.value (.slice (some ⟨w.heap.size, 0, none⟩) 2 2)) (w.alloc (.cells #[.string x, .string y] 9)) := by
  have h1' : a.tmps[t]?.getD undef = .string x := by simpa using h1
  have h2' : a.tmps[s]?.getD undef = .string y := by simpa using h2
  unfold execOp
  rw [ho]
  go_simp

theorem cat_eq (x : ByteArray) (l : List UInt8) : (x ++ ⟨l.toArray⟩ : ByteArray) = ⟨(x.data.toList ++ l).toArray⟩ := by
  have : (x ++ (⟨l.toArray⟩ : ByteArray)).data.toList = x.data.toList ++ l := by simp
  cases h : (x ++ (⟨l.toArray⟩ : ByteArray)) with
  | mk d => rw [h] at this; simp only at this; rw [← this]
theorem text_eq (x : ByteArray) : sv x.data.toList = .string x := by cases x; rfl
def catV (x : Nam) : ByteArray := x.kind ++ ⟨(Lib.itoa x.num).toArray⟩
theorem catV_eq (x : Nam) : Value.string (catV x) = sv (x.kind.data.toList ++ Lib.itoa x.num) := by unfold catV sv; rw [cat_eq]
def nlM (j : Nat) : List Nat := if j < 9 then [65 + j] else []
theorem two_texts {w : World} {g : Nat} {x : Nam} (h : w.heap[g]? = some (.cells #[.string (catV x), .string x.text] 9 (0, 0))) : ReadsTexts (.slice (some ⟨g, 0, none⟩) 2 2) [x.kind.data.toList ++ Lib.itoa x.num, x.text.data.toList] w :=
  .inr ⟨g, 0, 2, rfl, lt_of_block h, fun i hi => by
    have hi2 : i < 2 := hi
    have e : w.cell? ⟨g, 0 + i, none⟩ = (#[.string (catV x), .string x.text] : Array Value)[i]? := by simp [World.cell?, h]
    rw [e]
    match i, hi2 with
    | 0, _ => exact congrArg some (catV_eq x)
    | 1, _ => exact congrArg some (text_eq x.text).symm⟩
end Go.Proofs.YtpbggngeopjefaaDoor.Aag
