/- The walks of aag's reading of latches, of a header and of names; no condition. -/
import Derived.Test.YtopjddmgejfalaaGreatDoorPk17
import Derived.Test.YtopjddmgejfalaaGreatDoorPk09
namespace Go.Proofs.YtopjddmgejfalaaGreatDoor.Aag
open Go.ChangeShapes Go.WideShapes Go.ChangeAt Go.RowKit Dig Circ Cw

end Go.Proofs.YtopjddmgejfalaaGreatDoor.Aag
namespace Go.Proofs.YtopjddmgejfalaaGreatDoor.Aag
open Go.ChangeShapes Go.WideShapes Go.ChangeAt Go.RowKit Dig Circ Cw

theorem op_one_more (a : Act) (w : World) (j : Nat) (t : Nat) (hj : j < 1000000) (h : a.tmps.getD t undef = .int .i64 (j : Int)) (oo : Oper) (ho : oo.op = .binOp .add 3 (.const (.int .i64 1)) (.tmp t) 3) : (execOp a.eval oo).run Tryz.prog w = .ok (.value (.int .i64 ((1 + j : Nat) : Int))) w := by
  have h' : a.tmps[t]?.getD undef = .int .i64 (j : Int) := by simpa using h
  unfold execOp
  rw [ho]
  have h0 : IntKind.i64.wrap (1 + (j : Int)) = ((1 + j : Nat) : Int) := by rw [IntKind.wrap_i64]; omega
  go_simp
theorem op_index_lstr_at (a : Act) (w : World) (b o n q k : Nat) (t s : Nat) (h : a.tmps.getD t undef = .slice (some ⟨b, o, none⟩) n q) (h2 : a.tmps.getD s undef = .int .i64 (k : Int)) (hk : k < n) (oo : Oper) (ho : oo.op = .indexAddr 71 (.tmp t) (.tmp s)) : (execOp a.eval oo).run Tryz.prog w = .ok (.value (.pointer (some ⟨b, o + k, none⟩))) w := by
  have h' : a.tmps[t]?.getD undef = .slice (some ⟨b, o, none⟩) n q := by simpa using h
  have h2' : a.tmps[s]?.getD undef = .int .i64 (k : Int) := by simpa using h2
  unfold execOp
  rw [ho]
  have h0 : (0 : Int) ≤ k := by omega
  have h1 : (k : Int) < n := by omega
  go_simp
theorem op_index_arr7 (a : Act) (w : World) (g k : Nat) (t s : Nat) (h : a.tmps.getD t undef = .pointer (some ⟨g, 0, none⟩)) (h2 : a.tmps.getD s undef = .int .i64 (k : Int)) (hk : k < 7) (oo : Oper) (ho : oo.op = .indexAddr 111 (.tmp t) (.tmp s)) : (execOp a.eval oo).run Tryz.prog w = .ok (.value (.pointer (some ⟨g, k, none⟩))) w := by
  have h' : a.tmps[t]?.getD undef = .pointer (some ⟨g, 0, none⟩) := by simpa using h
  have h2' : a.tmps[s]?.getD undef = .int .i64 (k : Int) := by simpa using h2
  unfold execOp
  rw [ho]
  have h0 : (0 : Int) ≤ k := by omega
  have h1 : (k : Int) < 7 := by omega
  go_simp
theorem head_counts {l : List UInt8} (h : wordsOk [8] l = true) : (wordsL l).length = 8 := by
  unfold wordsOk at h
  simp only [Bool.and_eq_true, List.contains_cons, List.contains_nil, Bool.or_false, beq_iff_eq] at h
  exact h.1
theorem eight {α : Type} (l : List α) (d : α) (h : l.length = 8) : l.drop 1 = [l.getD 1 d, l.getD 2 d, l.getD 3 d, l.getD 4 d, l.getD 5 d, l.getD 6 d, l.getD 7 d] := by
  match l, h with
  | [x0, x1, x2, x3, x4, x5, x6, x7], _ => rfl
theorem row7 (ws : List (List UInt8)) (z : Array Value) (hz : z.size = 7) (h : ∀ k, k < 7 → z[k]? = some (.int .i64 (numV (ws.getD (1 + k) [])))) : z = #[.int .i64 (numV (ws.getD 1 [])), .int .i64 (numV (ws.getD 2 [])), .int .i64 (numV (ws.getD 3 [])), .int .i64 (numV (ws.getD 4 [])), .int .i64 (numV (ws.getD 5 [])), .int .i64 (numV (ws.getD 6 [])), .int .i64 (numV (ws.getD 7 []))] := by
  apply Array.ext
  · rw [hz]; rfl
  · intro i h1 h2
    have h3 := h i (by omega)
    rw [Array.getElem?_eq_getElem h1] at h3
    have h4 := Option.some.inj h3
    rw [h4]
    have h5 : i < 7 := by omega
    match i, h5 with
    | 0, _ => rfl
    | 1, _ => rfl
    | 2, _ => rfl
    | 3, _ => rfl
    | 4, _ => rfl
    | 5, _ => rfl
    | 6, _ => rfl
end Go.Proofs.YtopjddmgejfalaaGreatDoor.Aag
namespace Go.Proofs.YtopjddmgejfalaaGreatDoor.Aag
open Go.ChangeShapes Go.WideShapes Go.ChangeAt Go.RowKit Dig Circ Cw

theorem kinds_any (b : UInt8) (w : World) : Calls Tryz.prog 63 #[.string ⟨#[105, 108, 111, 98, 99]⟩, sv [b]] w fun e w' => e = .returned (.bool (kindsL.contains b)) ∧ w' = w := by
  refine (Tryz.strings_Contains_one ⟨#[105, 108, 111, 98, 99]⟩ b w).mono fun e w' ⟨he, hw⟩ => ⟨?_, hw⟩
  rw [he]
  have : decide (0 ≤ Lib.indexByte [105, 108, 111, 98, 99] b) = kindsL.contains b := by
    have h : ∀ l : List UInt8, decide (0 ≤ Lib.indexByte l b) = l.contains b := by
      intro l
      induction l with
      | nil => rfl
      | cons x l ih =>
        unfold Lib.indexByte
        rw [List.contains_cons]
        by_cases hx : x = b
        · subst hx; simp
        · have h1 : (x == b) = false := by simpa using hx
          have h2 : (b == x) = false := by simpa using Ne.symm hx
          rw [h1, h2, Bool.false_or, ← ih]
          have := Lib.indexByte_ge l b
          by_cases hi : Lib.indexByte l b = -1
          · simp [hi]
          · have h3 : (Lib.indexByte l b == -1) = false := by simpa using hi
            simp only [h3, Bool.false_eq_true, if_false]
            congr 1
            apply propext
            omega
    exact h _
  exact congrArg (fun x => Ending.returned (.bool x)) this
theorem op_call_c (a : Act) (w : World) (f t T S : Nat) (v : Value) (hf : ∀ args w, (callFunc f args).run Tryz.prog w = .ok (.enter f args) w) (oo : Oper) (ho : oo.op = .call { callee := .value (.func f), args := #[.const v, .tmp t], argTypes := #[T, S] }) : (execOp a.eval oo).run Tryz.prog w = .ok (.enter f #[v, a.tmps.getD t undef]) w := by
  unfold execOp
  rw [ho]
  go_simp
theorem op_take1 (a : Act) (w : World) (b0 : UInt8) (t0 : List UInt8) (t : Nat) (h : a.tmps.getD t undef = sv (b0 :: t0)) (hl : t0.length ≤ 4194304) (oo : Oper) (ho : oo.op = .slice 9 (.tmp t) none (some (.const (.int .i64 1))) none) : (execOp a.eval oo).run Tryz.prog w = .ok (.value (sv [b0])) w := by
  have h' : a.tmps[t]?.getD undef = .string ⟨(b0 :: t0).toArray⟩ := by simpa [sv] using h
  clear h
  unfold sv execOp
  rw [ho]
  have h1 : (0 : Int) ≤ 1 := by decide
  have h2 : (1 : Int) ≤ (t0.length : Int) + 1 := by omega
  go_simp
  rw [show ((⟨(b0 :: t0).toArray⟩ : ByteArray).extract 0 1) = ⟨#[b0]⟩ from ByteArray.ext (by rw [ByteArray.data_extract]; simp)]
theorem op_drop1 (a : Act) (w : World) (b0 : UInt8) (t0 : List UInt8) (t : Nat) (h : a.tmps.getD t undef = sv (b0 :: t0)) (hl : t0.length ≤ 4194304) (oo : Oper) (ho : oo.op = .slice 9 (.tmp t) (some (.const (.int .i64 1))) none none) : (execOp a.eval oo).run Tryz.prog w = .ok (.value (sv t0)) w := by
  have h' : a.tmps[t]?.getD undef = .string ⟨(b0 :: t0).toArray⟩ := by simpa [sv] using h
  clear h
  unfold sv execOp
  rw [ho]
  have h1 : (0 : Int) ≤ 1 := by decide
  have h2 : (1 : Int) ≤ (t0.length : Int) + 1 := by omega
  go_simp
  rw [show ((⟨(b0 :: t0).toArray⟩ : ByteArray).extract 1 (t0.length + 1)) = ⟨t0.toArray⟩ from ByteArray.ext (by rw [ByteArray.data_extract]; simp)]
theorem op_build_nam (a : Act) (w : World) (x y : List UInt8) (n : Int) (i j k : Nat) (h1 : a.tmps.getD i undef = sv x) (h2 : a.tmps.getD j undef = .int .i64 n) (h3 : a.tmps.getD k undef = sv y) (oo : Oper) (ho : oo.op = .build 57 #[(0, .tmp i), (1, .tmp j), (2, .tmp k)]) : (execOp a.eval oo).run Tryz.prog w = .ok (.value (.agg #[.string ⟨x.toArray⟩, .int .i64 n, .string ⟨y.toArray⟩])) w := by
  have h1' : a.tmps[i]?.getD undef = .string ⟨x.toArray⟩ := by simpa [sv] using h1
  have h2' : a.tmps[j]?.getD undef = .int .i64 n := by simpa using h2
  have h3' : a.tmps[k]?.getD undef = .string ⟨y.toArray⟩ := by simpa [sv] using h3
  clear h1 h2 h3
  unfold execOp
  rw [ho]
  go_simp
theorem op_store_nam (a : Act) (w : World) (g : Nat) (z : Array Value) (hg : w.heap[g]? = some (.cells z 57 (0, 0))) (hz : z.size = 3) (x y : ByteArray) (c : Int) (p s : Nat) (hp : a.tmps.getD p undef = .pointer (some ⟨g, 0, none⟩)) (hs : a.tmps.getD s undef = .agg #[.string x, .int .i64 c, .string y]) (o : Oper) (ho : o.op = .store 57 (.tmp p) (.tmp s)) : ∃ w', (execOp a.eval o).run Tryz.prog w = .ok .skip w' ∧ w'.heap[g]? = some (.cells #[.string x, .int .i64 c, .string y] 57 (0, 0)) ∧ But g w w' := by
  obtain ⟨Z1, Z2, Z3, u0, u1, u2, ⟨hS1, p0, t0⟩, ⟨hS2, p1, t1⟩, ⟨hS3, p2, t2⟩, E3, FF⟩ := store3 hg hz (.string x) (.int .i64 c) (.string y)
  refine ⟨Z3, ?_, E3, FF⟩
  unfold execOp
  rw [ho]
  have hp' : a.tmps[p]?.getD undef = .pointer (some ⟨g, 0, none⟩) := by simpa using hp
  have hs' : a.tmps[s]?.getD undef = .agg #[.string x, .int .i64 c, .string y] := by simpa using hs
  clear hp hs hg hz E3 FF
  go_simp
theorem nam_counts {l : List UInt8} (h : wordsOk [2] l = true) : (wordsL l).length = 2 := by
  unfold wordsOk at h
  simp only [Bool.and_eq_true, List.contains_cons, List.contains_nil, Bool.or_false, beq_iff_eq] at h
  exact h.1
theorem formNam_no {l : List UInt8} (h : wordsOk [2] l = false) : formNam l = none := by unfold formNam; rw [h]; rfl
theorem formNam_no0 {l : List UInt8} {b : UInt8} {t : List UInt8} (h0 : (wordsL l).getD 0 [] = b :: t) (h : kindsL.contains b = false) : formNam l = none := by
  unfold formNam; rw [h0, List.getD_cons_zero, h]; simp
theorem formNam_no1 {l : List UInt8} {b : UInt8} {t : List UInt8} (h0 : (wordsL l).getD 0 [] = b :: t) (h : numOk t = false) : formNam l = none := by
  unfold formNam; rw [h0, List.drop_succ_cons, List.drop_zero, h]; simp
theorem formNam_yes {l : List UInt8} {b : UInt8} {t : List UInt8} (hw : wordsOk [2] l = true) (h0 : (wordsL l).getD 0 [] = b :: t) (h1 : kindsL.contains b = true) (h : numOk t = true) : formNam l = some ⟨⟨#[b]⟩, numV t, ⟨((wordsL l).getD 1 []).toArray⟩⟩ := by
  unfold formNam; rw [hw, h0, List.getD_cons_zero, h1, List.drop_succ_cons, List.drop_zero, h]; rfl
theorem nams_length1 (l : List Nam) : (nams l).length = l.length := by simp [nams]
theorem nams_snoc (l : List Nam) (t : Nam) : nams l ++ [t.cells] = nams (l ++ [t]) := by simp [nams]
end Go.Proofs.YtopjddmgejfalaaGreatDoor.Aag
