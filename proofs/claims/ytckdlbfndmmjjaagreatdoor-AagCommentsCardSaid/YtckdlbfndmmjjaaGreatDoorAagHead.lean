/- The walks of aag's printing of a latch's line and of the header; conditions: the table of powers of ten is as it is laid, sizes as stated. -/
import Derived.Test.YtckdlbfndmmjjaaGreatDoorAagLine
namespace Go.Proofs.YtckdlbfndmmjjaaGreatDoor.Aag
open Go.ChangeShapes Go.WideShapes Go.ChangeAt Go.RowKit Dig Circ Cw

/-- the numbers that a call lays as a row -/
theorem ints_row (w : World) (l : List Int) (cs : Array Value) (T : TypeId) (h : cs.toList = l.map (Value.int .i64)) : LRow (w.alloc (.cells cs T)) (w.heap.size + 1) 1 (some ⟨w.heap.size, 0, none⟩) (ints l) :=
  .inr ⟨_, 0, rfl, Nat.lt_succ_self _, fun i ys hi j u hj => by
    have hil : i < l.length := by
      have := (List.getElem?_eq_some_iff.1 hi).1
      simpa [ints] using this
    have e : ys = [.int .i64 l[i]] := by
      unfold ints at hi
      rw [List.getElem?_map, List.getElem?_eq_getElem hil] at hi
      simpa using hi.symm
    subst e
    have hj0 : j = 0 := by
      have := (List.getElem?_eq_some_iff.1 hj).1
      simpa using this
    subst hj0
    rw [new_cell, Nat.zero_add, Nat.mul_one, Nat.add_zero, ← Array.getElem?_toList, h, List.getElem?_map, List.getElem?_eq_getElem hil]
    simpa using hj⟩
theorem own_reads {w : World} {base : Nat} {A : Option Addr} {n q : Nat} {L : List (List UInt8)} (h : OwnC w base 9 1 (.slice A n q) (svs L)) : n = L.length ∧ ReadsAt A L w := by
  have hn : n = L.length := by
    have := (svs_texts h).reads.at_
    obtain ⟨a, c, h1, _⟩ := this
    injection h1
  subst hn
  refine ⟨rfl, ?_⟩
  obtain ⟨a, c, h1, h2⟩ := (svs_texts h).reads.at_
  injection h1 with h1 _ _
  subst h1
  exact h2
theorem reads_take {A : Option Addr} {L : List (List UInt8)} {w : World} (h : ReadsAt A L w) (k : Nat) : ReadsAt A (L.take k) w := by
  rcases h with h | ⟨g, off, e, hg, hc⟩
  · left; rw [h]; simp
  · refine .inr ⟨g, off, e, hg, fun i hi => ?_⟩
    have hi2 : i < k ∧ i < L.length := by rw [List.length_take] at hi; omega
    rw [hc i hi2.2, List.getD_eq_getElem?_getD, List.getD_eq_getElem?_getD, List.getElem?_take, if_pos hi2.1]

set_option maxHeartbeats 2000000 in
set_option maxRecDepth 100000 in
theorem wlatch_any (B b : Nat) (t : Tri) (l : List UInt8) (w : World) (h : WS B b l w) (hB : B ≤ w.heap.size) (ht : t.fits) (htab : Tab w) (hl : l.length ≤ 35184372088832) :
    Calls Tryz.prog 14 #[.pointer (some ⟨b, 0, none⟩), .agg #[.int .i64 t.a, .int .i64 t.b, .int .i64 t.c]] w fun e w' => e = .returned (.tuple #[]) ∧ WS B b (l ++ (latL t ++ [10])) w' ∧ Below B w w' := by
  obtain ⟨x, y, z⟩ := t
  obtain ⟨hx, hy, hz⟩ := ht
  have hs1 : (w.alloc (.cells #[.int .i64 x, .int .i64 y, .int .i64 z] 48)).heap.size = w.heap.size + 1 := by simp
  have A1 : Hid (Below w.heap.size w (w.alloc (.cells #[.int .i64 x, .int .i64 y, .int .i64 z] 48))) := (Below.refl _ _).alloc (Nat.le_refl _) _
  have A2 : Hid (Below w.heap.size w ((w.alloc (.cells #[.int .i64 x, .int .i64 y, .int .i64 z] 48)).alloc (.cells #[.int .i64 x, .int .i64 y, .int .i64 z] 3))) := A1.out.alloc A1.out.size _
  have PA := Lib.hid (printed_any [x, y, z] _ 3 _ _ (by simp) (ints_row (w.alloc (.cells #[.int .i64 x, .int .i64 y, .int .i64 z] 48)) [x, y, z] #[.int .i64 x, .int .i64 y, .int .i64 z] 3 rfl) (by simp) (by simpa using ⟨hx, hy, hz⟩) (fun w' hb => htab w' (A2.out.trans (hb.mono A2.out.size))))
  have hz0 : ∀ w', Below (w.heap.size + 1) (w.alloc (.cells #[.int .i64 x, .int .i64 y, .int .i64 z] 48)) w' → w'.cell? ⟨w.heap.size, 2, none⟩ = some (.int .i64 z) := fun w' hb => by
    rw [hb.cell (by exact Nat.lt_succ_self _), new_cell]; rfl
  have HZ0 := Lib.hid hz0
  have H := Lib.hid h
  have HI : Hid ((Lib.itoa x).length ≤ 21 ∧ (Lib.itoa y).length ≤ 21 ∧ (Lib.itoa z).length ≤ 21) := ⟨itoa_short x hx, itoa_short y hy, itoa_short z hz⟩
  rw [hs1] at PA
  clear h htab hz0 hs1
  simp only [List.length_cons, List.length_nil] at PA
  unfold latL
  simp only
  go_enter Tryz.func14, Tryz.ntmps14
  go_wp2_with fail
  refine PA.out.mono ?_
  rintro e w1 ⟨v, rfl, hown, hb1⟩
  have O1 := Lib.hid hown
  have B1 : Hid (Below w.heap.size w w1) := A2.out.trans (hb1.mono A2.out.size)
  have hc := HZ0.out w1 (((Below.refl (w.heap.size + 1) _).alloc (by simp) _).trans (hb1.mono (by simp)))
  obtain ⟨A', q', hv, -, hq1, hq2⟩ := hown.row (by decide) (by intro y hy; unfold svs at hy; obtain ⟨s, _, rfl⟩ := List.mem_map.1 hy; rfl)
  subst hv
  have hn3 : (svs (nums [x, y, z])).length = 3 := rfl
  rw [hn3] at O1 hq1
  rw [hn3]
  obtain ⟨-, hr⟩ := own_reads O1.out
  have HR := Lib.hid hr
  clear hown hb1 PA hr hn3
  by_cases hz' : z = 0
  · subst hz'
    have LN := Lib.hid (wline_any B b (.slice A' 2 q') (nums [x, y]) l w1 (H.out.below B1.out) (Nat.le_trans hB B1.out.size) ((reads_take HR.out 2).texts) (by have := HI.out; simp [nums]; omega) (by omega))
    go_wp2_with fail
    refine LN.out.mono ?_
    rintro e w2 ⟨rfl, hws, hb2, -⟩
    have HW := Lib.hid hws
    have HB2 := Lib.hid ((B1.out.mono hB).trans hb2)
    clear hws hb2
    go_wp2
    go_end0
    exact ⟨rfl, HW.out, HB2.out⟩
  · have hzb : (z == 0) = false := by simpa using hz'
    have LN := Lib.hid (wline_any B b (.slice A' 3 q') (nums [x, y, z]) l w1 (H.out.below B1.out) (Nat.le_trans hB B1.out.size) (HR.out.texts) (by have := HI.out; simp [nums]; omega) (by omega))
    go_wp2_with fail
    refine LN.out.mono ?_
    rintro e w2 ⟨rfl, hws, hb2, -⟩
    have HW := Lib.hid hws
    have HB2 := Lib.hid ((B1.out.mono hB).trans hb2)
    clear hws hb2
    go_wp2
    go_end0
    exact ⟨rfl, HW.out, HB2.out⟩

/-- a row of one that a call lays is its own -/
theorem own_one (w : World) (base : Nat) (T : TypeId) (u : Value) (hb : base ≤ w.heap.size) : OwnC (w.alloc (.cells #[u] T)) base T 1 (.slice (some ⟨w.heap.size, 0, none⟩) 1 1) [[u]] :=
  ⟨by simp, .inr ⟨w.heap.size, 1, #[u], rfl, hb, Array.getElem?_push_size, Nat.le_refl _, by decide, by simp, by simp⟩⟩
theorem wpList_adds {ops : Array Oper} {rest : List Oper} {o : Oper} {a : Act} {Q : Exit → Act → World → Prop} (w : World) (hgd : o.guard = none) (s x : Operand) (T : TypeId)
    (ho : o.op = .call { callee := .builtin .append, args := #[s, x], argTypes := #[T, T] })
    (e m bytes : Nat) (z : Value) (hT : Tryz.prog.underlying T = some (.slice e)) (hi : (Tryz.prog.info? e).map (fun i => (i.zero, i.size, i.bytes)) = some (some z, m, bytes)) (hzs : z.cells.size = m) (hm : 0 < m)
    (base B : Nat) (v : Value) (xs : List (List Value)) (hown : OwnC w base e m v xs) (hs : a.eval s = v) (A : Option Addr) (n c : Nat) (l : List (List Value)) (hn : n = l.length) (hx : a.eval x = .slice A n c) (hr : LRow w B m A l) (hne : l ≠ [])
    (hlen : ∀ y ∈ l, y.length = m) (hone : ∀ y ∈ l, ∀ u ∈ y, u.oneCell' = true) (hbytes : (xs.length + l.length) * bytes ≤ 140737488355328) (hmax : xs.length + l.length ≤ 9223372036854775807) (hbase : base ≤ w.heap.size)
    (h : ∀ v' w', OwnC w' base e m v' (xs ++ l) → Below base w w' → wpList Tryz.prog ops Q rest (a.put o.dst v') w') : wpList Tryz.prog ops Q (o :: rest) a w := by
  subst hn
  obtain ⟨i0, hi0, hz0, hz1, hz2⟩ := info_parts hi
  rcases hr with hr | ⟨b, o', rfl, hb, hc⟩
  · exact absurd hr hne
  obtain ⟨v', w', h1, h2, h3, _, h5⟩ := run_append_own_at (P := Tryz.prog) w base T o.type e i0 z m bytes hT hi0 hz0 hz1 hz2 hzs hm v xs.length xs.flatten hown ⟨b, o', none⟩ l.length c l.flatten (flatten_len m l hlen) (fun j u hj => by
    rw [flatten_at m hm l hlen] at hj
    cases hq : l[j / m]? with
    | none => rw [hq] at hj; cases hj
    | some y =>
      rw [hq] at hj
      have h1 := hc (j / m) y hq (j % m) u hj
      have h3 : (⟨b, o', none⟩ : Addr).add j = ⟨b, o' + (j / m * m + j % m), none⟩ := by
        rw [show j / m * m + j % m = j by rw [Nat.mul_comm]; exact Nat.div_add_mod j m]
        unfold Addr.add
        by_cases hz : j = 0
        · simp [hz]
        · simp [hz]
      rw [h3]; exact h1) (fun u hu => by
        obtain ⟨y, hy, hu'⟩ := List.mem_flatten.1 hu
        exact hone y hy u hu') (by unfold maxLen; omega) hbytes hbase
  refine wpList_plain hgd fun K hK => ?_
  unfold Oper.wp execOp
  simp only [ho, resolve, invoke, builtin, Sem.run_bind, Sem.run_pure, Result.andThen_ok, List.map_toArray, List.map_cons, List.map_nil, hs, hx, h1]
  refine hK _ _ (h v' w' ?_ ?_)
  · unfold OwnC
    simpa using h2
  · exact ⟨h3.os, h3.tape, h3.output, h3.size, fun k hk => h3.block k (by omega) (fun e => by have := hown.block_lt k e.symm; omega)⟩

def headNs (c : Cir) : List Int := [c.max, c.ins.length, c.lats.length, c.outs.length, c.ands.length, c.bads.length, c.invs.length]
theorem headL_eq (c : Cir) : headL c = joinL ([97, 97, 103] :: nums (headNs c)) := rfl
theorem svs_one (L : List (List UInt8)) : (∀ y ∈ svs L, y.length = 1) ∧ ∀ y ∈ svs L, ∀ u ∈ y, u.oneCell' = true := by
  refine ⟨fun y hy => ?_, fun y hy u hu => ?_⟩
  · obtain ⟨s, _, rfl⟩ := List.mem_map.1 hy; rfl
  · obtain ⟨s, _, rfl⟩ := List.mem_map.1 hy
    simp only [List.mem_singleton] at hu
    subst hu; rfl

set_option maxHeartbeats 2000000 in
set_option maxRecDepth 100000 in
theorem wheader_any (B b : Nat) (c : Cir) (s : Places) (l : List UInt8) (w : World) (h : WS B b l w) (hB : B ≤ w.heap.size) (hf : CFits c s) (htab : Tab w) (hl : l.length ≤ 35184372088832) :
    Calls Tryz.prog 12 #[.pointer (some ⟨b, 0, none⟩), cirV c s] w fun e w' => e = .returned (.tuple #[]) ∧ WS B b (l ++ (headL c ++ [10])) w' ∧ Below B w w' := by
  have hI : ∀ x ∈ headNs c, I64 x := by
    have h0 := hf.max
    have h1 := hf.li; have h2 := hf.ll; have h3 := hf.lo; have h4 := hf.la; have h5 := hf.lb; have h6 := hf.lc
    intro x hx
    unfold headNs at hx
    simp only [List.mem_cons, List.not_mem_nil, or_false] at hx
    rcases hx with rfl | rfl | rfl | rfl | rfl | rfl | rfl
    · exact h0
    all_goals (constructor <;> omega)
  have A1 : Hid (Below w.heap.size w (w.alloc (.cells #[.int .i64 c.max, .slice s.ai c.ins.length s.ki, .slice s.al c.lats.length s.kl, .slice s.ao c.outs.length s.ko, .slice s.ab c.bads.length s.kb, .slice s.ac c.invs.length s.kc, .slice s.aa c.ands.length s.ka, .slice s.an c.names.length s.kn] 27))) := (Below.refl _ _).alloc (Nat.le_refl _) _
  have hs1 : (w.alloc (.cells #[.int .i64 c.max, .slice s.ai c.ins.length s.ki, .slice s.al c.lats.length s.kl, .slice s.ao c.outs.length s.ko, .slice s.ab c.bads.length s.kb, .slice s.ac c.invs.length s.kc, .slice s.aa c.ands.length s.ka, .slice s.an c.names.length s.kn] 27)).heap.size = w.heap.size + 1 := by simp
  have A2 : Hid (Below w.heap.size w ((w.alloc (.cells #[.int .i64 c.max, .slice s.ai c.ins.length s.ki, .slice s.al c.lats.length s.kl, .slice s.ao c.outs.length s.ko, .slice s.ab c.bads.length s.kb, .slice s.ac c.invs.length s.kc, .slice s.aa c.ands.length s.ka, .slice s.an c.names.length s.kn] 27)).alloc (.cells #[.int .i64 c.max, .int .i64 c.ins.length, .int .i64 c.lats.length, .int .i64 c.outs.length, .int .i64 c.ands.length, .int .i64 c.bads.length, .int .i64 c.invs.length] 3))) := A1.out.alloc A1.out.size _
  have PA := Lib.hid (printed_any (headNs c) _ 7 _ _ (by simp [headNs]) (ints_row (w.alloc (.cells #[.int .i64 c.max, .slice s.ai c.ins.length s.ki, .slice s.al c.lats.length s.kl, .slice s.ao c.outs.length s.ko, .slice s.ab c.bads.length s.kb, .slice s.ac c.invs.length s.kc, .slice s.aa c.ands.length s.ka, .slice s.an c.names.length s.kn] 27)) (headNs c) #[.int .i64 c.max, .int .i64 c.ins.length, .int .i64 c.lats.length, .int .i64 c.outs.length, .int .i64 c.ands.length, .int .i64 c.bads.length, .int .i64 c.invs.length] 3 rfl) (by simp) hI (fun w' hb => htab w' (A2.out.trans (hb.mono A2.out.size))))
  have HI : Hid (∀ x ∈ headNs c, (Lib.itoa x).length ≤ 21) := fun x hx => itoa_short x (hI x hx)
  have H := Lib.hid h
  rw [hs1] at PA
  clear h htab hs1 hI hf
  rw [show (headNs c).length = 7 from rfl] at PA
  rw [headL_eq]
  unfold cirV cirC
  go_enter Tryz.func12, Tryz.ntmps12
  go_wp2_with fail
  refine PA.out.mono ?_
  rintro e w1 ⟨v, rfl, hown, hb1⟩
  have B1 : Hid (Below w.heap.size w w1) := A2.out.trans (hb1.mono A2.out.size)
  obtain ⟨A', q', hv, hrow, hq1, hq2⟩ := hown.row (by decide) (svs_one _).1
  subst hv
  have hn7 : (svs (nums (headNs c))).length = 7 := rfl
  have hal : Below w1.heap.size w1 (w1.alloc (.cells #[sv [97, 97, 103]] 9)) := (Below.refl _ _).alloc (Nat.le_refl _) _
  have HR := Lib.hid (hrow.below hal)
  have O1 := Lib.hid (own_one w1 w1.heap.size 9 (sv [97, 97, 103]) (Nat.le_refl _))
  have AL := Lib.hid hal
  have W1 := Lib.hid (H.out.below B1.out)
  rw [hn7] at hq1
  rw [hn7]
  clear hown hb1 PA hrow hn7 hal
  unfold sv at O1 AL HR
  have hbase : Hid (w1.heap.size ≤ (w1.alloc (.cells #[.string ⟨([97, 97, 103] : List UInt8).toArray⟩] 9)).heap.size) := AL.out.size
  go_wp2_with (at_builtin; refine wpList_adds _ rfl (.tmp 28) (.tmp 29) 53 rfl 9 1 16 (.string ⟨#[]⟩) Tryz.underlying53 info9 rfl (by decide) w1.heap.size _ _ _ O1.out rfl A' 7 q' _ rfl rfl HR.out (by simp [svs, nums, headNs]) (svs_one _).1 (svs_one _).2 (by simp [svs, nums, headNs]) (by simp [svs, nums, headNs]) hbase.out ?_)
  intro v' w2 hown hbel
  have B2 : Hid (Below w1.heap.size w1 w2) := AL.out.trans hbel
  have hsz : (([97, 97, 103] : List UInt8) :: nums (headNs c)).flatten.length + (([97, 97, 103] : List UInt8) :: nums (headNs c)).length ≤ 4194304 := by
    have h1 : ∀ (L : List Int), (∀ x ∈ L, (Lib.itoa x).length ≤ 21) → (nums L).flatten.length ≤ 21 * L.length := by
      intro L
      induction L with
      | nil => intro _; simp [nums]
      | cons x L ih =>
        intro hx
        have := ih fun y hy => hx y (List.mem_cons_of_mem _ hy)
        have h2 := hx x List.mem_cons_self
        have e : (nums (x :: L)).flatten = Lib.itoa x ++ (nums L).flatten := rfl
        rw [e, List.length_append, List.length_cons]
        omega
    have h2 := h1 (headNs c) HI.out
    rw [show (headNs c).length = 7 from rfl] at h2
    have h4 : ([97, 97, 103] : List UInt8).length = 3 := rfl
    have h5 : (([97, 97, 103] : List UInt8) :: nums (headNs c)).length = 8 := rfl
    rw [List.flatten_cons, List.length_append, h4, h5]
    omega
  have hT : Texts w1.heap.size v' (([97, 97, 103] : List UInt8) :: nums (headNs c)) w2 := svs_texts hown
  have LN := Lib.hid (wline_any B b v' _ l w2 (W1.out.below B2.out) (Nat.le_trans hB (Nat.le_trans B1.out.size B2.out.size)) hT.reads hsz (by omega))
  clear hown hbel hsz hT O1 HR hbase W1 AL
  go_wp2_with fail
  refine LN.out.mono ?_
  rintro e w3 ⟨rfl, hws, hb3, -⟩
  have HW := Lib.hid hws
  have HB3 := Lib.hid ((B1.out.mono hB).trans ((B2.out.mono (Nat.le_trans hB B1.out.size)).trans hb3))
  clear hws hb3
  go_wp2
  go_end0
  exact ⟨rfl, HW.out, HB3.out⟩
end Go.Proofs.YtckdlbfndmmjjaaGreatDoor.Aag
