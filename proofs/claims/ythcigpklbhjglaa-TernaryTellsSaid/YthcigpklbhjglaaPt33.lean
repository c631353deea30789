/- Octets as a text of their own: (*strings.Builder).Write and text; a builder that the call itself has made, octets that lie in memory. ternary.valued; condition: the circuit may be, and lies in memory. -/
import Derived.Test.YthcigpklbhjglaaPt01
import Derived.Test.YthcigpklbhjglaaPt10
import Derived.Test.YthcigpklbhjglaaPt32
import Derived.Test.YthcigpklbhjglaaPt17
import Derived.Test.YthcigpklbhjglaaPt27
import Derived.Test.YthcigpklbhjglaaPt23
namespace Go.Proofs.Ythcigpklbhjglaa.Ter
open Go.ChangeShapes Go.WideShapes Go.ChangeAt Go.RowKit Go.Maps Circ Cw
open Str Sim

def bts (v : List UInt8) : List (List Value) := v.map fun x => [.int .u8 ((x.toNat : Nat) : Int)]
theorem bts_len (v : List UInt8) : (bts v).length = v.length := by unfold bts; simp
theorem bts_snoc (v : List UInt8) (x : UInt8) : bts (v ++ [x]) = bts v ++ [[.int .u8 ((x.toNat : Nat) : Int)]] := by unfold bts; simp
theorem bts_one {v : List UInt8} {y : List Value} (h : y ∈ bts v) : y.length = 1 := by
  unfold bts at h
  obtain ⟨x, _, rfl⟩ := List.mem_map.1 h; rfl
theorem run_append_u8_nil (w : World) (base : Nat) (ty : TypeId) (v : Value) (n : Nat) (xs : List Value) (hown : w.ownsRow base 5 1 v n xs) (c : Nat) : (Builtin.append_ #[59, 59] ty #[v, .slice none 0 c]).run Try.prog w = .ok v w := by
  obtain ⟨i0, hi0, hz0, hz1, hz2⟩ := info_parts Bld.infoByte
  rcases hown.2 with ⟨rfl, _⟩ | ⟨g, cap, cur, rfl, _, _, hnc, _⟩
  · simp [Builtin.append_, run_underlying Try.underlying59, sizeOf, typeInfo, hi0, Builtin.lenOf, Builtin.firstCells]
  · simp [Builtin.append_, run_underlying Try.underlying59, sizeOf, typeInfo, hi0, Builtin.lenOf, Builtin.firstCells, hnc, storeCells]
theorem run_append_bytes (w : World) (base B : Nat) (ty : TypeId) (v : Value) (n : Nat) (xs : List Value) (l : List UInt8) (hown : w.ownsRow base 5 1 v n xs) (A : Option Addr) (c : Nat) (hr : LRow w B 1 A (bts l))
    (hbytes : n + l.length ≤ 140737488355328) (hbase : base ≤ w.heap.size) :
    ∃ v' w', (Builtin.append_ #[59, 59] ty #[v, .slice A l.length c]).run Try.prog w = .ok v' w' ∧ w'.ownsRow base 5 1 v' (n + l.length) (xs ++ Lib.byteCells l) ∧ w.grownBy w' v.ownBlock := by
  obtain ⟨i0, hi0, hz0, hz1, hz2⟩ := info_parts Bld.infoByte
  have go : ∀ ad : Addr, A = some ad → (∀ j u, (Lib.byteCells l)[j]? = some u → w.cell? (ad.add j) = some u) → ∃ v' w', (Builtin.append_ #[59, 59] ty #[v, .slice A l.length c]).run Try.prog w = .ok v' w' ∧ w'.ownsRow base 5 1 v' (n + l.length) (xs ++ Lib.byteCells l) ∧ w.grownBy w' v.ownBlock := fun ad hA hc => by
    obtain ⟨v', w', h1, h2, h3, _, h5⟩ := run_append_own_at (P := Try.prog) w base 59 ty 5 i0 (.int .u8 0) 1 1 Try.underlying59 hi0 hz0 hz1 hz2 rfl (by decide) v n xs hown ad l.length c (Lib.byteCells l) (by rw [byteCells_len, Nat.mul_one]) hc (fun u hu => by
      unfold Lib.byteCells at hu
      obtain ⟨x, _, rfl⟩ := List.mem_map.1 hu; rfl) (by unfold maxLen; omega) (by omega) hbase
    exact ⟨v', w', by rw [hA]; exact h1, h2, h3⟩
  rcases hr with h0 | ⟨b, o, e, hb, hc⟩
  · have hl : l = [] := by simpa [bts] using h0
    subst hl
    rcases A with _ | ad
    · exact ⟨v, w, run_append_u8_nil w base ty v n xs hown c, by simpa [Lib.byteCells] using hown, World.grownBy.refl w _⟩
    · exact go ad rfl (fun j u hj => by simp [Lib.byteCells] at hj)
  · refine go _ e (fun j u hj => ?_)
    have hj' : j < l.length := by
      have := (List.getElem?_eq_some_iff.1 hj).1; rwa [byteCells_len] at this
    have h1 := hc j [Value.int .u8 ((l[j].toNat : Nat) : Int)] (by simp [bts, hj']) 0 _ rfl
    have h2 : u = Value.int .u8 ((l[j].toNat : Nat) : Int) := by
      unfold Lib.byteCells at hj
      rw [List.getElem?_map, List.getElem?_eq_getElem hj'] at hj
      exact (Option.some.inj hj).symm
    subst h2
    have h3 : (⟨b, o, none⟩ : Addr).add j = ⟨b, o + (j * 1 + 0), none⟩ := by
      unfold Addr.add
      by_cases hz : j = 0
      · simp [hz]
      · simp [hz]
    rw [h3]; exact h1
theorem wpList_append_bytes {ops : Array Oper} {rest : List Oper} {o : Oper} {a : Act} {Q : Exit → Act → World → Prop} (w : World) (hgd : o.guard = none) (s x : Operand)
    (ho : o.op = .call { callee := .builtin .append, args := #[s, x], argTypes := #[59, 59] })
    (base B : Nat) (v : Value) (n : Nat) (xs : List Value) (l : List UInt8) (hs : a.eval s = v) (hown : w.ownsRow base 5 1 v n xs) (A : Option Addr) (m c : Nat) (hm : m = l.length) (hx : a.eval x = .slice A m c) (hr : LRow w B 1 A (bts l))
    (hbytes : n + l.length ≤ 140737488355328) (hbase : base ≤ w.heap.size)
    (h : ∀ v' w', w'.ownsRow base 5 1 v' (n + l.length) (xs ++ Lib.byteCells l) → w.grownBy w' v.ownBlock → wpList Try.prog ops Q rest (a.put o.dst v') w') : wpList Try.prog ops Q (o :: rest) a w := by
  subst hm
  obtain ⟨v', w', hr', h2, h3⟩ := run_append_bytes w base B o.type v n xs l hown A c hr hbytes hbase
  refine wpList_plain hgd fun K hK => ?_
  unfold Oper.wp execOp
  simp only [ho, resolve, invoke, builtin, Sem.run_bind, Sem.run_pure, Result.andThen_ok, List.map_toArray, List.map_cons, List.map_nil, hs, hx, hr']
  exact hK _ _ (h v' w' h2 h3)
set_option maxHeartbeats 1000000 in
set_option maxRecDepth 100000 in
theorem write_bytes (B b : Nat) (bs : List Value) (l : List UInt8) (A : Option Addr) (q : Nat) (w : World) (h : Lib.IsBuilder 134 5 B b bs w) (hlen : bs.length + l.length ≤ 140737488355328) (hBw : B ≤ w.heap.size) (hr : LRow w B 1 A (bts l)) :
    Calls Try.prog 123 #[.pointer (some ⟨b, 0, none⟩), .slice A l.length q] w fun e w' => e = .returned (.tuple #[.int .i64 l.length, .nilIface]) ∧ (Lib.BuilderAt 134 5 B b (.pointer (some ⟨b, 0, none⟩)) (bs ++ Lib.byteCells l) w' ∧ Below B w w') := by
  go_enter Try.func123, Try.ntmps123
  go_wp2_with (go_at_call 144; refine (Bld.check_any B b bs _ h).mono ?_)
  rintro e w1 ⟨rfl, h1, hb1⟩
  obtain ⟨hB, v, hbk, hown, hne⟩ := h1
  have hr1 := hr.below hb1
  have c0 : w1.cell? ⟨b, 0, none⟩ = some (.pointer (some ⟨b, 0, none⟩)) := by rw [Lib.cell_of_heap hbk]; rfl
  have c1 : w1.cell? ⟨b, 1, none⟩ = some v := by rw [Lib.cell_of_heap hbk]; rfl
  go_wp2_with (at_builtin; refine wpList_append_bytes _ rfl _ _ rfl B B _ _ _ l rfl hown A _ _ rfl rfl hr1 ?c3 ?c4 ?_)
  case c3 => omega
  case c4 => have := hb1.size; omega
  intro v' w2 hown' hgrow
  have hlt : b < w1.heap.size := lt_of_block hbk
  have hb2 : w2.heap[b]? = some (.cells #[.pointer (some ⟨b, 0, none⟩), v] 134 (0, 0)) := by
    rw [hgrow.block b hlt (fun e => hne e.symm)]
    exact hbk
  have d0 : w2.cell? ⟨b, 0, none⟩ = some (.pointer (some ⟨b, 0, none⟩)) := by rw [Lib.cell_of_heap hb2]; rfl
  have d1 : w2.cell? ⟨b, 1, none⟩ = some v := by rw [Lib.cell_of_heap hb2]; rfl
  have f1 : w2.frozen? ⟨b, 1, none⟩ = false := Lib.frozen_of_heap hb2 1
  obtain ⟨ao, n', cap, rfl⟩ : ∃ ao n' cap, v' = .slice ao n' cap := by
    rcases hown'.2 with ⟨hv, _⟩ | ⟨g, cap, cur, hv, _⟩
    · exact ⟨_, _, _, hv⟩
    · exact ⟨_, _, _, hv⟩
  go_wp2
  go_ret2
  refine ⟨rfl, ?_, ?_⟩
  · exact Lib.BuilderAt.put (T := 134) (e := 5) hB hb2 (bs' := bs ++ Lib.byteCells l) (by simpa [byteCells_len] using hown') (by decide)
  · exact (hb1.grown hgrow (by have := hb1.size; omega) (fun k hk => (hown.lt k hk).1)).setCell (p := ⟨b, 1, none⟩) hB _
set_option maxHeartbeats 1000000 in
set_option maxRecDepth 100000 in
theorem text_any (l : List UInt8) (A : Option Addr) (q : Nat) (w : World) (hr : LRow w w.heap.size 1 A (bts l)) (hn : l.length ≤ 1048576) :
    Calls Try.prog 89 #[.slice A l.length q] w fun e w' => e = .returned (sv l) ∧ Below w.heap.size w w' := by
  obtain ⟨WB, hWB⟩ : ∃ x, w.alloc (.cells #[.pointer none, .slice none 0 0] 134) = x := ⟨_, rfl⟩
  have hb0 : Below w.heap.size w WB := by rw [← hWB]; exact (Below.refl _ _).alloc (Nat.le_refl _) _
  have hB0 : Lib.IsBuilder 134 5 w.heap.size w.heap.size (Lib.byteCells []) WB := by rw [← hWB]; exact fresh_builder w
  have WR := Lib.hid (write_bytes w.heap.size w.heap.size (Lib.byteCells []) l A q WB hB0 (by simp [Lib.byteCells]; omega) hb0.size (hr.below hb0))
  have HB0 := Lib.hid hb0
  clear hr hB0 hb0
  go_enter Try.func89, Try.ntmps89
  go_wp2_with fail
  refine WR.out.mono ?_
  rintro e w2 ⟨rfl, hb2, hbe2⟩
  have HB2 : Hid (Lib.IsBuilder 134 5 w.heap.size w.heap.size (Lib.byteCells l) w2) := .inr hb2
  have HBF : Hid (Below w.heap.size w w2) := HB0.out.trans hbe2
  clear hb2 hbe2 WR hWB
  go_wp2_with fail
  refine (Try.Builder_String_any w.heap.size w.heap.size l _ HB2.out HBF.out.size).mono ?_
  rintro e w' ⟨rfl, hb⟩
  go_wp2_with fail
  go_ret
  exact ⟨rfl, HBF.out.trans hb⟩
end Go.Proofs.Ythcigpklbhjglaa.Ter
namespace Go.Proofs.Ythcigpklbhjglaa.Ter
open Go.ChangeShapes Go.WideShapes Go.ChangeAt Go.RowKit Go.Maps Circ Cw
open Sim Str

theorem hasv_row {w : World} {g gb : Nat} {v : List UInt8} (h : HasV w g gb v) : LRow w w.heap.size 1 (some ⟨gb, 0, none⟩) (bts v) := by
  refine .inr ⟨gb, 0, rfl, h.lt.2, fun i ys hi j u hj => ?_⟩
  have hl : i < v.length := by
    have := (List.getElem?_eq_some_iff.1 hi).1
    rwa [bts_len] at this
  have e : ys = [.int .u8 ((v[i].toNat : Nat) : Int)] := by
    unfold bts at hi
    rw [List.getElem?_map, List.getElem?_eq_getElem hl] at hi
    exact (Option.some.inj hi).symm
  subst e
  match j, hj with
  | 0, hj =>
    obtain rfl : Value.int .u8 ((v[i].toNat : Nat) : Int) = u := by simpa using hj
    have := h.at hl
    rwa [show 0 + (i * 1 + 0) = i from by omega]
  | j + 1, hj => simp at hj

set_option maxHeartbeats 16000000 in
set_option maxRecDepth 100000 in
theorem valued_any (c : Cir) (s : Places) (st inp : ByteArray) (w : World) (h : CLies w w.heap.size c s) (_hf : CFits c s) (hr : refOk c = true) (hs : tritsM st (c.lats.length : Int) = true) (hi : tritsM inp (c.ins.length : Int) = true) :
    Calls Try.prog 82 #[cirV c s, .string st, .string inp] w fun e w' => e = .returned (sv (valsT c st inp)) ∧ Below w.heap.size w w' := by
  have hmf : ∀ (fn : Fn) (first cap : Array Value) (w : World), (Instr.makeFunc fn first cap).run Try.prog w = .ok (.func fn first cap) w := fun _ _ _ _ => rfl
  obtain ⟨m, hm, hm1⟩ := max_nat hr
  obtain ⟨w3, hW3⟩ : ∃ x, w.alloc (.cells #[.int .i64 c.max, .slice s.ai c.ins.length s.ki, .slice s.al c.lats.length s.kl, .slice s.ao c.outs.length s.ko, .slice s.ab c.bads.length s.kb, .slice s.ac c.invs.length s.kc, .slice s.aa c.ands.length s.ka, .slice s.an c.names.length s.kn] 27) = x := ⟨_, rfl⟩
  have B3 : Hid (Below w.heap.size w w3) := by unfold Hid; rw [← hW3]; exact (Below.refl _ _).alloc (Nat.le_refl _) _
  have G3 : Hid (w3.heap[w.heap.size]? = some (.cells (cirC c s) 27 (0, 0))) := by unfold Hid; rw [← hW3]; exact Array.getElem?_push_size
  have HR := Lib.hid hr
  have HM := Lib.hid hm
  have HZ := Lib.hid (ref_sizes hr)
  have HST := Lib.hid (trits_parts hs)
  have HIN := Lib.hid (trits_parts hi)
  have HTB : Hid (∀ y ∈ baseB c st inp, isT y) := by
    obtain ⟨a1, a2⟩ := HST.out
    obtain ⟨b1, b2⟩ := HIN.out
    unfold Hid baseB
    refine putsV_isT (putsV_isT (fun y hy => ?_) b2 _ (by omega)) a2 _ (by omega)
    rw [(List.mem_replicate.1 hy).2]; exact .inl rfl
  have LW : Hid (∀ x, Below w.heap.size w x → CLies x x.heap.size c s) := fun x hx => (h.below hx).more hx.size
  clear h hs hi hr hm
  unfold cirV
  rw [show cirC c s = #[.int .i64 c.max, .slice s.ai c.ins.length s.ki, .slice s.al c.lats.length s.kl, .slice s.ao c.outs.length s.ko, .slice s.ab c.bads.length s.kb, .slice s.ac c.invs.length s.kc, .slice s.aa c.ands.length s.ka, .slice s.an c.names.length s.kn] from rfl]
  go_enter Try.func82, Try.ntmps82
  obtain ⟨e0, e1, e2, e3, e4, e5, e6, e7⟩ := cells8 G3.out
  rw [HM.out] at e0
  obtain ⟨W4, hW4⟩ : ∃ x, w3.alloc (.cells #[.int .u8 48] 5) = x := ⟨_, rfl⟩
  have b4 : Below w3.heap.size w3 W4 := by rw [← hW4]; exact (Below.refl _ _).alloc (Nat.le_refl _) _
  have h4 : W4.heap[w3.heap.size]? = some (.cells #[.int .u8 48] 5 (0, 0)) := by rw [← hW4]; exact Array.getElem?_push_size
  have RP := Lib.hid (repeat_any (m + 1) w3.heap.size 1 48 W4 (by omega) (by omega) (by rw [Lib.cell_of_heap h4]; rfl))
  rw [show (((m + 1 : Nat)) : Int) = (m : Int) + 1 from by omega] at RP
  have B4 := Lib.hid b4
  have f0 : W4.cell? ⟨w.heap.size, 0, none⟩ = some (.int .i64 (m : Int)) := (b4.cell (lt_of_block G3.out)).trans e0
  clear b4 h4
  go_wp2_with fail
  refine RP.out.mono ?_
  rintro e w5 ⟨⟨gb, rest, rfl, hgb, hhb⟩, hb⟩
  clear RP f0 hW4
  have B5 : Hid (Below w3.heap.size w3 w5) := B4.out.trans (hb.mono B4.out.size)
  have HGB : Hid (w3.heap.size ≤ gb ∧ gb < w5.heap.size) := ⟨Nat.le_trans B4.out.size hgb, lt_of_block hhb⟩
  have HHB := Lib.hid hhb
  clear hgb hhb hb B4 e0 e1 e2 e3 e4 e5 e6 e7
  obtain ⟨W6, hW6⟩ : ∃ x, w5.alloc (.cells #[.slice none 0 0] 59) = x := ⟨_, rfl⟩
  have b6 : Below w5.heap.size w5 W6 := by rw [← hW6]; exact (Below.refl _ _).alloc (Nat.le_refl _) _
  have h6 : W6.heap[w5.heap.size]? = some (.cells #[.slice none 0 0] 59 (0, 0)) := by rw [← hW6]; exact Array.getElem?_push_size
  obtain ⟨X9, u9, ⟨hX, pX, tX⟩, EX, FX⟩ := step_set W6 _ 0 (.slice (some ⟨gb, 0, none⟩) (m + 1) (m + 1)) h6 (by simp)
  have EX' : X9.heap[w5.heap.size]? = some (.cells #[.slice (some ⟨gb, 0, none⟩) (m + 1) (m + 1)] 59 (0, 0)) := EX
  have HL0 : Hid ((zeroV c).length = m + 1) := by have := HM.out; unfold Hid zeroV; simp; omega
  have V0 : Hid (HasV X9 w5.heap.size gb (zeroV c)) := by
    refine ⟨?_, rest, ?_⟩
    · rw [HL0.out, Lib.cell_of_heap EX']; rfl
    · rw [FX.b gb (by have := HGB.out; omega), b6.block gb HGB.out.2, HHB.out]
      unfold zeroV
      rw [HM.out, Int.toNat_natCast]
  have B9 : Hid (Below w3.heap.size w3 X9) := B5.out.trans ((FX.below b6 (Nat.le_refl _)).mono B5.out.size)
  have G9 : Hid (∀ x, Below w3.heap.size w3 x → x.heap[w.heap.size]? = some (.cells (cirC c s) 27 (0, 0))) := fun x hx => (hx.block _ (lt_of_block G3.out)).trans G3.out
  have G5 : Hid (w5.heap[w.heap.size]? = some (.cells (cirC c s) 27 (0, 0))) := G9.out _ B5.out
  have HSG : Hid (w3.heap.size ≤ w5.heap.size) := B5.out.size
  clear b6 h6 EX EX' FX HHB B5
  obtain ⟨e0, e1, e2, e3, e4, e5, e6, e7⟩ := cells8 (G9.out _ B9.out)
  go_wp2
  clear e0 e1 e2 e3 e4 e5 e6 e7 hW6 hX pX tX G5 hW3
  have HGN : Hid (w5.heap.size ≠ gb) := by have := HGB.out; unfold Hid; omega
  go_loopw [23] (fun i wr => ∃ j : Nat, j ≤ c.ins.length ∧ i = .int .i64 j ∧ HasV wr w5.heap.size gb (putsV (zeroV c) c.ins inp j) ∧ Below w3.heap.size w3 wr) (fun i _ => c.ins.length - (intOf i).toNat)
  case atStart => exact ⟨0, Nat.zero_le _, rfl, V0.out, B9.out⟩
  case round =>
    clear V0 B9
    obtain ⟨j, hj, rfl, hv, hbw⟩ := hrel
    have HV := Lib.hid hv
    have HB := Lib.hid hbw
    clear hv hbw
    have zi : c.ins.length ≤ 64 := HZ.out.1
    by_cases hlt : j < c.ins.length
    · obtain ⟨b0, o, hA, -, hc⟩ := LRow.int (LW.out wr (B3.out.trans (HB.out.mono B3.out.size))).ins hlt
      have hx := (Str.own_facts HR.out).2 c.ins[j] (by unfold own; simp)
      obtain ⟨vi, hvi⟩ : ∃ v : Nat, c.ins[j] / 2 = (v : Int) := ⟨(c.ins[j] / 2).toNat, by omega⟩
      have HVL : Hid (vi < (putsV (zeroV c) c.ins inp j).length) := by have := HM.out; have := HL0.out; unfold Hid; rw [putsV_len]; omega
      have HVI : Hid (vi < m + 1) := by have := HM.out; unfold Hid; omega
      have hcn : cnt c.ins[j] / 2 = (vi : Int) := by rw [cnt_pos _ (by omega)]; exact hvi
      have VA : Hid (∀ w, Calls Try.prog 66 #[.int .i64 c.ins[j]] w fun e w' => e = .returned (.int .i64 (vi : Int)) ∧ w = w') := fun w => by
        have h1 := var_any c.ins[j] w (by have := HM.out; omega)
        rw [hcn] at h1
        exact h1
      have EV : Hid (∀ args w, (callFunc 66 args).run Try.prog w = .ok (.enter 66 args) w) := enters_of Try.func66 (by kernel_rfl) rfl
      have HSJ : Hid (j < inp.size) := by have := HIN.out.1; unfold Hid; omega
      obtain ⟨xb, hxb⟩ : ∃ x, inp.data.toList.getD j 0 = x := ⟨_, rfl⟩
      obtain ⟨xo, hxo⟩ : ∃ x : Int, x = ((xb.toNat : Nat) : Int) := ⟨_, rfl⟩
      have HSX : Hid (xo = (((inp.data.toList.getD j 0).toNat : Nat) : Int)) := by unfold Hid; rw [hxb]; exact hxo
      have HVD : HasV wr.drew w5.heap.size gb (putsV (zeroV c) c.ins inp j) := HV.out.keep ((Below.refl _ _).drew)
      have LV : Hid (wr.drew.cell? ⟨w5.heap.size, 0, none⟩ = some (.slice (some ⟨gb, 0, none⟩) (m + 1) (m + 1))) := by have := HVD.c; rw [putsV_len, HL0.out] at this; exact this
      have C1 := Lib.hid (HVD.at HVL.out)
      have Z1 := Lib.hid (HVD.frozen vi)
      have hn := HVD.put HGN.out hvi HVL.out xb
      rw [← hxo] at hn
      obtain ⟨W1, hW1⟩ : ∃ x, wr.drew.setCell ⟨gb, vi, none⟩ (.int .u8 xo) = x := ⟨_, rfl⟩
      rw [hW1] at hn
      have HN : Hid (HasV W1 w5.heap.size gb (putsV (zeroV c) c.ins inp (j + 1))) := by
        unfold Hid putsV
        rw [hxb, List.getD_eq_getElem?_getD, List.getElem?_eq_getElem hlt]
        exact hn
      have BN : Hid (Below w3.heap.size w3 W1) := by unfold Hid; rw [← hW1]; exact HB.out.drew.setCell (p := ⟨gb, vi, none⟩) HGB.out.1 _
      have HW1 := Lib.hid hW1
      clear hx hvi hcn hxb hxo HVD hn hW1
      rw [hA]
      clear hA
      generalize c.ins[j] = lv at *
      go_wp2
      clear hc
      refine wp_region_valsE (by kernel_rfl) (by kernel_rfl) tpinM (by kernel_rfl) (by kernel_rfl)
        (Sole 7 wr.drew W1) (tpinR gb (m + 1) j vi lv xo inp) (Sole.start _ _ _) (fun jj f f' w w' hb hf h => tpin_stab jj  hf h) ?_ ?_
      · intro i oo d a' w' ho hd hun hdf hok hDE K hK hK0
        match i, ho, hd, hDE, hK, hK0, hun with
        | 0, ho, hd, hDE, hK, hK0, hun =>
          have e := (congrArg Oper.op (Option.some.inj ho)).symm
          obtain rfl := Option.some.inj ho
          exact wp_val (op_load_Luint8 a' w' _ 7 _ (hun 7 (by kernel_rfl)) (by rw [hok.c0 (hd 7 (by kernel_rfl))]; exact LV.out) _ e) (hK _ _ (Below.refl _ _) (hok.read (by decide)) (fun f h1 _ => h1 _ rfl))
        | 1, ho, hd, hDE, hK, hK0, hun =>
          have e := (congrArg Oper.op (Option.some.inj ho)).symm
          obtain rfl := Option.some.inj ho
          exact wp_val (op_move a' w' 9 _ e) (hK _ _ (Below.refl _ _) (hok.read (by decide)) (fun f h1 _ => (h1 _ rfl).trans (hun 9 (by kernel_rfl))))
        | 2, ho, hd, hDE, hK, hK0, hun =>
          have e := (congrArg Oper.op (Option.some.inj ho)).symm
          obtain rfl := Option.some.inj ho
          refine wp_enter (op_call1 a' w' _ 29 _ EV.out _ e) ?_
          rw [show a'.tmps.getD 29 undef = .int .i64 lv from (hDE 1 (by kernel_rfl)).2]
          refine (VA.out w').mono ?_
          rintro e w'' ⟨rfl, rfl⟩
          exact .inl ⟨_, rfl, hK _ _ (Below.refl _ _) (hok.read (by decide)) (fun f h1 _ => h1 _ rfl)⟩
        | 3, ho, hd, hDE, hK, hK0, hun =>
          have e := (congrArg Oper.op (Option.some.inj ho)).symm
          obtain rfl := Option.some.inj ho
          exact wp_val (op_move a' w' 2 _ e) (hK _ _ (Below.refl _ _) (hok.read (by decide)) (fun f h1 _ => (h1 _ rfl).trans (hun 2 (by kernel_rfl))))
        | 4, ho, hd, hDE, hK, hK0, hun =>
          have e := (congrArg Oper.op (Option.some.inj ho)).symm
          obtain rfl := Option.some.inj ho
          exact wp_val (op_move a' w' 8 _ e) (hK _ _ (Below.refl _ _) (hok.read (by decide)) (fun f h1 _ => (h1 _ rfl).trans (hun 8 (by kernel_rfl))))
        | 5, ho, hd, hDE, hK, hK0, hun =>
          have e := (congrArg Oper.op (Option.some.inj ho)).symm
          obtain rfl := Option.some.inj ho
          exact wp_val (op_index_str a' w' _ _ _ 31 32 (hDE 3 (by kernel_rfl)).2 (hDE 4 (by kernel_rfl)).2 HSJ.out HSX.out _ e) (hK _ _ (Below.refl _ _) (hok.read (by decide)) (fun f h1 _ => h1 _ rfl))
        | 6, ho, hd, hDE, hK, hK0, hun =>
          have e := (congrArg Oper.op (Option.some.inj ho)).symm
          obtain rfl := Option.some.inj ho
          exact wp_val (op_index_u8 a' w' _ _ _ 28 30 (hDE 0 (by kernel_rfl)).2 (hDE 2 (by kernel_rfl)).2 HVI.out _ e) (hK _ _ (Below.refl _ _) (hok.read (by decide)) (fun f h1 _ => h1 _ rfl))
        | 7, ho, hd, hDE, hK, hK0, hun =>
          have e := (congrArg Oper.op (Option.some.inj ho)).symm
          obtain rfl := Option.some.inj ho
          have hr := op_store_u8 a' wr.drew _ _ _ _ 34 33 ((hDE 6 (by kernel_rfl)).2) (hDE 5 (by kernel_rfl)).2 C1.out Z1.out _ e
          rw [HW1.out, ← hok.c0 (hd 7 (by kernel_rfl))] at hr
          exact wp_skip' hr (hK0 _ _ (Sole.did _ _ _ _) (fun f h1 h2 => trivial) (fun j f hj hf hq => tpin_stab j hf hq))
        | i + 8, ho, _, _, _, _, _ => exact absurd ho (by simp)
      · intro a' wz hsz hdf hkt hok hR
        have HF3 := frame_sets [28, 29, 30, 31, 32, 33, 34] (by kernel_rfl) hsz hkt
        obtain ⟨d, hok, hall⟩ := hok
        have hw := hok.c1 (hall 7 (by decide))
        subst hw
        obtain ⟨tm, df⟩ := a'
        obtain rfl : df = _ := hdf
        simp only [List.foldl_cons, List.foldl_nil] at HF3
        clear hkt hR hsz
        generalize tm.getD 28 undef = y28 at HF3
        generalize tm.getD 29 undef = y29 at HF3
        generalize tm.getD 30 undef = y30 at HF3
        generalize tm.getD 31 undef = y31 at HF3
        generalize tm.getD 32 undef = y32 at HF3
        generalize tm.getD 33 undef = y33 at HF3
        generalize tm.getD 34 undef = y34 at HF3
        simp only [List.setIfInBounds_toArray, List.set_cons_succ, List.set_cons_zero] at HF3
        subst HF3
        clear hok hall LV C1 Z1 HW1 VA EV HSJ HSX HVI HVL HV HB
        go_wp2
        go_roundw
        case rel => exact ⟨j + 1, by omega, by go_num, HN.out, BN.out⟩
        case measure => simp [intOf]; omega
    · obtain rfl : j = c.ins.length := by omega
      obtain ⟨wo, rfl⟩ : ∃ x, x = wr := ⟨_, rfl⟩
      obtain ⟨e0, e1, e2, e3, e4, e5, e6, e7⟩ := cells8 (G9.out _ HB.out)
      obtain ⟨v1, hv1⟩ : ∃ v, putsV (zeroV c) c.ins inp c.ins.length = v := ⟨_, rfl⟩
      have HL1 : Hid (v1.length = m + 1) := by unfold Hid; rw [← hv1, putsV_len]; exact HL0.out
      have V1 : Hid (HasV wo w5.heap.size gb (putsV v1 (c.lats.map Tri.a) st 0)) := by unfold Hid; rw [← hv1]; exact HV.out
      have HV1 := Lib.hid hv1
      clear hv1 HV
      go_wp2
      clear e0 e1 e2 e3 e4 e5 e6 e7
      go_loopw [39] (fun i wr => ∃ j : Nat, j ≤ c.lats.length ∧ i = .int .i64 j ∧ HasV wr w5.heap.size gb (putsV v1 (c.lats.map Tri.a) st j) ∧ Below w3.heap.size w3 wr) (fun i _ => c.lats.length - (intOf i).toNat)
      case atStart => exact ⟨0, Nat.zero_le _, rfl, V1.out, HB.out⟩
      case round =>
        clear V1 HB
        obtain ⟨j, hj, rfl, hv, hbw⟩ := hrel
        have HV := Lib.hid hv
        have HB := Lib.hid hbw
        clear hv hbw
        have zl : c.lats.length ≤ 64 := HZ.out.2.1
        by_cases hlt : j < c.lats.length
        · obtain ⟨b0, o, hA, -, c0, c1, c2⟩ := LRow.tri (LW.out wr (B3.out.trans (HB.out.mono B3.out.size))).lats hlt
          have hx := (Str.own_facts HR.out).2 c.lats[j].a (List.mem_append.2 (.inr (List.mem_append.2 (.inl (List.mem_map_of_mem (List.getElem_mem hlt))))))
          obtain ⟨vi, hvi⟩ : ∃ v : Nat, c.lats[j].a / 2 = (v : Int) := ⟨(c.lats[j].a / 2).toNat, by omega⟩
          have HVL : Hid (vi < (putsV v1 (c.lats.map Tri.a) st j).length) := by have := HM.out; have := HL1.out; unfold Hid; rw [putsV_len]; omega
          have HVI : Hid (vi < m + 1) := by have := HM.out; unfold Hid; omega
          have hcn : cnt c.lats[j].a / 2 = (vi : Int) := by rw [cnt_pos _ (by omega)]; exact hvi
          have VA : Hid (∀ w, Calls Try.prog 66 #[.int .i64 c.lats[j].a] w fun e w' => e = .returned (.int .i64 (vi : Int)) ∧ w = w') := fun w => by
            have h1 := var_any c.lats[j].a w (by have := HM.out; omega)
            rw [hcn] at h1
            exact h1
          have EV : Hid (∀ args w, (callFunc 66 args).run Try.prog w = .ok (.enter 66 args) w) := enters_of Try.func66 (by kernel_rfl) rfl
          have HSJ : Hid (j < st.size) := by have := HST.out.1; unfold Hid; omega
          obtain ⟨xb, hxb⟩ : ∃ x, st.data.toList.getD j 0 = x := ⟨_, rfl⟩
          obtain ⟨xo, hxo⟩ : ∃ x : Int, x = ((xb.toNat : Nat) : Int) := ⟨_, rfl⟩
          have HSX : Hid (xo = (((st.data.toList.getD j 0).toNat : Nat) : Int)) := by unfold Hid; rw [hxb]; exact hxo
          obtain ⟨wt, hwt⟩ : ∃ x, wr.alloc (.cells #[.int .i64 c.lats[j].a, .int .i64 c.lats[j].b, .int .i64 c.lats[j].c] 39) = x := ⟨_, rfl⟩
          have bt : Below wr.heap.size wr wt := by rw [← hwt]; exact (Below.refl _ _).alloc (Nat.le_refl _) _
          have KT : wt.drew.heap[wr.heap.size]? = some (.cells #[.int .i64 c.lats[j].a, .int .i64 c.lats[j].b, .int .i64 c.lats[j].c] 39 (0, 0)) := by rw [← hwt]; exact Array.getElem?_push_size
          have LT0 : Hid (wt.drew.cell? ⟨wr.heap.size, 0, none⟩ = some (.int .i64 c.lats[j].a)) := by unfold Hid; rw [Lib.cell_of_heap KT]; rfl
          have HVD : HasV wt.drew w5.heap.size gb (putsV v1 (c.lats.map Tri.a) st j) := HV.out.keep bt.drew
          have LV : Hid (wt.drew.cell? ⟨w5.heap.size, 0, none⟩ = some (.slice (some ⟨gb, 0, none⟩) (m + 1) (m + 1))) := by have := HVD.c; rw [putsV_len, HL1.out] at this; exact this
          have C1 := Lib.hid (HVD.at HVL.out)
          have Z1 := Lib.hid (HVD.frozen vi)
          have hn := HVD.put HGN.out hvi HVL.out xb
          rw [← hxo] at hn
          obtain ⟨W1, hW1⟩ : ∃ x, wt.drew.setCell ⟨gb, vi, none⟩ (.int .u8 xo) = x := ⟨_, rfl⟩
          rw [hW1] at hn
          have HN : Hid (HasV W1 w5.heap.size gb (putsV v1 (c.lats.map Tri.a) st (j + 1))) := by
            unfold Hid putsV
            rw [hxb, List.getD_eq_getElem?_getD, List.getElem?_map, List.getElem?_eq_getElem hlt]
            exact hn
          have BN : Hid (Below w3.heap.size w3 W1) := by unfold Hid; rw [← hW1]; exact (HB.out.trans (bt.mono HB.out.size)).drew.setCell (p := ⟨gb, vi, none⟩) HGB.out.1 _
          have HW1 := Lib.hid hW1
          clear hx hvi hcn hxb hxo HVD hn hW1 bt KT
          rw [hA]
          clear hA
          generalize c.lats[j] = t at *
          go_wp2
          clear hwt c0 c1 c2
          refine wp_region_valsE (by kernel_rfl) (by kernel_rfl) tlatM (by kernel_rfl) (by kernel_rfl)
            (Sole 8 wt.drew W1) (tlatR gb wr.heap.size (m + 1) j vi t.a xo st) (Sole.start _ _ _) (fun jj f f' w w' hb hf h => tlat_stab jj  hf h) ?_ ?_
          · intro i oo d a' w' ho hd hun hdf hok hDE K hK hK0
            match i, ho, hd, hDE, hK, hK0, hun with
            | 0, ho, hd, hDE, hK, hK0, hun =>
              have e := (congrArg Oper.op (Option.some.inj ho)).symm
              obtain rfl := Option.some.inj ho
              exact wp_val (op_load_Luint8 a' w' _ 7 _ (hun 7 (by kernel_rfl)) (by rw [hok.c0 (hd 8 (by kernel_rfl))]; exact LV.out) _ e) (hK _ _ (Below.refl _ _) (hok.read (by decide)) (fun f h1 _ => h1 _ rfl))
            | 1, ho, hd, hDE, hK, hK0, hun =>
              have e := (congrArg Oper.op (Option.some.inj ho)).symm
              obtain rfl := Option.some.inj ho
              exact wp_val (op_field_api_Latch_0 a' w' _ 11 (hun 11 (by kernel_rfl)) _ e) (hK _ _ (Below.refl _ _) (hok.read (by decide)) (fun f h1 _ => h1 _ rfl))
            | 2, ho, hd, hDE, hK, hK0, hun =>
              have e := (congrArg Oper.op (Option.some.inj ho)).symm
              obtain rfl := Option.some.inj ho
              exact wp_val (Sim.op_load_int a' w' _ 45 _ (hDE 1 (by kernel_rfl)).2 (by rw [hok.c0 (hd 8 (by kernel_rfl))]; exact LT0.out) _ e) (hK _ _ (Below.refl _ _) (hok.read (by decide)) (fun f h1 _ => h1 _ rfl))
            | 3, ho, hd, hDE, hK, hK0, hun =>
              have e := (congrArg Oper.op (Option.some.inj ho)).symm
              obtain rfl := Option.some.inj ho
              refine wp_enter (op_call1 a' w' _ 46 _ EV.out _ e) ?_
              rw [show a'.tmps.getD 46 undef = .int .i64 t.a from (hDE 2 (by kernel_rfl)).2]
              refine (VA.out w').mono ?_
              rintro e w'' ⟨rfl, rfl⟩
              exact .inl ⟨_, rfl, hK _ _ (Below.refl _ _) (hok.read (by decide)) (fun f h1 _ => h1 _ rfl)⟩
            | 4, ho, hd, hDE, hK, hK0, hun =>
              have e := (congrArg Oper.op (Option.some.inj ho)).symm
              obtain rfl := Option.some.inj ho
              exact wp_val (op_move a' w' 1 _ e) (hK _ _ (Below.refl _ _) (hok.read (by decide)) (fun f h1 _ => (h1 _ rfl).trans (hun 1 (by kernel_rfl))))
            | 5, ho, hd, hDE, hK, hK0, hun =>
              have e := (congrArg Oper.op (Option.some.inj ho)).symm
              obtain rfl := Option.some.inj ho
              exact wp_val (op_move a' w' 10 _ e) (hK _ _ (Below.refl _ _) (hok.read (by decide)) (fun f h1 _ => (h1 _ rfl).trans (hun 10 (by kernel_rfl))))
            | 6, ho, hd, hDE, hK, hK0, hun =>
              have e := (congrArg Oper.op (Option.some.inj ho)).symm
              obtain rfl := Option.some.inj ho
              exact wp_val (op_index_str a' w' _ _ _ 48 49 (hDE 4 (by kernel_rfl)).2 (hDE 5 (by kernel_rfl)).2 HSJ.out HSX.out _ e) (hK _ _ (Below.refl _ _) (hok.read (by decide)) (fun f h1 _ => h1 _ rfl))
            | 7, ho, hd, hDE, hK, hK0, hun =>
              have e := (congrArg Oper.op (Option.some.inj ho)).symm
              obtain rfl := Option.some.inj ho
              exact wp_val (op_index_u8 a' w' _ _ _ 44 47 (hDE 0 (by kernel_rfl)).2 (hDE 3 (by kernel_rfl)).2 HVI.out _ e) (hK _ _ (Below.refl _ _) (hok.read (by decide)) (fun f h1 _ => h1 _ rfl))
            | 8, ho, hd, hDE, hK, hK0, hun =>
              have e := (congrArg Oper.op (Option.some.inj ho)).symm
              obtain rfl := Option.some.inj ho
              have hr := op_store_u8 a' wt.drew _ _ _ _ 51 50 ((hDE 7 (by kernel_rfl)).2) (hDE 6 (by kernel_rfl)).2 C1.out Z1.out _ e
              rw [HW1.out, ← hok.c0 (hd 8 (by kernel_rfl))] at hr
              exact wp_skip' hr (hK0 _ _ (Sole.did _ _ _ _) (fun f h1 h2 => trivial) (fun j f hj hf hq => tlat_stab j hf hq))
            | i + 9, ho, _, _, _, _, _ => exact absurd ho (by simp)
          · intro a' wz hsz hdf hkt hok hR
            have HF3 := frame_sets [44, 45, 46, 47, 48, 49, 50, 51] (by kernel_rfl) hsz hkt
            obtain ⟨d, hok, hall⟩ := hok
            have hw := hok.c1 (hall 8 (by decide))
            subst hw
            obtain ⟨tm, df⟩ := a'
            obtain rfl : df = _ := hdf
            simp only [List.foldl_cons, List.foldl_nil] at HF3
            clear hkt hR hsz
            generalize tm.getD 44 undef = y44 at HF3
            generalize tm.getD 45 undef = y45 at HF3
            generalize tm.getD 46 undef = y46 at HF3
            generalize tm.getD 47 undef = y47 at HF3
            generalize tm.getD 48 undef = y48 at HF3
            generalize tm.getD 49 undef = y49 at HF3
            generalize tm.getD 50 undef = y50 at HF3
            generalize tm.getD 51 undef = y51 at HF3
            simp only [List.setIfInBounds_toArray, List.set_cons_succ, List.set_cons_zero] at HF3
            subst HF3
            clear hok hall LV LT0 C1 Z1 HW1 VA EV HSJ HSX HVI HVL HV HB
            go_wp2
            go_roundw
            case rel => exact ⟨j + 1, by omega, by go_num, HN.out, BN.out⟩
            case measure => simp [intOf]; omega
        · obtain rfl : j = c.lats.length := by omega
          obtain ⟨wq, rfl⟩ : ∃ x, x = wr := ⟨_, rfl⟩
          obtain ⟨e0, e1, e2, e3, e4, e5, e6, e7⟩ := cells8 (G9.out _ HB.out)
          obtain ⟨v2, hv2⟩ : ∃ v, putsV v1 (c.lats.map Tri.a) st c.lats.length = v := ⟨_, rfl⟩
          have HL2 : Hid (v2.length = m + 1) := by unfold Hid; rw [← hv2, putsV_len]; exact HL1.out
          have V2 : Hid (HasV wq w5.heap.size gb (gatesT v2 (c.ands.take 0))) := by unfold Hid; rw [← hv2]; exact HV.out
          have HVE : Hid (valsT c st inp = gatesT v2 c.ands) := by unfold Hid valsT baseB; rw [HV1.out, hv2]
          have HT2 : Hid (∀ y ∈ v2, isT y) := by have := HTB.out; unfold baseB at this; rw [HV1.out, hv2] at this; exact this
          clear hv2 HV HV1
          go_wp2
          clear e0 e1 e2 e3 e4 e5 e6 e7
          go_loopw [57] (fun i wr => ∃ j : Nat, j ≤ c.ands.length ∧ i = .int .i64 j ∧ HasV wr w5.heap.size gb (gatesT v2 (c.ands.take j)) ∧ Below w3.heap.size w3 wr) (fun i _ => c.ands.length - (intOf i).toNat)
          case atStart => exact ⟨0, Nat.zero_le _, rfl, V2.out, HB.out⟩
          case round =>
            clear V2 HB
            obtain ⟨j, hj, rfl, hv, hbw⟩ := hrel
            have HV := Lib.hid hv
            have HB := Lib.hid hbw
            clear hv hbw
            have za : c.ands.length ≤ 4097 := HZ.out.2.2.2.2.2
            by_cases hlt : j < c.ands.length
            · obtain ⟨b0, o, hA, -, c0, c1, c2⟩ := LRow.tri (LW.out wr (B3.out.trans (HB.out.mono B3.out.size))).ands hlt
              have hx := (Str.own_facts HR.out).2 c.ands[j].a (List.mem_append.2 (.inr (List.mem_append.2 (.inr (List.mem_map_of_mem (List.getElem_mem hlt))))))
              obtain ⟨-, -, k1, k2⟩ := Str.and_at HR.out j hlt
              have hb1 := Str.lit_bound HR.out k1
              have hb2 := Str.lit_bound HR.out k2
              have HGS := Lib.hid (gatesT_snoc v2 c.ands j hlt)
              have hvt : ∀ y ∈ gatesT v2 (c.ands.take j), isT y := gatesT_isT HT2.out _
              obtain ⟨v, hvq⟩ : ∃ v, gatesT v2 (c.ands.take j) = v := ⟨_, rfl⟩
              have hvl : v.length = m + 1 := by rw [← hvq, gatesT_len]; exact HL2.out
              rw [hvq] at HV HGS hvt
              have HVL := Lib.hid hvl
              obtain ⟨vi, hvi⟩ : ∃ v : Nat, c.ands[j].a / 2 = (v : Int) := ⟨(c.ands[j].a / 2).toNat, by omega⟩
              have HVI : Hid (vi < m + 1) := by have := HM.out; unfold Hid; omega
              have HVLT : Hid (vi < v.length) := by unfold Hid; rw [hvl]; exact HVI.out
              have hcn : cnt c.ands[j].a / 2 = (vi : Int) := by rw [cnt_pos _ (by omega)]; exact hvi
              have VA : Hid (∀ w, Calls Try.prog 66 #[.int .i64 c.ands[j].a] w fun e w' => e = .returned (.int .i64 (vi : Int)) ∧ w = w') := fun w => by
                have h1 := var_any c.ands[j].a w (by have := HM.out; omega)
                rw [hcn] at h1
                exact h1
              have EV : Hid (∀ args w, (callFunc 66 args).run Try.prog w = .ok (.enter 66 args) w) := enters_of Try.func66 (by kernel_rfl) rfl
              have EC : Hid (∀ args w, (callFunc 121 args).run Try.prog w = .ok (.enter 121 args) w) := enters_of Try.func121 (by kernel_rfl) rfl
              have EO : Hid (∀ args w, (callFunc 122 args).run Try.prog w = .ok (.enter 122 args) w) := enters_of Try.func122 (by kernel_rfl) rfl
              have hcb : cnt c.ands[j].b / 2 < (v.length : Int) := by have := HM.out; rw [cnt_pos _ hb1.1, hvl]; omega
              have hcc : cnt c.ands[j].c / 2 < (v.length : Int) := by have := HM.out; rw [cnt_pos _ hb2.1, hvl]; omega
              obtain ⟨wt, hwt⟩ : ∃ x, wr.alloc (.cells #[.int .i64 c.ands[j].a, .int .i64 c.ands[j].b, .int .i64 c.ands[j].c] 43) = x := ⟨_, rfl⟩
              have bt : Below wr.heap.size wr wt := by rw [← hwt]; exact (Below.refl _ _).alloc (Nat.le_refl _) _
              have hkt : wt.drew.heap[wr.heap.size]? = some (.cells #[.int .i64 c.ands[j].a, .int .i64 c.ands[j].b, .int .i64 c.ands[j].c] 43 (0, 0)) := by rw [← hwt]; exact Array.getElem?_push_size
              have HGT : Hid (wr.heap.size ≠ gb) := by have := HV.out.lt.2; unfold Hid; omega
              have GO0 : Hid (GateOk w3 w5.heap.size gb wr.heap.size #[.int .i64 c.ands[j].a, .int .i64 c.ands[j].b, .int .i64 c.ands[j].c] v (fun _ => false) wt.drew) := ⟨(HB.out.trans (bt.mono HB.out.size)).drew, hkt, fun _ => HV.out.keep bt.drew⟩
              have QB : Hid (∀ x, HasV x w5.heap.size gb v → Calls Try.prog 121 #[.int .i64 c.ands[j].b, .pointer (some ⟨w5.heap.size, 0, none⟩)] x fun e w' => e = .returned (.int .u8 (((ofT v c.ands[j].b).toNat : Nat) : Int)) ∧ Below x.heap.size x w') := fun x hx => of1_any _ gb v _ x hx (by have := HM.out; omega) hcb hvt
              have QC : Hid (∀ x, HasV x w5.heap.size gb v → Calls Try.prog 121 #[.int .i64 c.ands[j].c, .pointer (some ⟨w5.heap.size, 0, none⟩)] x fun e w' => e = .returned (.int .u8 (((ofT v c.ands[j].c).toNat : Nat) : Int)) ∧ Below x.heap.size x w') := fun x hx => of1_any _ gb v _ x hx (by have := HM.out; omega) hcc hvt
              have QO : Hid (∀ x, Calls Try.prog 122 #[.int .u8 (((ofT v c.ands[j].b).toNat : Nat) : Int), .int .u8 (((ofT v c.ands[j].c).toNat : Nat) : Int)] x fun e w' => e = .returned (.int .u8 (((andT (ofT v c.ands[j].b) (ofT v c.ands[j].c)).toNat : Nat) : Int)) ∧ x = w') := fun x => both_any _ _ x
              have HPI := Lib.hid hvi
              have HGE : Hid (gatesT v2 (c.ands.take (j + 1)) = putV v c.ands[j].a (andT (ofT v c.ands[j].b) (ofT v c.ands[j].c))) := HGS.out
              clear hx k1 k2 hb1 hb2 hvq hvl hvi hcn hcb hcc bt HGS HV hvt hkt
              rw [hA]
              clear hA
              generalize c.ands[j] = t at *
              obtain ⟨v9, hv9⟩ : ∃ x, gatesT v2 (c.ands.take (j + 1)) = x := ⟨_, rfl⟩
              rw [hv9] at HGE
              have HV9 := Lib.hid hv9
              have HV9E : Hid (putV v t.a (andT (ofT v t.b) (ofT v t.c)) = v9) := HGE.out.symm
              clear hv9 HGE
              go_wp2
              clear hwt c0 c1 c2
              refine wp_region_valsE (by kernel_rfl) (by kernel_rfl) tgateM (by kernel_rfl) (by kernel_rfl)
                (GateOk w3 w5.heap.size gb wr.heap.size #[.int .i64 t.a, .int .i64 t.b, .int .i64 t.c] v) (tgateR (.func (.func 121) #[] #[.pointer (some ⟨w5.heap.size, 0, none⟩)]) w5.heap.size gb wr.heap.size (m + 1) vi t.a t.b t.c (((ofT v t.b).toNat : Nat) : Int) (((ofT v t.c).toNat : Nat) : Int) (((andT (ofT v t.b) (ofT v t.c)).toNat : Nat) : Int) v9) GO0.out (fun jj f f' w w' hb hf h => tgate_stab jj (fun _ => hb) hf h) ?_ ?_
              · intro i oo d a' w' ho hd hun hdf hok hDE K hK hK0
                match i, ho, hd, hDE, hK, hK0, hun with
                | 0, ho, hd, hDE, hK, hK0, hun =>
                  have e := (congrArg Oper.op (Option.some.inj ho)).symm
                  obtain rfl := Option.some.inj ho
                  exact wp_val (op_load_Luint8 a' w' _ 7 _ (hun 7 (by kernel_rfl)) (gate_slice hok.2.2 (hd 14 (by kernel_rfl)) HVL.out) _ e) (hK _ _ (Below.refl _ _) (hok.read (by decide)) (fun f h1 _ => h1 _ rfl))
                | 1, ho, hd, hDE, hK, hK0, hun =>
                  have e := (congrArg Oper.op (Option.some.inj ho)).symm
                  obtain rfl := Option.some.inj ho
                  exact wp_val (Sim.op_field_api_And_0 a' w' _ 14 (hun 14 (by kernel_rfl)) _ e) (hK _ _ (Below.refl _ _) (hok.read (by decide)) (fun f h1 _ => h1 _ rfl))
                | 2, ho, hd, hDE, hK, hK0, hun =>
                  have e := (congrArg Oper.op (Option.some.inj ho)).symm
                  obtain rfl := Option.some.inj ho
                  exact wp_val (Sim.op_load_int a' w' _ 62 _ (hDE 1 (by kernel_rfl)).2 (gate_cell hok.2.1).1 _ e) (hK _ _ (Below.refl _ _) (hok.read (by decide)) (fun f h1 _ => h1 _ rfl))
                | 3, ho, hd, hDE, hK, hK0, hun =>
                  have e := (congrArg Oper.op (Option.some.inj ho)).symm
                  obtain rfl := Option.some.inj ho
                  refine wp_enter (op_call1 a' w' _ 63 _ EV.out _ e) ?_
                  rw [show a'.tmps.getD 63 undef = .int .i64 t.a from (hDE 2 (by kernel_rfl)).2]
                  refine (VA.out w').mono ?_
                  rintro e w'' ⟨rfl, rfl⟩
                  exact .inl ⟨_, rfl, hK _ _ (Below.refl _ _) (hok.read (by decide)) (fun f h1 _ => h1 _ rfl)⟩
                | 4, ho, hd, hDE, hK, hK0, hun =>
                  have e := (congrArg Oper.op (Option.some.inj ho)).symm
                  obtain rfl := Option.some.inj ho
                  exact wp_val (op_move a' w' 12 _ e) (hK _ _ (Below.refl _ _) (hok.read (by decide)) (fun f h1 _ => (h1 _ rfl).trans (hun 12 (by kernel_rfl))))
                | 5, ho, hd, hDE, hK, hK0, hun =>
                  have e := (congrArg Oper.op (Option.some.inj ho)).symm
                  obtain rfl := Option.some.inj ho
                  exact wp_val (op_field_api_And_1 a' w' _ 14 (hun 14 (by kernel_rfl)) _ e) (hK _ _ (Below.refl _ _) (hok.read (by decide)) (fun f h1 _ => h1 _ rfl))
                | 6, ho, hd, hDE, hK, hK0, hun =>
                  have e := (congrArg Oper.op (Option.some.inj ho)).symm
                  obtain rfl := Option.some.inj ho
                  exact wp_val (Sim.op_load_int a' w' _ 66 _ (hDE 5 (by kernel_rfl)).2 (gate_cell hok.2.1).2.1 _ e) (hK _ _ (Below.refl _ _) (hok.read (by decide)) (fun f h1 _ => h1 _ rfl))
                | 7, ho, hd, hDE, hK, hK0, hun =>
                  have e := (congrArg Oper.op (Option.some.inj ho)).symm
                  obtain rfl := Option.some.inj ho
                  refine wp_enter (op_callc a' w' 65 67 _ _ _ (hDE 4 (by kernel_rfl)).2 EC.out _ e) ?_
                  rw [show a'.tmps.getD 67 undef = .int .i64 t.b from (hDE 6 (by kernel_rfl)).2]
                  refine (QB.out w' (hok.2.2 (hd 14 (by kernel_rfl)))).mono ?_
                  rintro e w'' ⟨rfl, hb⟩
                  exact .inl ⟨_, rfl, hK _ _ hb ((hok.below hb).read (by decide)) (fun f h1 _ => h1 _ rfl)⟩
                | 8, ho, hd, hDE, hK, hK0, hun =>
                  have e := (congrArg Oper.op (Option.some.inj ho)).symm
                  obtain rfl := Option.some.inj ho
                  exact wp_val (op_move a' w' 12 _ e) (hK _ _ (Below.refl _ _) (hok.read (by decide)) (fun f h1 _ => (h1 _ rfl).trans (hun 12 (by kernel_rfl))))
                | 9, ho, hd, hDE, hK, hK0, hun =>
                  have e := (congrArg Oper.op (Option.some.inj ho)).symm
                  obtain rfl := Option.some.inj ho
                  exact wp_val (op_field_api_And_2 a' w' _ 14 (hun 14 (by kernel_rfl)) _ e) (hK _ _ (Below.refl _ _) (hok.read (by decide)) (fun f h1 _ => h1 _ rfl))
                | 10, ho, hd, hDE, hK, hK0, hun =>
                  have e := (congrArg Oper.op (Option.some.inj ho)).symm
                  obtain rfl := Option.some.inj ho
                  exact wp_val (Sim.op_load_int a' w' _ 70 _ (hDE 9 (by kernel_rfl)).2 (gate_cell hok.2.1).2.2 _ e) (hK _ _ (Below.refl _ _) (hok.read (by decide)) (fun f h1 _ => h1 _ rfl))
                | 11, ho, hd, hDE, hK, hK0, hun =>
                  have e := (congrArg Oper.op (Option.some.inj ho)).symm
                  obtain rfl := Option.some.inj ho
                  refine wp_enter (op_callc a' w' 69 71 _ _ _ (hDE 8 (by kernel_rfl)).2 EC.out _ e) ?_
                  rw [show a'.tmps.getD 71 undef = .int .i64 t.c from (hDE 10 (by kernel_rfl)).2]
                  refine (QC.out w' (hok.2.2 (hd 14 (by kernel_rfl)))).mono ?_
                  rintro e w'' ⟨rfl, hb⟩
                  exact .inl ⟨_, rfl, hK _ _ hb ((hok.below hb).read (by decide)) (fun f h1 _ => h1 _ rfl)⟩
                | 12, ho, hd, hDE, hK, hK0, hun =>
                  have e := (congrArg Oper.op (Option.some.inj ho)).symm
                  obtain rfl := Option.some.inj ho
                  refine wp_enter (op_call2s a' w' _ 68 72 _ _ EO.out _ e) ?_
                  rw [show a'.tmps.getD 68 undef = .int .u8 (((ofT v t.b).toNat : Nat) : Int) from (hDE 7 (by kernel_rfl)).2, show a'.tmps.getD 72 undef = .int .u8 (((ofT v t.c).toNat : Nat) : Int) from (hDE 11 (by kernel_rfl)).2]
                  refine (QO.out w').mono ?_
                  rintro e w'' ⟨rfl, rfl⟩
                  exact .inl ⟨_, rfl, hK _ _ (Below.refl _ _) (hok.read (by decide)) (fun f h1 _ => h1 _ rfl)⟩
                | 13, ho, hd, hDE, hK, hK0, hun =>
                  have e := (congrArg Oper.op (Option.some.inj ho)).symm
                  obtain rfl := Option.some.inj ho
                  exact wp_val (op_index_u8 a' w' _ _ _ 61 64 (hDE 0 (by kernel_rfl)).2 (hDE 3 (by kernel_rfl)).2 HVI.out _ e) (hK _ _ (Below.refl _ _) (hok.read (by decide)) (fun f h1 _ => h1 _ rfl))
                | 14, ho, hd, hDE, hK, hK0, hun =>
                  have e := (congrArg Oper.op (Option.some.inj ho)).symm
                  obtain rfl := Option.some.inj ho
                  have hv0 := hok.2.2 (hd 14 (by kernel_rfl))
                  have hr := op_store_u8 a' w' gb vi _ _ 74 73 (hDE 13 (by kernel_rfl)).2 (hDE 12 (by kernel_rfl)).2 (hv0.at HVLT.out) (hv0.frozen vi) _ e
                  exact wp_skip' hr (hK0 _ _ (hok.store HGB.out.1 HGT.out _) (fun f h1 h2 => by rw [← HV9E.out]; exact hv0.put HGN.out HPI.out HVLT.out (andT (ofT v t.b) (ofT v t.c))) (fun j f hj hf hq => tgate_stab j (fun e2 => absurd e2 hj) hf hq))
                | i + 15, ho, _, _, _, _, _ => exact absurd ho (by simp)
              · intro a' wz hsz hdf hkt hok hR
                have HF3 := frame_sets [61, 62, 63, 64, 65, 66, 67, 68, 69, 70, 71, 72, 73, 74] (by kernel_rfl) hsz hkt
                obtain ⟨d, hok, hall⟩ := hok
                have HVN : Hid (HasV wz w5.heap.size gb v9) := hR 14 (by decide)
                have BN : Hid (Below w3.heap.size w3 wz) := hok.1
                obtain ⟨tm, df⟩ := a'
                obtain rfl : df = _ := hdf
                simp only [List.foldl_cons, List.foldl_nil] at HF3
                clear hkt hR hsz
                generalize tm.getD 61 undef = y61 at HF3
                generalize tm.getD 62 undef = y62 at HF3
                generalize tm.getD 63 undef = y63 at HF3
                generalize tm.getD 64 undef = y64 at HF3
                generalize tm.getD 65 undef = y65 at HF3
                generalize tm.getD 66 undef = y66 at HF3
                generalize tm.getD 67 undef = y67 at HF3
                generalize tm.getD 68 undef = y68 at HF3
                generalize tm.getD 69 undef = y69 at HF3
                generalize tm.getD 70 undef = y70 at HF3
                generalize tm.getD 71 undef = y71 at HF3
                generalize tm.getD 72 undef = y72 at HF3
                generalize tm.getD 73 undef = y73 at HF3
                generalize tm.getD 74 undef = y74 at HF3
                simp only [List.setIfInBounds_toArray, List.set_cons_succ, List.set_cons_zero] at HF3
                subst HF3
                clear hok hall VA EV EC EO QB QC QO HVI HVLT HPI HGT GO0 HVL HV9E HB
                go_wp2
                go_roundw
                case rel => exact ⟨j + 1, by omega, by go_num, by rw [HV9.out]; exact HVN.out, BN.out⟩
                case measure => simp [intOf]; omega
            · obtain rfl : j = c.ands.length := by omega
              rw [List.take_length] at HV
              have hb3 : HasV wr w5.heap.size gb (valsT c st inp) := by rw [HVE.out]; exact HV.out
              have hln : (valsT c st inp).length = m + 1 := by rw [valsT_len, HM.out]; simp
              have FB := Lib.hid (text_any (valsT c st inp) (some ⟨gb, 0, none⟩) (m + 1) wr (hasv_row hb3) (by omega))
              have LV := hb3.c
              clear hb3 HV HVE
              rw [hln] at LV FB
              clear hln
              go_wp2_with fail
              refine FB.out.mono ?_
              rintro e w9 ⟨rfl, hb⟩
              have BF : Hid (Below w.heap.size w w9) := B3.out.trans ((HB.out.trans (hb.mono HB.out.size)).mono B3.out.size)
              clear hb FB LV
              go_wp2
              go_ret
              exact ⟨rfl, BF.out⟩
end Go.Proofs.Ythcigpklbhjglaa.Ter
