/- The walks of what layer 5's laws share: num, alive, and the pages' own look whether a circuit is in order; condition: the table of powers of ten is as it is laid. Octets that Write made, and beginnings of them, as Read wants them; no condition. -/
import Derived.Test.YtopjddmgejfalaaGreatDoorPk39
import Derived.Test.YtopjddmgejfalaaGreatDoorPk40
import Derived.Test.YtopjddmgejfalaaGreatDoorPk34
import Derived.Test.YtopjddmgejfalaaGreatDoorPk41
import Derived.Laws.BytesArg
import Derived.Test.YtopjddmgejfalaaGreatDoorPk36
namespace Go.Proofs.YtopjddmgejfalaaGreatDoor.Aig
open Go.ChangeShapes Go.WideShapes Go.ChangeAt Go.RowKit Go.Maps Dig Circ Cw Aag

theorem num_any (x : Int) (w : World) : Calls Tryz.prog 7 #[.int .i64 x] w fun e w' => e = .returned (.int .i64 x) ∧ w = w' := by
  go_enter Tryz.func7, Tryz.ntmps7
  go_wp2
  go_ret
  exact ⟨rfl, rfl⟩
theorem nums_back' (l : List UInt8) : strOfNums (l.map fun b => (b.toNat : Int)) = ⟨l.toArray⟩ := by
  unfold strOfNums
  congr 2
  rw [List.map_map]
  exact map_id_of _ l fun b _ => by simp
/-- octets of a row, as a text -/
theorem conv_cells {w : World} {g o n cap : Nat} {l : List UInt8} (hn : l.length = n) (h : ∀ (i : Nat) (b : UInt8), l[i]? = some b → w.cell? ⟨g, o + i, none⟩ = some (.int .u8 b.toNat)) : (convert 28 9 (.slice (some ⟨g, o, none⟩) n cap)).run Tryz.prog w = .ok (sv l) w := by
  have := run_convert_bytes_arg (P := Tryz.prog) (w := w) 28 5 Tryz.underlying28 Tryz.underlying5 g o n cap (l.map fun b => (b.toNat : Int)) (by simpa using hn) (fun i hi => by
    rw [h i (l[i]'(by omega)) (List.getElem?_eq_getElem (by omega)), List.getD_eq_getElem?_getD, List.getElem?_map, List.getElem?_eq_getElem (by omega)]; rfl) 9 Tryz.underlying9
  rw [this, nums_back']; rfl
theorem row_cells {w : World} {B g n cap : Nat} {l : List UInt8} (h : w.ownsRow B 5 1 (.slice (some ⟨g, 0, none⟩) n cap) n (Lib.byteCells l)) : l.length = n ∧ n ≤ cap ∧ cap ≤ 9223372036854775807 ∧ B ≤ g ∧ g < w.heap.size ∧ ∀ (i : Nat) (b : UInt8), l[i]? = some b → w.cell? ⟨g, 0 + i, none⟩ = some (.int .u8 b.toNat) := by
  obtain ⟨h0, h⟩ := h
  rw [Lib.byteCells_length, Nat.mul_one] at h0
  rcases h with ⟨h, _⟩ | ⟨g', cp, cur, hv, hb, hh, hn, hc, hs, ht⟩
  · simp at h
  · simp only [Value.slice.injEq, Option.some.injEq, Addr.mk.injEq, and_true, true_and] at hv
    obtain ⟨rfl, rfl⟩ := hv
    unfold maxLen at hc
    refine ⟨h0, hn, hc, hb, lt_of_block hh, fun i b hi => ?_⟩
    rw [Nat.zero_add, Lib.cell_of_heap hh]
    have e := congrArg (fun x : List Value => x[i]?) ht
    have hil : i < l.length := (List.getElem?_eq_some_iff.1 hi).1
    simp only [List.getElem?_take, Nat.mul_one] at e
    rw [if_pos (by omega), Array.getElem?_toList] at e
    rw [e]
    unfold Lib.byteCells
    rw [List.getElem?_map, hi]; rfl
theorem conv_row {w : World} {B g n cap : Nat} {l : List UInt8} (h : w.ownsRow B 5 1 (.slice (some ⟨g, 0, none⟩) n cap) n (Lib.byteCells l)) : (convert 28 9 (.slice (some ⟨g, 0, none⟩) n cap)).run Tryz.prog w = .ok (sv l) w := by
  obtain ⟨h1, _, _, _, _, h2⟩ := row_cells h
  exact conv_cells h1 h2
theorem z_oct : oct5 cirZ = [97, 105, 103, 32, 48, 32, 48, 32, 48, 32, 48, 32, 48, 32, 48, 32, 48, 10] := by
  have h0 : Lib.itoa 0 = [48] := by unfold Lib.itoa; rw [if_neg (by decide)]; exact dec_zero
  simp [oct5, core5, lines5, head5, cirZ, nums, nlL, joinL, h0]
theorem z_ord : ordV cirZ = true := by decide
theorem z_lies (w : World) (B : Nat) : CLies w B cirZ plZ := ⟨.inl rfl, .inl rfl, .inl rfl, .inl rfl, .inl rfl, .inl rfl, .inl rfl⟩
theorem z_fits : CFits cirZ plZ := by
  constructor <;> simp [cirZ, plZ, I64]

set_option maxHeartbeats 4000000 in
set_option maxRecDepth 100000 in
theorem alive_any (w : World) (htab : Tab w) : Calls Tryz.prog 5 #[] w fun e w' => e = .returned (.bool true) ∧ Below w.heap.size w w' := by
  have WR := Lib.hid (write_yes cirZ plZ w (z_lies _ _) z_fits z_ord htab)
  rw [z_oct, show cirV cirZ plZ = .agg #[.int .i64 0, .slice none 0 0, .slice none 0 0, .slice none 0 0, .slice none 0 0, .slice none 0 0, .slice none 0 0, .slice none 0 0] from rfl] at WR
  go_enter Tryz.func5, Tryz.ntmps5
  go_wp2_with fail
  refine WR.out.mono ?_
  rintro e w1 ⟨⟨g, cap, rfl, hown⟩, hb⟩
  have hcv := conv_row hown
  have HB1 := Lib.hid hb
  have OD := Lib.hid (ordered_any cirZ plZ w1 (z_lies _ _) z_fits)
  rw [z_ord, show cirV cirZ plZ = .agg #[.int .i64 0, .slice none 0 0, .slice none 0 0, .slice none 0 0, .slice none 0 0, .slice none 0 0, .slice none 0 0, .slice none 0 0] from rfl] at OD
  clear hown hb
  unfold sv at hcv
  simp only [List.length_cons, List.length_nil] at hcv ⊢
  go_wp2_with (go_at_call 7; refine (num_any _ _).mono ?_; rintro e w' ⟨rfl, rfl⟩)
  refine OD.out.mono ?_
  rintro e w2 ⟨rfl, hb⟩
  have HB2 := Lib.hid (HB1.out.trans (hb.mono HB1.out.size))
  clear hb
  go_wp2
  go_ret
  exact ⟨rfl, HB2.out⟩

/- the pages' own look -/
theorem ord_no {c : Cir} {k : Nat} (hk : k < (own c).length) (h : (own c)[k] ≠ lit k) : ordB c = false := by
  cases ho : ordB c with
  | false => rfl
  | true =>
    exfalso
    unfold ordB at ho
    simp only [Bool.and_eq_true, decide_eq_true_eq] at ho
    apply h
    have : (own c)[k]? = (evens (own c).length)[k]? := by rw [← ho.1]
    rw [List.getElem?_eq_getElem hk] at this
    simp [evens, hk] at this
    exact this
theorem ord_not {c : Cir} {t : Tri} (ht : t ∈ c.ands) (h : t.b < t.c) : ordB c = false := by
  cases ho : ordB c with
  | false => rfl
  | true =>
    exfalso
    unfold ordB at ho
    simp only [Bool.and_eq_true, decide_eq_true_eq, List.all_eq_true] at ho
    have := ho.2.1 t ht
    omega
theorem ord_last {c : Cir} (h : ∀ (k : Nat) (hk : k < (own c).length), (own c)[k] = lit k) (hb : ∀ t ∈ c.ands, t.c ≤ t.b) : ordB c = (((own c).length : Int) == c.max) := by
  have e : own c = evens (own c).length := by
    apply List.ext_getElem
    · rw [evens_len]
    · intro k h1 h2
      rw [h k h1]
      simp [evens]
  unfold ordB
  rw [decide_eq_true e, Bool.true_and, List.all_eq_true.2 (fun t ht => decide_eq_true (hb t ht)), Bool.true_and]
  by_cases q : c.max = ((own c).length : Int)
  · rw [decide_eq_true q, q]; simp
  · rw [decide_eq_false q]
    symm
    simpa using fun h => q h.symm
/-- a literal of the circuit's own -/
def OwnAt (c : Cir) (j : Nat) : Prop := ∀ (k : Nat) (hk : k < (own c).length), k < j → (own c)[k] = lit k
theorem OwnAt.more {c : Cir} {j : Nat} (h : OwnAt c j) (hj : j < (own c).length) (e : (own c)[j] = lit j) : OwnAt c (j + 1) := fun k hk hlt => by
  by_cases q : k = j
  · subst q; exact e
  · exact h k hk (by omega)

set_option maxHeartbeats 8000000 in
set_option maxRecDepth 100000 in
theorem refordered_any (c : Cir) (s : Places) (w : World) (h : CLies w w.heap.size c s) (hf : CFits c s) :
    Calls Tryz.prog 8 #[cirV c s] w fun e w' => e = .returned (.bool (ordV c)) ∧ Below w.heap.size w w' := by
  obtain ⟨WA, hWA⟩ : ∃ x, w.alloc (.cells #[.int .i64 c.max, .slice s.ai c.ins.length s.ki, .slice s.al c.lats.length s.kl, .slice s.ao c.outs.length s.ko, .slice s.ab c.bads.length s.kb, .slice s.ac c.invs.length s.kc, .slice s.aa c.ands.length s.ka, .slice s.an c.names.length s.kn] 27) = x := ⟨_, rfl⟩
  have sA : WA.heap.size = w.heap.size + 1 := by rw [← hWA]; simp
  have bA : Below w.heap.size w WA := by rw [← hWA]; exact (Below.refl _ _).alloc (Nat.le_refl _) _
  have hA : WA.heap[w.heap.size]? = some (.cells (cirC c s) 27 (0, 0)) := by rw [← hWA]; exact Array.getElem?_push_size
  obtain ⟨e0, e1, e2, e3, e4, e5, e6, e7⟩ := cells8 hA
  have HA := Lib.hid hA
  have BA := Lib.hid bA
  have H := Lib.hid h
  have HF := Lib.hid hf
  have RC := Lib.hid (refcheck_any c s WA ((h.below bA).more (by omega)) hf)
  clear h hf bA hA
  have OV : Hid (ordV c = (refOk c && ordB c)) := by unfold Hid ordV; rw [chk_same]
  cases hr : refOk c with
  | false =>
    rw [refV_no c hr] at RC
    have OF : Hid (ordV c = false) := by unfold Hid; rw [OV.out, hr]; rfl
    clear hr OV
    rw [show cirV c s = .agg #[.int .i64 c.max, .slice s.ai c.ins.length s.ki, .slice s.al c.lats.length s.kl, .slice s.ao c.outs.length s.ko, .slice s.ab c.bads.length s.kb, .slice s.ac c.invs.length s.kc, .slice s.aa c.ands.length s.ka, .slice s.an c.names.length s.kn] from rfl] at RC ⊢
    go_enter Tryz.func8, Tryz.ntmps8
    go_wp2_with fail
    refine RC.out.mono ?_
    rintro e w1 ⟨rfl, hb⟩
    have HB := Lib.hid (BA.out.trans (hb.mono BA.out.size))
    clear hb e0 e1 e2 e3 e4 e5 e6 e7 hWA sA
    go_wp2
    go_ret
    exact ⟨by rw [OF.out]; rfl, HB.out⟩
  | true =>
    rw [refV_yes c hr] at RC
    have OB : Hid (ordV c = ordB c) := by unfold Hid; rw [OV.out, hr]; rfl
    have hoc := own_count hr
    have hol := own_len c
    have hll : c.ins.length + c.lats.length + c.ands.length ≤ 2048 := by omega
    have AL := Lib.hid (all_lits hr)
    have HOL := Lib.hid hol
    clear hr OV hoc hol
    rw [show cirV c s = .agg #[.int .i64 c.max, .slice s.ai c.ins.length s.ki, .slice s.al c.lats.length s.kl, .slice s.ao c.outs.length s.ko, .slice s.ab c.bads.length s.kb, .slice s.ac c.invs.length s.kc, .slice s.aa c.ands.length s.ka, .slice s.an c.names.length s.kn] from rfl] at RC ⊢
    go_enter Tryz.func8, Tryz.ntmps8
    go_wp2_with fail
    refine RC.out.mono ?_
    rintro e w1 ⟨rfl, hb⟩
    have B1 : Hid (Below w.heap.size w w1) := BA.out.trans (hb.mono BA.out.size)
    have K1 : Hid (∀ x, Below w1.heap.size w1 x → x.heap[w.heap.size]? = some (.cells (cirC c s) 27 (0, 0))) := fun x hx => by
      have q := (hb.block _ (lt_of_block HA.out)).trans HA.out
      exact (hx.block _ (lt_of_block q)).trans q
    have L1 : Hid (∀ x, Below w1.heap.size w1 x → CLies x x.heap.size c s) := fun x hx => ((H.out.below B1.out).below (hx.mono B1.out.size)).more (Nat.le_trans B1.out.size hx.size)
    clear e0 e1 e2 e3 e4 e5 e6 e7 hWA sA hb HA BA H RC
    go_wp2
    go_loopw [3, 4] (fun v i wr => ∃ j : Nat, j ≤ c.ins.length ∧ v = .int .i64 j ∧ i = .int .i64 j ∧ OwnAt c j ∧ Below w1.heap.size w1 wr) (fun _ i _ => c.ins.length - (intOf i).toNat)
    case atStart => exact ⟨0, Nat.zero_le _, rfl, rfl, fun k _ hk => absurd hk (Nat.not_lt_zero _), Below.refl _ _⟩
    case round =>
      obtain ⟨j, hj, rfl, rfl, hoa, hb⟩ := hrel
      have HO := Lib.hid hoa
      have HB := Lib.hid hb
      obtain ⟨e0, e1, e2, e3, e4, e5, e6, e7⟩ := cells8 (K1.out _ hb)
      clear hoa hb
      by_cases hlt : j < c.ins.length
      · obtain ⟨ho, heq⟩ := own_ins c j hlt
        obtain ⟨b, o, hA, -, hc⟩ := (L1.out _ HB.out).ins.int hlt
        obtain ⟨l0, l1⟩ := AL.out.ins c.ins[j] (List.getElem_mem _)
        rw [hA] at e1
        by_cases hx : c.ins[j] = 2 * ((j : Int) + 1)
        · have HN : Hid (OwnAt c (j + 1)) := HO.out.more ho (by rw [heq, hx]; rfl)
          have hbo : (c.ins[j] != 2 * ((j : Int) + 1)) = false := by rw [hx]; simp
          clear heq l0 l1 ho hx
          generalize c.ins[j] = x at *
          go_wp2
          go_roundw
          case rel => exact ⟨j + 1, by omega, by go_num, by go_num, HN.out, HB.out⟩
          case measure => simp [intOf]; omega
        · have HN : Hid (ordB c = false) := ord_no ho (by rw [heq]; exact hx)
          have hbo : (c.ins[j] != 2 * ((j : Int) + 1)) = true := by simpa using hx
          clear heq l0 l1 ho hx
          generalize c.ins[j] = x at *
          go_wp2
          go_ret
          exact ⟨by rw [OB.out, HN.out]; rfl, B1.out.trans (HB.out.mono B1.out.size)⟩
      · obtain rfl : j = c.ins.length := by omega
        have HO2 : Hid (OwnAt c (c.ins.length + 0)) := HO.out
        have HB2 := Lib.hid HB.out
        clear HO HB
        obtain ⟨wx, rfl⟩ : ∃ x, x = wr := ⟨_, rfl⟩
        go_wp2
        clear e0 e1 e2 e3 e4 e5 e6 e7
        go_loopw [3, 5] (fun v i wr => ∃ j : Nat, j ≤ c.lats.length ∧ v = .int .i64 ((c.ins.length : Int) + j) ∧ i = .int .i64 j ∧ OwnAt c (c.ins.length + j) ∧ Below w1.heap.size w1 wr) (fun _ i _ => c.lats.length - (intOf i).toNat)
        case atStart => exact ⟨0, Nat.zero_le _, by simp, rfl, HO2.out, HB2.out⟩
        case round =>
          obtain ⟨j, hj, rfl, rfl, hoa, hb⟩ := hrel
          have HO := Lib.hid hoa
          have HB := Lib.hid hb
          obtain ⟨e0, e1, e2, e3, e4, e5, e6, e7⟩ := cells8 (K1.out _ hb)
          clear hoa hb
          by_cases hlt : j < c.lats.length
          · obtain ⟨ho, heq⟩ := own_lats c j hlt
            obtain ⟨b, o, hA, -, hc, -, -⟩ := (L1.out _ HB.out).lats.tri hlt
            obtain ⟨⟨l0, l1⟩, -⟩ := AL.out.lats c.lats[j] (List.getElem_mem _)
            rw [hA] at e2
            by_cases hx : c.lats[j].a = 2 * ((c.ins.length : Int) + j + 1)
            · have HN : Hid (OwnAt c (c.ins.length + (j + 1))) := HO.out.more ho (by rw [heq, hx]; unfold lit; omega)
              have hbo : (c.lats[j].a != 2 * ((c.ins.length : Int) + j + 1)) = false := by rw [hx]; simp
              clear heq l0 l1 ho hx
              generalize c.lats[j].a = x at *
              go_wp2
              go_roundw
              case rel => exact ⟨j + 1, by omega, by go_num, by go_num, HN.out, HB.out⟩
              case measure => simp [intOf]; omega
            · have HN : Hid (ordB c = false) := ord_no ho (by rw [heq]; unfold lit; omega)
              have hbo : (c.lats[j].a != 2 * ((c.ins.length : Int) + j + 1)) = true := by simpa using hx
              clear heq l0 l1 ho hx
              generalize c.lats[j].a = x at *
              go_wp2
              go_ret
              exact ⟨by rw [OB.out, HN.out]; rfl, B1.out.trans (HB.out.mono B1.out.size)⟩
          · obtain rfl : j = c.lats.length := by omega
            have HO3 : Hid (OwnAt c (c.ins.length + c.lats.length + 0)) := HO.out
            have HB3 := Lib.hid HB.out
            clear HO HB HO2 HB2
            obtain ⟨wy, rfl⟩ : ∃ x, x = wr := ⟨_, rfl⟩
            go_wp2
            clear e0 e1 e2 e3 e4 e5 e6 e7
            go_loopw [3, 6] (fun v i wr => ∃ j : Nat, j ≤ c.ands.length ∧ v = .int .i64 ((c.ins.length : Int) + c.lats.length + j) ∧ i = .int .i64 j ∧ OwnAt c (c.ins.length + c.lats.length + j) ∧ (∀ (k : Nat) (hk : k < c.ands.length), k < j → c.ands[k].c ≤ c.ands[k].b) ∧ Below w1.heap.size w1 wr) (fun _ i _ => c.ands.length - (intOf i).toNat)
            case atStart => exact ⟨0, Nat.zero_le _, by simp, rfl, HO3.out, fun k _ hk => absurd hk (Nat.not_lt_zero _), HB3.out⟩
            case round =>
              obtain ⟨j, hj, rfl, rfl, hoa, hba, hb⟩ := hrel
              have HO := Lib.hid hoa
              have HBA := Lib.hid hba
              have HB := Lib.hid hb
              obtain ⟨e0, e1, e2, e3, e4, e5, e6, e7⟩ := cells8 (K1.out _ hb)
              clear hoa hb hba
              by_cases hlt : j < c.ands.length
              · obtain ⟨ho, heq⟩ := own_ands c j hlt
                obtain ⟨b, o, hA, -, hc0, hc1, hc2⟩ := (L1.out _ HB.out).ands.tri hlt
                obtain ⟨⟨l0, l1⟩, -⟩ := AL.out.ands c.ands[j] (List.getElem_mem _)
                rw [hA] at e6
                have HNO : Hid (c.ands[j].a ≠ 2 * ((c.ins.length : Int) + c.lats.length + j + 1) → ordB c = false) := fun hx => ord_no ho (by rw [heq]; unfold lit; omega)
                have HYES : Hid (c.ands[j].a = 2 * ((c.ins.length : Int) + c.lats.length + j + 1) → OwnAt c (c.ins.length + c.lats.length + (j + 1))) := fun hx => HO.out.more ho (by rw [heq, hx]; unfold lit; omega)
                have HNB : Hid (c.ands[j].b < c.ands[j].c → ordB c = false) := fun hx => ord_not (List.getElem_mem _) hx
                have HYB : Hid (c.ands[j].c ≤ c.ands[j].b → ∀ (k : Nat) (hk : k < c.ands.length), k < j + 1 → c.ands[k].c ≤ c.ands[k].b) := fun hx k hk hkj => by
                  by_cases q : k = j
                  · subst q; exact hx
                  · exact HBA.out k hk (by omega)
                clear heq l0 l1 ho HBA HO
                go_wp2
                have u6 := Wd.cell e6
                have v0 := Wd.cell hc0
                have v1 := Wd.cell hc1
                have v2 := Wd.cell hc2
                generalize c.ands[j].a = x at *
                generalize c.ands[j].b = y at *
                generalize c.ands[j].c = z at *
                clear e0 e1 e2 e3 e4 e5 e6 e7 hc0 hc1 hc2
                by_cases hx : x = 2 * ((c.ins.length : Int) + c.lats.length + j + 1)
                · have hbo : (x != 2 * ((c.ins.length : Int) + c.lats.length + j + 1)) = false := by rw [hx]; simp
                  have HY := Lib.hid (HYES.out hx)
                  clear hx HYES HNO
                  by_cases hyz : y < z
                  · have hbd : decide (y < z) = true := decide_eq_true hyz
                    have HN := Lib.hid (HNB.out hyz)
                    clear HNB HYB hyz
                    refine wp_region_wd (by kernel_rfl) (by kernel_rfl) ?_
                    repeat (first | go_big_quiet_skip | (go_big_quiet_want; go_big_quiet_op; first | go_big_quiet_on | (apply Exists.intro; refine ⟨fun u => ?_, ?_⟩; (fail); go_big_quiet_on)))
                    refine wpQuiet_nil ?_
                    intro w9 hw'
                    obtain ⟨⟨_, hb9⟩, hw''⟩ := hw'
                    subst hw''
                    have HB9 := Lib.hid (HB.out.trans (hb9.mono HB.out.size))
                    clear hb9
                    go_wp2
                    go_ret
                    exact ⟨by rw [OB.out, HN.out]; rfl, B1.out.trans (HB9.out.mono B1.out.size)⟩
                  · have hbd : decide (y < z) = false := decide_eq_false hyz
                    have HN := Lib.hid (HYB.out (by omega))
                    clear HNB HYB hyz
                    refine wp_region_wd (by kernel_rfl) (by kernel_rfl) ?_
                    repeat (first | go_big_quiet_skip | (go_big_quiet_want; go_big_quiet_op; first | go_big_quiet_on | (apply Exists.intro; refine ⟨fun u => ?_, ?_⟩; (fail); go_big_quiet_on)))
                    refine wpQuiet_nil ?_
                    intro w9 hw'
                    obtain ⟨⟨_, hb9⟩, hw''⟩ := hw'
                    subst hw''
                    have HB9 := Lib.hid (HB.out.trans (hb9.mono HB.out.size))
                    clear hb9
                    go_wp2
                    go_roundw
                    case rel => exact ⟨j + 1, by omega, by go_num, by go_num, HY.out, HN.out, HB9.out⟩
                    case measure => simp [intOf]; omega
                · have hbo : (x != 2 * ((c.ins.length : Int) + c.lats.length + j + 1)) = true := by simpa using hx
                  have HN := Lib.hid (HNO.out hx)
                  clear hx HYES HNO HNB HYB
                  refine wp_region_wd (by kernel_rfl) (by kernel_rfl) ?_
                  repeat (first | go_big_quiet_skip | (go_big_quiet_want; go_big_quiet_op; first | go_big_quiet_on | (apply Exists.intro; refine ⟨fun u => ?_, ?_⟩; (fail); go_big_quiet_on)))
                  refine wpQuiet_nil ?_
                  intro w9 hw'
                  obtain ⟨⟨_, hb9⟩, hw''⟩ := hw'
                  subst hw''
                  have HB9 := Lib.hid (HB.out.trans (hb9.mono HB.out.size))
                  clear hb9
                  go_wp2
                  go_ret
                  exact ⟨by rw [OB.out, HN.out]; rfl, B1.out.trans (HB9.out.mono B1.out.size)⟩
              · obtain rfl : j = c.ands.length := by omega
                have HLS : Hid (ordB c = (((c.ins.length : Int) + c.lats.length + c.ands.length) == c.max)) := by
                  have h1 := ord_last (c := c) (fun k hk => HO.out k hk (by have := HOL.out; omega)) (fun t ht => by
                    obtain ⟨k, hk, rfl⟩ := List.getElem_of_mem ht
                    exact HBA.out k hk hk)
                  unfold Hid
                  rw [h1, HOL.out]
                  congr 1
                clear HO HBA
                go_wp2
                go_ret
                exact ⟨by rw [OB.out, HLS.out]; rfl, B1.out.trans (HB.out.mono B1.out.size)⟩
end Go.Proofs.YtopjddmgejfalaaGreatDoor.Aig
namespace Go.Proofs.YtopjddmgejfalaaGreatDoor.Aig
open Go.ChangeShapes Go.WideShapes Go.ChangeAt Go.RowKit Dig Circ Cw Aag

theorem octs_row {w : World} {B g n cap : Nat} {l : List UInt8} (h : w.ownsRow B 5 1 (.slice (some ⟨g, 0, none⟩) n cap) n (Lib.byteCells l)) : l.length = n ∧ Octs w l (some ⟨g, 0, none⟩) cap := by
  obtain ⟨h1, h2, h3, h4, h5, h6⟩ := row_cells h
  exact ⟨h1, ⟨by omega, h3, (fun e => by cases e), fun _ => ⟨g, 0, rfl, h5, h6⟩⟩⟩
theorem Octs.take {w : World} {l : List UInt8} {A : Option Addr} {q : Nat} (h : Octs w l A q) (k : Nat) (hk : k ≤ l.length) : (l.take k).length = k ∧ Octs w (l.take k) A q := by
  have hl : (l.take k).length = k := by rw [List.length_take]; omega
  refine ⟨hl, by have := h.le; omega, h.mx, h.nil, fun hne => ?_⟩
  obtain ⟨g, o, e, hg, hc⟩ := h.at_ (fun e => hne (by rw [e]; simp))
  refine ⟨g, o, e, hg, fun i b hi => hc i b ?_⟩
  rw [List.getElem?_take] at hi
  split at hi
  · exact hi
  · cases hi
theorem Octs.below {w w' : World} {l : List UInt8} {A : Option Addr} {q : Nat} (h : Octs w l A q) (hb : Below w.heap.size w w') : Octs w' l A q :=
  ⟨h.le, h.mx, h.nil, fun hne => by
    obtain ⟨g, o, e, hg, hc⟩ := h.at_ hne
    exact ⟨g, o, e, Nat.lt_of_lt_of_le hg hb.size, fun i b hi => (hb.cell hg).trans (hc i b hi)⟩⟩
end Go.Proofs.YtopjddmgejfalaaGreatDoor.Aig
