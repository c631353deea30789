/- CircuitCone walked: what literals hang on hangs on no more; condition: what came in is of bulk at most 1048576. -/
import Derived.Test.YtefhhldfelmnkaaInts
import Derived.Test.YtefhhldfelmnkaaRows
import Derived.Test.YtefhhldfelmnkaaAlive
import Derived.Test.YtefhhldfelmnkaaOpen
import Derived.Test.YtefhhldfelmnkaaLawK
namespace Go.Proofs.Ytefhhldfelmnkaa.Cw
open Go.ChangeShapes Go.WideShapes Go.ChangeAt Go.RowKit Go.Maps Go.Deep Circ

theorem twice_snoc (R : List Int) (k : Nat) (hk : k < R.length) : (R.take (k + 1)).map (fun x => 2 * x) = (R.take k).map (fun x => 2 * x) ++ [2 * R[k]] := by
  rw [List.take_succ_eq_append_getElem hk, List.map_append]; rfl
theorem rising_at (R : List Int) (h : R.Pairwise (· < ·)) (k : Nat) (hk : k < R.length) (h0 : 0 < k) : (R[k - 1]'(by omega)) < R[k] := List.pairwise_iff_getElem.1 h (k - 1) k (by omega) hk (by omega)

set_option maxHeartbeats 4000000 in
set_option maxRecDepth 100000 in
theorem cone_walk (c : Cir) (s : Places) (l : List Int) (A : Option Addr) (q : Nat) (w : World) (h : CLies w w.heap.size c s) (hf : CFits c s) (hr : LRow w w.heap.size 1 A (ints l)) (hl : ∀ x ∈ l, I64 x) (hll : l.length ≤ 1048576) :
    Calls Try.prog 4 #[cirV c s, .slice A l.length q] w fun e w' => e = .returned (.bool true) ∧ Below w.heap.size w w' := by
  have la := hf.la
  have HB1 : Hid (Below w.heap.size w (w.alloc (.cells (cirC c s) 27))) := (Below.refl _ _).alloc (Nat.le_refl _) _
  have HS1 : Hid ((w.alloc (.cells (cirC c s) 27)).heap.size = w.heap.size + 1) := by unfold Hid; simp
  have HC1 := Lib.hid (fun w' (h1 : CLies w' w'.heap.size c s) (h2 : LRow w' w'.heap.size 1 A (ints l)) => cone_any c s l A q w' h1 hf h2 hl (by omega) (l.length + 2 * c.ands.length) (fun T hn hh => hangs_len hn hh) (by omega))
  have HF := Lib.hid hf
  have H := Lib.hid h
  have HR := Lib.hid hr
  have HLI := Lib.hid hl
  have HC2 := Lib.hid (fun (R : List Int) (hR : ∀ u, u ∈ R ↔ Hangs c.ands l u) (hn : R.length ≤ l.length + 2 * c.ands.length) (A' : Option Addr) (q' : Nat) w' (h1 : CLies w' w'.heap.size c s) (h2 : LRow w' w'.heap.size 1 A' (ints (R.map fun x => 2 * x))) =>
    cone_any c s (R.map fun x => 2 * x) A' q' w' h1 hf h2 (fun x hx => by
      obtain ⟨y, hy, rfl⟩ := List.mem_map.1 hx
      obtain ⟨b0, b1⟩ := hangs_bd hl hf.ands ((hR y).1 hy)
      unfold I64; omega) (by simp; omega) (l.length + 2 * c.ands.length) (fun T hnd hh => Nat.le_trans (nodup_len T R hnd (fun x hx => (hangs_again hR (fun v hv => (hangs_bd hl hf.ands ((hR v).1 hv)).1) x).1 (hh x hx))) hn) (by omega))
  clear h hf hr hl
  rw [show cirV c s = .agg (cirC c s) from rfl] at *
  rw [show cirC c s = #[.int .i64 c.max, .slice s.ai c.ins.length s.ki, .slice s.al c.lats.length s.kl, .slice s.ao c.outs.length s.ko, .slice s.ab c.bads.length s.kb, .slice s.ac c.invs.length s.kc, .slice s.aa c.ands.length s.ka, .slice s.an c.names.length s.kn] from rfl] at HC1 HC2 ⊢
  go_enter Try.func4, Try.ntmps4
  go_wp2_with fail
  refine (alive_any _).mono ?_
  rintro e w1 ⟨rfl, hba⟩
  have hb1 : Below (w.heap.size + 1) (w.alloc (.cells (cirC c s) 27)) w1 := hba.mono (by simp)
  have hz1 : w.heap.size + 1 ≤ w1.heap.size := by have := hb1.size; rw [show (w.alloc (.cells (cirC c s) 27)).heap.size = w.heap.size + 1 from HS1.out] at this; exact this
  have hbw1 : Below w.heap.size w w1 := HB1.out.trans (hb1.mono (by omega))
  obtain ⟨e0, e1, e2, e3, e4, e5, e6, e7⟩ := ((Box.made w c s).keep hb1 (Nat.lt_succ_self _)).cells
  have D1 := Lib.hid (HC1.out w1 ((H.out.below hbw1).more (by omega)) ((HR.out.below hbw1).more (by omega)))
  clear hba
  go_wp2_with fail
  refine D1.out.mono ?_
  rintro e w2 ⟨⟨v, R, rfl, hown, hri, hRm, hRl⟩, hb2a⟩
  have hb2 := hb1.trans (hb2a.mono hz1)
  have hz2 : w.heap.size + 1 ≤ w2.heap.size := Nat.le_trans hz1 hb2a.size
  obtain ⟨A', q', hv, hrow, hq, hq2⟩ := hown.row
  subst hv
  have HROW := Lib.hid hrow
  have HRI := Lib.hid hri
  have HRM := Lib.hid hRm
  have HBD : Hid (∀ x ∈ R, 0 < x ∧ x ≤ 4611686018427387903) := fun x hx => hangs_bd HLI.out HF.out.ands ((HRM.out x).1 hx)
  clear hown hrow hri hRm hb2a hbw1 D1 e0 e1 e2 e3 e4 e5 e6 e7
  go_wp2
  go_loopw [6, 7] (fun a i wr => ∃ (k : Nat) (vv : Value), k ≤ R.length ∧ i = .int .i64 k ∧ vv = a ∧ OwnI wr w2.heap.size vv ((R.take k).map fun x => 2 * x) ∧ Below w2.heap.size w2 wr) (fun _ i _ => R.length - (intOf i).toNat)
  case atStart => exact ⟨0, _, Nat.zero_le _, rfl, rfl, OwnI.nil _ _, Below.refl _ _⟩
  case round =>
    obtain ⟨k, vv, hk, rfl, rfl, ho, hb⟩ := hrel
    have HO := Lib.hid ho; clear ho
    have hwz : w2.heap.size ≤ wr.heap.size := hb.size
    have HBn := Lib.hid hb; clear hb
    by_cases hlt : k < R.length
    · obtain ⟨b, o, ha, hbb, hx⟩ := (HROW.out.below HBn.out).int hlt
      subst ha
      have HX := Lib.hid (twice_snoc R k hlt)
      obtain ⟨x0, x1⟩ := HBD.out R[k] (List.getElem_mem _)
      have HP : Hid (∀ h0 : 0 < k, ∀ w', Below w2.heap.size w2 w' → w'.cell? ⟨b, o + (k - 1), none⟩ = some (.int .i64 (R[k - 1]'(by omega)))) := fun h0 w' hb' => by
        obtain ⟨b', o', ha', _, hx'⟩ := (HROW.out.below hb').int (show k - 1 < R.length by omega)
        have := Option.some.inj ha'
        injection this with h1 h2
        subst h1; subst h2
        exact hx'
      have HRA := Lib.hid (rising_at R HRI.out k hlt)
      have HLn : Hid ((((R.take k).map fun x => 2 * x).length + 1) * 8 ≤ 140737488355328) := by unfold Hid; simp; omega
      have HXC : Hid (∀ w', Below w2.heap.size w2 w' → w'.cell? ⟨b, o + k, none⟩ = some (.int .i64 R[k])) := fun w' hb' => by
        obtain ⟨b', o', ha', _, hx'⟩ := (HROW.out.below hb').int hlt
        have := Option.some.inj ha'
        injection this with h1 h2
        subst h1; subst h2
        exact hx'
      have HKL : Hid (k < R.length) := hlt
      generalize R[k] = x at *
      generalize (R.take k).map (fun x => 2 * x) = xs at *
      have hone := one_row wr (2 * x) 3
      have hbo : Below wr.heap.size wr (wr.alloc (.cells #[.int .i64 (2 * x)] 3)) := (Below.refl _ _).alloc (Nat.le_refl _) _
      have HBO := Lib.hid hbo
      clear hbo
      go_wp2_with (at_builtin; refine wpList_app _ rfl (.tmp 19) (.tmp 25) rfl w2.heap.size _ vv xs [2 * x] rfl (HO.out.keep HBO.out) _ 1 1 rfl rfl hone HLn.out (Nat.le_trans hwz HBO.out.size) ?_)
      intro v3 w3 hown3 hg3 hloc3
      have hb3 : Below w2.heap.size w2 w3 := HBn.out.trans ((HBO.out.mono hwz).trans (own_below (HO.out.keep HBO.out) hg3 (Nat.le_trans hwz HBO.out.size)))
      have HO3 := Lib.hid hown3
      have HB3 := Lib.hid hb3
      have u0 := HXC.out w3 hb3
      rw [← HX.out] at HO3
      clear hown3 hg3 hloc3 hb3 hx
      by_cases h0 : 0 < k
      · have u1 := HP.out h0 w3 HB3.out
        have hlt1 := HRA.out h0
        have hk1 : decide ((0 : Int) < k) = true := by simp; omega
        have hk2 : decide (0 < k) = true := by simp; omega
        have hk3 : (0 : Int) < k := by omega
        have hkn : (k : Int) - 1 < R.length := by omega
        have hkn0 : 0 ≤ (k : Int) - 1 := by omega
        have hnl : ¬ x ≤ (R[k - 1]'(by omega)) := by omega
        clear hlt1 HRA HP
        generalize (R[k - 1]'(by omega)) = y at *
        go_wp2
        have v0 := Wd.cell u0
        have v1 := Wd.cell u1
        refine wp_region_wd (by kernel_rfl) (by kernel_rfl) ?_
        repeat (first | go_big_quiet_skip | (go_big_quiet_want; go_big_quiet_op; go_big_quiet_on))
        refine wpQuiet_nil ?_
        intro w9 hw'
        obtain ⟨⟨_, hb9⟩, hw''⟩ := hw'
        subst hw''
        go_wp2
        go_roundw
        case rel => exact ⟨k + 1, _, by omega, by go_num, rfl, HO3.out.keep hb9, HB3.out.trans (hb9.mono HB3.out.size)⟩
        case measure => simp [intOf]; omega
      · have hk1 : decide ((0 : Int) < k) = false := by simp; omega
        have hk2 : decide (0 < k) = false := by simp; omega
        clear HP HRA
        go_wp2
        have v0 := Wd.cell u0
        refine wp_region_wd (by kernel_rfl) (by kernel_rfl) ?_
        repeat (first | go_big_quiet_skip | (go_big_quiet_want; go_big_quiet_op; go_big_quiet_on))
        refine wpQuiet_nil ?_
        intro w9 hw'
        obtain ⟨⟨_, hb9⟩, hw''⟩ := hw'
        subst hw''
        go_wp2
        go_roundw
        case rel => exact ⟨k + 1, _, by omega, by go_num, rfl, HO3.out.keep hb9, HB3.out.trans (hb9.mono HB3.out.size)⟩
        case measure => simp [intOf]; omega
    · obtain rfl : k = R.length := by omega
      rw [List.take_of_length_le (Nat.le_refl _)] at HO
      obtain ⟨A2, q2, hv2, hrow2, _, _⟩ := HO.out.row
      subst hv2
      have hbx := hb2.trans (HBn.out.mono hz2)
      have hbw : Below w.heap.size w wr := HB1.out.trans (hbx.mono (by omega))
      obtain ⟨e0, e1, e2, e3, e4, e5, e6, e7⟩ := ((Box.made w c s).keep hbx (Nat.lt_succ_self _)).cells
      have D2 := Lib.hid (HC2.out R HRM.out hRl A2 q2 wr ((H.out.below hbw).more (by omega)) hrow2)
      have HRW := Lib.hid (HROW.out.below HBn.out)
      have HBW := Lib.hid hbw
      clear hrow2 hbw hbx
      rw [List.length_map] at D2
      rw [show ((R.map fun x => 2 * x).length) = R.length from List.length_map _]
      go_wp2_with fail
      refine D2.out.mono ?_
      rintro e w5 ⟨⟨v5, R5, rfl, hown5, hri5, hRm5, hRl5⟩, hb5⟩
      have hRR : R5 = R := rising_one R5 R hri5 HRI.out fun u => (hRm5 u).trans (hangs_again HRM.out (fun v hv => (HBD.out v hv).1) u)
      subst hRR
      obtain ⟨A5, q5, hv5, hrow5, _, _⟩ := hown5.row
      subst hv5
      have HRW5 := Lib.hid (HRW.out.below (hb5.mono hwz))
      have HR5 := Lib.hid hrow5
      have HB5 := Lib.hid (HBW.out.trans (hb5.mono HBW.out.size))
      clear hown5 hri5 hRm5 hb5 hrow5
      go_wp2_with fail
      refine (ints_same R5 A5 A' q5 q' _ _ w5 (by omega) HR5.out HRW5.out).mono ?_
      rintro e w6 ⟨rfl, hb6⟩
      go_wp2
      go_ret
      exact ⟨rfl, HB5.out.trans (hb6.mono HB5.out.size)⟩

theorem bulk_two {H : Type} (d : DataW H) (es sp : List (DataW H)) (h : Rows.uptoBulkAll [d, .slice es sp] ≤ 1048576) : es.length ≤ 1048576 := by
  have key : ∀ es : List (DataW H), es.length ≤ Rows.uptoBulkAll es := fun es => by
    induction es with
    | nil => exact Nat.zero_le _
    | cons x es ih =>
      have : 1 ≤ Rows.uptoBulk x := by
        cases x with
        | lit l => cases l <;> simp [Rows.uptoBulk]
        | _ => simp [Rows.uptoBulk]
      simp only [Rows.uptoBulkAll, List.length_cons]; omega
  have := key es
  simp only [Rows.uptoBulkAll, Rows.uptoBulk] at h
  omega

set_option maxRecDepth 100000 in
theorem cone_law {H : Type} {enc : TypeId × Value → H} (W : World) (v : Value) (d : DataW H) (p : List MemPlace) {r : Reach} {b0 : Nat} (hv : Value.okWide Try.prog W r b0 27 v) (h : DataW.Trod enc Try.prog W 0 (fun _ => true) true 27 v d p)
    (v1 : Value) (d1 : DataW H) (p1 : List MemPlace) {r1 : Reach} {b1 : Nat} (hv1 : Value.okWide Try.prog W r1 b1 22 v1) (h1 : DataW.Trod enc Try.prog W 0 (fun _ => true) true 22 v1 d1 p1)
    (hbulk : Rows.uptoBulkAll [d, d1] ≤ 1048576)
    {ts : List TypeId} {ds : List (DataW H)} (hsz : (DataW.weightsEach Try.prog (27 :: ts) (d :: ds)).all (· ≤ reachBytes) = true) :
    Calls Try.prog 4 #[v, v1] W fun e W' => e = .returned (.bool true) ∧ Below W.heap.size W W' := by
  obtain ⟨c, s, rfl, hl, hf⟩ := open_circ hv h (first_weights hsz)
  obtain ⟨fuel, ht⟩ := h1
  obtain ⟨A1, l1, q1, e1, r1', f1, k1, z1⟩ := open_rows 1 (by decide) (fun x : Int => [Value.int .i64 x]) I64 (fun _ => rfl) Try.underlying22 c3 (fun n cs' y h => el_int h) ht
  have hv1 : v1 = .slice A1 l1.length q1 := by
    obtain ⟨a0, len, cap, rfl⟩ := okWide_slice Try.underlying22 hv1
    simpa [Value.cells] using e1
  subst hv1
  refine cone_walk c s l1 A1 q1 W hl hf r1' f1 ?_
  rcases z1 with rfl | ⟨es, sp, hz, hlen⟩
  · simp
  · simp only [] at hz
    subst hz
    rw [← hlen]; exact bulk_two _ es sp hbulk
end Go.Proofs.Ytefhhldfelmnkaa.Cw
