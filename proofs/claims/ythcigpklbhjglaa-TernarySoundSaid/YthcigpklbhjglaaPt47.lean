/- TernaryMore; no condition. fill: trits with bits for x; condition: the text is short. joined; condition: the texts are as long, and short. first; condition: the circuit may be, and lies in memory. strings.Repeat of the one sign x, not too often: the library's own text walked; a builder that is read while it is written. -/
import Derived.Test.YthcigpklbhjglaaPt35
import Derived.Test.YthcigpklbhjglaaPt36
import Derived.Test.YthcigpklbhjglaaPt27
import Derived.Lib.BufferWrite
import Derived.Test.YthcigpklbhjglaaPt01
import Derived.Test.YthcigpklbhjglaaPt15
import Derived.Test.YthcigpklbhjglaaPt32
import Derived.Lib.FrozenHead
import Derived.Deep.LoopGhost
namespace Go.Proofs.Ythcigpklbhjglaa.Ter
open Go.ChangeShapes Go.WideShapes Go.ChangeAt Go.RowKit Go.Maps Circ Cw
open Str Sim

theorem cov_put2 {st su : ByteArray} {n : Nat} (h1 : tritsM st (n : Int) = true) (h2 : tritsM su (n : Int) = true) (h : covM st su = true) : ∀ i, i < n → cov (st.data.toList.getD i 0) (su.data.toList.getD i 0) := fun i hi => by
  have hc := ((covM_iff st su).1 h).2 i
  have a1 := (trits_parts h1).1
  have a2 := (trits_parts h2).1
  have l1 : i < st.data.toList.length := by simp; omega
  have l2 : i < su.data.toList.length := by simp; omega
  rwa [getD_in l1 120 0, getD_in l2 120 0] at hc
theorem cov_self {a b : List UInt8} (h : Cov a b) : covM ⟨a.toArray⟩ ⟨b.toArray⟩ = true := (covM_iff _ _).2 h
theorem next_cov {c : Cir} {v w : List UInt8} (h : Cov v w) : Cov (nextT c v) (nextT c w) := by
  unfold nextT
  refine ⟨by simp, fun i => ?_⟩
  by_cases hi : i < c.lats.length
  · rw [List.getD_eq_getElem?_getD, List.getD_eq_getElem?_getD, List.getElem?_map, List.getElem?_map, List.getElem?_eq_getElem hi]
    exact cov_of h _
  · rw [List.getD_eq_getElem?_getD, List.getElem?_eq_none (by simp; omega)]; exact .inr rfl
set_option maxHeartbeats 16000000 in
set_option maxRecDepth 100000 in
theorem more_walk (c : Cir) (s : Places) (a b inp : ByteArray) (w : World) (h : CLies w w.heap.size c s) (hf : CFits c s) (hza : a.size ≤ 9223372036854775807) (hzb : b.size ≤ 9223372036854775807) (hzi : inp.size ≤ 9223372036854775807) :
    Calls Try.prog 13 #[cirV c s, .string a, .string b, .string inp] w fun e w' => e = .returned (.bool true) ∧ Below w.heap.size w w' := by
  obtain ⟨WA, hWA⟩ : ∃ x, w.alloc (.cells #[.int .i64 c.max, .slice s.ai c.ins.length s.ki, .slice s.al c.lats.length s.kl, .slice s.ao c.outs.length s.ko, .slice s.ab c.bads.length s.kb, .slice s.ac c.invs.length s.kc, .slice s.aa c.ands.length s.ka, .slice s.an c.names.length s.kn] 27) = x := ⟨_, rfl⟩
  have bA : Hid (Below w.heap.size w WA) := by unfold Hid; rw [← hWA]; exact (Below.refl _ _).alloc (Nat.le_refl _) _
  have GA : Hid (WA.heap[w.heap.size]? = some (.cells (cirC c s) 27 (0, 0))) := by unfold Hid; rw [← hWA]; exact Array.getElem?_push_size
  obtain ⟨e0, e1, e2, e3, e4, e5, e6, e7⟩ := cells8 GA.out
  have LW : Hid (∀ x, Below w.heap.size w x → CLies x x.heap.size c s) := fun x hx => (h.below hx).more hx.size
  have VA := Lib.hid (fun x hx => pvals_any c s a inp x (LW.out x hx) hf hza hzi)
  have VB := Lib.hid (fun x hx => pvals_any c s b inp x (LW.out x hx) hf hzb hzi)
  have NA := Lib.hid (fun x hx => pnext_any c s a inp x (LW.out x hx) hf hza hzi)
  have NB := Lib.hid (fun x hx => pnext_any c s b inp x (LW.out x hx) hf hzb hzi)
  have CA := Lib.hid (fun x => pcovers_any a b x hza)
  have CV := Lib.hid (fun x (h : (tStr c a inp).length ≤ 1048576) => pcovers_any ⟨(tStr c a inp).toArray⟩ ⟨(tStr c b inp).toArray⟩ x (by rw [sv_size]; omega))
  have CN := Lib.hid (fun x (h : (ntStr c a inp).length ≤ 1048576) => pcovers_any ⟨(ntStr c a inp).toArray⟩ ⟨(ntStr c b inp).toArray⟩ x (by rw [sv_size]; omega))
  have hra := terr_range c a inp
  have hrb := terr_range c b inp
  have KEY : tErr c a inp = 0 → tErr c b inp = 0 → covM a b = true → Hid (((tStr c a inp).length ≤ 1048576 ∧ covM ⟨(tStr c a inp).toArray⟩ ⟨(tStr c b inp).toArray⟩ = true) ∧ (ntStr c a inp).length ≤ 1048576 ∧ covM ⟨(ntStr c a inp).toArray⟩ ⟨(ntStr c b inp).toArray⟩ = true) := fun h1 h2 h3 => by
    obtain ⟨hok, ta, ti⟩ := terr_is h1
    obtain ⟨-, tb, -⟩ := terr_is h2
    obtain ⟨m, hm, hm1⟩ := max_nat hok
    have hv : Cov (valsT c a inp) (valsT c b inp) := cov_vals c (cov_put2 ta tb h3) (fun i _ => .inl rfl)
    rw [tstr_ok h1, tstr_ok h2, ntstr_ok h1, ntstr_ok h2]
    refine ⟨⟨by rw [valsT_len, hm]; simp; omega, cov_self hv⟩, ?_, cov_self (next_cov hv)⟩
    have := (ref_sizes hok).2.1
    unfold nextT
    simp; omega
  unfold sv at VA VB NA NB
  generalize (⟨(tStr c a inp).toArray⟩ : ByteArray) = s1 at *
  generalize (⟨(tStr c b inp).toArray⟩ : ByteArray) = s2 at *
  generalize (⟨(ntStr c a inp).toArray⟩ : ByteArray) = s3 at *
  generalize (⟨(ntStr c b inp).toArray⟩ : ByteArray) = s4 at *
  generalize (tStr c a inp).length = n1 at *
  generalize (ntStr c a inp).length = n2 at *
  have KX := Lib.hid KEY
  clear KEY
  generalize tErr c a inp = x at *
  generalize tErr c b inp = y at *
  clear h hf hza hzb hzi
  unfold cirV at VA VB NA NB ⊢
  rw [show cirC c s = #[.int .i64 c.max, .slice s.ai c.ins.length s.ki, .slice s.al c.lats.length s.kl, .slice s.ao c.outs.length s.ko, .slice s.ab c.bads.length s.kb, .slice s.ac c.invs.length s.kc, .slice s.aa c.ands.length s.ka, .slice s.an c.names.length s.kn] from rfl] at VA VB NA NB ⊢
  go_enter Try.func13, Try.ntmps13
  go_wp2_with fail
  refine (alive_any WA).mono ?_
  rintro e w1 ⟨rfl, hb⟩
  have B1 : Hid (Below w.heap.size w w1) := bA.out.trans (hb.mono bA.out.size)
  have G1 : Hid (w1.heap[w.heap.size]? = some (.cells (cirC c s) 27 (0, 0))) := (hb.block _ (lt_of_block GA.out)).trans GA.out
  clear e0 e1 e2 e3 e4 e5 e6 e7 hb
  obtain ⟨e0, e1, e2, e3, e4, e5, e6, e7⟩ := cells8 G1.out
  clear hWA
  go_wp2_with fail
  refine (VA.out w1 B1.out).mono ?_
  rintro e w2 ⟨rfl, hb⟩
  have B2 : Hid (Below w.heap.size w w2) := B1.out.trans (hb.mono B1.out.size)
  have G2 : Hid (w2.heap[w.heap.size]? = some (.cells (cirC c s) 27 (0, 0))) := (hb.block _ (lt_of_block G1.out)).trans G1.out
  clear e0 e1 e2 e3 e4 e5 e6 e7 hb
  obtain ⟨e0, e1, e2, e3, e4, e5, e6, e7⟩ := cells8 G2.out
  go_wp2_with fail
  refine (VB.out w2 B2.out).mono ?_
  rintro e w3 ⟨rfl, hb⟩
  have B3 : Hid (Below w.heap.size w w3) := B2.out.trans (hb.mono B2.out.size)
  have G3 : Hid (w3.heap[w.heap.size]? = some (.cells (cirC c s) 27 (0, 0))) := (hb.block _ (lt_of_block G2.out)).trans G2.out
  clear e0 e1 e2 e3 e4 e5 e6 e7 hb
  obtain ⟨e0, e1, e2, e3, e4, e5, e6, e7⟩ := cells8 G3.out
  clear VA VB
  by_cases hx : x = 0
  · subst hx
    by_cases hy : y = 0
    · subst hy
      cases hq : covM a b with
      | false =>
        rw [hq] at CA
        clear KX hq
        go_wp2_with (go_at_call 40; refine (num_any _ _).mono ?_; rintro e w' ⟨rfl, rfl⟩)
        refine (CA.out w3).mono ?_
        rintro e w4 ⟨rfl, hb⟩
        have B4 : Hid (Below w.heap.size w w4) := B3.out.trans (hb.mono B3.out.size)
        clear hb
        go_wp2
        go_ret
        exact ⟨rfl, B4.out⟩
      | true =>
        obtain ⟨⟨k1, k2⟩, k3, k4⟩ := KX.out rfl rfl hq
        rw [hq] at CA
        have CV := Lib.hid (fun x => CV.out x k1)
        have CN := Lib.hid (fun x => CN.out x k3)
        rw [k2] at CV
        rw [k4] at CN
        clear KX hq k1 k2 k3 k4
        go_wp2_with (go_at_call 40; refine (num_any _ _).mono ?_; rintro e w' ⟨rfl, rfl⟩)
        refine (CA.out w3).mono ?_
        rintro e w4 ⟨rfl, hb⟩
        have B4 : Hid (Below w.heap.size w w4) := B3.out.trans (hb.mono B3.out.size)
        have G4 : Hid (w4.heap[w.heap.size]? = some (.cells (cirC c s) 27 (0, 0))) := (hb.block _ (lt_of_block G3.out)).trans G3.out
        clear e0 e1 e2 e3 e4 e5 e6 e7 hb
        obtain ⟨e0, e1, e2, e3, e4, e5, e6, e7⟩ := cells8 G4.out
        go_wp2_with fail
        refine (NA.out w4 B4.out).mono ?_
        rintro e w5 ⟨rfl, hb⟩
        have B5 : Hid (Below w.heap.size w w5) := B4.out.trans (hb.mono B4.out.size)
        have G5 : Hid (w5.heap[w.heap.size]? = some (.cells (cirC c s) 27 (0, 0))) := (hb.block _ (lt_of_block G4.out)).trans G4.out
        clear e0 e1 e2 e3 e4 e5 e6 e7 hb
        obtain ⟨e0, e1, e2, e3, e4, e5, e6, e7⟩ := cells8 G5.out
        go_wp2_with fail
        refine (NB.out w5 B5.out).mono ?_
        rintro e w6 ⟨rfl, hb⟩
        have B6 : Hid (Below w.heap.size w w6) := B5.out.trans (hb.mono B5.out.size)
        have G6 : Hid (w6.heap[w.heap.size]? = some (.cells (cirC c s) 27 (0, 0))) := (hb.block _ (lt_of_block G5.out)).trans G5.out
        clear e0 e1 e2 e3 e4 e5 e6 e7 hb
        obtain ⟨e0, e1, e2, e3, e4, e5, e6, e7⟩ := cells8 G6.out
        clear NA NB CA
        go_wp2_with fail
        refine (CV.out w6).mono ?_
        rintro e w7 ⟨rfl, hb⟩
        have B7 : Hid (Below w.heap.size w w7) := B6.out.trans (hb.mono B6.out.size)
        clear hb CV e0 e1 e2 e3 e4 e5 e6 e7
        go_wp2_with fail
        refine (CN.out w7).mono ?_
        rintro e w8 ⟨rfl, hb⟩
        have B8 : Hid (Below w.heap.size w w8) := B7.out.trans (hb.mono B7.out.size)
        clear hb CN
        go_wp2
        go_ret
        exact ⟨rfl, B8.out⟩
    · have hz : (y == 0) = false := beq_eq_false_iff_ne.2 hy
      have hz2 : (y != 0) = true := bne_iff_ne.2 hy
      clear KX
      go_wp2_with (go_at_call 40; refine (num_any _ _).mono ?_; rintro e w' ⟨rfl, rfl⟩)
      go_ret
      exact ⟨rfl, B3.out⟩
  · have hz : (x == 0) = false := beq_eq_false_iff_ne.2 hx
    have hz2 : (x != 0) = true := bne_iff_ne.2 hx
    clear KX
    go_wp2_with (go_at_call 40; refine (num_any _ _).mono ?_; rintro e w' ⟨rfl, rfl⟩)
    go_ret
    exact ⟨rfl, B3.out⟩
set_option maxRecDepth 100000 in
theorem more_core {H : Type} {enc : TypeId × Value → H} (W : World) (v : Value) (d : DataW H) (p : List MemPlace) {r : Reach} {b0 : Nat} (hv : Value.okWide Try.prog W r b0 27 v) (h : DataW.Trod enc Try.prog W 0 (fun _ => true) true 27 v d p)
    (a : ByteArray) (ha : a.size ≤ maxLen) (b : ByteArray) (hb : b.size ≤ maxLen) (inp : ByteArray) (hinp : inp.size ≤ maxLen) {e1 e2 e3 : DataW H} {t1 t2 t3 : TypeId} {ts : List TypeId} {ds : List (DataW H)} (hsz : (DataW.weightsEach Try.prog (27 :: t1 :: t2 :: t3 :: ts) (d :: e1 :: e2 :: e3 :: ds)).all (· ≤ reachBytes) = true) :
    Calls Try.prog 13 #[v, .string a, .string b, .string inp] W fun e W' => e = .returned (.bool true) ∧ Below W.heap.size W W' := by
  obtain ⟨c, s, rfl, hl, hf⟩ := open_circ hv h (all_weights hsz 0 rfl rfl)
  unfold maxLen at ha hb hinp
  exact more_walk c s a b inp W hl hf ha hb hinp
end Go.Proofs.Ythcigpklbhjglaa.Ter
namespace Go.Proofs.Ythcigpklbhjglaa.Ter
open Go.ChangeShapes Go.WideShapes Go.ChangeAt Go.RowKit Go.Maps Circ Cw
open Str Sim

theorem bits_one (x : Int) : bits BinOp.and IntKind.u64 x 1 = 0 ∨ bits BinOp.and IntKind.u64 x 1 = 1 := by
  have h : (BitVec.ofInt IntKind.u64.bits x &&& BitVec.ofInt IntKind.u64.bits 1).toNat = (BitVec.ofInt IntKind.u64.bits x).toNat % 2 := by
    rw [BitVec.toNat_and, show (BitVec.ofInt IntKind.u64.bits 1).toNat = 1 from by decide]
    exact Nat.and_one_is_mod _
  unfold bits
  simp only
  rw [h]
  rcases Nat.mod_two_eq_zero_or_one (BitVec.ofInt IntKind.u64.bits x).toNat with e | e <;> rw [e]
  · exact .inl (by decide)
  · exact .inr (by decide)
/-- trits with bits for x -/
def fillM (s : ByteArray) (b : Int) : List UInt8 := (List.range s.size).map fun i => if s.data.toList.getD i 0 = 120 then bitB (kbM b i) else s.data.toList.getD i 0
theorem fillM_len (s : ByteArray) (b : Int) : (fillM s b).length = s.size := by unfold fillM; simp
theorem fillM_at (s : ByteArray) (b : Int) {i : Nat} (h : i < s.size) (d : UInt8) : (fillM s b).getD i d = if s.data.toList.getD i 0 = 120 then bitB (kbM b i) else s.data.toList.getD i 0 := by
  unfold fillM
  rw [List.getD_eq_getElem?_getD, List.getElem?_map, List.getElem?_range h]; rfl
theorem fillM_bits {s : ByteArray} {n : Nat} (h : tritsM s (n : Int) = true) (b : Int) : bitsM (sb (fillM s b)) (n : Int) = true := by
  obtain ⟨h1, h2⟩ := trits_parts h
  unfold bitsM
  rw [sb_size, fillM_len, decide_eq_true (by omega), Bool.true_and, sb_list, List.all_eq_true]
  intro y hy
  unfold fillM at hy
  obtain ⟨i, hi, rfl⟩ := List.mem_map.1 hy
  have hi := List.mem_range.1 hi
  have hl : i < s.data.toList.length := by simpa using hi
  have hm : s.data.toList.getD i 0 ∈ s.data.toList := by
    rw [List.getD_eq_getElem?_getD, List.getElem?_eq_getElem hl]; exact List.getElem_mem hl
  split
  · cases kbM b i <;> rfl
  · rename_i hx
    rcases h2 _ hm with e | e | e
    · rw [e]; rfl
    · rw [e]; rfl
    · exact absurd e hx
theorem fillM_cov (s : ByteArray) (b : Int) : ∀ i, i < s.size → cov (s.data.toList.getD i 0) ((sb (fillM s b)).data.toList.getD i 0) := fun i hi => by
  rw [sb_list, fillM_at s b hi]
  split
  · rename_i h; exact .inr h
  · exact .inl rfl
set_option maxHeartbeats 16000000 in
set_option maxRecDepth 100000 in
theorem fill_any (s : ByteArray) (b : Int) (w : World) (hs : s.size ≤ 64) :
    Calls Try.prog 50 #[.string s, .int .u64 b] w fun e w' => e = .returned (.string (sb (fillM s b))) ∧ Below w.heap.size w w' := by
  go_enter Try.func50, Try.ntmps50
  go_wp2
  go_loopw [5, 6] (fun t i wr => ∃ j : Nat, j ≤ s.size ∧ i = .int .i64 j ∧ t = .string ⟨((fillM s b).take j).toArray⟩ ∧ Below w.heap.size w wr) (fun _ i _ => s.size - (intOf i).toNat)
  case atStart => exact ⟨0, Nat.zero_le _, rfl, rfl, Below.refl _ _⟩
  case round =>
    obtain ⟨j, hj, rfl, rfl, hbw⟩ := hrel
    have HB := Lib.hid hbw
    clear hbw
    by_cases hlt : j < s.size
    · have HTK : Hid (∀ z, (fillM s b).getD j 0 = z → (⟨((fillM s b).take j).toArray⟩ : ByteArray) ++ ⟨[z].toArray⟩ = ⟨((fillM s b).take (j + 1)).toArray⟩) := fun z hz => by
        have hwl : j < (fillM s b).length := by rw [fillM_len]; exact hlt
        rw [List.getD_eq_getElem?_getD, List.getElem?_eq_getElem hwl, Option.getD_some] at hz
        apply ByteArray.ext
        rw [ByteArray.data_append]
        apply Array.toList_inj.1
        rw [List.take_succ_eq_append_getElem hwl, hz]
        simp
      rw [fillM_at s b hlt, at_byte s hlt] at HTK
      have hsz : (⟨((fillM s b).take j).toArray⟩ : ByteArray).size ≤ 64 := by rw [sv_size, List.length_take]; omega
      obtain ⟨s4, hs4⟩ : ∃ z, (⟨((fillM s b).take j).toArray⟩ : ByteArray) = z := ⟨_, rfl⟩
      rw [hs4] at HTK hsz ⊢
      clear hs4
      by_cases hx : (s[j]'hlt) = 120
      · have b1 : (((s[j]'hlt).toNat : Int) == 120) = true := by rw [hx]; rfl
        rw [if_pos hx] at HTK
        clear hx
        have hkb : kbM b j = (bits BinOp.and IntKind.u64 (b / 2 ^ (j % 64)) 1 == 1) := rfl
        rcases bits_one (b / 2 ^ (j % 64)) with hq | hq
        · rw [hq] at hkb
          have HS := Lib.hid (HTK.out 48 (by rw [hkb]; rfl))
          have hcv := conv1 (wr.alloc (.cells #[.int .u8 48] 5)) wr.heap.size 48 (by rw [World.cell?_alloc_new]; rfl)
          rw [show sv [48] = .string ⟨[48].toArray⟩ from rfl] at hcv
          have hz1 : (⟨[(48 : UInt8)].toArray⟩ : ByteArray).size ≤ 64 := by rw [sv_size]; simp
          have BN : Hid (Below w.heap.size w (wr.alloc (.cells #[.int .u8 48] 5))) := HB.out.alloc HB.out.size _
          generalize (⟨[(48 : UInt8)].toArray⟩ : ByteArray) = s5 at *
          clear HTK hkb
          go_wp2
          go_roundw
          case rel => exact ⟨j + 1, by omega, by go_num, by rw [← HS.out], BN.out⟩
          case measure => simp [intOf]; omega
        · rw [hq] at hkb
          have HS := Lib.hid (HTK.out 49 (by rw [hkb]; rfl))
          have hcv := conv1 (wr.alloc (.cells #[.int .u8 49] 5)) wr.heap.size 49 (by rw [World.cell?_alloc_new]; rfl)
          rw [show sv [49] = .string ⟨[49].toArray⟩ from rfl] at hcv
          have hz1 : (⟨[(49 : UInt8)].toArray⟩ : ByteArray).size ≤ 64 := by rw [sv_size]; simp
          have BN : Hid (Below w.heap.size w (wr.alloc (.cells #[.int .u8 49] 5))) := HB.out.alloc HB.out.size _
          generalize (⟨[(49 : UInt8)].toArray⟩ : ByteArray) = s5 at *
          clear HTK hkb
          go_wp2
          go_roundw
          case rel => exact ⟨j + 1, by omega, by go_num, by rw [← HS.out], BN.out⟩
          case measure => simp [intOf]; omega
      · have b1 : (((s[j]'hlt).toNat : Int) == 120) = false := by
          rw [beq_eq_false_iff_ne]
          exact fun e => hx (UInt8.toNat_inj.1 (by have : (120 : UInt8).toNat = 120 := rfl; omega))
        rw [if_neg hx] at HTK
        clear hx
        have HS := Lib.hid (HTK.out _ rfl)
        have hcv := conv1 (wr.alloc (.cells #[.int .u8 (((s[j]'hlt).toNat : Nat) : Int)] 5)) wr.heap.size (s[j]'hlt) (by rw [World.cell?_alloc_new]; rfl)
        rw [show sv [(s[j]'hlt)] = .string ⟨[(s[j]'hlt)].toArray⟩ from rfl] at hcv
        have hz1 : (⟨[(s[j]'hlt)].toArray⟩ : ByteArray).size ≤ 64 := by rw [sv_size]; simp
        have BN : Hid (Below w.heap.size w (wr.alloc (.cells #[.int .u8 (((s[j]'hlt).toNat : Nat) : Int)] 5))) := HB.out.alloc HB.out.size _
        generalize (⟨[(s[j]'hlt)].toArray⟩ : ByteArray) = s5 at *
        clear HTK
        go_wp2
        go_roundw
        case rel => exact ⟨j + 1, by omega, by go_num, by rw [← HS.out], BN.out⟩
        case measure => simp [intOf]; omega
    · obtain rfl : j = s.size := by omega
      rw [List.take_of_length_le (by rw [fillM_len]; exact Nat.le_refl _)]
      go_wp2
      go_ret
      exact ⟨rfl, HB.out⟩
end Go.Proofs.Ythcigpklbhjglaa.Ter
namespace Go.Proofs.Ythcigpklbhjglaa.Ter
open Go.ChangeShapes Go.WideShapes Go.ChangeAt Go.RowKit Go.Maps Circ Cw
open Str Sim

/-- the first k signs of two texts joined -/
def joinK (a b : ByteArray) (k : Nat) : List UInt8 := (List.range a.size).map fun i => if i < k ∧ ¬ b.data.toList.getD i 0 = a.data.toList.getD i 0 then 120 else a.data.toList.getD i 0
theorem joinK_len (a b : ByteArray) (k : Nat) : (joinK a b k).length = a.size := by unfold joinK; simp
theorem joinK_zero (a b : ByteArray) : joinK a b 0 = a.data.toList := by
  unfold joinK
  apply List.ext_getElem (by simp)
  intro i h1 h2
  rw [List.getElem_map, List.getElem_range, if_neg (fun h => absurd h.1 (Nat.not_lt_zero _)), List.getD_eq_getElem?_getD, List.getElem?_eq_getElem h2]; rfl
theorem joinK_same (a b : ByteArray) (k : Nat) (h : b.data.toList.getD k 0 = a.data.toList.getD k 0) : joinK a b (k + 1) = joinK a b k := by
  unfold joinK
  apply List.map_congr_left
  intro i _
  by_cases e : i = k
  · subst e
    rw [if_neg (fun q => q.2 h), if_neg (fun q => q.2 h)]
  · by_cases hi : i < k
    · by_cases hx : b.data.toList.getD i 0 = a.data.toList.getD i 0
      · rw [if_neg (fun q => q.2 hx), if_neg (fun q => q.2 hx)]
      · rw [if_pos ⟨by omega, hx⟩, if_pos ⟨hi, hx⟩]
    · rw [if_neg (fun q => by have := q.1; omega), if_neg (fun q => by have := q.1; omega)]
theorem joinK_set (a b : ByteArray) (k : Nat) (h : ¬ b.data.toList.getD k 0 = a.data.toList.getD k 0) : joinK a b (k + 1) = (joinK a b k).set k 120 := by
  apply List.ext_getElem?
  intro i
  rw [List.getElem?_set]
  by_cases e : k = i
  · subst e
    rw [if_pos rfl, joinK_len]
    by_cases hk : k < a.size
    · rw [if_pos hk]
      unfold joinK
      rw [List.getElem?_map, List.getElem?_range hk, Option.map_some, if_pos ⟨Nat.lt_succ_self _, h⟩]
    · rw [if_neg hk, List.getElem?_eq_none (by rw [joinK_len]; omega)]
  · rw [if_neg e]
    unfold joinK
    rw [List.getElem?_map, List.getElem?_map]
    by_cases hi : i < a.size
    · rw [List.getElem?_range hi, Option.map_some, Option.map_some]
      congr 1
      by_cases hx : b.data.toList.getD i 0 = a.data.toList.getD i 0
      · rw [if_neg (fun q => q.2 hx), if_neg (fun q => q.2 hx)]
      · by_cases hik : i < k
        · rw [if_pos ⟨by omega, hx⟩, if_pos ⟨hik, hx⟩]
        · rw [if_neg (fun q => by have := q.1; omega), if_neg (fun q => by have := q.1; omega)]
    · rw [List.getElem?_eq_none (by simpa using hi)]; rfl
theorem join_wid (c : Cir) (v : List UInt8) (hv : v.length = c.lats.length) : joinK (sb v) (sb (nextT c (valsT c (sb v) (sb (xsL c.ins.length))))) v.length = widS c v := by
  unfold joinK widS
  rw [sb_size, hv]
  apply List.map_congr_left
  intro i hi
  have hi := List.mem_range.1 hi
  rw [sb_list, sb_list]
  have e : (nextT c (valsT c (sb v) (sb (xsL c.ins.length)))).getD i 0 = ofT (valsT c (sb v) (sb (xsL c.ins.length))) (c.lats.getD i ⟨0, 0, 0⟩).b := by
    unfold nextT
    rw [List.getD_eq_getElem?_getD, List.getElem?_map, List.getElem?_eq_getElem hi, lat_at c hi]; rfl
  rw [e]
  by_cases hx : ofT (valsT c (sb v) (sb (xsL c.ins.length))) (c.lats.getD i ⟨0, 0, 0⟩).b = v.getD i 0
  · rw [if_neg (fun q => q.2 hx), if_pos hx]
  · rw [if_pos ⟨hi, hx⟩, if_neg hx]
theorem infoU8 : (Try.prog.info? 5).map (fun i => (i.zero, i.size, i.bytes)) = some (some (.int .u8 0), 1, 1) := by kernel_rfl
theorem byte_cell {w : World} {g : Nat} {v : List UInt8} (h : w.heap[g]? = some (.cells (Lib.byteCells v).toArray 5 (0, 0))) {i : Nat} (hi : i < v.length) : w.cell? ⟨g, i, none⟩ = some (.int .u8 ((v[i].toNat : Nat) : Int)) := by
  rw [Lib.cell_of_heap h, List.getElem?_toArray]
  unfold Lib.byteCells
  rw [List.getElem?_map, List.getElem?_eq_getElem hi]; rfl
theorem byte_set {w : World} {g : Nat} {v : List UInt8} (h : w.heap[g]? = some (.cells (Lib.byteCells v).toArray 5 (0, 0))) (i : Nat) (x : UInt8) : (w.setCell ⟨g, i, none⟩ (.int .u8 ((x.toNat : Nat) : Int))).heap[g]? = some (.cells (Lib.byteCells (v.set i x)).toArray 5 (0, 0)) := by
  have e : Lib.byteCells (v.set i x) = (Lib.byteCells v).set i (.int .u8 ((x.toNat : Nat) : Int)) := by
    unfold Lib.byteCells
    rw [List.map_set]
  rw [e]
  simp [World.setCell, Array.getElem?_modify, h]
theorem byte_row {w : World} {g : Nat} {v : List UInt8} (h : w.heap[g]? = some (.cells (Lib.byteCells v).toArray 5 (0, 0))) : LRow w w.heap.size 1 (some ⟨g, 0, none⟩) (bts v) := by
  refine .inr ⟨g, 0, rfl, lt_of_block h, fun i ys hi j u hj => ?_⟩
  have hl : i < v.length := by
    have := (List.getElem?_eq_some_iff.1 hi).1
    rwa [bts_len] at this
  have e : ys = [.int .u8 ((v[i].toNat : Nat) : Int)] := by
    unfold bts at hi
    rw [List.getElem?_map, List.getElem?_eq_getElem hl] at hi
    exact (Option.some.inj hi).symm
  subst e
  match j, hj with
  | 0, hj =>
    obtain rfl : Value.int .u8 ((v[i].toNat : Nat) : Int) = u := by simpa using hj
    have := byte_cell h hl
    rwa [show 0 + (i * 1 + 0) = i from by omega]
  | j + 1, hj => simp at hj
set_option maxHeartbeats 16000000 in
set_option maxRecDepth 100000 in
theorem joined_any (a b : ByteArray) (w : World) (hl : a.size = b.size) (hn : a.size ≤ 64) :
    Calls Try.prog 93 #[.string a, .string b] w fun e w' => e = .returned (sv (joinK a b a.size)) ∧ Below w.heap.size w w' := by
  have HL := Lib.hid hl
  obtain ⟨n, hnn⟩ : ∃ n, a.size = n := ⟨_, rfl⟩
  have hmk : ∀ w, (Instr.makeSlice 59 (.int .i64 (n : Int)) (.int .i64 (n : Int))).run Try.prog w = .ok (.slice (some ⟨w.heap.size, 0, none⟩) n n) (w.alloc (.cells (madeCells #[.int .u8 0] n) 5)) := fun w => run_make_row' (P := Try.prog) 59 5 (.int .u8 0) 1 Try.underlying59 infoU8 rfl .i64 .i64 n (by omega) (by omega) w
  obtain ⟨WM, hWM⟩ : ∃ x, w.alloc (.cells (madeCells #[.int .u8 0] n) 5) = x := ⟨_, rfl⟩
  have bM : Below w.heap.size w WM := by rw [← hWM]; exact (Below.refl _ _).alloc (Nat.le_refl _) _
  have gM : WM.heap[w.heap.size]? = some (.cells (madeCells #[.int .u8 0] n) 5 (0, 0)) := by rw [← hWM]; exact Array.getElem?_push_size
  have hcz : (madeCells #[.int .u8 0] n).size = n := by rw [size_madeCells]
  have hcp := Lib.run_copy_row_string (P := Try.prog) WM 59 9 3 5 w.heap.size 0 n n a (madeCells #[.int .u8 0] n) 5 Try.underlying59 info8 gM (by omega) (by omega)
  obtain ⟨W2, hW2⟩ : ∃ y, WM.setRow w.heap.size ((madeCells #[.int .u8 0] n).toList.take 0 ++ Lib.byteCells a.data.toList ++ (madeCells #[.int .u8 0] n).toList.drop (0 + a.size)).toArray = y := ⟨_, rfl⟩
  have H2 : Hid (W2.heap[w.heap.size]? = some (.cells (Lib.byteCells (joinK a b 0)).toArray 5 (0, 0))) := by
    unfold Hid
    rw [← hW2, setRow_heap WM w.heap.size _ _ 5 (0, 0) gM, joinK_zero]
    congr 3
    rw [List.take_zero, List.nil_append, List.drop_of_length_le (by rw [Array.length_toList, hcz]; omega), List.append_nil]
  have B2 : Hid (Below w.heap.size w W2) := by unfold Hid; rw [← hW2]; exact below_setRow bM (Nat.le_refl _) _
  rw [hW2, hnn] at hcp
  have HNN := Lib.hid hnn
  have hcp2 : (Builtin.copy_ #[59, 9] 3 #[.slice (some ⟨w.heap.size, 0, none⟩) n n, .string a]).run Try.prog WM = .ok (.int .i64 (n : Int)) W2 := hcp
  clear bM gM hcz hcp hW2 hl
  go_enter Try.func93, Try.ntmps93
  go_wp2
  clear hmk hWM hcp2 hnn
  go_loopw [15] (fun i wr => ∃ k : Nat, k ≤ n ∧ i = .int .i64 k ∧ wr.heap[w.heap.size]? = some (.cells (Lib.byteCells (joinK a b k)).toArray 5 (0, 0)) ∧ Below w.heap.size w wr) (fun i _ => n - (intOf i).toNat)
  case atStart => exact ⟨0, Nat.zero_le _, rfl, H2.out, B2.out⟩
  case round =>
    clear H2 B2
    obtain ⟨k, hk, rfl, hh, hbw⟩ := hrel
    have HH := Lib.hid hh
    have HB := Lib.hid hbw
    clear hh hbw
    by_cases hlt : k < n
    · have hla : k < a.size := by have := HNN.out; omega
      have hlb : k < b.size := by have := HNN.out; have := HL.out; omega
      have hz0 : (0 : Int) ≤ (k : Int) := by omega
      have hz : (k : Int) < (a.size : Int) := by omega
      have hz2 : (k : Int) < (b.size : Int) := by omega
      have JS := Lib.hid (joinK_same a b k)
      have JD := Lib.hid (joinK_set a b k)
      rw [at_byte a hla, at_byte b hlb] at JS JD
      by_cases h1 : (b[k]'hlb) = (a[k]'hla)
      · have b1 : (((a[k]'hla).toNat : Int) != ((b[k]'hlb).toNat : Int)) = false := by rw [h1]; simp
        have HX := Lib.hid (JS.out h1)
        clear JS JD h1
        go_wp2
        refine wp_region_wd (by kernel_rfl) (by kernel_rfl) ?_
        repeat (first | go_big_quiet_skip | (go_big_quiet_want; go_big_quiet_op; go_big_quiet_on))
        refine wpQuiet_nil ?_
        intro wz9 hw'
        obtain ⟨⟨_, hb9⟩, hw''⟩ := hw'
        subst hw''
        have HN : Hid (wz9.heap[w.heap.size]? = some (.cells (Lib.byteCells (joinK a b (k + 1))).toArray 5 (0, 0))) := by unfold Hid; rw [HX.out, hb9.block _ (lt_of_block HH.out)]; exact HH.out
        have BN : Hid (Below w.heap.size w wz9) := HB.out.trans (hb9.mono HB.out.size)
        clear hb9
        go_wp2
        go_roundw
        case rel => exact ⟨k + 1, by omega, by go_num, HN.out, BN.out⟩
        case measure => simp [intOf]; omega
      · have b1 : (((a[k]'hla).toNat : Int) != ((b[k]'hlb).toNat : Int)) = true := by
          rw [bne_iff_ne]
          exact fun e => h1 (UInt8.toNat_inj.1 (by omega))
        have HX := Lib.hid (JD.out h1)
        clear JS JD h1
        go_wp2
        refine wp_region_wd (by kernel_rfl) (by kernel_rfl) ?_
        repeat (first | go_big_quiet_skip | (go_big_quiet_want; go_big_quiet_op; go_big_quiet_on))
        refine wpQuiet_nil ?_
        intro wz9 hw'
        obtain ⟨⟨_, hb9⟩, hw''⟩ := hw'
        subst hw''
        have HK : wz9.heap[w.heap.size]? = some (.cells (Lib.byteCells (joinK a b k)).toArray 5 (0, 0)) := by rw [hb9.block _ (lt_of_block HH.out)]; exact HH.out
        have BK : Below w.heap.size w wz9 := HB.out.trans (hb9.mono HB.out.size)
        have cK := byte_cell HK (i := k) (by rw [joinK_len]; exact hla)
        have fK : wz9.frozen? ⟨w.heap.size, k, none⟩ = false := Lib.frozen_of_heap HK k
        have hst := byte_set HK k 120
        rw [← HX.out] at hst
        obtain ⟨W9, hW9⟩ : ∃ x, wz9.setCell ⟨w.heap.size, k, none⟩ (.int .u8 120) = x := ⟨_, rfl⟩
        have HN : Hid (W9.heap[w.heap.size]? = some (.cells (Lib.byteCells (joinK a b (k + 1))).toArray 5 (0, 0))) := by unfold Hid; rw [← hW9]; exact hst
        have BN : Hid (Below w.heap.size w W9) := by unfold Hid; rw [← hW9]; exact BK.setCell (p := ⟨w.heap.size, k, none⟩) (Nat.le_refl _) _
        clear hb9 HK BK hst
        go_wp2
        clear hW9
        go_roundw
        case rel => exact ⟨k + 1, by omega, by go_num, HN.out, BN.out⟩
        case measure => simp [intOf]; omega
    · obtain rfl : k = n := by omega
      have FB := Lib.hid (text_any (joinK a b k) (some ⟨w.heap.size, 0, none⟩) k wr (byte_row HH.out) (by rw [joinK_len]; omega))
      rw [joinK_len, HNN.out] at FB
      have HNK := Lib.hid HNN.out
      clear HH
      go_wp2_with fail
      refine FB.out.mono ?_
      rintro e w9 ⟨rfl, hb⟩
      have BF : Hid (Below w.heap.size w w9) := HB.out.trans (hb.mono HB.out.size)
      clear hb FB
      go_wp2
      go_ret
      exact ⟨by rw [HNK.out]; rfl, BF.out⟩
end Go.Proofs.Ythcigpklbhjglaa.Ter
namespace Go.Proofs.Ythcigpklbhjglaa.Ter
open Go.ChangeShapes Go.WideShapes Go.ChangeAt Go.RowKit Go.Maps Circ Cw
open Str Sim

theorem lat_reset {c : Cir} (hr : refOk c = true) {t : Tri} (ht : t ∈ c.lats) : (t.c = 0 ∨ t.c = 1 ∨ t.c = t.a) ∧ 2 ≤ t.a := by
  obtain ⟨-, h, -⟩ := ref_parts hr
  have h1 := List.all_eq_true.1 h t ht
  unfold latR at h1
  simp only [Bool.and_eq_true, Bool.or_eq_true, decide_eq_true_eq] at h1
  have h2 := (Str.own_facts hr).2 t.a (List.mem_append.2 (.inr (List.mem_append.2 (.inl (List.mem_map_of_mem ht)))))
  exact ⟨by omega, by omega⟩
theorem fst_at (c : Cir) {i : Nat} (h : i < c.lats.length) : (fst0 c)[i]'(by rw [fst0_len]; exact h) = if c.lats[i].c = c.lats[i].a then 120 else if c.lats[i].c = 1 then 49 else 48 := by
  unfold fst0
  rw [List.getElem_map]
theorem wpList_push8x {ops : Array Oper} {rest : List Oper} {o : Oper} {a : Act} {Q : Exit → Act → World → Prop} (w : World) (hgd : o.guard = none) (s x : Operand)
    (ho : o.op = .call { callee := .builtin .append, args := #[s, x], argTypes := #[59, 59] })
    (base : Nat) (v : Value) (l : List UInt8) (y : UInt8) (z : Int) (hz : ((y.toNat : Nat) : Int) = z) (hs : a.eval s = v) (hx : a.eval x = .slice (some ⟨w.heap.size, 0, none⟩) 1 1) (hown : OwnC w base 5 1 v (bts l)) (hl : l.length ≤ 1048576) (hbase : base ≤ w.heap.size)
    (h : ∀ v' w', OwnC w' base 5 1 v' (bts (l ++ [y])) → Below base w w' → wpList Try.prog ops Q rest (a.put o.dst v') w') : wpList Try.prog ops Q (o :: rest) a (w.alloc (.cells #[.int .u8 z] 5)) := by
  subst hz
  exact wpList_push8 w hgd s x ho base v l y hs hx hown hl hbase h
set_option maxHeartbeats 16000000 in
set_option maxRecDepth 100000 in
theorem pfirst_any (c : Cir) (s : Places) (w : World) (h : CLies w w.heap.size c s) (hr : refOk c = true) :
    Calls Try.prog 91 #[cirV c s] w fun e w' => e = .returned (sv (fst0 c)) ∧ Below w.heap.size w w' := by
  obtain ⟨WA, hWA⟩ : ∃ x, w.alloc (.cells #[.int .i64 c.max, .slice s.ai c.ins.length s.ki, .slice s.al c.lats.length s.kl, .slice s.ao c.outs.length s.ko, .slice s.ab c.bads.length s.kb, .slice s.ac c.invs.length s.kc, .slice s.aa c.ands.length s.ka, .slice s.an c.names.length s.kn] 27) = x := ⟨_, rfl⟩
  have bA : Hid (Below w.heap.size w WA) := by unfold Hid; rw [← hWA]; exact (Below.refl _ _).alloc (Nat.le_refl _) _
  have GA : Hid (WA.heap[w.heap.size]? = some (.cells (cirC c s) 27 (0, 0))) := by unfold Hid; rw [← hWA]; exact Array.getElem?_push_size
  obtain ⟨e0, e1, e2, e3, e4, e5, e6, e7⟩ := cells8 GA.out
  have LW : Hid (∀ x, Below w.heap.size w x → CLies x x.heap.size c s) := fun x hx => (h.below hx).more hx.size
  have HR := Lib.hid hr
  have HZ := Lib.hid (ref_sizes hr)
  clear h hr
  unfold cirV
  rw [show cirC c s = #[.int .i64 c.max, .slice s.ai c.ins.length s.ki, .slice s.al c.lats.length s.kl, .slice s.ao c.outs.length s.ko, .slice s.ab c.bads.length s.kb, .slice s.ac c.invs.length s.kc, .slice s.aa c.ands.length s.ka, .slice s.an c.names.length s.kn] from rfl]
  go_enter Try.func91, Try.ntmps91
  go_wp2
  have OW0 : Hid (OwnC WA w.heap.size 5 1 (.slice none 0 0) (bts ((fst0 c).take 0))) := OwnC.nil _ _ _ _
  clear e0 e1 e2 e3 e4 e5 e6 e7 hWA
  go_loopw [3, 9] (fun x i wr => ∃ (j : Nat) (z : Value), j ≤ c.lats.length ∧ i = .int .i64 j ∧ x = z ∧ OwnC wr WA.heap.size 5 1 z (bts ((fst0 c).take j)) ∧ Below WA.heap.size WA wr) (fun _ i _ => c.lats.length - (intOf i).toNat)
  case atStart => exact ⟨0, _, Nat.zero_le _, rfl, rfl, OwnC.nil _ _ _ _, Below.refl _ _⟩
  case round =>
    clear OW0
    obtain ⟨j, x, hj, rfl, hxz, ho, hbw⟩ := hrel
    have hxz := hxz.symm
    subst hxz
    have zl : c.lats.length ≤ 64 := HZ.out.2.1
    have HB := Lib.hid hbw
    have HO := Lib.hid ho
    clear ho hbw
    by_cases hlt : j < c.lats.length
    · obtain ⟨b0, o, hA, -, c0, c1, c2⟩ := LRow.tri (LW.out wr (bA.out.trans (HB.out.mono bA.out.size))).lats hlt
      have HTK : Hid (∀ y, (if c.lats[j].c = c.lats[j].a then 120 else if c.lats[j].c = 1 then 49 else 48) = y → (fst0 c).take (j + 1) = (fst0 c).take j ++ [y]) := fun y hy => by
        rw [List.take_succ_eq_append_getElem (by rw [fst0_len]; exact hlt), fst_at c hlt, hy]
      have hlr := lat_reset HR.out (List.getElem_mem hlt)
      have HTL : Hid (((fst0 c).take j).length ≤ 1048576) := by unfold Hid; rw [List.length_take]; omega
      obtain ⟨l0, hl0⟩ : ∃ l, (fst0 c).take j = l := ⟨_, rfl⟩
      rw [hl0] at HO HTK HTL
      rw [hA]
      clear hA hl0
      generalize c.lats[j] = t at *
      obtain ⟨wt, hwt⟩ : ∃ x, wr.alloc (.cells #[.int .i64 t.a, .int .i64 t.b, .int .i64 t.c] 39) = x := ⟨_, rfl⟩
      have bt : Below wr.heap.size wr wt := by rw [← hwt]; exact (Below.refl _ _).alloc (Nat.le_refl _) _
      have hkt : wt.heap[wr.heap.size]? = some (.cells #[.int .i64 t.a, .int .i64 t.b, .int .i64 t.c] 39 (0, 0)) := by rw [← hwt]; exact Array.getElem?_push_size
      obtain ⟨k0, k1, k2⟩ := two_cells hkt
      have OT : Hid (OwnC wt WA.heap.size 5 1 x (bts l0)) := HO.out.keep bt
      have BT : Hid (Below WA.heap.size WA wt) := HB.out.trans (bt.mono HB.out.size)
      clear bt hkt
      by_cases h0 : t.c = 0
      · have q0 : (t.c == 0) = true := by rw [beq_iff_eq]; exact h0
        have HS := Lib.hid (HTK.out 48 (by rw [if_neg (by omega), if_neg (by omega)]))
        clear HTK hlr h0
        go_wp2_with (at_builtin; refine wpList_push8x wt rfl _ _ rfl WA.heap.size x l0 48 48 (by decide) rfl rfl OT.out HTL.out BT.out.size ?_)
        intro v2 w4 hown hbel
        have O4 : Hid (OwnC w4 WA.heap.size 5 1 v2 (bts (l0 ++ [48]))) := hown
        have B4 : Hid (Below WA.heap.size WA w4) := BT.out.trans hbel
        clear hown hbel k0 k1 k2 c0 c1 c2 hwt
        go_wp2
        go_roundw
        case rel => exact ⟨j + 1, _, by omega, by go_num, rfl, by rw [HS.out]; exact O4.out, B4.out⟩
        case measure => simp [intOf]; omega
      · have q0 : (t.c == 0) = false := beq_eq_false_iff_ne.2 h0
        by_cases h1 : t.c = 1
        · have q1 : (t.c == 1) = true := by rw [beq_iff_eq]; exact h1
          have HS := Lib.hid (HTK.out 49 (by rw [if_neg (by omega), if_pos h1]))
          clear HTK hlr h0 h1
          go_wp2_with (at_builtin; refine wpList_push8x wt rfl _ _ rfl WA.heap.size x l0 49 49 (by decide) rfl rfl OT.out HTL.out BT.out.size ?_)
          intro v2 w4 hown hbel
          have O4 : Hid (OwnC w4 WA.heap.size 5 1 v2 (bts (l0 ++ [49]))) := hown
          have B4 : Hid (Below WA.heap.size WA w4) := BT.out.trans hbel
          clear hown hbel k0 k1 k2 c0 c1 c2 hwt
          go_wp2
          go_roundw
          case rel => exact ⟨j + 1, _, by omega, by go_num, rfl, by rw [HS.out]; exact O4.out, B4.out⟩
          case measure => simp [intOf]; omega
        · have q1 : (t.c == 1) = false := beq_eq_false_iff_ne.2 h1
          have HS := Lib.hid (HTK.out 120 (by rw [if_pos (by omega)]))
          clear HTK hlr h0 h1
          go_wp2_with (at_builtin; refine wpList_push8x wt rfl _ _ rfl WA.heap.size x l0 120 120 (by decide) rfl rfl OT.out HTL.out BT.out.size ?_)
          intro v2 w4 hown hbel
          have O4 : Hid (OwnC w4 WA.heap.size 5 1 v2 (bts (l0 ++ [120]))) := hown
          have B4 : Hid (Below WA.heap.size WA w4) := BT.out.trans hbel
          clear hown hbel k0 k1 k2 c0 c1 c2 hwt
          go_wp2
          go_roundw
          case rel => exact ⟨j + 1, _, by omega, by go_num, rfl, by rw [HS.out]; exact O4.out, B4.out⟩
          case measure => simp [intOf]; omega
    · obtain rfl : j = c.lats.length := by omega
      rw [show (fst0 c).take c.lats.length = fst0 c from List.take_of_length_le (by rw [fst0_len]; exact Nat.le_refl _)] at HO
      obtain ⟨A', q', hv, hrow, -, -⟩ := HO.out.row (by decide) (fun y hy => bts_one hy)
      rw [bts_len] at hv
      subst hv
      have FB := Lib.hid (text_any (fst0 c) A' q' wr hrow (by rw [fst0_len]; omega))
      clear hrow HO
      go_wp2_with fail
      refine FB.out.mono ?_
      rintro e w9 ⟨rfl, hb⟩
      have BF : Hid (Below w.heap.size w w9) := bA.out.trans ((HB.out.trans (hb.mono HB.out.size)).mono bA.out.size)
      clear hb FB
      go_wp2
      go_ret
      exact ⟨rfl, BF.out⟩
end Go.Proofs.Ythcigpklbhjglaa.Ter
namespace Go.Proofs.Ythcigpklbhjglaa.Ter
open Go.ChangeShapes Go.WideShapes Go.ChangeAt Go.RowKit Go.Maps Circ Cw
open Str Sim

theorem check_f (B b : Nat) (bs : List Value) (w : World) (h : Lib.IsBuilderF 134 5 B b bs w) :
    Calls Try.prog 144 #[.pointer (some ⟨b, 0, none⟩)] w fun e w' => e = .returned (.tuple #[]) ∧ (Lib.BuilderAtF 134 5 B b (.pointer (some ⟨b, 0, none⟩)) bs w' ∧ Below B w w') := by
  rcases h with h | h
  · refine (Bld.check_fresh b w h.cell0 h.shape h.frozen0).mono ?_
    rintro e w' ⟨rfl, rfl⟩
    exact ⟨rfl, h.used _, (Below.refl B w).setCell (p := ⟨b, 0, none⟩) h.1 _⟩
  · refine (Bld.check_used b w h.cell0).mono ?_
    rintro e w' ⟨rfl, rfl⟩
    exact ⟨rfl, h, Below.refl B _⟩
set_option maxHeartbeats 2000000 in
set_option maxRecDepth 100000 in
theorem write_string_f (B b : Nat) (bs : List Value) (s : ByteArray) (w : World) (h : Lib.IsBuilderF 134 5 B b bs w) (hlen : bs.length + s.size ≤ 140737488355328) (hBw : B ≤ w.heap.size) :
    Calls Try.prog 126 #[.pointer (some ⟨b, 0, none⟩), .string s] w fun e w' => e = .returned (.tuple #[.int .i64 s.size, .nilIface]) ∧ (Lib.BuilderAtF 134 5 B b (.pointer (some ⟨b, 0, none⟩)) (bs ++ Lib.strCells s) w' ∧ Below B w w') := by
  obtain ⟨i0, hi, hz0, hz1, hz2⟩ := info_parts Bld.infoByte
  go_enter Try.func126, Try.ntmps126
  go_wp2_with (go_at_call 144; refine (check_f B b bs _ h).mono ?_)
  rintro e w1 ⟨rfl, h1, hb1⟩
  obtain ⟨hB, v, hbk, hown, hne⟩ := h1
  have c0 : w1.cell? ⟨b, 0, none⟩ = some (.pointer (some ⟨b, 0, none⟩)) := by rw [Lib.cell_of_heap hbk]; rfl
  have c1 : w1.cell? ⟨b, 1, none⟩ = some v := by rw [Lib.cell_of_heap hbk]; rfl
  go_wp2_with (at_builtin; refine Lib.wpList_append_own_stringF _ rfl _ _ 59 9 rfl B 5 i0 Try.underlying59 Try.underlying9 hi hz0 hz1 hz2 _ _ _ rfl hown s rfl ?c3 ?c4 ?c5 ?_)
  case c3 => unfold maxLen; omega
  case c4 => omega
  case c5 => have := hb1.size; omega
  intro v' w2 hown' hgrow _
  have hlt : b < w1.heap.size := lt_of_block hbk
  have hb2 : w2.heap[b]? = some (.cells #[.pointer (some ⟨b, 0, none⟩), v] 134 (0, 0)) := by
    rw [hgrow.block b hlt (fun e => hne e.symm)]
    exact hbk
  have d0 : w2.cell? ⟨b, 0, none⟩ = some (.pointer (some ⟨b, 0, none⟩)) := by rw [Lib.cell_of_heap hb2]; rfl
  have d1 : w2.cell? ⟨b, 1, none⟩ = some v := by rw [Lib.cell_of_heap hb2]; rfl
  have f1 : w2.frozen? ⟨b, 1, none⟩ = false := Lib.frozen_of_heap hb2 1
  obtain ⟨ao, n', cap, rfl⟩ : ∃ ao n' cap, v' = .slice ao n' cap := by
    rcases hown'.2 with ⟨hv, _⟩ | ⟨g, cap, cur, fz, hv, _⟩
    · exact ⟨_, _, _, hv⟩
    · exact ⟨_, _, _, hv⟩
  go_wp2
  go_ret2
  refine ⟨rfl, ?_, ?_⟩
  · exact Lib.BuilderAtF.put (T := 134) (e := 5) hB hb2 (bs' := bs ++ Lib.strCells s) (by simpa [Lib.strCells_length] using hown') (by decide)
  · exact (hb1.grown hgrow (by have := hb1.size; omega) (fun k hk => (hown.lt k hk).1)).setCell (p := ⟨b, 1, none⟩) hB _
theorem xs_app (q k : Nat) : Lib.byteCells (xsL q) ++ Lib.byteCells (xsL k) = Lib.byteCells (xsL (q + k)) := by
  unfold Lib.byteCells xsL
  rw [← List.map_append, List.replicate_append_replicate]
theorem xs_one : Lib.strCells (⟨#[120]⟩ : ByteArray) = Lib.byteCells (xsL 1) := by rw [Lib.strCells_eq]; rfl
theorem min3 {w : World} (ts : Array TypeId) (t : TypeId) (x y z : Int) :
    (Builtin.min_ ts t #[.int .i64 x, .int .i64 y, .int .i64 z]).run Try.prog w = .ok (.int .i64 (if z < (if y < x then y else x) then z else (if y < x then y else x))) w := by
  simp [Builtin.min_, Builtin.min2]
theorem xs_ext (q k : Nat) (h : k ≤ q) : Lib.strCells ((⟨(xsL q).toArray⟩ : ByteArray).extract 0 k) = Lib.byteCells (xsL k) := by
  rw [Lib.strCells_eq]
  congr 1
  unfold xsL
  rw [ByteArray.data_extract]
  simp
  omega
set_option maxHeartbeats 16000000 in
set_option maxRecDepth 1000000 in
theorem repx_main (n : Nat) (w : World) (h2 : 2 ≤ n) (hn : n ≤ 64) :
    Calls Try.prog 92 #[.string ⟨#[120]⟩, .int .i64 (n : Int)] w fun e w' => e = .returned (.string ⟨(xsL n).toArray⟩) ∧ Below w.heap.size w w' := by
  have M := Lib.hid (TryB.bits_Mul 1 n (by decide) (by omega) w)
  rw [Nat.one_mul, Nat.div_eq_of_lt (by omega), Nat.mod_eq_of_lt (by omega)] at M
  have hn2 : (2 : Int) ≤ (n : Int) := by omega
  have hn3 : (n : Int) ≤ 64 := by omega
  obtain ⟨WB, hWB⟩ : ∃ x, w.alloc (.cells #[.pointer none, .slice none 0 0] 134) = x := ⟨_, rfl⟩
  have b0 : Below w.heap.size w WB := by rw [← hWB]; exact (Below.refl _ _).alloc (Nat.le_refl _) _
  have hbk : WB.heap[w.heap.size]? = some (.cells #[.pointer none, .slice none 0 0] 134 (0, 0)) := by rw [← hWB]; exact Array.getElem?_push_size
  have GR := Lib.hid (TryB.Builder_Grow_fresh w.heap.size w.heap.size n WB (Nat.le_refl _) hbk b0.size (by omega))
  have HB0 := Lib.hid b0
  clear b0 hbk
  go_enter Try.func92, Try.ntmps92
  go_wp2_with fail
  refine M.out.mono ?_
  rintro e w' ⟨rfl, rfl⟩
  clear M
  go_wp2_with fail
  refine GR.out.mono ?_
  rintro e w1 ⟨rfl, h1, hb1⟩
  have HB1 : Hid (Below w'.heap.size w' w1) := HB0.out.trans hb1
  have WR := Lib.hid (write_string_f w'.heap.size w'.heap.size [] ⟨#[120]⟩ w1 (Lib.IsBuilderF.of (.inr h1)) (by decide) HB1.out.size)
  clear GR h1 hb1 hWB HB0
  go_wp2_with fail
  refine WR.out.mono ?_
  rintro e w2 ⟨rfl, h3, hb2⟩
  have H2 : Hid (Lib.IsBuilderF 134 5 w'.heap.size w'.heap.size (Lib.byteCells (xsL 1)) w2) := by
    unfold Hid; rw [List.nil_append, xs_one] at h3; exact .inr h3
  have HB2 : Hid (Below w'.heap.size w' w2) := HB1.out.trans hb2
  clear WR h3 hb2 HB1
  go_wp2
  go_loopg [] (n - 1) (fun g wx => ∃ q : Nat, 1 ≤ q ∧ q + g = n ∧ Lib.IsBuilderF 134 5 w'.heap.size w'.heap.size (Lib.byteCells (xsL q)) wx ∧ Below w'.heap.size w' wx)
  case atStart => exact ⟨1, Nat.le_refl _, by omega, H2.out, HB2.out⟩
  case round =>
    clear H2 HB2
    obtain ⟨q, hq1, hqg, hB, hbx⟩ := hrel
    have HX := Lib.hid hbx
    have LN := Lib.hid (TryB.Builder_Len_f w'.heap.size w'.heap.size _ wr hB)
    rw [byteCells_len, show (xsL q).length = q from List.length_replicate] at LN
    have ST := Lib.hid (TryB.Builder_String_any_f w'.heap.size w'.heap.size (xsL q) wr hB hbx.size)
    clear hB hbx
    cases gk with
    | zero =>
      obtain rfl : q = n := by omega
      clear hqg
      go_wp2_with fail
      refine LN.out.mono ?_
      rintro e w3 ⟨rfl, rfl⟩
      go_wp2_with fail
      refine ST.out.mono ?_
      rintro e w4 ⟨rfl, h4, hb4⟩
      have BF : Hid (Below w'.heap.size w' w4) := HX.out.trans hb4
      clear h4 hb4 ST LN
      go_wp2
      go_ret
      exact ⟨rfl, BF.out⟩
    | succ g =>
      have hlt : (q : Int) < (n : Int) := by omega
      obtain ⟨k, hk⟩ : ∃ k, min (n - q) q = k := ⟨_, rfl⟩
      have hmin : ∀ (ts : Array TypeId) (t : TypeId) (W : World), (Builtin.min_ ts t #[.int .i64 ((n : Int) - (q : Int)), .int .i64 (q : Int), .int .i64 (n : Int)]).run Try.prog W = .ok (.int .i64 (k : Int)) W := fun ts t W => by
        rw [min3]
        congr 2
        split <;> split <;> omega
      have hk1 : 1 ≤ k ∧ k ≤ q ∧ q + k ≤ n := by omega
      have hsx : (⟨(xsL q).toArray⟩ : ByteArray).size = q := by rw [sv_size]; exact List.length_replicate
      have HEX := Lib.hid (xs_ext q k hk1.2.1)
      obtain ⟨sq, hsq⟩ : ∃ z, (⟨(xsL q).toArray⟩ : ByteArray) = z := ⟨_, rfl⟩
      rw [hsq] at ST hsx HEX
      clear hsq hk
      have hkz : (sq.extract 0 k).size ≤ 64 := by rw [ByteArray.size_extract]; omega
      go_wp2_with fail
      refine LN.out.mono ?_
      rintro e w3 ⟨rfl, rfl⟩
      go_wp2_with fail
      refine LN.out.mono ?_
      rintro e w3 ⟨rfl, rfl⟩
      go_wp2_with fail
      refine LN.out.mono ?_
      rintro e w3 ⟨rfl, rfl⟩
      go_wp2_with fail
      refine ST.out.mono ?_
      rintro e w4 ⟨rfl, h4, hb4⟩
      have B4 : Hid (Below w'.heap.size w' w4) := HX.out.trans hb4
      have WR := Lib.hid (write_string_f w'.heap.size w'.heap.size _ (sq.extract 0 k) w4 h4 (by rw [byteCells_len, show (xsL q).length = q from List.length_replicate]; omega) B4.out.size)
      clear h4 hb4 ST LN
      go_wp2_with fail
      refine WR.out.mono ?_
      rintro e w5 ⟨rfl, h5, hb5⟩
      have H5 : Hid (Lib.IsBuilderF 134 5 w'.heap.size w'.heap.size (Lib.byteCells (xsL (q + k))) w5) := by
        unfold Hid; rw [HEX.out, xs_app] at h5; exact .inr h5
      have B5 : Hid (Below w'.heap.size w' w5) := B4.out.trans hb5
      clear h5 hb5 WR hmin
      go_wp2
      go_roundg (n - (q + k))
      case measure => omega
      case rel => exact ⟨q + k, by omega, by omega, H5.out, B5.out⟩
set_option maxRecDepth 100000 in
theorem repx_any (n : Nat) (w : World) (hn : n ≤ 64) :
    Calls Try.prog 92 #[.string ⟨#[120]⟩, .int .i64 (n : Int)] w fun e w' => e = .returned (.string ⟨(xsL n).toArray⟩) ∧ Below w.heap.size w w' := by
  by_cases h0 : n = 0
  · subst h0
    go_enter Try.func92, Try.ntmps92
    go_wp2
    go_ret
    exact ⟨rfl, Below.refl _ _⟩
  · by_cases h1 : n = 1
    · subst h1
      go_enter Try.func92, Try.ntmps92
      go_wp2
      go_ret
      exact ⟨rfl, Below.refl _ _⟩
    · exact repx_main n w (by omega) hn
end Go.Proofs.Ythcigpklbhjglaa.Ter
