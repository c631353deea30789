/- The program's States, and all that the laws ask of the program; condition: the circuit may be, the bits are as many as they should, and what is handed in lies in memory. ReplayMore, from what it asks of the program's own functions. -/
import Derived.Test.YtfglgapocmnfpaaPt40
import Derived.Test.YtfglgapocmnfpaaPt41
import Derived.Test.YtfglgapocmnfpaaPt44
import Derived.Test.YtfglgapocmnfpaaPt16
import Derived.Test.YtfglgapocmnfpaaPt37
namespace Go.Proofs.Ytfglgapocmnfpaa.Rep
open Go.ChangeShapes Go.WideShapes Go.ChangeAt Go.RowKit Go.Maps Circ Cw
open Str Sim

theorem strs_len (l : List ByteArray) : (strs l).length = l.length := by unfold strs; simp
theorem strs_snoc (l : List ByteArray) (x : ByteArray) : strs (l ++ [x]) = strs l ++ [[.string x]] := by unfold strs; simp
theorem info_str : (Try.prog.info? 9).map (fun i => (i.zero, i.size, i.bytes)) = some (some (.string ⟨#[]⟩), 1, 16) := by kernel_rfl
theorem own_str (w : World) (base : Nat) (u : Value) (hb : base ≤ w.heap.size) : OwnC (w.alloc (.cells #[u] 9)) base 9 1 (.slice (some ⟨w.heap.size, 0, none⟩) 1 1) [[u]] :=
  World.ownsRow_lit w #[u] 1 hb (by decide) rfl
theorem statesL_take (c : Cir) (st : ByteArray) (l : List ByteArray) (k : Nat) (h : k < l.length) : statesL c st (l.take (k + 1)) = statesL c st (l.take k) ++ [nxt1 c (stM c st (l.take k)) l[k]] := by
  rw [take_snoc l k h, statesL_snoc, stM_snoc]
set_option maxHeartbeats 16000000 in
set_option maxRecDepth 100000 in
theorem pstates_any (c : Cir) (s : Places) (st : ByteArray) (ins : List ByteArray) (AI : Option Addr) (qi : Nat) (w : World) (h : CLies w w.heap.size c s) (hf : CFits c s) (hr : refOk c = true) (hs : bitsM st (c.lats.length : Int) = true) (hi : ∀ i ∈ ins, bitsM i (c.ins.length : Int) = true) (hl : SLies w w.heap.size AI ins) (hn : ins.length * 16 ≤ 140737488355328) :
    Calls Try.prog 40 #[cirV c s, .string st, .slice AI ins.length qi] w fun e w' => (∃ A' q', e = .returned (.tuple #[.slice A' (ins.length + 1) q', .int .i64 0]) ∧ SLies w' w'.heap.size A' (statesL c st ins)) ∧ Below w.heap.size w w' := by
  obtain ⟨WA, hWA⟩ : ∃ y, w.alloc (.cells #[.int .i64 c.max, .slice s.ai c.ins.length s.ki, .slice s.al c.lats.length s.kl, .slice s.ao c.outs.length s.ko, .slice s.ab c.bads.length s.kb, .slice s.ac c.invs.length s.kc, .slice s.aa c.ands.length s.ka, .slice s.an c.names.length s.kn] 27) = y := ⟨_, rfl⟩
  have bA : Hid (Below w.heap.size w WA) := by unfold Hid; rw [← hWA]; exact (Below.refl _ _).alloc (Nat.le_refl _) _
  have GA : Hid (WA.heap[w.heap.size]? = some (.cells (cirC c s) 27 (0, 0))) := by unfold Hid; rw [← hWA]; exact Array.getElem?_push_size
  have LC : Hid (∀ y, Below w.heap.size w y → CLies y w.heap.size c s) := fun y hy => h.below hy
  have LI : Hid (∀ y, Below w.heap.size w y → SLies y w.heap.size AI ins) := fun y hy => hl.below hy
  have HF := Lib.hid hf
  have HR := Lib.hid hr
  have HS := Lib.hid hs
  have HI := Lib.hid hi
  have hsz : st.size ≤ 64 := by
    have h1 := (ref_sizes hr).2.1
    have h2 := hs
    unfold bitsM at h2
    rw [Bool.and_eq_true, decide_eq_true_eq] at h2
    omega
  have CK := Lib.hid (check_any c s WA ((LC.out _ bA.out).more bA.out.size) hf)
  rw [chkV_yes c ((chk_same c).trans hr)] at CK
  have CL := Lib.hid (fun y => Cpy.strclone_any st y (by omega))
  have HSB : Hid (∀ t ∈ statesL c st ins, t.size ≤ 9223372036854775807) := fun t ht => by
    have h0 := states_bits c ins st hs t ht
    have h1 := (ref_sizes hr).2.1
    unfold bitsM at h0
    rw [Bool.and_eq_true, decide_eq_true_eq] at h0
    omega
  have HLL := Lib.hid hl.len
  obtain ⟨e0, e1, e2, e3, e4, e5, e6, e7⟩ := cells8 GA.out
  clear h hf hr hs hi hl hsz
  unfold cirV
  rw [show cirC c s = #[.int .i64 c.max, .slice s.ai c.ins.length s.ki, .slice s.al c.lats.length s.kl, .slice s.ao c.outs.length s.ko, .slice s.ab c.bads.length s.kb, .slice s.ac c.invs.length s.kc, .slice s.aa c.ands.length s.ka, .slice s.an c.names.length s.kn] from rfl]
  unfold cirV at CK
  rw [show cirC c s = #[.int .i64 c.max, .slice s.ai c.ins.length s.ki, .slice s.al c.lats.length s.kl, .slice s.ao c.outs.length s.ko, .slice s.ab c.bads.length s.kb, .slice s.ac c.invs.length s.kc, .slice s.aa c.ands.length s.ka, .slice s.an c.names.length s.kn] from rfl] at CK
  go_enter Try.func40, Try.ntmps40
  go_wp2_with fail
  refine CK.out.mono ?_
  rintro e w1 ⟨rfl, hb⟩
  have B1 : Hid (Below w.heap.size w w1) := bA.out.trans (hb.mono bA.out.size)
  have G1 : Hid (w1.heap[w.heap.size]? = some (.cells (cirC c s) 27 (0, 0))) := (hb.block _ (lt_of_block GA.out)).trans GA.out
  clear hb CK e0 e1 e2 e3 e4 e5 e6 e7 hWA bA GA
  obtain ⟨e0, e1, e2, e3, e4, e5, e6, e7⟩ := cells8 G1.out
  obtain ⟨WZ, hWZ⟩ : ∃ y, w1.alloc (.cells #[.int .i64 0, .slice none 0 0, .slice none 0 0, .slice none 0 0, .slice none 0 0, .slice none 0 0, .slice none 0 0, .slice none 0 0, .slice none 0 0, .string ⟨#[]⟩, .string ⟨#[]⟩] 100) = y := ⟨_, rfl⟩
  have bZ : Below w1.heap.size w1 WZ := by rw [← hWZ]; exact (Below.refl _ _).alloc (Nat.le_refl _) _
  have gZ : WZ.heap[w1.heap.size]? = some (.cells #[.int .i64 0, .slice none 0 0, .slice none 0 0, .slice none 0 0, .slice none 0 0, .slice none 0 0, .slice none 0 0, .slice none 0 0, .slice none 0 0, .string ⟨#[]⟩, .string ⟨#[]⟩] 100 (0, 0)) := by rw [← hWZ]; exact Array.getElem?_push_size
  obtain ⟨r1, r2, r3, r4, r5, r6, r7, r8, r9, r10, WP, rv0, rv1, rv2, rv3, rv4, rv5, rv6, rv7, rv8, rv9, rv10, ⟨rh0, ra0, rb0⟩, ⟨rh1, ra1, rb1⟩, ⟨rh2, ra2, rb2⟩, ⟨rh3, ra3, rb3⟩, ⟨rh4, ra4, rb4⟩, ⟨rh5, ra5, rb5⟩, ⟨rh6, ra6, rb6⟩, ⟨rh7, ra7, rb7⟩, ⟨rh8, ra8, rb8⟩, ⟨rh9, ra9, rb9⟩, ⟨rh10, ra10, rb10⟩, EP, FP⟩ := store11 gZ rfl (.int .i64 c.max) (.slice s.ai c.ins.length s.ki) (.slice s.al c.lats.length s.kl) (.slice s.ao c.outs.length s.ko) (.slice s.ab c.bads.length s.kb) (.slice s.ac c.invs.length s.kc) (.slice s.aa c.ands.length s.ka) (.slice s.an c.names.length s.kn) (.slice none 0 0) (.string st) (.string ⟨#[]⟩)
  have bP : Below w1.heap.size w1 WP := FP.below bZ (Nat.le_refl _)
  have PP : Hid (PathAt WP w1.heap.size c s none 0 0 st ⟨#[]⟩) := EP
  have HPW : Hid (w.heap.size ≤ w1.heap.size) := B1.out.size
  have BP : Hid (Below w.heap.size w WP) := B1.out.trans (bP.mono B1.out.size)
  clear gZ bZ EP FP bP
  have FT := Lib.hid (fits_any w1.heap.size c s none 0 0 st ⟨#[]⟩ ins AI qi WP PP.out ((LI.out _ BP.out).more BP.out.size))
  rw [show (bitsM st (c.lats.length : Int) && ins.all (fun i => bitsM i (c.ins.length : Int))) = true from by rw [HS.out, Bool.true_and]; exact List.all_eq_true.2 HI.out] at FT
  go_wp2_with fail
  refine FT.out.mono ?_
  rintro e w2 ⟨rfl, hb⟩
  have B2 : Hid (Below w.heap.size w w2) := BP.out.trans (hb.mono BP.out.size)
  have P2 : Hid (PathAt w2 w1.heap.size c s none 0 0 st ⟨#[]⟩) := PP.out.below hb
  clear hb FT e0 e1 e2 e3 e4 e5 e6 e7 hWZ rh0 ra0 rb0 rh1 ra1 rb1 rh2 ra2 rb2 rh3 ra3 rb3 rh4 ra4 rb4 rh5 ra5 rb5 rh6 ra6 rb6 rh7 ra7 rb7 rh8 ra8 rb8 rh9 ra9 rb9 rh10 ra10 rb10 PP BP G1
  go_wp2_with fail
  refine (CL.out w2).mono ?_
  rintro e w3 ⟨rfl, hb⟩
  have B3 : Hid (Below w.heap.size w w3) := B2.out.trans (hb.mono B2.out.size)
  have P3 : Hid (PathAt w3 w1.heap.size c s none 0 0 st ⟨#[]⟩) := P2.out.below hb
  clear hb CL P2 B2
  obtain ⟨W4, hW4⟩ : ∃ y, w3.alloc (.cells #[.string st] 9) = y := ⟨_, rfl⟩
  have b4 : Below w3.heap.size w3 W4 := by rw [← hW4]; exact (Below.refl _ _).alloc (Nat.le_refl _) _
  have O4 : Hid (OwnC W4 w3.heap.size 9 1 (.slice (some ⟨w3.heap.size, 0, none⟩) 1 1) (strs (statesL c st (ins.take 0)))) := by unfold Hid; rw [← hW4]; exact own_str w3 _ _ (Nat.le_refl _)
  have B4 : Hid (Below w.heap.size w W4) := B3.out.trans (b4.mono B3.out.size)
  have P4 : Hid (PathAt W4 w1.heap.size c s none 0 0 (stM c st (ins.take 0)) (sb (lastV c [] st (ins.take 0)))) := P3.out.below b4
  have HLT : Hid (w1.heap.size < w3.heap.size) := lt_of_block P3.out
  have HZ4 : Hid (w3.heap.size < W4.heap.size) := by unfold Hid; rw [← hW4]; simp
  clear b4 P3
  go_wp2
  clear hW4
  go_loopw [29, 10] (fun i v wr => ∃ (j : Nat) (vv : Value), j ≤ ins.length ∧ i = .int .i64 j ∧ vv = v ∧ OwnC wr w3.heap.size 9 1 vv (strs (statesL c st (ins.take j))) ∧ PathAt wr w1.heap.size c s none 0 0 (stM c st (ins.take j)) (sb (lastV c [] st (ins.take j))) ∧ Below w.heap.size w wr ∧ w3.heap.size < wr.heap.size) (fun i _ _ => ins.length - (intOf i).toNat)
  case atStart => exact ⟨0, _, Nat.zero_le _, rfl, rfl, O4.out, P4.out, B4.out, HZ4.out⟩
  case round =>
    clear O4 P4 B4 HZ4
    obtain ⟨j, v, hj, rfl, rfl, how, hp, hb, hz⟩ := hrel
    have HO := Lib.hid how
    have HP := Lib.hid hp
    have HB := Lib.hid hb
    have HZ := Lib.hid hz
    clear how hp hb hz
    by_cases hlt : j < ins.length
    · obtain ⟨b0, o, rfl, hbb, hx⟩ := (LI.out _ HB.out).at hlt
      have GO := Lib.hid (goes_any w1.heap.size c s [] none 0 _ _ ins[j] wr HP.out ((LC.out _ HB.out).more HPW.out) HF.out (no_clauses _ _) HR.out (stM_bits c _ _ HS.out) (HI.out _ (List.getElem_mem hlt)))
      have HSL := Lib.hid (statesL_take c st ins j hlt)
      have HLB := Lib.hid (lastV_snoc c (ins.take j) [] st ins[j])
      have HSS := Lib.hid (stM_snoc c (ins.take j) st ins[j])
      rw [← take_snoc ins j hlt] at HLB HSS
      generalize ins[j] = xi at *
      obtain ⟨ab, hab⟩ : ∃ y, allowedM c (List.map Clz.l []) (valsM c (stM c st (ins.take j)) xi) = y := ⟨_, rfl⟩
      obtain ⟨nn, hnn⟩ : ∃ y, nxt1 c (stM c st (ins.take j)) xi = y := ⟨_, rfl⟩
      rw [hab, hnn] at GO
      rw [hnn] at HSL HSS
      rw [← HLB.out] at GO
      clear hab hnn HLB
      go_wp2_with fail
      refine GO.out.mono ?_
      rintro e w5 ⟨rfl, hb5, hp5⟩
      have HO5 : Hid (OwnC w5 w3.heap.size 9 1 v (strs (statesL c st (ins.take j)))) := HO.out.keep_at fun g hg hgo => hb5.keep g (HO.out.block_lt g hgo).2 (by have := HLT.out; omega)
      have HP5 := Lib.hid hp5
      have HB5 : Hid (Below w.heap.size w w5) := HB.out.trans (hb5.b.mono HPW.out)
      have HZ5 : Hid (w3.heap.size < w5.heap.size) := Nat.lt_of_lt_of_le HZ.out hb5.size
      clear hb5 hp5 GO HO HP hx
      obtain ⟨e0, e1, e2, e3, e4, e5, e6, e7, e8, e9, e10⟩ := cells11 HP5.out
      have hal : Below w5.heap.size w5 (w5.alloc (.cells #[.string nn] 9)) := (Below.refl _ _).alloc (Nat.le_refl _) _
      have O6 := Lib.hid (HO5.out.keep hal)
      have B6 : Hid (Below w.heap.size w (w5.alloc (.cells #[.string nn] 9))) := HB5.out.trans (hal.mono HB5.out.size)
      have P6 := Lib.hid (HP5.out.below hal)
      have HC : Hid (∀ (k : Nat) u, [Value.string nn][k]? = some u → (w5.alloc (.cells #[.string nn] 9)).cell? ⟨w5.heap.size, k, none⟩ = some u) := fun k u hu => by
        rw [Lib.cell_of_heap (show (w5.alloc (.cells #[.string nn] 9)).heap[w5.heap.size]? = some (.cells #[.string nn] 9 (0, 0)) from Array.getElem?_push_size)]; simpa using hu
      have HONE : Hid (∀ u ∈ [Value.string nn], u.oneCell' = true) := fun u hu => by
        simp only [List.mem_singleton] at hu
        subst hu; rfl
      have HLN : Hid ((strs (statesL c st (ins.take j))).length = j + 1) := by unfold Hid; rw [strs_len, states_len, List.length_take]; omega
      have HW : Hid (w3.heap.size ≤ (w5.alloc (.cells #[.string nn] 9)).heap.size) := by have := HZ5.out; unfold Hid; simp; omega
      clear hal
      go_wp2_with (at_builtin; refine wpList_push_wide _ rfl (.tmp 35) (.tmp 38) 59 rfl 9 1 16 (.string ⟨#[]⟩) Try.underlying59 info_str rfl (by decide) w3.heap.size v _ O6.out rfl w5.heap.size 1 rfl [.string nn] HC.out rfl HONE.out (by rw [HLN.out]; omega) (by rw [HLN.out]; omega) HW.out ?_)
      intro v2 w6 hown hbel
      have HO7 : Hid (OwnC w6 w3.heap.size 9 1 v2 (strs (statesL c st (ins.take (j + 1))))) := by unfold Hid; rw [HSL.out, strs_snoc]; exact hown
      have HP7 : Hid (PathAt w6 w1.heap.size c s none 0 0 (stM c st (ins.take (j + 1))) (sb (lastV c [] st (ins.take (j + 1))))) := by
        unfold Hid; rw [HSS.out]
        exact (hbel.block _ HLT.out).trans P6.out
      have HB7 : Hid (Below w.heap.size w w6) := B6.out.trans (hbel.mono (Nat.le_trans HPW.out (Nat.le_of_lt HLT.out)))
      have HZ7 : Hid (w3.heap.size < w6.heap.size) := by have h1 := hbel.size; have h2 := HZ5.out; unfold Hid; simp at h1; omega
      clear hown hbel e0 e1 e2 e3 e4 e5 e6 e7 e8 e9 e10 O6 B6 P6 HC HONE HW
      go_wp2
      go_roundw
      case rel => exact ⟨j + 1, _, by omega, by go_num, rfl, HO7.out, HP7.out, HB7.out, HZ7.out⟩
      case measure => simp [intOf]; omega
    · obtain rfl : j = ins.length := by omega
      rw [List.take_length] at HO
      obtain ⟨A', q', rfl, hrow, hq1, hq2⟩ := HO.out.row (by decide) (fun y hy => by unfold strs at hy; obtain ⟨_, _, rfl⟩ := List.mem_map.1 hy; rfl)
      have HROW : Hid (SLies wr wr.heap.size A' (statesL c st ins)) := ⟨hrow, HSB.out, by rw [strs_len] at hq1; omega⟩
      have hle : (strs (statesL c st ins)).length = ins.length + 1 := by rw [strs_len, states_len]
      have HLE := Lib.hid hle
      rw [hle] at *
      clear hrow hq1 hq2 hle
      go_wp2
      go_ret2
      exact ⟨⟨A', ⟨q', rfl⟩, HROW.out⟩, HB.out⟩
/-- the program's own Check, Allowed, States answer as the pages say -/
theorem prog9 : Prog9 where
  check := fun c s L A q x AI qi w h hf _ _ ha hi => pcheck_any c s L A q x AI qi w h hf ha hi
  allowed := fun c s L A q v w h hf hv _ ha => pallowed_any c s L A q v w h hf hv ha
  states := fun c s st ins AI qi w h hf hr hs hi hl hn => pstates_any c s st ins AI qi w h hf hr hs hi hl hn
end Go.Proofs.Ytfglgapocmnfpaa.Rep
namespace Go.Proofs.Ytfglgapocmnfpaa.Rep
open Go.ChangeShapes Go.WideShapes Go.ChangeAt Go.RowKit Go.Maps Circ Cw
open Str Sim

theorem infoInts : (Try.prog.info? 22).map (fun i => (i.zero, i.size, i.bytes)) = some (some (.slice none 0 0), 1, 24) := by kernel_rfl
set_option maxHeartbeats 16000000 in
set_option maxRecDepth 100000 in
theorem more_walk (P : Prog9) (c : Cir) (s : Places) (L : List Clz) (A : Option Addr) (q : Nat) (z : Clz) (x : Wit) (AI : Option Addr) (qi : Nat) (w : World) (h : CLies w w.heap.size c s) (hf : CFits c s) (hz : x.state.size ≤ 9223372036854775807) (hbd : I64 x.bad) (hA : ALies w w.heap.size A L) (hLb : L.length * 24 ≤ 140737488355328) (hZ : z.Lies w w.heap.size) (hS : SLies w w.heap.size AI x.inputs) :
    Calls Try.prog 10 #[cirV c s, .slice A L.length q, .slice z.A z.l.length z.q, witV x AI qi] w fun e w' => e = .returned (.bool true) ∧ Below w.heap.size w w' := by
  obtain ⟨WA, hWA⟩ : ∃ x, w.alloc (.cells #[.int .i64 c.max, .slice s.ai c.ins.length s.ki, .slice s.al c.lats.length s.kl, .slice s.ao c.outs.length s.ko, .slice s.ab c.bads.length s.kb, .slice s.ac c.invs.length s.kc, .slice s.aa c.ands.length s.ka, .slice s.an c.names.length s.kn] 27) = x := ⟨_, rfl⟩
  have bA : Below w.heap.size w WA := by rw [← hWA]; exact (Below.refl _ _).alloc (Nat.le_refl _) _
  have gA : WA.heap[w.heap.size]? = some (.cells (cirC c s) 27 (0, 0)) := by rw [← hWA]; exact Array.getElem?_push_size
  obtain ⟨WB, hWB⟩ : ∃ y, WA.alloc (.cells #[.int .i64 x.bad, .string x.state, .slice AI x.inputs.length qi] 61) = y := ⟨_, rfl⟩
  have bB : Below WA.heap.size WA WB := by rw [← hWB]; exact (Below.refl _ _).alloc (Nat.le_refl _) _
  have gB : WB.heap[WA.heap.size]? = some (.cells #[.int .i64 x.bad, .string x.state, .slice AI x.inputs.length qi] 61 (0, 0)) := by rw [← hWB]; exact Array.getElem?_push_size
  have BB : Hid (Below w.heap.size w WB) := bA.trans (bB.mono bA.size)
  have GC : Hid (∀ y, Below WB.heap.size WB y → y.heap[w.heap.size]? = some (.cells (cirC c s) 27 (0, 0))) := fun y hy => by
    have h1 := (bB.block _ (lt_of_block gA)).trans gA
    exact (hy.block _ (lt_of_block h1)).trans h1
  have GT : Hid (∀ y, Below WB.heap.size WB y → y.heap[WA.heap.size]? = some (.cells #[.int .i64 x.bad, .string x.state, .slice AI x.inputs.length qi] 61 (0, 0))) := fun y hy => (hy.block _ (lt_of_block gB)).trans gB
  have LW : Hid (∀ y, Below WB.heap.size WB y → CLies y y.heap.size c s) := fun y hy => by
    have hb := BB.out.trans (hy.mono BB.out.size)
    exact (h.below hb).more hb.size
  have AW : Hid (∀ y, Below WB.heap.size WB y → ALies y y.heap.size A L) := fun y hy => by
    have hb := BB.out.trans (hy.mono BB.out.size)
    exact (hA.below hb).more hb.size
  have SW : Hid (∀ y, Below WB.heap.size WB y → SLies y y.heap.size AI x.inputs) := fun y hy => by
    have hb := BB.out.trans (hy.mono BB.out.size)
    exact (hS.below hb).more hb.size
  clear bA gA bB gB
  have ZW : Hid (∀ y, Below WB.heap.size WB y → z.Lies y y.heap.size) := fun y hy => by
    have hb := BB.out.trans (hy.mono BB.out.size)
    exact (hZ.below hb).more hb.size
  have CH := Lib.hid (fun y hy => P.check c s L A q x AI qi y (LW.out y hy) hf hz hbd (AW.out y hy) (SW.out y hy))
  have CH2 := Lib.hid (fun A' q' y hy (ha : ALies y y.heap.size A' (L ++ [z])) => P.check c s (L ++ [z]) A' q' x AI qi y (LW.out y hy) hf hz hbd ha (SW.out y hy))
  have HPM : Hid (pathE c ((L ++ [z]).map Clz.l) x = 0 → pathE c (L.map Clz.l) x = 0) := fun hp => path_more (m := z.l) (by rw [List.map_append] at hp; exact hp)
  have AL := Lib.hid (alive_any P WB)
  have HLB := Lib.hid hLb
  obtain ⟨e0, e1, e2, e3, e4, e5, e6, e7⟩ := cells8 (GC.out WB (Below.refl _ _))
  obtain ⟨t0, t1, t2⟩ := two_cells (GT.out WB (Below.refl _ _))
  unfold witV at CH CH2 ⊢
  generalize pathE c (L.map Clz.l) x = pa at *
  generalize pathE c ((L ++ [z]).map Clz.l) x = pb at *
  clear h hf hz hbd hA hS hLb hZ
  unfold cirV at CH CH2 ⊢
  rw [show cirC c s = #[.int .i64 c.max, .slice s.ai c.ins.length s.ki, .slice s.al c.lats.length s.kl, .slice s.ao c.outs.length s.ko, .slice s.ab c.bads.length s.kb, .slice s.ac c.invs.length s.kc, .slice s.aa c.ands.length s.ka, .slice s.an c.names.length s.kn] from rfl] at CH CH2 ⊢
  go_enter Try.func10, Try.ntmps10
  go_wp2_with fail
  refine AL.out.mono ?_
  rintro e w1 ⟨rfl, hb⟩
  have B1 : Hid (Below WB.heap.size WB w1) := hb
  clear e0 e1 e2 e3 e4 e5 e6 e7 t0 t1 t2 hWA hWB AL hb
  have AW1 := Lib.hid (AW.out w1 B1.out)
  have HC1 : Hid (∀ y ∈ L.map Clz.cells, y.length = 1) := fun y hy => by
    obtain ⟨a, _, rfl⟩ := List.mem_map.1 hy; rfl
  have HC2 : Hid (∀ y ∈ L.map Clz.cells, ∀ u ∈ y, u.oneCell' = true) := fun y hy u hu => by
    obtain ⟨a, _, rfl⟩ := List.mem_map.1 hy
    unfold Clz.cells at hu
    rw [List.mem_singleton.1 hu]; rfl
  go_wp2_with (at_builtin; refine wpList_append_row w1 rfl _ _ 58 rfl w1.heap.size w1.heap.size 22 1 24 (.slice none 0 0) Try.underlying58 infoInts rfl (by decide) (.slice none 0 0) [] (L.map Clz.cells) rfl (OwnC.nil _ _ _ _) A L.length _ (by rw [List.length_map]) rfl AW1.out.row HC1.out HC2.out (by rw [List.length_map, List.length_nil, Nat.zero_add]; exact HLB.out) (by rw [List.length_map, List.length_nil, Nat.zero_add]; have := HLB.out; omega) (Nat.le_refl _) ?_)
  intro v2 w2 hown hbel _
  have O2 : Hid (OwnC w2 w1.heap.size 22 1 v2 (L.map Clz.cells)) := hown
  have B2 : Hid (Below w1.heap.size w1 w2) := hbel
  clear hown hbel
  obtain ⟨w3, hw3⟩ : ∃ y, w2.alloc (.cells #[.slice z.A z.l.length z.q] 22) = y := ⟨_, rfl⟩
  have b3 : Below w2.heap.size w2 w3 := by rw [← hw3]; exact (Below.refl _ _).alloc (Nat.le_refl _) _
  have O3 : Hid (OwnC w3 w1.heap.size 22 1 v2 (L.map Clz.cells)) := O2.out.keep b3
  have B3 : Hid (Below w1.heap.size w1 w3) := B2.out.trans (b3.mono B2.out.size)
  have HY : Hid (∀ j u, z.cells[j]? = some u → w3.cell? ⟨w2.heap.size, j, none⟩ = some u) := fun j u hu => by
    unfold Clz.cells at hu
    match j, hu with
    | 0, hu =>
      obtain rfl : Value.slice z.A z.l.length z.q = u := by simpa using hu
      have hh : w3.heap[w2.heap.size]? = some (.cells #[.slice z.A z.l.length z.q] 22 (0, 0)) := by rw [← hw3]; exact Array.getElem?_push_size
      rw [Lib.cell_of_heap hh]; rfl
    | j + 1, hu => simp at hu
  have HY1 : Hid (∀ u ∈ z.cells, u.oneCell' = true) := fun u hu => by
    unfold Clz.cells at hu
    rw [List.mem_singleton.1 hu]; rfl
  clear b3
  go_wp2_with (at_builtin; refine wpList_push_wide w3 rfl _ _ 58 rfl 22 1 24 (.slice none 0 0) Try.underlying58 infoInts rfl (by decide) w1.heap.size v2 (L.map Clz.cells) O3.out rfl w2.heap.size 1 rfl z.cells HY.out rfl HY1.out (by rw [List.length_map]; have := HLB.out; omega) (by rw [List.length_map]; have := HLB.out; omega) B3.out.size ?_)
  intro v4 w4 hown hbel
  have O4 : Hid (OwnC w4 w1.heap.size 22 1 v4 ((L ++ [z]).map Clz.cells)) := by unfold Hid; rw [List.map_append]; exact hown
  have B4 : Hid (Below WB.heap.size WB w4) := B1.out.trans ((B3.out.trans hbel).mono B1.out.size)
  clear hown hbel hw3
  obtain ⟨A4, q4, hv4, hrow4, -, -⟩ := O4.out.row (by decide) (fun y hy => by obtain ⟨a, _, rfl⟩ := List.mem_map.1 hy; rfl)
  rw [List.length_map] at hv4
  subst hv4
  have A4L : Hid (ALies w4 w4.heap.size A4 (L ++ [z])) := ⟨hrow4, fun y hy => by
    rcases List.mem_append.1 hy with hy | hy
    · exact (AW.out w4 B4.out).each y hy
    · rw [List.mem_singleton.1 hy]; exact ZW.out w4 B4.out, by rw [List.length_append]; have := HLB.out; simp; omega⟩
  clear hrow4
  have K1 := Lib.hid (fun (u : Wd w4.heap.size w4) => Calls.in_wd u (CH.out u.w (B4.out.trans (u.ok.mono B4.out.size))) (Nat.le_refl _))
  have K2 := Lib.hid (fun (u : Wd w4.heap.size w4) => Calls.in_wd u (CH2.out A4 q4 u.w (B4.out.trans (u.ok.mono B4.out.size)) ((A4L.out.below u.ok).more u.ok.size)) (Nat.le_refl _))
  generalize (L ++ [z]).length = nl at *
  obtain ⟨e0, e1, e2, e3, e4, e5, e6, e7⟩ := cells8 (GC.out _ B4.out)
  obtain ⟨t0, t1, t2⟩ := two_cells (GT.out _ B4.out)
  clear CH CH2
  go_wp2
  have u0 := Wd.cell e0
  have u1 := Wd.cell e1
  have u2 := Wd.cell e2
  have u3 := Wd.cell e3
  have u4 := Wd.cell e4
  have u5 := Wd.cell e5
  have u6 := Wd.cell e6
  have u7 := Wd.cell e7
  have ut0 := Wd.cell t0
  have ut1 := Wd.cell t1
  have ut2 := Wd.cell t2
  refine wp_region_wd (by kernel_rfl) (by kernel_rfl) ?_
  repeat (first | go_big_quiet_skip | (go_big_quiet_want; go_big_quiet_op; first | go_big_quiet_on | (apply Exists.intro; refine ⟨fun u => ?_, ?_⟩; (first | (go_at_call 35; first | with_reducible exact K1.out u | with_reducible exact K2.out u)); go_big_quiet_on)))
  refine wpQuiet_nil ?_
  intro wz9 hw'
  obtain ⟨⟨_, hb9⟩, hw''⟩ := hw'
  subst hw''
  have BF : Hid (Below w.heap.size w wz9) := BB.out.trans ((B4.out.trans (hb9.mono B4.out.size)).mono BB.out.size)
  clear hb9 K1 K2
  clear u0 u1 u2 u3 u4 u5 u6 u7 ut0 ut1 ut2 e0 e1 e2 e3 e4 e5 e6 e7 t0 t1 t2
  by_cases hp : pb = 0
  · have hp2 := HPM.out hp
    subst hp hp2
    go_wp2
    go_ret
    exact ⟨rfl, BF.out⟩
  · have hne : (pb != 0) = true := bne_iff_ne.2 hp
    clear hp
    go_wp2
    go_ret
    exact ⟨rfl, BF.out⟩
set_option maxRecDepth 100000 in
theorem more_core (P : Prog9) {H : Type} {enc : TypeId × Value → H} (W : World) (v : Value) (d : DataW H) (p : List MemPlace) {r : Reach} {b0 : Nat} (hv : Value.okWide Try.prog W r b0 27 v) (h : DataW.Trod enc Try.prog W 0 (fun _ => true) true 27 v d p)
    (v1 : Value) (d1 : DataW H) (p1 : List MemPlace) {r1 : Reach} {b1 : Nat} (hv1 : Value.okWide Try.prog W r1 b1 58 v1) (h1 : DataW.Trod enc Try.prog W 0 (fun _ => true) true 58 v1 d1 p1)
    (v2 : Value) (d2 : DataW H) (p2 : List MemPlace) {r2 : Reach} {b2 : Nat} (hv2 : Value.okWide Try.prog W r2 b2 22 v2) (h2 : DataW.Trod enc Try.prog W 0 (fun _ => true) true 22 v2 d2 p2)
    (v3 : Value) (d3 : DataW H) (p3 : List MemPlace) {r3 : Reach} {b3 : Nat} (hv3 : Value.okWide Try.prog W r3 b3 61 v3) (h3 : DataW.Trod enc Try.prog W 0 (fun _ => true) true 61 v3 d3 p3)
    {ts : List TypeId} {ds : List (DataW H)} (hsz : (DataW.weightsEach Try.prog (27 :: 58 :: 22 :: 61 :: ts) (d :: d1 :: d2 :: d3 :: ds)).all (· ≤ reachBytes) = true) :
    Calls Try.prog 10 #[v, v1, v2, v3] W fun e W' => e = .returned (.bool true) ∧ Below W.heap.size W W' := by
  obtain ⟨c, s, rfl, hl, hf⟩ := open_circ hv h (all_weights hsz 0 rfl rfl)
  obtain ⟨A1, L, q1, rfl, a1, l1⟩ := open_clauses hv1 h1 (all_weights hsz 1 rfl rfl)
  have hw2 := all_weights hsz 2 (t := 22) (d := d2) rfl rfl
  obtain ⟨fuel, ht⟩ := h2
  obtain ⟨z, e2, zl⟩ := el_ints ht hw2
  have hv2' : v2 = .slice z.A z.l.length z.q := by
    obtain ⟨a0, len, cap, rfl⟩ := okWide_slice Try.underlying22 hv2
    simpa [Value.cells, Clz.cells] using e2
  subst hv2'
  obtain ⟨x, A2, q2, rfl, a2, z2, i2, _⟩ := open_wit hv3 h3 (all_weights hsz 3 rfl rfl)
  exact more_walk P c s L A1 q1 z x A2 q2 W hl hf z2 i2 a1 l1 zl a2
end Go.Proofs.Ytfglgapocmnfpaa.Rep
