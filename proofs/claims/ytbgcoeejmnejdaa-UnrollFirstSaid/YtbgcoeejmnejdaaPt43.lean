/- UnrollFrames, from what it asks of the program; condition: as there. An argument that is a question, opened; the cores of layer 13's laws. Condition of frames_coreU: bulk at most 1048576. -/
import Derived.Test.YtbgcoeejmnejdaaPt42
import Derived.Test.YtbgcoeejmnejdaaPt33
import Derived.Test.YtbgcoeejmnejdaaPt25
import Derived.Test.YtbgcoeejmnejdaaRows
import Derived.Test.YtbgcoeejmnejdaaPt41
namespace Go.Proofs.Ytbgcoeejmnejdaa.Unr
open Go.ChangeShapes Go.WideShapes Go.ChangeAt Go.RowKit Go.Maps Circ Cw Str Sim Rep Cla Tse

theorem que_facts {q : Que} (h : queM q = 0) : (∀ l ∈ q.asm, ∀ x ∈ l, 0 ≤ x ∧ x / 2 ≤ q.c.max) ∧ (∀ l ∈ q.lem, ∀ x ∈ l, 0 ≤ x ∧ x / 2 ≤ q.c.max) ∧ (∀ l ∈ q.kno, ∀ k ∈ l, k ≠ 0 ∧ -(q.c.lats.length : Int) ≤ k ∧ k ≤ (q.c.lats.length : Int)) := by
  unfold queM at h
  split at h
  · exact absurd h (by decide)
  · split at h
    · exact absurd h (by decide)
    · split at h
      · exact absurd h (by decide)
      · split at h
        · rename_i hc
          rw [Bool.and_eq_true, Bool.and_eq_true] at hc
          have cl : ∀ L : List (List Int), clsOk q.c.max L = true → ∀ l ∈ L, ∀ x ∈ l, 0 ≤ x ∧ x / 2 ≤ q.c.max := fun L hL l hl x hx => by
            have h1 := List.all_eq_true.1 hL l hl
            rw [Bool.and_eq_true] at h1
            have h2 := List.all_eq_true.1 h1.2 x hx
            simp only [Bool.and_eq_true, decide_eq_true_eq] at h2
            omega
          refine ⟨cl _ hc.1, cl _ hc.2.1, fun l hl k hk => ?_⟩
          have h1 := List.all_eq_true.1 hc.2.2 l hl
          rw [beq_iff_eq] at h1
          unfold For.chk at h1
          split at h1
          · exact absurd h1 (by decide)
          · split at h1
            · rename_i h3
              have h4 := List.all_eq_true.1 h3 k hk
              unfold For.litOk at h4
              rw [Bool.and_eq_true, decide_eq_true_eq, decide_eq_true_eq] at h4
              unfold absW negW at h4
              split at h4 <;> split at h4 <;> omega
            · exact absurd h1 (by decide)
        · exact absurd h (by decide)
theorem flat_next (v : List UInt8) (n : Nat) : (List.replicate (n + 1) v).flatten = (List.replicate n v).flatten ++ v := by
  rw [List.replicate_succ', List.flatten_append]; simp
theorem flat_len (v : List UInt8) (n : Nat) : (List.replicate n v).flatten.length = n * v.length := by
  induction n with
  | zero => simp
  | succ n ih => rw [flat_next, List.length_append, ih, Nat.succ_mul]
set_option maxHeartbeats 16000000 in
set_option maxRecDepth 100000 in
theorem frames_walk {N : Nat} (P : Prog13 N) (q : Que) (t : QPlaces) (f : Int) (st inp : ByteArray) (w : World) (h : QLies w w.heap.size q t) (hf : CFits q.c t.s) (hi1 : I64 q.bad) (hi2 : I64 q.depth) (hi3 : I64 q.budget) (hfi : I64 f) (hs : st.size ≤ 9223372036854775807) (hi : inp.size ≤ 9223372036854775807)
    (hn1 : q.asm.length ≤ N) (hn2 : q.lem.length ≤ N) (hn3 : q.kno.length ≤ N) (hm1 : ∀ l ∈ q.asm, l.length ≤ 17592186044416) (hm2 : ∀ l ∈ q.lem, l.length ≤ 17592186044416) (hm3 : ∀ l ∈ q.kno, l.length ≤ 17592186044416) :
    Calls Try.prog 9 #[.agg (queC q t), .int .i64 f, .string st, .string inp] w fun e w' => e = .returned (.bool true) ∧ Below w.heap.size w w' := by
  obtain ⟨WQ, hWQ⟩ : ∃ x, w.alloc (.cells (queC q t) 60) = x := ⟨_, rfl⟩
  have bQ : Hid (Below w.heap.size w WQ) := by unfold Hid; rw [← hWQ]; exact (Below.refl _ _).alloc (Nat.le_refl _) _
  have gQ : Hid (WQ.heap[w.heap.size]? = some (.cells (queC q t) 60 (0, 0))) := by unfold Hid; rw [← hWQ]; exact Array.getElem?_push_size
  have HQ0 : Hid (∀ x, Below WQ.heap.size WQ x → QLies x x.heap.size q t) := fun x hx => by
    have h1 := bQ.out.trans (hx.mono bQ.out.size)
    exact (h.below h1).more h1.size
  have HF := Lib.hid hf
  have HFR := Lib.hid (fun x hx => P.frame q t f x (HQ0.out x hx) hf hi1 hi2 hi3 hfi hn1 hn2 hn3 hm1 hm2 hm3)
  have HEA := Lib.hid h.ea
  have HEL := Lib.hid h.el
  have HEK := Lib.hid h.ek
  have AL := Lib.hid (alive_any P WQ)
  have hll := h.l.len
  clear h hf hi1 hi2 hi3 hn1 hn2 hn3 hm1 hm2 hm3
  unfold queC at hWQ HFR
  unfold queC
  go_enter Try.func9, Try.ntmps9
  go_wp2_with fail
  refine AL.out.mono ?_
  rintro e w1 ⟨rfl, hb1⟩
  obtain ⟨WC, hWC⟩ : ∃ x, w1.alloc (.cells #[.int .i64 q.c.max, .slice t.s.ai q.c.ins.length t.s.ki, .slice t.s.al q.c.lats.length t.s.kl, .slice t.s.ao q.c.outs.length t.s.ko, .slice t.s.ab q.c.bads.length t.s.kb, .slice t.s.ac q.c.invs.length t.s.kc, .slice t.s.aa q.c.ands.length t.s.ka, .slice t.s.an q.c.names.length t.s.kn] 27) = x := ⟨_, rfl⟩
  have bC : Below w1.heap.size w1 WC := by rw [← hWC]; exact (Below.refl _ _).alloc (Nat.le_refl _) _
  have gC : WC.heap[w1.heap.size]? = some (.cells (cirC q.c t.s) 27 (0, 0)) := by rw [← hWC]; exact Array.getElem?_push_size
  have BC : Hid (Below WQ.heap.size WQ WC) := hb1.trans (bC.mono hb1.size)
  have GQ : Hid (∀ x, Below WC.heap.size WC x → x.heap[w.heap.size]? = some (.cells (queC q t) 60 (0, 0))) := fun x hx => ((BC.out.trans (hx.mono BC.out.size)).block _ (Array.getElem?_eq_some_iff.1 gQ.out).1).trans gQ.out
  have GC : Hid (∀ x, Below WC.heap.size WC x → x.heap[w1.heap.size]? = some (.cells (cirC q.c t.s) 27 (0, 0))) := fun x hx => (hx.block _ (Array.getElem?_eq_some_iff.1 gC).1).trans gC
  have HQ : Hid (∀ x, Below WC.heap.size WC x → QLies x x.heap.size q t) := fun x hx => HQ0.out x (BC.out.trans (hx.mono BC.out.size))
  have BW : Hid (∀ x, Below WC.heap.size WC x → Below w.heap.size w x) := fun x hx => bQ.out.trans ((BC.out.trans (hx.mono BC.out.size)).mono bQ.out.size)
  have FR := Lib.hid (HFR.out WC BC.out)
  obtain ⟨f0, f1, f2, f3, f4, f5, f6, f7, f8, f9, f10, f11, f12, f13⟩ : _ := cells14 ((hb1.block _ (Array.getElem?_eq_some_iff.1 gQ.out).1).trans gQ.out)
  obtain ⟨g0, g1, g2, g3, g4, g5, g6, g7, g8, g9, g10, g11, g12, g13⟩ : _ := cells14 (GQ.out WC (Below.refl _ _))
  obtain ⟨e0, e1, e2, e3, e4, e5, e6, e7⟩ := cells8 gC
  clear hb1 bC gC AL HFR HQ0 hWQ
  go_wp2_with fail
  refine FR.out.mono ?_
  rintro e w2 ⟨⟨K, A2, q2, rfl, hK, hK0, hK1, hKM⟩, hb2⟩
  have HK := Lib.hid hK
  have HK0 := Lib.hid hK0
  have HK1 := Lib.hid hK1
  have HKM := Lib.hid hKM
  have B2 : Hid (Below WC.heap.size WC w2) := hb2
  clear hK hK0 hK1 hKM hb2 FR f0 f1 f2 f3 f4 f5 f6 f7 f8 f9 f10 f11 f12 f13 e0 e1 e2 e3 e4 e5 e6 e7 g0 g1 g2 g3 g4 g5 g6 g7 g8 g9 g10 g11 g12 g13 hWC
  obtain ⟨f0, f1, f2, f3, f4, f5, f6, f7, f8, f9, f10, f11, f12, f13⟩ := cells14 (GQ.out _ B2.out)
  obtain ⟨e0, e1, e2, e3, e4, e5, e6, e7⟩ := cells8 (GC.out _ B2.out)
  have RI := Lib.hid (right_any q.c t.s f w2 (HQ.out _ B2.out).c HF.out)
  unfold cirV at RI
  rw [show cirC q.c t.s = #[.int .i64 q.c.max, .slice t.s.ai q.c.ins.length t.s.ki, .slice t.s.al q.c.lats.length t.s.kl, .slice t.s.ao q.c.outs.length t.s.ko, .slice t.s.ab q.c.bads.length t.s.kb, .slice t.s.ac q.c.invs.length t.s.kc, .slice t.s.aa q.c.ands.length t.s.ka, .slice t.s.an q.c.names.length t.s.kn] from rfl] at RI
  have hkl := HK.out.len
  cases hrt : rightM q.c f with
  | false =>
    rw [hrt] at RI
    obtain rfl : K = [] := HK0.out hrt
    clear hrt HK0 HK1 HKM
    go_wp2_with fail
    refine RI.out.mono ?_
    rintro e w3 ⟨rfl, hb3⟩
    have B3 := Lib.hid (BW.out w3 (B2.out.trans (hb3.mono B2.out.size)))
    clear hb3 RI f0 f1 f2 f3 f4 f5 f6 f7 f8 f9 f10 f11 f12 f13 e0 e1 e2 e3 e4 e5 e6 e7
    go_wp2
    go_ret
    exact ⟨rfl, B3.out⟩
  | true =>
    rw [hrt] at RI
    have HRT := Lib.hid hrt
    have hK1 : (1 : Int) ≤ (K.length : Int) := by have := HK1.out hrt; omega
    clear hrt HK0 HK1
    go_wp2_with fail
    refine RI.out.mono ?_
    rintro e w3 ⟨rfl, hb3⟩
    have B3 : Hid (Below WC.heap.size WC w3) := B2.out.trans (hb3.mono B2.out.size)
    have HK3 : Hid (∀ x, Below w3.heap.size w3 x → ALies x x.heap.size A2 K) := fun x hx => (HK.out.below (hb3.trans (hx.mono hb3.size))).more (hb3.trans (hx.mono hb3.size)).size
    clear hb3 RI f0 f1 f2 f3 f4 f5 f6 f7 f8 f9 f10 f11 f12 f13 e0 e1 e2 e3 e4 e5 e6 e7 HK
    obtain ⟨f0, f1, f2, f3, f4, f5, f6, f7, f8, f9, f10, f11, f12, f13⟩ := cells14 (GQ.out _ B3.out)
    obtain ⟨e0, e1, e2, e3, e4, e5, e6, e7⟩ := cells8 (GC.out _ B3.out)
    have VA := Lib.hid (refvalues_any q.c t.s st inp w3 (HQ.out _ B3.out).c HF.out hs hi)
    unfold cirV at VA
    rw [show cirC q.c t.s = #[.int .i64 q.c.max, .slice t.s.ai q.c.ins.length t.s.ki, .slice t.s.al q.c.lats.length t.s.kl, .slice t.s.ao q.c.outs.length t.s.ko, .slice t.s.ab q.c.bads.length t.s.kb, .slice t.s.ac q.c.invs.length t.s.kc, .slice t.s.aa q.c.ands.length t.s.ka, .slice t.s.an q.c.names.length t.s.kn] from rfl] at VA
    obtain ⟨vv, hvv⟩ : ∃ y : ByteArray, sv (vStr q.c st inp) = .string y := ⟨_, rfl⟩
    have HVV : Hid (vv.data.toList = vStr q.c st inp) := by
      unfold Hid
      unfold sv at hvv
      have := Value.string.inj hvv
      rw [← this]
    rw [hvv] at VA
    clear hvv
    obtain ⟨ve, hve⟩ : ∃ y, vErr q.c st inp = y := ⟨_, rfl⟩
    rw [hve] at VA
    have HVE := Lib.hid hve
    clear hve
    go_wp2_with fail
    refine VA.out.mono ?_
    rintro e w4 ⟨rfl, hb4⟩
    have B4 : Hid (Below WC.heap.size WC w4) := B3.out.trans (hb4.mono B3.out.size)
    have HK4 : Hid (∀ x, Below w4.heap.size w4 x → ALies x x.heap.size A2 K) := fun x hx => HK3.out x (hb4.trans (hx.mono hb4.size))
    clear hb4 VA f0 f1 f2 f3 f4 f5 f6 f7 f8 f9 f10 f11 f12 f13 e0 e1 e2 e3 e4 e5 e6 e7 HK3
    obtain ⟨f0, f1, f2, f3, f4, f5, f6, f7, f8, f9, f10, f11, f12, f13⟩ := cells14 (GQ.out _ B4.out)
    obtain ⟨e0, e1, e2, e3, e4, e5, e6, e7⟩ := cells8 (GC.out _ B4.out)
    by_cases hv0 : ve = 0
    · subst hv0
      by_cases hf3 : f ≤ 3
      · have hd3 : decide (3 < f) = false := decide_eq_false (by omega)
        have hn3 : ¬ 3 < f := by omega
        have CK := Lib.hid (check13_any q t w4 (HQ.out _ B4.out) HF.out)
        unfold queC at CK
        obtain ⟨cq, hcq⟩ : ∃ y, queM q = y := ⟨_, rfl⟩
        rw [hcq] at CK
        have HCQ := Lib.hid hcq
        clear hcq
        go_wp2_with fail
        refine CK.out.mono ?_
        rintro e w5 ⟨rfl, hb5⟩
        have B5 : Hid (Below WC.heap.size WC w5) := B4.out.trans (hb5.mono B4.out.size)
        have HK5 : Hid (∀ x, Below w5.heap.size w5 x → ALies x x.heap.size A2 K) := fun x hx => HK4.out x (hb5.trans (hx.mono hb5.size))
        clear hb5 CK f0 f1 f2 f3 f4 f5 f6 f7 f8 f9 f10 f11 f12 f13 e0 e1 e2 e3 e4 e5 e6 e7 HK4
        by_cases hc0 : cq = 0
        · subst hc0
          obtain ⟨hr, hbs, hbi⟩ := err_is HVE.out
          have HVX : Hid (vv.data.toList = valsM q.c st inp) := HVV.out.trans (str_ok HVE.out)
          obtain ⟨kv1, kv2⟩ := vals_small (c := q.c) st inp hr
          have hvz : vv.size = (valsM q.c st inp).length := by rw [← HVX.out]; simp
          have hf0 : 0 ≤ f := by
            have := HRT.out
            unfold rightM at this
            rw [Bool.and_eq_true, decide_eq_true_eq] at this
            exact this.1
          obtain ⟨n, rfl⟩ : ∃ n : Nat, f = (n : Int) := ⟨f.toNat, by omega⟩
          have hn : n ≤ 3 := by omega
          obtain ⟨h1, h2, h3⟩ := que_facts HCQ.out
          have HALL : Hid (∀ s : ByteArray, s.data.toList = (List.replicate (n + 1) vv.data.toList).flatten → K.all (fun z => oneM s z.l) = (allowedM q.c q.asm vv.data.toList && (q.lem.all (holdsM vv.data.toList) && q.kno.all (oneM st)))) := fun s hx => by
            have hpl : (List.replicate n vv.data.toList).flatten.length = n * vv.size := by rw [flat_len]; simp
            have hpi : ((List.replicate n vv.data.toList).flatten.length : Int) = (n : Int) * (q.c.max + 1) := by
              rw [hpl, ← kv1, ← hvz]; simp
            have hbd : n * vv.size ≤ 3 * 2049 := Nat.mul_le_mul hn (by omega)
            have hsz : s.size ≤ 1099511627776 := by
              have := congrArg List.length hx
              rw [flat_len] at this
              have h2 : s.data.toList.length = s.size := by simp
              have h3 : vv.data.toList.length = vv.size := by simp
              rw [h3] at this
              have h4 : (n + 1) * vv.size ≤ 4 * 2049 := Nat.mul_le_mul (by omega) (by omega)
              omega
            have := frame_iff st inp hr hbs hbi q.asm q.lem q.kno h1 h2 h3 vv s ((List.replicate n vv.data.toList).flatten) HVX.out (by rw [hx, flat_next]) (by omega) hsz
            rw [hpi, ← HKM.out HRT.out HCQ.out, List.all_map, ← HVX.out] at this
            exact this
          have hvs : vv.size ≤ 2049 := by omega
          clear HVE HVV HVX kv1 kv2 hvz h1 h2 h3 hbs hbi hr HCQ HRT HKM hf3 hf0 hd3 hn3 hfi
          rw [← HEA.out, ← HEL.out, ← HEK.out] at HALL
          go_wp2
          go_loopw [14, 13] (fun i x wr => ∃ (k : Nat) (y : ByteArray), k ≤ n + 1 ∧ i = .int .i64 k ∧ x = .string y ∧ y.data.toList = (List.replicate k vv.data.toList).flatten ∧ wr = w5) (fun i _ _ => n + 1 - (intOf i).toNat)
          case atStart => exact ⟨0, _, Nat.zero_le _, rfl, rfl, rfl, rfl⟩
          case round =>
            obtain ⟨k, sx, hk, rfl, rfl, hy, rfl⟩ := hrel
            have HY := Lib.hid hy
            have hsxz : sx.size = k * vv.size := by
              have := congrArg List.length hy
              rw [flat_len] at this
              simpa using this
            have hbd : k * vv.size ≤ 4 * 2049 := Nat.mul_le_mul (by omega) hvs
            have hsz2 : sx.size ≤ 8196 := by omega
            clear hy hsxz hbd
            by_cases hlt : k ≤ n
            · have hkz : (k : Int) ≤ (n : Int) := by omega
              have HN : Hid ((sx ++ vv : ByteArray).data.toList = (List.replicate (k + 1) vv.data.toList).flatten) := by
                unfold Hid; rw [data_two, HY.out, flat_next]
              go_wp2
              go_roundw
              case rel => exact ⟨k + 1, _, by omega, by go_num, rfl, HN.out, by first | rfl | trivial⟩
              case measure => simp [intOf]; omega
            · obtain rfl : k = n + 1 := by omega
              have hkz : ¬ (((n + 1 : Nat) : Int) ≤ (n : Int)) := by omega
              have hsx2 : sx.size ≤ 9223372036854775807 := by omega
              have HAL := Lib.hid (HALL.out sx HY.out)
              clear HALL HY
              go_wp2
              obtain ⟨wo, rfl⟩ : ∃ y, y = wr := ⟨_, rfl⟩
              go_loopw [16, 15] (fun i x wr => ∃ k : Nat, k ≤ K.length ∧ i = .int .i64 k ∧ x = .bool ((K.take k).all fun z => oneM sx z.l) ∧ Below wo.heap.size wo wr) (fun i _ _ => K.length - (intOf i).toNat)
              case atStart => exact ⟨0, Nat.zero_le _, rfl, by simp, Below.refl _ _⟩
              case round =>
                obtain ⟨k, hk, rfl, rfl, hb7⟩ := hrel
                have B7 := Lib.hid hb7
                have BW7 : Hid (Below WC.heap.size WC wr) := B5.out.trans (hb7.mono B5.out.size)
                clear hb7
                by_cases hlm : k < K.length
                · obtain ⟨b8, o8, hAB, -, hc⟩ := (HK5.out wr B7.out).at hlm
                  have HZ := Lib.hid (clz_lies ((HK5.out wr B7.out).each _ (List.getElem_mem hlm)))
                  have ON := Lib.hid (one_any sx K[k].l K[k].A K[k].q wr hsx2 HZ.out)
                  have HT : Hid ((K.take (k + 1)).all (fun z => oneM sx z.l) = ((K.take k).all (fun z => oneM sx z.l) && oneM sx K[k].l)) := all_take K _ k hlm
                  have m0 : (0 : Int) ≤ (k : Int) := by omega
                  have m1 : (k : Int) < (K.length : Int) := by omega
                  subst hAB
                  generalize K[k] = z at *
                  generalize (K.take k).all (fun z => oneM sx z.l) = aa at *
                  generalize oneM sx z.l = bb at *
                  cases aa with
                  | false =>
                    go_wp2
                    go_roundw
                    case rel => exact ⟨k + 1, by omega, by go_num, by rw [HT.out]; rfl, B7.out⟩
                    case measure => simp [intOf]; omega
                  | true =>
                    go_wp2_with fail
                    refine ON.out.mono ?_
                    rintro e w' ⟨rfl, rfl⟩
                    go_wp2
                    go_roundw
                    case rel => exact ⟨k + 1, by omega, by go_num, by rw [HT.out]; rfl, B7.out⟩
                    case measure => simp [intOf]; omega
                · obtain rfl : k = K.length := by omega
                  rw [List.take_length, HAL.out]
                  have hvv2 : vv.size ≤ 9223372036854775807 := by omega
                  have QL := Lib.hid (HQ.out wr BW7.out)
                  have RA := Lib.hid (refallowed_any q.c t.s t.La t.Aa t.qa vv wr QL.out.c HF.out hvv2 (by have := HF.out.lc; omega) QL.out.a)
                  unfold cirV at RA
                  rw [show cirC q.c t.s = #[.int .i64 q.c.max, .slice t.s.ai q.c.ins.length t.s.ki, .slice t.s.al q.c.lats.length t.s.kl, .slice t.s.ao q.c.outs.length t.s.ko, .slice t.s.ab q.c.bads.length t.s.kb, .slice t.s.ac q.c.invs.length t.s.kc, .slice t.s.aa q.c.ands.length t.s.ka, .slice t.s.an q.c.names.length t.s.kn] from rfl] at RA
                  obtain ⟨f0, f1, f2, f3, f4, f5, f6, f7, f8, f9, f10, f11, f12, f13⟩ := cells14 (GQ.out _ BW7.out)
                  obtain ⟨e0, e1, e2, e3, e4, e5, e6, e7⟩ := cells8 (GC.out _ BW7.out)
                  have HKN : Hid ((t.Lk.map Clz.l).all (oneM st) = t.Lk.all fun z => oneM st z.l) := by unfold Hid; rw [List.all_map]; rfl
                  rw [HKN.out] at HAL
                  rw [HKN.out]
                  have HLM : Hid ((t.Ll.map Clz.l).all (holdsM vv.data.toList) = t.Ll.all fun z => holdsM vv.data.toList z.l) := by unfold Hid; rw [List.all_map]; rfl
                  rw [HLM.out]
                  have RIN := Lib.hid (fun x (hx : Below WC.heap.size WC x) => refin_any t.Lk t.Ak t.qk st x (HQ.out x hx).k hs)
                  generalize allowedM q.c (t.La.map Clz.l) vv.data.toList = ya at *
                  generalize (t.Lk.all fun z => oneM st z.l) = yk at *
                  have HEQ : Hid (∀ yl : Bool, ((ya && (yl && yk)) == ((ya && yk) && yl)) = true) := fun yl => by cases ya <;> cases yk <;> cases yl <;> rfl
                  obtain ⟨yl, hyl⟩ : ∃ y, (t.Ll.all fun z => holdsM vv.data.toList z.l) = y := ⟨_, rfl⟩
                  rw [hyl]
                  have HYL := Lib.hid hyl
                  clear hyl HKN HLM HAL
                  cases ya with
                  | false =>
                    go_wp2_with fail
                    refine RA.out.mono ?_
                    rintro e w8 ⟨rfl, hb8⟩
                    have BO : Hid (Below WC.heap.size WC w8) := BW7.out.trans (hb8.mono BW7.out.size)
                    clear hb8 RA f0 f1 f2 f3 f4 f5 f6 f7 f8 f9 f10 f11 f12 f13 e0 e1 e2 e3 e4 e5 e6 e7
                    obtain ⟨f0, f1, f2, f3, f4, f5, f6, f7, f8, f9, f10, f11, f12, f13⟩ := cells14 (GQ.out _ BO.out)
                    obtain ⟨e0, e1, e2, e3, e4, e5, e6, e7⟩ := cells8 (GC.out _ BO.out)
                    go_wp2
                    clear f0 f1 f2 f3 f4 f5 f6 f7 f8 f9 f10 f11 f12 f13 e0 e1 e2 e3 e4 e5 e6 e7
                    have LBo := Lib.hid BO.out
                    go_loopw [18, 17] (fun i x wr => ∃ k : Nat, k ≤ t.Ll.length ∧ i = .int .i64 k ∧ x = .bool (false && (t.Ll.take k).all fun z => holdsM vv.data.toList z.l) ∧ Below WC.heap.size WC wr) (fun i _ _ => t.Ll.length - (intOf i).toNat)
                    case atStart => exact ⟨0, Nat.zero_le _, rfl, by simp, BO.out⟩
                    case round =>
                      obtain ⟨k, hk, rfl, rfl, hb9⟩ := hrel
                      have B9 := Lib.hid hb9
                      clear hb9
                      obtain ⟨f0, f1, f2, f3, f4, f5, f6, f7, f8, f9, f10, f11, f12, f13⟩ := cells14 (GQ.out _ B9.out)
                      obtain ⟨e0, e1, e2, e3, e4, e5, e6, e7⟩ := cells8 (GC.out _ B9.out)
                      by_cases hlm : k < t.Ll.length
                      · obtain ⟨b8, o8, hAB, -, hc⟩ := (HQ.out wr B9.out).l.at hlm
                        have HZ := Lib.hid (clz_lies ((HQ.out wr B9.out).l.each _ (List.getElem_mem hlm)))
                        have HO := Lib.hid (refholds_any vv t.Ll[k].l t.Ll[k].A t.Ll[k].q wr hvv2 HZ.out.fits HZ.out.len HZ.out.row)
                        have HT : Hid ((t.Ll.take (k + 1)).all (fun z => holdsM vv.data.toList z.l) = ((t.Ll.take k).all (fun z => holdsM vv.data.toList z.l) && holdsM vv.data.toList t.Ll[k].l)) := all_take t.Ll _ k hlm
                        have m0 : (0 : Int) ≤ (k : Int) := by omega
                        have m1 : (k : Int) < (t.Ll.length : Int) := by omega
                        rw [hAB] at f9
                        clear hAB
                        generalize t.Ll[k] = z at *
                        generalize (t.Ll.take k).all (fun z => holdsM vv.data.toList z.l) = aa at *
                        generalize holdsM vv.data.toList z.l = bb at *
                        go_wp2
                        go_roundw
                        case rel => exact ⟨k + 1, by omega, by go_num, by rw [Bool.false_and], B9.out⟩
                        case measure => simp [intOf]; omega
                      · obtain rfl : k = t.Ll.length := by omega
                        rw [List.take_length, HYL.out]
                        have hq := HEQ.out yl
                        have B10 := Lib.hid (BW.out wr B9.out)
                        clear HYL HEQ
                        cases yl <;>
                        (go_wp2
                         go_ret
                         exact ⟨rfl, B10.out⟩)
                  | true =>
                    go_wp2_with fail
                    refine RA.out.mono ?_
                    rintro e w8 ⟨rfl, hb8⟩
                    have BO : Hid (Below WC.heap.size WC w8) := BW7.out.trans (hb8.mono BW7.out.size)
                    have RI2 := Lib.hid (RIN.out w8 BO.out)
                    clear hb8 RA f0 f1 f2 f3 f4 f5 f6 f7 f8 f9 f10 f11 f12 f13 e0 e1 e2 e3 e4 e5 e6 e7 RIN
                    obtain ⟨f0, f1, f2, f3, f4, f5, f6, f7, f8, f9, f10, f11, f12, f13⟩ := cells14 (GQ.out _ BO.out)
                    obtain ⟨e0, e1, e2, e3, e4, e5, e6, e7⟩ := cells8 (GC.out _ BO.out)
                    cases yk with
                    | false =>
                      go_wp2_with fail
                      refine RI2.out.mono ?_
                      rintro e w' ⟨rfl, hw'⟩
                      obtain rfl := hw'
                      go_wp2
                      clear f0 f1 f2 f3 f4 f5 f6 f7 f8 f9 f10 f11 f12 f13 e0 e1 e2 e3 e4 e5 e6 e7
                      have LBo := Lib.hid BO.out
                      go_loopw [18, 17] (fun i x wr => ∃ k : Nat, k ≤ t.Ll.length ∧ i = .int .i64 k ∧ x = .bool (false && (t.Ll.take k).all fun z => holdsM vv.data.toList z.l) ∧ Below WC.heap.size WC wr) (fun i _ _ => t.Ll.length - (intOf i).toNat)
                      case atStart => exact ⟨0, Nat.zero_le _, rfl, by simp, BO.out⟩
                      case round =>
                        obtain ⟨k, hk, rfl, rfl, hb9⟩ := hrel
                        have B9 := Lib.hid hb9
                        clear hb9
                        obtain ⟨f0, f1, f2, f3, f4, f5, f6, f7, f8, f9, f10, f11, f12, f13⟩ := cells14 (GQ.out _ B9.out)
                        obtain ⟨e0, e1, e2, e3, e4, e5, e6, e7⟩ := cells8 (GC.out _ B9.out)
                        by_cases hlm : k < t.Ll.length
                        · obtain ⟨b8, o8, hAB, -, hc⟩ := (HQ.out wr B9.out).l.at hlm
                          have HZ := Lib.hid (clz_lies ((HQ.out wr B9.out).l.each _ (List.getElem_mem hlm)))
                          have HO := Lib.hid (refholds_any vv t.Ll[k].l t.Ll[k].A t.Ll[k].q wr hvv2 HZ.out.fits HZ.out.len HZ.out.row)
                          have HT : Hid ((t.Ll.take (k + 1)).all (fun z => holdsM vv.data.toList z.l) = ((t.Ll.take k).all (fun z => holdsM vv.data.toList z.l) && holdsM vv.data.toList t.Ll[k].l)) := all_take t.Ll _ k hlm
                          have m0 : (0 : Int) ≤ (k : Int) := by omega
                          have m1 : (k : Int) < (t.Ll.length : Int) := by omega
                          rw [hAB] at f9
                          clear hAB
                          generalize t.Ll[k] = z at *
                          generalize (t.Ll.take k).all (fun z => holdsM vv.data.toList z.l) = aa at *
                          generalize holdsM vv.data.toList z.l = bb at *
                          go_wp2
                          go_roundw
                          case rel => exact ⟨k + 1, by omega, by go_num, by rw [Bool.false_and], B9.out⟩
                          case measure => simp [intOf]; omega
                        · obtain rfl : k = t.Ll.length := by omega
                          rw [List.take_length, HYL.out]
                          have hq := HEQ.out yl
                          have B10 := Lib.hid (BW.out wr B9.out)
                          clear HYL HEQ
                          cases yl <;>
                          (go_wp2
                           go_ret
                           exact ⟨rfl, B10.out⟩)
                    | true =>
                      go_wp2_with fail
                      refine RI2.out.mono ?_
                      rintro e w' ⟨rfl, hw'⟩
                      obtain rfl := hw'
                      go_wp2
                      clear f0 f1 f2 f3 f4 f5 f6 f7 f8 f9 f10 f11 f12 f13 e0 e1 e2 e3 e4 e5 e6 e7
                      have LBo := Lib.hid BO.out
                      go_loopw [18, 17] (fun i x wr => ∃ k : Nat, k ≤ t.Ll.length ∧ i = .int .i64 k ∧ x = .bool (true && (t.Ll.take k).all fun z => holdsM vv.data.toList z.l) ∧ Below WC.heap.size WC wr) (fun i _ _ => t.Ll.length - (intOf i).toNat)
                      case atStart => exact ⟨0, Nat.zero_le _, rfl, by simp, BO.out⟩
                      case round =>
                        obtain ⟨k, hk, rfl, rfl, hb9⟩ := hrel
                        have B9 := Lib.hid hb9
                        clear hb9
                        obtain ⟨f0, f1, f2, f3, f4, f5, f6, f7, f8, f9, f10, f11, f12, f13⟩ := cells14 (GQ.out _ B9.out)
                        obtain ⟨e0, e1, e2, e3, e4, e5, e6, e7⟩ := cells8 (GC.out _ B9.out)
                        by_cases hlm : k < t.Ll.length
                        · obtain ⟨b8, o8, hAB, -, hc⟩ := (HQ.out wr B9.out).l.at hlm
                          have HZ := Lib.hid (clz_lies ((HQ.out wr B9.out).l.each _ (List.getElem_mem hlm)))
                          have HO := Lib.hid (refholds_any vv t.Ll[k].l t.Ll[k].A t.Ll[k].q wr hvv2 HZ.out.fits HZ.out.len HZ.out.row)
                          have HT : Hid ((t.Ll.take (k + 1)).all (fun z => holdsM vv.data.toList z.l) = ((t.Ll.take k).all (fun z => holdsM vv.data.toList z.l) && holdsM vv.data.toList t.Ll[k].l)) := all_take t.Ll _ k hlm
                          have m0 : (0 : Int) ≤ (k : Int) := by omega
                          have m1 : (k : Int) < (t.Ll.length : Int) := by omega
                          rw [hAB] at f9
                          clear hAB
                          generalize t.Ll[k] = z at *
                          generalize (t.Ll.take k).all (fun z => holdsM vv.data.toList z.l) = aa at *
                          generalize holdsM vv.data.toList z.l = bb at *
                          cases aa with
                          | false =>
                            go_wp2
                            go_roundw
                            case rel => exact ⟨k + 1, by omega, by go_num, by rw [HT.out]; rfl, B9.out⟩
                            case measure => simp [intOf]; omega
                          | true =>
                            go_wp2_with fail
                            refine HO.out.mono ?_
                            rintro e w' ⟨rfl, rfl⟩
                            go_wp2
                            go_roundw
                            case rel => exact ⟨k + 1, by omega, by go_num, by rw [HT.out]; rfl, B9.out⟩
                            case measure => simp [intOf]; omega
                        · obtain rfl : k = t.Ll.length := by omega
                          rw [List.take_length, HYL.out]
                          have hq := HEQ.out yl
                          have B10 := Lib.hid (BW.out wr B9.out)
                          clear HYL HEQ
                          cases yl <;>
                          (go_wp2
                           go_ret
                           exact ⟨rfl, B10.out⟩)
        · have hne : (cq != 0) = true := bne_iff_ne.2 hc0
          have B6 := Lib.hid (BW.out w5 B5.out)
          go_wp2
          go_ret
          exact ⟨by simp, B6.out⟩
      · have hd3 : decide (3 < f) = true := decide_eq_true (by omega)
        have hn3 : 3 < f := by omega
        have B6 := Lib.hid (BW.out w4 B4.out)
        go_wp2
        go_ret
        exact ⟨by simp, B6.out⟩
    · have hne : (ve != 0) = true := bne_iff_ne.2 hv0
      have B6 := Lib.hid (BW.out w4 B4.out)
      go_wp2
      go_ret
      exact ⟨by simp, B6.out⟩
end Go.Proofs.Ytbgcoeejmnejdaa.Unr
namespace Go.Proofs.Ytbgcoeejmnejdaa.Unr
open Go.ChangeShapes Go.WideShapes Go.ChangeAt Go.RowKit Go.Maps Go.Deep Circ Cw Rep Cla

section
variable {H : Type} {enc : TypeId × Value → H} {w : World}
set_option maxRecDepth 100000 in
/-- a circuit's eight cells, within something larger -/
theorem open_circ8 {u0 u1 u2 u3 u4 u5 u6 u7 : Value} {fuel : Nat} {d : DataW H} {p : List MemPlace} (hf : DataW.trod enc Try.prog w 0 (fun _ => true) true fuel 27 [u0, u1, u2, u3, u4, u5, u6, u7] = some (d, p))
    (hw : ∀ n ∈ DataW.weights Try.prog 27 d, n ≤ reachBytes) : ∃ (c : Cir) (s : Places), u0 = .int .i64 c.max ∧ u1 = .slice s.ai c.ins.length s.ki ∧ u2 = .slice s.al c.lats.length s.kl ∧ u3 = .slice s.ao c.outs.length s.ko ∧ u4 = .slice s.ab c.bads.length s.kb ∧ u5 = .slice s.ac c.invs.length s.kc ∧ u6 = .slice s.aa c.ands.length s.ka ∧ u7 = .slice s.an c.names.length s.kn ∧ CLies w w.heap.size c s ∧ CFits c s := by
  obtain ⟨xs, n, _, hx, _, hlen, hg⟩ := DataW.trod_struct Try.underlying27 hf
  obtain ⟨y0, y1, y2, y3, y4, y5, y6, y7, rfl⟩ := eight_of xs hlen
  have g0 := hg 0 _ rfl
  have g1 := hg 1 _ rfl
  have g2 := hg 2 _ rfl
  have g3 := hg 3 _ rfl
  have g4 := hg 4 _ rfl
  have g5 := hg 5 _ rfl
  have g6 := hg 6 _ rfl
  have g7 := hg 7 _ rfl
  simp [c3, c22, c23, c24, c25] at g0 g1 g2 g3 g4 g5 g6 g7
  obtain ⟨x0, e0, f0⟩ := el_int g0
  obtain ⟨A1, l1, q1, e1, r1, f1, k1, z1⟩ := open_rows 1 (by decide) (fun x : Int => [Value.int .i64 x]) I64 (fun _ => rfl) Try.underlying22 c3 (fun n cs' y h => el_int h) g1
  obtain ⟨A2, l2, q2, e2, r2, f2, k2, z2⟩ := open_rows 3 (by decide) Tri.cells Tri.fits tri_len Try.underlying23 c47 (fun n cs' y h => el_tri _ _ _ ⟨rfl, rfl⟩ ⟨rfl, rfl⟩ ⟨rfl, rfl⟩ Try.underlying39 c47 h) g2
  obtain ⟨A3, l3, q3, e3, r3, f3, k3, z3⟩ := open_rows 1 (by decide) (fun x : Int => [Value.int .i64 x]) I64 (fun _ => rfl) Try.underlying22 c3 (fun n cs' y h => el_int h) g3
  obtain ⟨A4, l4, q4, e4, r4, f4, k4, z4⟩ := open_rows 1 (by decide) (fun x : Int => [Value.int .i64 x]) I64 (fun _ => rfl) Try.underlying22 c3 (fun n cs' y h => el_int h) g4
  obtain ⟨A5, l5, q5, e5, r5, f5, k5, z5⟩ := open_rows 1 (by decide) (fun x : Int => [Value.int .i64 x]) I64 (fun _ => rfl) Try.underlying22 c3 (fun n cs' y h => el_int h) g5
  obtain ⟨A6, l6, q6, e6, r6, f6, k6, z6⟩ := open_rows 3 (by decide) Tri.cells Tri.fits tri_len Try.underlying24 c40 (fun n cs' y h => el_tri _ _ _ ⟨rfl, rfl⟩ ⟨rfl, rfl⟩ ⟨rfl, rfl⟩ Try.underlying43 c40 h) g6
  obtain ⟨A7, l7, q7, e7, r7, f7, k7, z7⟩ := open_rows 3 (by decide) Nam.cells Nam.fits nam_len Try.underlying25 c45 (fun n cs' y h => el_nam h) g7
  simp at e0 e1 e2 e3 e4 e5 e6 e7
  subst e0; subst e1; subst e2; subst e3; subst e4; subst e5; subst e6; subst e7
  have hd : d = .agg [y0.1, y1.1, y2.1, y3.1, y4.1, y5.1, y6.1, y7.1] := by
    simp only [Prod.mk.injEq] at hx
    simpa using hx.1
  subst hd
  have hm : ∀ (t : TypeId) (x : DataW H) (j : Nat), (Try.prog.underlying 27 = some (.struct (#[] : Array Field)) → False) → ([3, 22, 23, 22, 22, 22, 24, 25] : List TypeId)[j]? = some t → ([y0.1, y1.1, y2.1, y3.1, y4.1, y5.1, y6.1, y7.1] : List (DataW H))[j]? = some x → ∀ n ∈ DataW.weights Try.prog t x, n ≤ reachBytes := fun t x j _ ht hx n hn => by
    refine hw n ?_
    simp only [DataW.weights, Try.underlying27]
    exact DataW.weights_mem_each (ts := [3, 22, 23, 22, 22, 22, 24, 25]) ht hx n hn
  have hE : Try.prog.underlying 27 = some (.struct (#[] : Array Field)) → False := by rw [Try.underlying27]; simp
  refine ⟨⟨x0, l1, l2, l3, l4, l5, l6, l7⟩, ⟨A1, A2, A3, A4, A5, A6, A7, q1, q2, q3, q4, q5, q6, q7⟩, rfl, rfl, rfl, rfl, rfl, rfl, rfl, rfl, ⟨r1, r2, r3, r4, r5, r6, r7⟩, ?_⟩
  exact ⟨f0, f1, f3, f4, f5, f2, f6, f7,
    row_bytes 8 (by kernel_rfl) Try.underlying22 z1 (hm 22 _ 1 hE rfl rfl), row_bytes 8 (by kernel_rfl) Try.underlying22 z3 (hm 22 _ 3 hE rfl rfl), row_bytes 8 (by kernel_rfl) Try.underlying22 z4 (hm 22 _ 4 hE rfl rfl), row_bytes 8 (by kernel_rfl) Try.underlying22 z5 (hm 22 _ 5 hE rfl rfl),
    row_bytes 24 (by kernel_rfl) Try.underlying23 z2 (hm 23 _ 2 hE rfl rfl), row_bytes 24 (by kernel_rfl) Try.underlying24 z6 (hm 24 _ 6 hE rfl rfl), row_bytes 40 (by kernel_rfl) Try.underlying25 z7 (hm 25 _ 7 hE rfl rfl),
    k1, k3, k4, k5, k2, k6, k7⟩
/-- a list of clauses, within something larger -/
theorem open_clsNB {fuel : Nat} {cs : List Value} {x : DataW H × List MemPlace} (ht : DataW.trod enc Try.prog w 0 (fun _ => true) true fuel 58 cs = some x)
    (hw : ∀ n ∈ DataW.weights Try.prog 58 x.1, n ≤ reachBytes) : ∃ (A : Option Addr) (L : List Clz) (q : Nat), cs = [.slice A L.length q] ∧ ALies w w.heap.size A L ∧ (∀ z ∈ L, z.l.length * 8 ≤ 140737488355328) ∧ (L = [] ∨ ∃ es sp : List (DataW H), x.1 = .slice es sp ∧ es.length = L.length) := by
  obtain ⟨A1, L, q1, e1, r1, f1, k1, z1⟩ := open_rowsW 1 (by decide) Clz.cells (fun z => z.Lies w w.heap.size ∧ z.l.length * 8 ≤ 140737488355328) (fun _ => rfl) Try.underlying58 (by kernel_rfl) (fun n cs' y h hk => by
    obtain ⟨A2, cl, q2, e2, r2, f2, k2, z2⟩ := open_rows 1 (by decide) (fun x : Int => [Value.int .i64 x]) I64 (fun _ => rfl) Try.underlying22 c3 (fun n cs' y h => el_int h) h
    have hbl : cl.length * 8 ≤ 140737488355328 := row_bytes (l := cl) 8 (by kernel_rfl) Try.underlying22 z2 hk
    have hlen : cl.length ≤ 9223372036854775807 := by omega
    exact ⟨⟨cl, A2, q2⟩, e2, ⟨r2, f2, hlen⟩, hbl⟩) ht hw
  have hbl : L.length * 24 ≤ 140737488355328 := row_bytes (l := L) 24 (by kernel_rfl) Try.underlying58 z1 hw
  have hlen : L.length ≤ 9223372036854775807 := by omega
  exact ⟨A1, L, q1, e1, ⟨r1, fun z hz => (f1 z hz).1, hlen⟩, fun z hz => (f1 z hz).2, z1⟩
theorem fourteen_of {α : Type} (l : List α) (h : l.length = 14) : ∃ a b c d e f g i j k m n o p, l = [a, b, c, d, e, f, g, i, j, k, m, n, o, p] := by
  match l, h with
  | [a, b, c, d, e, f, g, i, j, k, m, n, o, p], _ => exact ⟨a, b, c, d, e, f, g, i, j, k, m, n, o, p, rfl⟩
theorem seven_of {α : Type} (l : List α) (h : l.length = 7) : ∃ a b c d e f g, l = [a, b, c, d, e, f, g] := by
  match l, h with
  | [a, b, c, d, e, f, g], _ => exact ⟨a, b, c, d, e, f, g, rfl⟩
theorem row_bulk {L : List Clz} {d : DataW H} (h : L = [] ∨ ∃ es sp : List (DataW H), d = .slice es sp ∧ es.length = L.length) : L.length ≤ Rows.uptoBulk d := by
  rcases h with rfl | ⟨es, sp, rfl, e⟩
  · exact Nat.zero_le _
  · have := bulk_len es
    simp only [Rows.uptoBulk]
    omega
set_option maxHeartbeats 4000000 in
set_option maxRecDepth 100000 in
/-- an argument that is a question -/
theorem open_que {r : Reach} {b0 : Nat} {v : Value} {d : DataW H} {p : List MemPlace} (hv : Value.okWide Try.prog w r b0 60 v) (h : DataW.Trod enc Try.prog w 0 (fun _ => true) true 60 v d p)
    (hw : ∀ n ∈ DataW.weights Try.prog 60 d, n ≤ reachBytes) : ∃ (q : Que) (t : QPlaces), v = .agg (queC q t) ∧ QLies w w.heap.size q t ∧ CFits q.c t.s ∧ I64 q.bad ∧ I64 q.depth ∧ I64 q.budget ∧ (∀ l ∈ q.asm, l.length ≤ 17592186044416) ∧ (∀ l ∈ q.lem, l.length ≤ 17592186044416) ∧ (∀ l ∈ q.kno, l.length ≤ 17592186044416) ∧
      q.asm.length + q.lem.length + q.kno.length ≤ Rows.uptoBulk d := by
  obtain ⟨cs, rfl, hsz⟩ := okWide_struct Try.underlying60 hv
  have cq : Try.prog.cellsOf 60 = 14 := by kernel_rfl
  rw [cq] at hsz
  obtain ⟨l⟩ := cs
  obtain ⟨u0, u1, u2, u3, u4, u5, u6, u7, u8, u9, u10, u11, u12, u13, rfl⟩ := fourteen_of l hsz
  obtain ⟨fuel, hf⟩ := h
  obtain ⟨xs, n, _, hx, _, hlen, hg⟩ := DataW.trod_struct Try.underlying60 hf
  obtain ⟨y0, y1, y2, y3, y4, y5, y6, rfl⟩ := seven_of xs hlen
  have g0 := hg 0 _ rfl
  have g1 := hg 1 _ rfl
  have g2 := hg 2 _ rfl
  have g3 := hg 3 _ rfl
  have g4 := hg 4 _ rfl
  have g5 := hg 5 _ rfl
  have g6 := hg 6 _ rfl
  have cS : Try.prog.cellsOf 58 = 1 := by kernel_rfl
  simp [Value.cells, c3, c27, cS] at g0 g1 g2 g3 g4 g5 g6
  have hd : d = .agg [y0.1, y1.1, y2.1, y3.1, y4.1, y5.1, y6.1] := by
    simp only [Prod.mk.injEq] at hx
    simpa using hx.1
  subst hd
  have hm : ∀ (j : Nat) (t : TypeId) (x : DataW H), ([27, 58, 58, 58, 3, 3, 3] : List TypeId)[j]? = some t → ([y0.1, y1.1, y2.1, y3.1, y4.1, y5.1, y6.1] : List (DataW H))[j]? = some x → ∀ n ∈ DataW.weights Try.prog t x, n ≤ reachBytes := fun j t x ht hx n hn => by
    refine hw n ?_
    simp only [DataW.weights, Try.underlying60]
    exact DataW.weights_mem_each (ts := [27, 58, 58, 58, 3, 3, 3]) ht hx n hn
  obtain ⟨c, s, c0, c1, c2, c3', c4, c5, c6, c7, lc, fc⟩ := open_circ8 (d := y0.1) (p := y0.2) g0 (hm 0 27 _ rfl rfl)
  obtain ⟨A1, L1, q1, e1, r1, k1, z1⟩ := open_clsNB g1 (hm 1 58 _ rfl rfl)
  obtain ⟨A2, L2, q2, e2, r2, k2, z2⟩ := open_clsNB g2 (hm 2 58 _ rfl rfl)
  obtain ⟨A3, L3, q3, e3, r3, k3, z3⟩ := open_clsNB g3 (hm 3 58 _ rfl rfl)
  obtain ⟨x4, e4, f4⟩ := el_int g4
  obtain ⟨x5, e5, f5⟩ := el_int g5
  obtain ⟨x6, e6, f6⟩ := el_int g6
  simp at e1 e2 e3 e4 e5 e6
  subst c0; subst c1; subst c2; subst c3'; subst c4; subst c5; subst c6; subst c7; subst e1; subst e2; subst e3; subst e4; subst e5; subst e6
  have b1 := row_bulk z1
  have b2 := row_bulk z2
  have b3 := row_bulk z3
  have inn : ∀ L : List Clz, (∀ z ∈ L, z.l.length * 8 ≤ 140737488355328) → ∀ l ∈ L.map Clz.l, l.length ≤ 17592186044416 := fun L h l hl => by
    obtain ⟨z, hz, rfl⟩ := List.mem_map.1 hl
    have := h z hz
    omega
  refine ⟨⟨c, L1.map Clz.l, L2.map Clz.l, L3.map Clz.l, x4, x5, x6⟩, ⟨s, L1, L2, L3, A1, A2, A3, q1, q2, q3⟩, rfl, ⟨lc, r1, r2, r3, rfl, rfl, rfl⟩, fc, f4, f5, f6, inn L1 k1, inn L2 k2, inn L3 k3, ?_⟩
  simp only [Rows.uptoBulk, Rows.uptoBulkAll, List.length_map]
  omega
end
set_option maxRecDepth 100000 in
theorem first_core {N : Nat} (P : Prog13 N) {H : Type} {enc : TypeId × Value → H} (W : World)
    (v0 : Value) (d0 : DataW H) (p0 : List MemPlace) {r0 : Reach} {b0 : Nat} (hv0 : Value.okWide Try.prog W r0 b0 27 v0) (h0 : DataW.Trod enc Try.prog W 0 (fun _ => true) true 27 v0 d0 p0)
    (s1 : ByteArray) (hs1 : s1.size ≤ maxLen)
    (s2 : ByteArray) (hs2 : s2.size ≤ maxLen)
    {d1 d2 : DataW H}
    {ts : List TypeId} {ds : List (DataW H)} (hsz : (DataW.weightsEach Try.prog (27 :: 9 :: 9 :: ts) (d0 :: d1 :: d2 :: ds)).all (· ≤ reachBytes) = true) :
    Calls Try.prog 11 #[v0, .string s1, .string s2] W fun e W' => e = .returned (.bool true) ∧ Below W.heap.size W W' := by
  obtain ⟨c0, p0, rfl, l0, f0⟩ := open_circ hv0 h0 (of_weights hsz 0 rfl rfl)
  unfold maxLen at hs1
  unfold maxLen at hs2
  exact first_walk P c0 p0 s1 s2 W l0 f0 hs1 hs2
set_option maxRecDepth 100000 in
theorem apart_core {N : Nat} (P : Prog13 N) {H : Type} {enc : TypeId × Value → H} (W : World)
    (v0 : Value) (d0 : DataW H) (p0 : List MemPlace) {r0 : Reach} {b0 : Nat} (hv0 : Value.okWide Try.prog W r0 b0 27 v0) (h0 : DataW.Trod enc Try.prog W 0 (fun _ => true) true 27 v0 d0 p0)
    (s1 : ByteArray) (hs1 : s1.size ≤ maxLen)
    (s2 : ByteArray) (hs2 : s2.size ≤ maxLen)
    {d1 d2 : DataW H}
    {ts : List TypeId} {ds : List (DataW H)} (hsz : (DataW.weightsEach Try.prog (27 :: 9 :: 9 :: ts) (d0 :: d1 :: d2 :: ds)).all (· ≤ reachBytes) = true) :
    Calls Try.prog 10 #[v0, .string s1, .string s2] W fun e W' => e = .returned (.bool true) ∧ Below W.heap.size W W' := by
  obtain ⟨c0, p0, rfl, l0, f0⟩ := open_circ hv0 h0 (of_weights hsz 0 rfl rfl)
  unfold maxLen at hs1
  unfold maxLen at hs2
  exact apart_walk P c0 p0 s1 s2 W l0 f0 hs1 hs2
set_option maxRecDepth 100000 in
theorem frames_coreU (P : Prog13 1048576) {H : Type} {enc : TypeId × Value → H} (W : World)
    (v0 : Value) (d0 : DataW H) (p0 : List MemPlace) {r0 : Reach} {b0 : Nat} (hv0 : Value.okWide Try.prog W r0 b0 60 v0) (h0 : DataW.Trod enc Try.prog W 0 (fun _ => true) true 60 v0 d0 p0)
    (x1 : Int) (lo1 : -9223372036854775808 ≤ x1) (hi1 : x1 ≤ 9223372036854775807)
    (s2 : ByteArray) (hs2 : s2.size ≤ maxLen)
    (s3 : ByteArray) (hs3 : s3.size ≤ maxLen)
    {d1 d2 d3 : DataW H}
    (hbulk : Rows.uptoBulkAll [d0, d1, d2, d3] ≤ 1048576)
    {ts : List TypeId} {ds : List (DataW H)} (hsz : (DataW.weightsEach Try.prog (60 :: 3 :: 9 :: 9 :: ts) (d0 :: d1 :: d2 :: d3 :: ds)).all (· ≤ reachBytes) = true) :
    Calls Try.prog 9 #[v0, .int .i64 x1, .string s2, .string s3] W fun e W' => e = .returned (.bool true) ∧ Below W.heap.size W W' := by
  obtain ⟨q0, t0, rfl, l0, f0, i1, i2, i3, m1, m2, m3, hb⟩ := open_que hv0 h0 (of_weights hsz 0 rfl rfl)
  simp only [Rows.uptoBulkAll] at hbulk
  unfold maxLen at hs2
  unfold maxLen at hs3
  exact frames_walk P q0 t0 x1 s2 s3 W l0 f0 i1 i2 i3 ⟨lo1, hi1⟩ hs2 hs3 (by omega) (by omega) (by omega) m1 m2 m3
end Go.Proofs.Ytbgcoeejmnejdaa.Unr
