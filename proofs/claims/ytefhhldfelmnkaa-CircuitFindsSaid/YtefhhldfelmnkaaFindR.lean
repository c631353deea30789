/- The pages' own Find, walked; no condition. -/
import Derived.Test.YtefhhldfelmnkaaFind
import Derived.Test.YtefhhldfelmnkaaRefB
namespace Go.Proofs.Ytefhhldfelmnkaa.Cw
open Go.ChangeShapes Go.WideShapes Go.ChangeAt Go.RowKit Go.Maps Circ

set_option maxHeartbeats 8000000 in
set_option maxRecDepth 100000 in
theorem reffind_any (c : Cir) (s : Places) (t : ByteArray) (w : World) (h : CLies w w.heap.size c s) (hf : CFits c s) :
    Calls Try.prog 19 #[cirV c s, .string t] w fun e w' => e = foundE id (findV c t c.names) ∧ Below w.heap.size w w' := by
  have ln := hf.ln
  have li := hf.li
  have ll := hf.ll
  have lo := hf.lo
  have lb := hf.lb
  have lc := hf.lc
  have H := Lib.hid h
  have HB0 : Hid (Below w.heap.size w (w.alloc (.cells (cirC c s) 27))) := (Below.refl _ _).alloc (Nat.le_refl _) _
  have HS1 : Hid ((w.alloc (.cells (cirC c s) 27)).heap.size = w.heap.size + 1) := by unfold Hid; simp
  have OF := Lib.hid (fun x w1 => of_any c s x w1)
  clear h hf
  unfold cirV at *
  rw [show cirC c s = #[.int .i64 c.max, .slice s.ai c.ins.length s.ki, .slice s.al c.lats.length s.kl, .slice s.ao c.outs.length s.ko, .slice s.ab c.bads.length s.kb, .slice s.ac c.invs.length s.kc, .slice s.aa c.ands.length s.ka, .slice s.an c.names.length s.kn] from rfl] at OF ⊢
  go_enter Try.func19, Try.ntmps19
  go_wp2
  go_loopw [6] (fun i wr => ∃ k : Nat, k ≤ c.names.length ∧ i = .int .i64 k ∧ findV c t (c.names.drop k) = findV c t c.names ∧ Below (w.heap.size + 1) (w.alloc (.cells (cirC c s) 27)) wr) (fun i _ => c.names.length - (intOf i).toNat)
  case atStart => exact ⟨0, Nat.zero_le _, rfl, rfl, Below.refl _ _⟩
  case round =>
    obtain ⟨k, hk, rfl, hno, hb⟩ := hrel
    have HN := Lib.hid hno; clear hno
    have hbw : Below w.heap.size w wr := HB0.out.trans (hb.mono (by omega))
    have hwz : w.heap.size + 1 ≤ wr.heap.size := by have := hb.size; rw [show (w.alloc (.cells (cirC c s) 27)).heap.size = w.heap.size + 1 from HS1.out] at this; exact this
    obtain ⟨e0, e1, e2, e3, e4, e5, e6, e7⟩ := ((Box.made w c s).keep hb (Nat.lt_succ_self _)).cells
    by_cases hlt : k < c.names.length
    · obtain ⟨b, o, ha, hbb, hx0, hx1, hx2⟩ := (H.out.names.below hbw).nam hlt
      have HD := Lib.hid (findV_drop c t c.names k hlt)
      have HAn : Hid (s.an = some ⟨b, o, none⟩) := ha
      rw [ha] at OF
      rw [ha] at e7
      rw [ha]
      clear ha
      generalize c.names[k].kind = x at *
      generalize c.names[k].num = y at *
      generalize c.names[k].text = z at *
      have hb5 := hb.alloc hwz (.cells #[.string x, .int .i64 y, .string z] 45)
      have hz5 : w.heap.size + 1 ≤ (wr.alloc (.cells #[.string x, .int .i64 y, .string z] 45)).heap.size := by simp; omega
      have hbz : Below wr.heap.size wr (wr.alloc (.cells #[.string x, .int .i64 y, .string z] 45)) := (Below.refl _ _).alloc (Nat.le_refl _) _
      obtain ⟨n0, n1, n2⟩ := nam_cells wr x y z 45 _ (Below.refl _ _)
      have HE := Lib.hid (And.intro (cell_later hbz e0) (And.intro (cell_later hbz e1) (And.intro (cell_later hbz e2) (And.intro (cell_later hbz e3) (And.intro (cell_later hbz e4) (And.intro (cell_later hbz e5) (And.intro (cell_later hbz e6) (cell_later hbz e7))))))))
      clear hbz
      go_wp2
      generalize hW5 : wr.alloc (.cells #[.string x, .int .i64 y, .string z] 45) = W5 at *
      have HW5 := Lib.hid hW5; clear hW5
      obtain ⟨i0, i1, i2, i3, i4, i5, i6, i7⟩ := HE.out
      have u0 := Wd.cell i0
      have u1 := Wd.cell i1
      have u2 := Wd.cell i2
      have u3 := Wd.cell i3
      have u4 := Wd.cell i4
      have u5 := Wd.cell i5
      have u6 := Wd.cell i6
      have u7 := Wd.cell i7
      have v0 := Wd.cell n0
      have v1 := Wd.cell n1
      have v2 := Wd.cell n2
      clear e0 e1 e2 e3 e4 e5 e6 e7 i0 i1 i2 i3 i4 i5 i6 i7
      have KK := Lib.hid (fun (u : Wd W5.heap.size W5) => Calls.in_wd u (OF.out x u.w) (Nat.le_refl _))
      cases hq : z.toList == t.toList
      case false =>
        have hq2 : (z.toList != t.toList) = true := by unfold bne; rw [hq]; rfl
        have HQ : Hid (findV c t (c.names.drop (k + 1)) = findV c t c.names) := by unfold Hid; rw [← HN.out, HD.out, hq]; rfl
        refine wp_region_wd (by kernel_rfl) (by kernel_rfl) ?_
        repeat (first | go_big_quiet_skip | (go_big_quiet_want; go_big_quiet_op; first | go_big_quiet_on | (apply Exists.intro; refine ⟨fun u => ?_, ?_⟩; (fail); go_big_quiet_on)))
        refine wpQuiet_nil ?_
        intro w9 hw'
        obtain ⟨⟨_, hb9⟩, hw''⟩ := hw'
        subst hw''
        go_wp2
        go_roundw
        case rel => exact ⟨k + 1, by omega, by go_num, HQ.out, hb5.trans (hb9.mono hz5)⟩
        case measure => simp [intOf]; omega
      case true =>
      have hq2 : (z.toList != t.toList) = false := by unfold bne; rw [hq]; rfl
      rw [hq] at HD
      by_cases c1 : y < 0
      case pos =>
        have HQ : Hid (findV c t (c.names.drop (k + 1)) = findV c t c.names) := by unfold Hid; rw [← HN.out, HD.out, decide_eq_false (show ¬ 0 ≤ y by omega)]; simp
        refine wp_region_wd (by kernel_rfl) (by kernel_rfl) ?_
        repeat (first | go_big_quiet_skip | (go_big_quiet_want; go_big_quiet_op; first | go_big_quiet_on | (apply Exists.intro; refine ⟨fun u => ?_, ?_⟩; (fail); go_big_quiet_on)))
        refine wpQuiet_nil ?_
        intro w9 hw'
        obtain ⟨⟨_, hb9⟩, hw''⟩ := hw'
        subst hw''
        go_wp2
        go_roundw
        case rel => exact ⟨k + 1, by omega, by go_num, HQ.out, hb5.trans (hb9.mono hz5)⟩
        case measure => simp [intOf]; omega
      case neg =>
      obtain ⟨i, rfl⟩ := Int.eq_ofNat_of_zero_le (show 0 ≤ y by omega)
      obtain ⟨n, hn⟩ : ∃ n : Nat, n = (kindLits c x).length := ⟨_, rfl⟩
      rw [← hn] at KK HD
      by_cases c2 : (n : Int) ≤ (i : Int)
      case pos =>
        have c2' : n ≤ i := by omega
        have HQ : Hid (findV c t (c.names.drop (k + 1)) = findV c t c.names) := by unfold Hid; rw [← HN.out, HD.out, decide_eq_false (show ¬ (i : Int) < (n : Int) by omega)]; simp
        clear hn
        refine wp_region_wd (by kernel_rfl) (by kernel_rfl) ?_
        repeat (first | go_big_quiet_skip | (go_big_quiet_want; go_big_quiet_op; first | go_big_quiet_on | (apply Exists.intro; refine ⟨fun u => ?_, ?_⟩; (go_at_call 58; exact KK.out u); go_big_quiet_on)))
        refine wpQuiet_nil ?_
        intro w9 hw'
        obtain ⟨⟨_, hb9⟩, hw''⟩ := hw'
        subst hw''
        go_wp2
        go_roundw
        case rel => exact ⟨k + 1, by omega, by go_num, HQ.out, hb5.trans (hb9.mono hz5)⟩
        case measure => simp [intOf]; omega
      case neg =>
      have c2' : ¬ n ≤ i := by omega
      have hi : i < (kindLits c x).length := by omega
      have HF2 : Hid (findV c t c.names = some ((kindLits c x).getD i 0)) := by
        unfold Hid; rw [← HN.out, HD.out, decide_eq_true (show 0 ≤ (i : Int) by omega), decide_eq_true (show (i : Int) < (n : Int) by omega), if_pos (show (true && (true && true)) = true from rfl), Int.toNat_natCast]
      clear hn
      refine wp_region_wd (by kernel_rfl) (by kernel_rfl) ?_
      repeat (first | go_big_quiet_skip | (go_big_quiet_want; go_big_quiet_op; first | go_big_quiet_on | (apply Exists.intro; refine ⟨fun u => ?_, ?_⟩; (go_at_call 58; exact KK.out u); go_big_quiet_on)))
      refine wpQuiet_nil ?_
      intro w9 hw'
      obtain ⟨⟨_, hb9⟩, hw''⟩ := hw'
      subst hw''
      clear u0 u1 u2 u3 u4 u5 u6 u7 v0 v1 v2 KK
      have m0 := cell_later hb9 n0
      have m1 := cell_later hb9 n1
      have m2 := cell_later hb9 n2
      have hb6 := hb5.trans (hb9.mono hz5)
      have hbw9 : Below w.heap.size w w9 := HB0.out.trans (hb6.mono (by omega))
      obtain ⟨g0, g1, g2, g3, g4, g5, g6, g7⟩ := ((Box.made w c s).keep hb6 (Nat.lt_succ_self _)).cells
      clear n0 n1 n2
      cases s0 : x.toList == [105]
      case true =>
        have hKL : kindLits c x = c.ins := by unfold kindLits; simp [s0]
        rw [hKL] at HF2 hi
        obtain ⟨b2, o2, ha2, hbb2, hcx⟩ := (H.out.ins.below hbw9).int hi
        have HQ : Hid (findV c t c.names = some c.ins[i]) := by
          unfold Hid; rw [HF2.out, List.getD_eq_getElem?_getD]; simp [hi]
        rw [ha2] at g1
        generalize c.ins[i] = l at *
        have hi' : (i : Int) < c.ins.length := by omega
        go_wp2
        go_ret2
        exact ⟨by rw [HQ.out]; rfl, hbw9⟩
      case false =>
      cases s1 : x.toList == [108]
      case true =>
        have hKL : kindLits c x = c.lats.map Tri.a := by unfold kindLits; simp [s0, s1]
        rw [hKL] at HF2 hi
        rw [List.length_map] at hi
        obtain ⟨b2, o2, ha2, hbb2, hcx, -, -⟩ := (H.out.lats.below hbw9).tri hi
        have HQ : Hid (findV c t c.names = some c.lats[i].a) := by
          unfold Hid; rw [HF2.out, List.getD_eq_getElem?_getD]; simp [hi]
        rw [ha2] at g2
        generalize c.lats[i].a = l at *
        have hi' : (i : Int) < c.lats.length := by omega
        go_wp2
        go_ret2
        exact ⟨by rw [HQ.out]; rfl, hbw9⟩
      case false =>
      cases s2 : x.toList == [111]
      case true =>
        have hKL : kindLits c x = c.outs := by unfold kindLits; simp [s0, s1, s2]
        rw [hKL] at HF2 hi
        obtain ⟨b2, o2, ha2, hbb2, hcx⟩ := (H.out.outs.below hbw9).int hi
        have HQ : Hid (findV c t c.names = some c.outs[i]) := by
          unfold Hid; rw [HF2.out, List.getD_eq_getElem?_getD]; simp [hi]
        rw [ha2] at g3
        generalize c.outs[i] = l at *
        have hi' : (i : Int) < c.outs.length := by omega
        go_wp2
        go_ret2
        exact ⟨by rw [HQ.out]; rfl, hbw9⟩
      case false =>
      cases s3 : x.toList == [98]
      case true =>
        have hKL : kindLits c x = c.bads := by unfold kindLits; simp [s0, s1, s2, s3]
        rw [hKL] at HF2 hi
        obtain ⟨b2, o2, ha2, hbb2, hcx⟩ := (H.out.bads.below hbw9).int hi
        have HQ : Hid (findV c t c.names = some c.bads[i]) := by
          unfold Hid; rw [HF2.out, List.getD_eq_getElem?_getD]; simp [hi]
        rw [ha2] at g4
        generalize c.bads[i] = l at *
        have hi' : (i : Int) < c.bads.length := by omega
        go_wp2
        go_ret2
        exact ⟨by rw [HQ.out]; rfl, hbw9⟩
      case false =>
      have hKL : kindLits c x = c.invs := by unfold kindLits; simp [s0, s1, s2, s3]
      rw [hKL] at HF2 hi
      obtain ⟨b2, o2, ha2, hbb2, hcx⟩ := (H.out.invs.below hbw9).int hi
      have HQ : Hid (findV c t c.names = some c.invs[i]) := by
        unfold Hid; rw [HF2.out, List.getD_eq_getElem?_getD]; simp [hi]
      rw [ha2] at g5
      generalize c.invs[i] = l at *
      have hi' : (i : Int) < c.invs.length := by omega
      go_wp2
      go_ret2
      exact ⟨by rw [HQ.out]; rfl, hbw9⟩
    · obtain rfl : k = c.names.length := by omega
      rw [List.drop_length] at HN
      go_wp2
      go_ret2
      exact ⟨by rw [← HN.out]; rfl, hbw⟩
end Go.Proofs.Ytefhhldfelmnkaa.Cw
