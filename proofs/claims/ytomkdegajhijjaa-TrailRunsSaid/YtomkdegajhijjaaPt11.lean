/- TrailRuns, from what it asks of the program's own trail; condition: the calls lie in memory. -/
import Derived.Test.YtomkdegajhijjaaPt05
import Derived.Deep.CutBlock
import Derived.Deep.DeepCutAuto
import Derived.BigQuiet
namespace Go.Proofs.Ytomkdegajhijjaa.Tra
open Go.ChangeShapes Go.WideShapes Go.ChangeAt Go.RowKit Go.Maps Circ Cw Cla

theorem num_i64 (n : Int) (h0 : -1000 ≤ n) (h1 : n ≤ 1000) : I64 n := ⟨by omega, by omega⟩
set_option maxHeartbeats 8000000 in
set_option maxRecDepth 100000 in
theorem alive_any {I : TrailI} (P : Prog15 I) (w : World) : Calls Try.prog 6 #[] w fun e w' => e = .returned (.bool true) ∧ Below w.heap.size w w' := by
  have P0 := Lib.hid (P.new 2 w (by decide) (by decide))
  go_enter Try.func6, Try.ntmps6
  go_wp2_with fail
  refine P0.out.mono ?_
  rintro e w1 ⟨⟨b, rfl, ha, ho⟩, hb⟩
  have J1 := Lib.hid (Inv.start ha ho hb)
  clear ha ho hb P0
  have P1 := Lib.hid (P.put w1 b _ _ _ 1 0 J1.out.at_ (num_i64 _ (by decide) (by decide)) (num_i64 _ (by decide) (by decide)))
  rw [show mayPut 2 [] 1 = true from by decide, show putL 2 [] 0 1 0 = [⟨1, 0, 0⟩] from rfl] at P1
  go_wp2_with fail
  refine P1.out.mono ?_
  rintro e w2 ⟨rfl, ha, he⟩
  have J2 := Lib.hid (J1.out.eff ha he)
  clear ha he P1 J1
  have P2 := Lib.hid (P.deeper w2 b _ _ _ J2.out.at_ (by decide))
  go_wp2_with fail
  refine P2.out.mono ?_
  rintro e w3 ⟨rfl, ha, he⟩
  have J3 := Lib.hid (J2.out.eff ha he)
  clear ha he P2 J2
  have P3 := Lib.hid (P.put w3 b _ _ _ (-2) 7 J3.out.at_ (num_i64 _ (by decide) (by decide)) (num_i64 _ (by decide) (by decide)))
  rw [show mayPut 2 [(⟨1, 0, 0⟩ : Tri)] (-2) = true from by decide, show putL 2 [(⟨1, 0, 0⟩ : Tri)] (0 + 1) (-2) 7 = [⟨1, 0, 0⟩, ⟨-2, 1, 7⟩] from rfl] at P3
  go_wp2_with fail
  refine P3.out.mono ?_
  rintro e w4 ⟨rfl, ha, he⟩
  have J4 := Lib.hid (J3.out.eff ha he)
  clear ha he P3 J3
  have P4 := Lib.hid (P.back w4 b _ _ _ 0 J4.out.at_ (num_i64 _ (by decide) (by decide)))
  rw [show backL [(⟨1, 0, 0⟩ : Tri), ⟨-2, 1, 7⟩] (0 + 1) 0 = [⟨1, 0, 0⟩] from rfl, show backD (0 + 1) 0 = 0 from rfl] at P4
  go_wp2_with fail
  refine P4.out.mono ?_
  rintro e w5 ⟨rfl, ha, he⟩
  have J5 := Lib.hid (J4.out.eff ha he)
  clear ha he P4 J4
  have P5 := Lib.hid (fun x hx => P.value x b _ _ _ 2 (J5.out.later P hx).at_ (num_i64 _ (by decide) (by decide)))
  have P6 := Lib.hid (fun x hx => P.value x b _ _ _ 1 (J5.out.later P hx).at_ (num_i64 _ (by decide) (by decide)))
  have P7 := Lib.hid (fun x hx => P.level x b _ _ _ 1 (J5.out.later P hx).at_ (num_i64 _ (by decide) (by decide)))
  rw [show valM [(⟨1, 0, 0⟩ : Tri)] 2 = 0 from by decide] at P5
  rw [show valM [(⟨1, 0, 0⟩ : Tri)] 1 = 1 from by decide] at P6
  rw [show levM [(⟨1, 0, 0⟩ : Tri)] 1 = 0 from by decide] at P7
  go_wp2_with fail
  refine (P5.out w5 (Below.refl _ _)).mono ?_
  rintro e w6 ⟨rfl, h6⟩
  have B6 := Lib.hid h6
  clear h6
  go_wp2_with fail
  refine (P6.out w6 B6.out).mono ?_
  rintro e w7 ⟨rfl, h7⟩
  have B7 := Lib.hid (B6.out.trans (h7.mono B6.out.size))
  clear h7
  go_wp2_with fail
  refine (P7.out w7 B7.out).mono ?_
  rintro e w8 ⟨rfl, h8⟩
  have B8 := Lib.hid (J5.out.later P (B7.out.trans (h8.mono B7.out.size))).bl
  clear h8
  go_wp2
  go_ret
  exact ⟨rfl, B8.out⟩
theorem mod_n (n m : Int) (hm : m = 3 ∨ m = 4 ∨ m = 6 ∨ m = 7) : 0 ≤ (wrap64 (n.tmod m + m)).tmod m ∧ (wrap64 (n.tmod m + m)).tmod m ≤ m - 1 := by
  have h0 : n.tmod m = n - m * (n.tdiv m) := Int.tmod_def n m
  have hp : 0 < m := by omega
  have h1 : -m < n.tmod m ∧ n.tmod m < m := ⟨Int.lt_tmod_of_pos n hp, Int.tmod_lt_of_pos n hp⟩
  have h2 : wrap64 (n.tmod m + m) = n.tmod m + m := by unfold wrap64; omega
  rw [h2, Int.tmod_eq_emod_of_nonneg (by omega)]
  have h3 := Int.emod_nonneg (n.tmod m + m) (show m ≠ 0 by omega)
  have h4 := Int.emod_lt_of_pos (n.tmod m + m) hp
  omega
/-- what the law's own values keep to, behind k calls -/
structure Ok15 (k : Nat) (vars : Int) (L : List Tri) (d : Int) : Prop where
  vs : 0 ≤ vars ∧ vars ≤ 6 + 2 * (k : Int)
  ds : 0 ≤ d ∧ d ≤ (k : Int)
  num : L.length ≤ k
  fits : ∀ s ∈ L, s.fits ∧ 1 ≤ absW s.a ∧ 0 ≤ s.b ∧ s.b ≤ d
/-- a block that is nobody's -/
structure Bx (I : TrailI) (b g : Nat) (cs : Array Value) (T : TypeId) (w : World) : Prop where
  heap : w.heap[g]? = some (.cells cs T (0, 0))
  free : ¬ I.own w b g
section
variable {I : TrailI} {w0 w w' : World} {b g : Nat} {vars : Int} {hs L : List Tri} {d : Int} {vs : Value} {cs : Array Value} {T : TypeId}
theorem Bx.lt (h : Bx I b g cs T w) : g < w.heap.size := (Array.getElem?_eq_some_iff.1 h.heap).1
theorem Bx.start (P : Prog15 I) (h : Inv I w0 b vars hs L d vs w) (hb : Below w.heap.size w w') (hg : w'.heap[w.heap.size]? = some (.cells cs T (0, 0))) : Bx I b w.heap.size cs T w' := by
  refine ⟨hg, fun ho => ?_⟩
  obtain ⟨-, h2⟩ := P.keep w w' b vars hs d h.at_ hb.size (fun k hk => hb.block k (P.lt w b vars hs d k h.at_ hk))
  have := P.lt w b vars hs d _ h.at_ (h2 _ ho)
  omega
theorem Bx.later (P : Prog15 I) (hx : Bx I b g cs T w) (h : Inv I w0 b vars hs L d vs w) (hb : Below w.heap.size w w') : Bx I b g cs T w' := by
  obtain ⟨-, h2⟩ := P.keep w w' b vars hs d h.at_ hb.size (fun k hk => hb.block k (P.lt w b vars hs d k h.at_ hk))
  exact ⟨(hb.block g hx.lt).trans hx.heap, fun ho => hx.free (h2 g ho)⟩
theorem Bx.eff (hx : Bx I b g cs T w) (he : Eff I w b w') : Bx I b g cs T w' := by
  refine ⟨(he.other g hx.lt hx.free).trans hx.heap, fun ho => ?_⟩
  rcases he.own g ho with h | h
  · exact hx.free h
  · have := hx.lt; omega
theorem own3_type {w : World} {base : Nat} {e : TypeId} {m : Nat} {v : Value} {xs : List (List Value)} (h : OwnC w base e m v xs) {g : Nat} (hg : v.ownBlock = some g) : ∃ cur, w.heap[g]? = some (.cells cur e (0, 0)) := by
  obtain ⟨_, h⟩ := h
  rcases h with ⟨rfl, h0⟩ | ⟨g', cap, cur, rfl, hb, hh, _⟩
  · simp [Value.ownBlock] at hg
  · have : g' = g := by simpa [Value.ownBlock] using hg
    subst this
    exact ⟨cur, hh⟩
theorem Bx.push (P : Prog15 I) (hx : Bx I b g cs T w) (h : Inv I w0 b vars hs L d vs w) (hT : T ≠ 31) (hb : w.heap.size ≤ w'.heap.size) (hk : ∀ k, k < w.heap.size → some k ≠ vs.ownBlock → w'.heap[k]? = w.heap[k]?) : Bx I b g cs T w' := by
  obtain ⟨-, h2⟩ := P.keep w w' b vars hs d h.at_ hb (fun k hk' => hk k (P.lt w b vars hs d k h.at_ hk') (fun e => h.ss k e.symm hk'))
  refine ⟨(hk g hx.lt fun e => ?_).trans hx.heap, fun ho => hx.free (h2 g ho)⟩
  obtain ⟨cur, hc⟩ := own3_type h.os e.symm
  rw [hx.heap] at hc
  injection hc with hc
  injection hc with _ hc _
  exact hT hc
end
theorem set_info : (Try.prog.info? 31).map (fun i => (i.zero, i.size, i.bytes)) = some (some (.agg #[.int .i64 0, .int .i64 0, .int .i64 0]), 3, 24) := by kernel_rfl
theorem int_info : (Try.prog.info? 3).map (fun i => (i.zero, i.size, i.bytes)) = some (some (.int .i64 0), 1, 8) := by kernel_rfl
theorem tris_len (L : List Tri) : (tris L).length = L.length := by simp [tris]
theorem tris_app (L M : List Tri) : tris (L ++ M) = tris L ++ tris M := by simp [tris]
theorem Ok15.next {k : Nat} {vars : Int} {L : List Tri} {d : Int} (h : Ok15 k vars L d) : Ok15 (k + 1) vars L d := ⟨by have := h.vs; omega, by have := h.ds; omega, by have := h.num; omega, h.fits⟩
theorem filter_next (L : List Tri) (p : Tri → Bool) (k : Nat) (hk : k < L.length) : (L.take (k + 1)).filter p = (L.take k).filter p ++ if p L[k] = true then [L[k]] else [] := by
  rw [List.take_succ_eq_append_getElem hk, List.filter_append]
  cases h : p L[k] <;> simp [h]
theorem abs_negW {x : Int} (h : I64 x) : absW (negW x) = absW x := by
  obtain ⟨h0, h1⟩ := h
  unfold absW negW
  repeat' split
  all_goals omega
theorem abs_same {a b : Int} (ha : I64 a) (hb : I64 b) (h : absW a = absW b) : a = b ∨ a = negW b := by
  obtain ⟨h0, h1⟩ := ha
  obtain ⟨h2, h3⟩ := hb
  unfold absW negW at h
  unfold negW
  repeat' split at h
  all_goals (split <;> omega)
theorem negW_i64 {x : Int} (h : I64 x) : I64 (negW x) := by
  obtain ⟨h0, h1⟩ := h
  unfold negW I64
  split <;> omega
theorem at_is {L : List Tri} {v : Int} {s : Tri} (h : atM L v = some s) : s ∈ L ∧ absW s.a = v := by
  unfold atM at h
  exact ⟨List.mem_of_find?_eq_some h, of_decide_eq_true (List.find?_some (p := fun s : Tri => decide (absW s.a = v)) h)⟩
theorem val_neg {L : List Tri} (hL : ∀ s ∈ L, I64 s.a ∧ 1 ≤ absW s.a) {x : Int} (hx : I64 x) : valM L (negW x) = -(valM L x) := by
  unfold valM
  rw [abs_negW hx]
  cases h : atM L (absW x) with
  | none => rfl
  | some s =>
    obtain ⟨h1, h2⟩ := at_is h
    obtain ⟨h3, h4⟩ := hL s h1
    rcases abs_same h3 hx h2 with e | e
    · have hn : ¬ s.a = negW x := fun e2 => by
        rw [e] at e2 h4
        unfold absW at h4
        rw [← e2] at h4
        have : negW x = 0 ∨ x = -9223372036854775808 := by
          unfold negW at e2 ⊢
          split at e2
          · exact .inr ‹_›
          · exact .inl (by rw [if_neg ‹_›]; omega)
        unfold negW at this e2
        split at h4 <;> (split at e2 <;> omega)
      show (if s.a = negW x then (1 : Int) else -1) = -(if s.a = x then (1 : Int) else -1)
      rw [if_neg hn, if_pos e]
    · have hn : ¬ s.a = x := fun e2 => by
        rw [e2] at e h4
        unfold absW at h4
        rw [← e] at h4
        unfold negW at e
        split at h4 <;> (split at e <;> omega)
      show (if s.a = negW x then (1 : Int) else -1) = -(if s.a = x then (1 : Int) else -1)
      rw [if_pos e, if_neg hn]; rfl
theorem val_small (L : List Tri) (x : Int) : -1 ≤ valM L x ∧ valM L x ≤ 1 := by
  unfold valM
  split
  · split <;> omega
  · omega
theorem place_at (L : List Tri) (k : Nat) (h : k < L.length) : placeM L (k : Int) = L[k].a := by
  unfold placeM
  rw [if_pos (by omega), Int.toNat_natCast, List.getElem?_eq_getElem h]
theorem place_end (L : List Tri) : placeM L (L.length : Int) = 0 := by
  unfold placeM
  rw [if_pos (by omega), Int.toNat_natCast, List.getElem?_eq_none (Nat.le_refl _)]
theorem place_neg (L : List Tri) : placeM L (-1) = 0 := rfl
theorem fresh_row {I : TrailI} {w w' : World} {b : Nat} {A : Option Addr} {l : List Int} (h : Fresh I w b w' A l) : LRow w' w'.heap.size 1 A (ints l) := by
  rcases h with h | ⟨g, o, _, _, _, h⟩
  · left; rw [h]; rfl
  · exact h
set_option maxHeartbeats 16000000 in
set_option maxRecDepth 100000 in
theorem runs_walk {I : TrailI} (P : Prog15 I) (n : Int) (l : List Tri) (A : Option Addr) (q : Nat) (w : World) (hn : I64 n) (hl : LRow w w.heap.size 3 A (tris l)) (hf : ∀ t ∈ l, t.fits) (_hll : l.length ≤ 9223372036854775807) :
    Calls Try.prog 3 #[.int .i64 n, .slice A l.length q] w fun e w' => e = .returned (.bool true) ∧ Below w.heap.size w w' := by
  have AL := Lib.hid (alive_any P w)
  go_enter Try.func3, Try.ntmps3
  go_wp2_with fail
  refine AL.out.mono ?_
  rintro e w1 ⟨rfl, hb1⟩
  obtain ⟨hn1, hn2⟩ := hn
  go_wp2_with fail
  have HM := Lib.hid (mod_n n 7 (by omega))
  generalize hnn : (wrap64 (n.tmod 7 + 7)).tmod 7 = vars at *
  obtain ⟨hm1, hm2⟩ := HM.out
  clear hnn HM
  refine (P.new vars w1 (by omega) (by omega)).mono ?_
  rintro e w2 ⟨⟨b, rfl, ha, ho⟩, hb2⟩
  have J2 := Lib.hid (Inv.start (w0 := w) ha (fun k hk => Nat.le_trans hb1.size (ho k hk)) (hb1.trans (hb2.mono hb1.size)))
  have K2 : Hid (Ok15 0 vars [] 0) := ⟨by omega, by omega, Nat.le_refl _, fun _ h => (List.not_mem_nil h).elim⟩
  have HL := Lib.hid (fun x (hx : Below w.heap.size w x) => hl.below hx)
  have HF := Lib.hid hf
  clear ha ho hb2 hb1 AL hl hf
  go_wp2
  go_loopw [8, 0, 6, 7] (fun i vv s dd wr => ∃ (k : Nat) (vars : Int) (L : List Tri) (d : Int) (vs : Value), k ≤ l.length ∧ k ≤ 60 ∧ i = .int .i64 k ∧ vv = .int .i64 vars ∧ s = vs ∧ dd = .int .i64 d ∧ Inv I w b vars L L d vs wr ∧ Ok15 k vars L d) (fun i _ _ _ _ => 60 - (intOf i).toNat)
  case atStart => exact ⟨0, _, _, _, _, Nat.zero_le _, Nat.zero_le _, rfl, rfl, rfl, rfl, J2.out, K2.out⟩
  case round =>
    clear J2 K2 hm1 hm2
    obtain ⟨k, vars, L, d, vs, hkl, hk6, rfl, rfl, hz1, rfl, hJ, hK⟩ := hrel
    obtain rfl := hz1.symm
    clear hz1
    have J := Lib.hid hJ
    have K := Lib.hid hK
    clear hJ hK
    by_cases hlt : k < l.length ∧ k < 60
    · obtain ⟨h1, h2⟩ := hlt
      have k0 : (0 : Int) ≤ (k : Int) := by omega
      have k1 : (k : Int) < (l.length : Int) := by omega
      have k2 : (k : Int) < 60 := by omega
      obtain ⟨bl, ol, rfl, -, ca, cb, cc⟩ := LRow.tri (HL.out wr J.out.bl) h1
      have HT := Lib.hid (HF.out _ (List.getElem_mem h1))
      generalize l[k] = t at *
      have hLn : L.length ≤ 60 := by have := K.out.num; omega
      have FL := Lib.hid (fun s hs => (K.out.fits s hs).1)
      obtain ⟨Av, qv, hvs, hrow, hq1, hq2⟩ := J.out.os.row (by decide) (fun y hy => by obtain ⟨z, _, rfl⟩ := List.mem_map.1 hy; rfl)
      rw [show (tris L).length = L.length by simp [tris]] at hvs hq1
      obtain rfl := hvs
      clear hrow
      obtain ⟨W4, hW4⟩ : ∃ x, wr.alloc (.cells #[.int .i64 t.a, .int .i64 t.b, .int .i64 t.c] 28) = x := ⟨_, rfl⟩
      have b4 : Below wr.heap.size wr W4 := by rw [← hW4]; exact (Below.refl _ _).alloc (Nat.le_refl _) _
      have g4 : W4.heap[wr.heap.size]? = some (.cells #[.int .i64 t.a, .int .i64 t.b, .int .i64 t.c] 28 (0, 0)) := by rw [← hW4]; exact Array.getElem?_push_size
      have J4 := Lib.hid (J.out.later P b4)
      have X4 := Lib.hid (Bx.start P J.out b4 g4)
      obtain ⟨x0, x1, x2⟩ := three g4
      clear b4 g4 J
      obtain ⟨xk, xx, xy⟩ := t
      have AB := Lib.hid (abs_any xx W4 HT.out.2.1)
      have AT := Lib.hid (fun x (hx : Below W4.heap.size W4 x) => at_any L Av qv (absW xx) x (by
        obtain ⟨Av', qv', hvs, hrow, -, -⟩ := (J4.out.later P hx).os.row (by decide) (fun y hy => by obtain ⟨z, _, rfl⟩ := List.mem_map.1 hy; rfl)
        injection hvs with e1 e2 e3
        rw [← e1] at hrow
        exact hrow) FL.out (by omega))
      obtain ⟨ao, hao⟩ : ∃ o, atM L (absW xx) = o := ⟨_, rfl⟩
      rw [hao] at AT
      obtain ⟨v, hv⟩ : ∃ v, absW xx = v := ⟨_, rfl⟩
      rw [hv] at AB AT
      have HAO := Lib.hid hao
      have HV := Lib.hid hv
      clear hao hv
      obtain ⟨oa, ob, oc, hov⟩ : ∃ a b c : Int, setV ao = .agg #[.int .i64 a, .int .i64 b, .int .i64 c] := by
        cases ao with
        | none => exact ⟨0, 0, 0, rfl⟩
        | some s => exact ⟨s.a, s.b, s.c, rfl⟩
      rw [hov] at AT
      clear hov
      go_wp2_with fail
      refine AB.out.mono ?_
      rintro e w' ⟨rfl, rfl⟩
      go_wp2_with fail
      refine (AT.out W4 (Below.refl _ _)).mono ?_
      rintro e w5 ⟨rfl, hb5⟩
      obtain ⟨W6, hW6⟩ : ∃ x, w5.alloc (.cells #[.int .i64 oa, .int .i64 ob, .int .i64 oc] 31) = x := ⟨_, rfl⟩
      have b6 : Below W4.heap.size W4 W6 := by rw [← hW6]; exact hb5.trans (((Below.refl _ _).alloc (Nat.le_refl _) _).mono hb5.size)
      have J6 := Lib.hid (J4.out.later P b6)
      have X6 := Lib.hid (X4.out.later P J4.out b6)
      clear hb5 b6 AB AT J4 X4 x0 x1 x2
      obtain ⟨x0, x1, x2⟩ := three X6.out.heap
      have HM := Lib.hid (mod_n xk 4 (by omega))
      go_upto_block 2 with fail
      clear hW6 hW4
      generalize hkd : (wrap64 (xk.tmod 4 + 4)).tmod 4 = kd at *
      clear hkd
      go_cut [0, 6, 7, 13, 14, 15, 16, 17] from 61 to 148 (fun v0 s6 d7 _ _ _ _ _ wx => ∃ (vars' : Int) (L' : List Tri) (d' : Int), v0 = .int .i64 vars' ∧ d7 = .int .i64 d' ∧ Inv I w b vars' L' L' d' s6 wx ∧ Ok15 (k + 1) vars' L' d' ∧ Bx I b wr.heap.size #[.int .i64 xk, .int .i64 xx, .int .i64 xy] 28 wx)
      case first =>
        have HK : kd = 0 ∨ kd = 1 ∨ kd = 2 ∨ kd = 3 := by have := HM.out; omega
        rcases HK with rfl | rfl | rfl | rfl
        · as_aux_lemma =>
          have PU := Lib.hid (P.put W6 b vars L d xx xy J6.out.at_ HT.out.2.1 HT.out.2.2)
          obtain ⟨wt, hwt⟩ : ∃ y, mayPut vars L xx = y := ⟨_, rfl⟩
          have HW : Hid (((decide (1 ≤ v) && decide (v ≤ vars)) && ao.isNone) = wt) := by unfold Hid; rw [← hwt, ← HV.out, ← HAO.out]; rfl
          have HPL : Hid (putL vars L d xx xy = if wt = true then L ++ [⟨xx, d, xy⟩] else L) := by unfold Hid putL; rw [hwt]
          rw [hwt] at PU
          clear hwt
          go_upto_region 18 with fail
          go_cut [13] from 74 to 84 (fun y wx => y = .bool wt ∧ wx = W6)
          case first =>
            by_cases c1 : 1 ≤ v
            · by_cases c2 : v ≤ vars
              · cases ao with
                | none =>
                  have D : Hid (wt = true) := by have := HW.out; rw [decide_eq_true c1, decide_eq_true c2] at this; exact this.symm
                  go_wp2
                  go_meet
                  exact ⟨congrArg Value.bool D.out.symm, rfl⟩
                | some s =>
                  have D : Hid (wt = false) := by have := HW.out; rw [decide_eq_true c1, decide_eq_true c2] at this; exact this.symm
                  go_wp2
                  go_meet
                  exact ⟨congrArg Value.bool D.out.symm, rfl⟩
              · have D : Hid (wt = false) := by have := HW.out; rw [decide_eq_true c1, decide_eq_false c2] at this; exact this.symm
                go_wp2
                go_meet
                exact ⟨congrArg Value.bool D.out.symm, rfl⟩
            · have D : Hid (wt = false) := by have := HW.out; rw [decide_eq_false c1] at this; exact this.symm
              go_wp2
              go_meet
              exact ⟨congrArg Value.bool D.out.symm, rfl⟩
          case rest =>
            obtain ⟨rfl, rfl⟩ := hcut
            cases wt with
            | false =>
              rw [show putL vars L d xx xy = L from HPL.out] at PU
              go_wp2_with fail
              refine PU.out.mono ?_
              rintro e w7 ⟨rfl, ha, he⟩
              have J7 := Lib.hid (J6.out.eff ha he)
              have X7 := Lib.hid (X6.out.eff he)
              clear PU ha he J6 X6 x0 x1 x2
              go_wp2
              go_meet
              exact ⟨_, _, _, rfl, rfl, J7.out, K.out.next, X7.out⟩
            | true =>
              rw [show putL vars L d xx xy = L ++ [⟨xx, d, xy⟩] from HPL.out] at PU
              go_wp2_with fail
              refine PU.out.mono ?_
              rintro e w7 ⟨rfl, ha, he⟩
              have J7 := Lib.hid (J6.out.eff ha he)
              have X7 := Lib.hid (X6.out.eff he)
              clear PU ha he J6 X6 x0 x1 x2
              obtain ⟨x0, x1, x2⟩ := three X7.out.heap
              obtain ⟨W8, hW8⟩ : ∃ x, w7.alloc (.cells #[.int .i64 xx, .int .i64 d, .int .i64 xy] 31) = x := ⟨_, rfl⟩
              have b8 : Below w7.heap.size w7 W8 := by rw [← hW8]; exact (Below.refl _ _).alloc (Nat.le_refl _) _
              have J8 := Lib.hid (J7.out.later P b8)
              have X8 := Lib.hid (X7.out.later P J7.out b8)
              have HC : Hid (∀ (i : Nat) u, [Value.int .i64 xx, .int .i64 d, .int .i64 xy][i]? = some u → W8.cell? ⟨w7.heap.size, i, none⟩ = some u) := fun i u hu => by
                rw [← hW8, Lib.cell_of_heap (show (w7.alloc (.cells #[.int .i64 xx, .int .i64 d, .int .i64 xy] 31)).heap[w7.heap.size]? = some (.cells #[.int .i64 xx, .int .i64 d, .int .i64 xy] 31 (0, 0)) from Array.getElem?_push_size)]; simpa using hu
              have HONE : Hid (∀ u ∈ [Value.int .i64 xx, .int .i64 d, .int .i64 xy], u.oneCell' = true) := fun u hu => by
                simp only [List.mem_cons, List.not_mem_nil, or_false] at hu
                rcases hu with rfl | rfl | rfl <;> rfl
              have K8 : Hid (Ok15 (k + 1) vars (L ++ [⟨xx, d, xy⟩]) d) := by
                have h1 := HW.out
                simp only [Bool.and_eq_true, decide_eq_true_eq] at h1
                refine ⟨K.out.next.vs, K.out.next.ds, by rw [List.length_append]; have := K.out.num; simp; omega, fun s hs => ?_⟩
                rcases List.mem_append.1 hs with hs | hs
                · exact K.out.fits s hs
                · obtain rfl := List.mem_singleton.1 hs
                  have hd := K.out.ds
                  exact ⟨⟨HT.out.2.1, ⟨by show -9223372036854775808 ≤ d; omega, by show d ≤ 9223372036854775807; omega⟩, HT.out.2.2⟩, by show 1 ≤ absW xx; rw [HV.out]; exact h1.1.1, hd.1, Int.le_refl _⟩
              clear b8 J7 X7
              go_wp2_with (at_builtin; refine wpList_push5 _ rfl (.tmp 94) (.tmp 101) 26 rfl 31 3 24 (.agg #[.int .i64 0, .int .i64 0, .int .i64 0]) Try.underlying26 set_info rfl (by decide) w.heap.size (.slice Av L.length qv) (tris L) J8.out.os rfl w7.heap.size 1 rfl [.int .i64 xx, .int .i64 d, .int .i64 xy] HC.out rfl HONE.out (by rw [tris_len]; omega) (by rw [tris_len]; omega) J8.out.bl.size ?_)
              intro v2 w9 hown hbel hkeep hloc
              have J9 := Lib.hid (J8.out.push P (L' := L ++ [⟨xx, d, xy⟩]) (by rw [tris_app]; exact hown) hbel hkeep hloc)
              have X9 := Lib.hid (X8.out.push P J8.out (by decide) hbel.size hkeep)
              clear hown hbel hkeep hloc J8 X8 x0 x1 x2 hW8 HC HONE
              go_wp2
              go_meet
              exact ⟨_, _, _, rfl, rfl, J9.out, K8.out, X9.out⟩
        · as_aux_lemma =>
          obtain ⟨hd0, hd1⟩ := K.out.ds
          have PD := Lib.hid (P.deeper W6 b vars L d J6.out.at_ (by omega))
          have K8 : Hid (Ok15 (k + 1) vars L (d + 1)) := ⟨K.out.next.vs, by omega, K.out.next.num, fun s hs => by
            obtain ⟨f1, f2, f3, f4⟩ := K.out.fits s hs
            exact ⟨f1, f2, f3, by omega⟩⟩
          go_wp2_with fail
          refine PD.out.mono ?_
          rintro e w7 ⟨rfl, ha, he⟩
          have J7 := Lib.hid (J6.out.eff ha he)
          have X7 := Lib.hid (X6.out.eff he)
          clear PD ha he J6 X6 x0 x1 x2
          go_wp2
          go_meet
          exact ⟨_, _, _, rfl, rfl, J7.out, K8.out, X7.out⟩
        · as_aux_lemma =>
          obtain ⟨hd0, hd1⟩ := K.out.ds
          have M6 := Lib.hid (mod_n xy 6 (by omega))
          have PB := Lib.hid (fun x (h0 : -1 ≤ x) (h1 : x ≤ 4) => P.back W6 b vars L d x J6.out.at_ ⟨by omega, by omega⟩)
          go_upto_region 29 with fail
          generalize hy6 : (wrap64 (xy.tmod 6 + 6)).tmod 6 = y6 at *
          obtain ⟨m0, m1⟩ := M6.out
          clear hy6 M6
          have hw6 : wrap64 (y6 - 1) = y6 - 1 := by unfold wrap64; omega
          obtain ⟨lv, hlv⟩ : ∃ x, y6 - 1 = x := ⟨_, rfl⟩
          have l0 : -1 ≤ lv := by omega
          have l1 : lv ≤ 4 := by omega
          first | rw [hw6, hlv] | rw [hlv]
          clear hw6 m0 m1 hlv
          have PB2 := Lib.hid (PB.out lv l0 l1)
          obtain ⟨z, hz⟩ : ∃ x, (if lv < 0 then (0 : Int) else lv) = x := ⟨_, rfl⟩
          have z0 : 0 ≤ z := by rw [← hz]; split <;> omega
          have z1 : z ≤ 4 := by rw [← hz]; split <;> omega
          have hlz : lvlM lv = z := hz
          have HLB : Hid (backL L d lv = if z < d then L.filter (fun s => decide (s.b ≤ z)) else L) := by unfold Hid backL; rw [hlz]
          have HDB : Hid (backD d lv = if z < d then z else d) := by unfold Hid backD; rw [hlz]
          have HZ := Lib.hid hz
          clear PB hlz hz
          by_cases hzd : z < d
          · rw [show backL L d lv = L.filter (fun s => decide (s.b ≤ z)) by rw [HLB.out, if_pos hzd], show backD d lv = z by rw [HDB.out, if_pos hzd]] at PB2
            have K8 : Hid (Ok15 (k + 1) vars (L.filter (fun s => decide (s.b ≤ z))) z) := ⟨K.out.next.vs, by omega, by have h1 := K.out.num; have h2 := List.length_filter_le (fun s : Tri => decide (s.b ≤ z)) L; omega, fun s hs => by
              obtain ⟨h1, h2⟩ := List.mem_filter.1 hs
              obtain ⟨f1, f2, f3, f4⟩ := K.out.fits s h1
              exact ⟨f1, f2, f3, of_decide_eq_true h2⟩⟩
            go_wp2_with fail
            refine PB2.out.mono ?_
            rintro e w7 ⟨rfl, ha, he⟩
            have J7 := Lib.hid (J6.out.eff ha he)
            have X7 := Lib.hid (X6.out.eff he)
            clear PB2 ha he J6 X6 x0 x1 x2
            go_upto_region 31 with fail
            rw [HZ.out]
            clear HZ
            go_wp2
            obtain ⟨wo, rfl⟩ : ∃ x, x = wr := ⟨_, rfl⟩
            go_loopw [15, 16] (fun s i wr2 => ∃ (j : Nat) (v5 : Value), j ≤ L.length ∧ i = .int .i64 j ∧ v5 = s ∧ OwnC wr2 w7.heap.size 31 3 v5 (tris ((L.take j).filter (fun s => decide (s.b ≤ z)))) ∧ Below w7.heap.size w7 wr2) (fun _ i _ => L.length - (intOf i).toNat)
            case atStart => exact ⟨0, _, Nat.zero_le _, rfl, rfl, OwnC.nil _ _ _ _, Below.refl _ _⟩
            case round =>
              obtain ⟨j, v5, hj, rfl, rfl, how, hbw⟩ := hrel
              have HO := Lib.hid how
              have BW := Lib.hid hbw
              clear how hbw
              by_cases hjl : j < L.length
              · have hjz : (j : Int) < (L.length : Int) := by omega
                obtain ⟨Av', qv', hvs, hrow, -, -⟩ := J7.out.os.row (by decide) (fun y hy => by obtain ⟨z, _, rfl⟩ := List.mem_map.1 hy; rfl)
                injection hvs with e1 e2 e3
                rw [← e1] at hrow
                obtain ⟨bq, oq, hA, -, c0, c1, c2⟩ := LRow.tri (hrow.below BW.out) hjl
                clear hrow e1 e2 e3
                subst hA
                have HFN := Lib.hid (filter_next L (fun s => decide (s.b ≤ z)) j hjl)
                have FT := Lib.hid (FL.out _ (List.getElem_mem hjl))
                generalize L[j] = t at *
                by_cases ht : t.b ≤ z
                · have HN : Hid (tris ((L.take (j + 1)).filter (fun s => decide (s.b ≤ z))) = tris ((L.take j).filter (fun s => decide (s.b ≤ z))) ++ [[.int .i64 t.a, .int .i64 t.b, .int .i64 t.c]]) := by
                    unfold Hid
                    rw [HFN.out, if_pos (decide_eq_true ht), tris_app]; rfl
                  have HLN : Hid ((tris ((L.take j).filter (fun s => decide (s.b ≤ z)))).length ≤ j) := by
                    unfold Hid
                    rw [tris_len]
                    have h2 := List.length_filter_le (fun s : Tri => decide (s.b ≤ z)) (L.take j)
                    rw [List.length_take] at h2
                    omega
                  obtain ⟨W8, hW8⟩ : ∃ x, wr.alloc (.cells #[.int .i64 t.a, .int .i64 t.b, .int .i64 t.c] 31) = x := ⟨_, rfl⟩
                  have b8 : Below wr.heap.size wr W8 := by rw [← hW8]; exact (Below.refl _ _).alloc (Nat.le_refl _) _
                  have O8 := Lib.hid (HO.out.keep b8)
                  have B8 := Lib.hid (BW.out.trans (b8.mono BW.out.size))
                  have HC : Hid (∀ (i : Nat) u, [Value.int .i64 t.a, .int .i64 t.b, .int .i64 t.c][i]? = some u → W8.cell? ⟨wr.heap.size, i, none⟩ = some u) := fun i u hu => by
                    rw [← hW8, Lib.cell_of_heap (show (wr.alloc (.cells #[.int .i64 t.a, .int .i64 t.b, .int .i64 t.c] 31)).heap[wr.heap.size]? = some (.cells #[.int .i64 t.a, .int .i64 t.b, .int .i64 t.c] 31 (0, 0)) from Array.getElem?_push_size)]; simpa using hu
                  have HONE : Hid (∀ u ∈ [Value.int .i64 t.a, .int .i64 t.b, .int .i64 t.c], u.oneCell' = true) := fun u hu => by
                    simp only [List.mem_cons, List.not_mem_nil, or_false] at hu
                    rcases hu with rfl | rfl | rfl <;> rfl
                  clear b8 HFN
                  go_wp2_with (at_builtin; refine wpList_push5 _ rfl (.tmp 141) (.tmp 146) 26 rfl 31 3 24 (.agg #[.int .i64 0, .int .i64 0, .int .i64 0]) Try.underlying26 set_info rfl (by decide) w7.heap.size v5 _ O8.out rfl wr.heap.size 1 rfl [.int .i64 t.a, .int .i64 t.b, .int .i64 t.c] HC.out rfl HONE.out (by have := HLN.out; omega) (by have := HLN.out; omega) B8.out.size ?_)
                  intro v2 w9 hown hbel _ _
                  have O9 : Hid (OwnC w9 w7.heap.size 31 3 v2 (tris ((L.take (j + 1)).filter (fun s => decide (s.b ≤ z))))) := by unfold Hid; rw [HN.out]; exact hown
                  have B9 := Lib.hid (B8.out.trans hbel)
                  clear hown hbel hW8 HC HONE O8 B8 HO BW HN c0 c1 c2
                  go_wp2
                  go_roundw
                  case rel => exact ⟨j + 1, _, by omega, by go_num, rfl, O9.out, B9.out⟩
                  case measure => simp [intOf]; omega
                · have HN : Hid ((L.take (j + 1)).filter (fun s => decide (s.b ≤ z)) = (L.take j).filter (fun s => decide (s.b ≤ z))) := by
                    unfold Hid
                    rw [HFN.out, if_neg (by rw [decide_eq_false ht]; decide), List.append_nil]
                  clear HFN
                  go_wp2
                  go_roundw
                  case rel => exact ⟨j + 1, _, by omega, by go_num, rfl, by rw [HN.out]; exact HO.out, BW.out⟩
                  case measure => simp [intOf]; omega
              · obtain rfl : j = L.length := by omega
                have HO2 : Hid (OwnC wr w7.heap.size 31 3 v5 (tris (L.filter (fun s => decide (s.b ≤ z))))) := by have := HO.out; rwa [List.take_length] at this
                have J9 := Lib.hid (J7.out.made P HO2.out BW.out)
                have X9 := Lib.hid (X7.out.later P J7.out BW.out)
                clear HO HO2
                go_wp2
                go_meet
                exact ⟨_, _, _, rfl, rfl, J9.out, K8.out, X9.out⟩
          · rw [show backL L d lv = L by rw [HLB.out, if_neg hzd], show backD d lv = d by rw [HDB.out, if_neg hzd]] at PB2
            go_wp2_with fail
            refine PB2.out.mono ?_
            rintro e w7 ⟨rfl, ha, he⟩
            have J7 := Lib.hid (J6.out.eff ha he)
            have X7 := Lib.hid (X6.out.eff he)
            clear PB2 ha he J6 X6 x0 x1 x2
            go_upto_region 31 with fail
            rw [HZ.out]
            clear HZ
            go_wp2
            go_meet
            exact ⟨_, _, _, rfl, rfl, J7.out, K.out.next, X7.out⟩
        · as_aux_lemma =>
          obtain ⟨hv0, hv1⟩ := K.out.vs
          have M3 := Lib.hid (mod_n xy 3 (by omega))
          have PG := Lib.hid (fun x (h0 : 0 ≤ x) (h1 : x ≤ 2) => P.grow W6 b vars L d x J6.out.at_ h0 h1 (by omega))
          go_upto_region 15 with fail
          generalize hy3 : (wrap64 (xy.tmod 3 + 3)).tmod 3 = y3 at *
          obtain ⟨m0, m1⟩ := M3.out
          clear hy3 M3
          have PG2 := Lib.hid (PG.out y3 m0 (by omega))
          have K8 : Hid (Ok15 (k + 1) (vars + y3) L d) := ⟨by omega, K.out.next.ds, K.out.next.num, K.out.fits⟩
          have m2 : y3 ≤ 2 := by omega
          clear PG
          go_wp2_with fail
          refine PG2.out.mono ?_
          rintro e w7 ⟨rfl, ha, he⟩
          have J7 := Lib.hid (J6.out.eff ha he)
          have X7 := Lib.hid (X6.out.eff he)
          clear PG2 ha he J6 X6 x0 x1 x2
          go_wp2
          go_meet
          exact ⟨_, _, _, rfl, rfl, J7.out, K8.out, X7.out⟩
      case rest =>
        obtain ⟨vars', L', d', rfl, rfl, hJ, hK, hX⟩ := hcut
        have J := Lib.hid hJ
        have K1 := Lib.hid hK
        have X := Lib.hid hX
        clear hJ hK hX K HM HAO J6 X6 x0 x1 x2 FL
        obtain ⟨hd0, hd1⟩ := K1.out.ds
        have hLn' : L'.length ≤ 60 := by have := K1.out.num; omega
        have FL := Lib.hid (fun s hs => (K1.out.fits s hs).1)
        have FA := Lib.hid (fun s hs => (⟨(K1.out.fits s hs).1.1, (K1.out.fits s hs).2.1⟩ : I64 s.a ∧ 1 ≤ absW s.a))
        obtain ⟨Av2, qv2, hvs, hrow, hq1', hq2'⟩ := J.out.os.row (by decide) (fun y hy => by obtain ⟨z, _, rfl⟩ := List.mem_map.1 hy; rfl)
        rw [tris_len] at hvs hq1'
        obtain rfl := hvs
        have LR := Lib.hid (fun x (hx : Below wc.heap.size wc x) => hrow.below hx)
        have AT := Lib.hid (at_any L' Av2 qv2 v wc hrow FL.out (by omega))
        clear hrow
        obtain ⟨ao, hao⟩ : ∃ o, atM L' v = o := ⟨_, rfl⟩
        rw [hao] at AT
        have HAO := Lib.hid hao
        clear hao
        obtain ⟨oa, ob, oc, hov⟩ : ∃ a b c : Int, setV ao = .agg #[.int .i64 a, .int .i64 b, .int .i64 c] := by
          cases ao with
          | none => exact ⟨0, 0, 0, rfl⟩
          | some s => exact ⟨s.a, s.b, s.c, rfl⟩
        rw [hov] at AT
        have HOV := Lib.hid hov
        clear hov
        go_wp2_with fail
        refine AT.out.mono ?_
        rintro e w7 ⟨rfl, hb7⟩
        obtain ⟨W8, hW8⟩ : ∃ x, w7.alloc (.cells #[.int .i64 oa, .int .i64 ob, .int .i64 oc] 31) = x := ⟨_, rfl⟩
        have b8 : Below wc.heap.size wc W8 := by rw [← hW8]; exact hb7.trans (((Below.refl _ _).alloc (Nat.le_refl _) _).mono hb7.size)
        have g8 : W8.heap[w7.heap.size]? = some (.cells #[.int .i64 oa, .int .i64 ob, .int .i64 oc] 31 (0, 0)) := by rw [← hW8]; exact Array.getElem?_push_size
        have J8 := Lib.hid (J.out.later P b8)
        have X8 := Lib.hid (X.out.later P J.out b8)
        have B8 := Lib.hid b8
        have G8 := Lib.hid g8
        clear hb7 AT b8 g8
        go_upto_if 155 with fail
        clear hW8
        go_cut [20, 21, 22] from 156 to 164 (fun a bb c wx => a = .int .i64 (valM L' xx) ∧ bb = .int .i64 (levM L' v) ∧ c = .int .i64 (reaM L' v) ∧ Below W8.heap.size W8 wx)
        case first =>
          cases ao with
          | none =>
            have D : Hid (valM L' xx = 0 ∧ levM L' v = -1 ∧ reaM L' v = 0) := by
              refine ⟨?_, ?_, ?_⟩
              · unfold valM; rw [HV.out, HAO.out]
              · unfold levM; rw [HAO.out]
              · unfold reaM; rw [HAO.out]
            go_wp2
            go_meet
            exact ⟨by rw [D.out.1], by rw [D.out.2.1], by rw [D.out.2.2], Below.refl _ _⟩
          | some s =>
            obtain ⟨sa, sb, sc⟩ := s
            have E : Hid (oa = sa ∧ ob = sb ∧ oc = sc) := by
              have h := HOV.out
              unfold setV at h
              simp only [Value.agg.injEq, Array.mk.injEq, List.cons.injEq, Value.int.injEq, true_and, and_true] at h
              exact ⟨h.1.symm, h.2.1.symm, h.2.2.symm⟩
            obtain ⟨rfl, rfl, rfl⟩ := E.out
            have D : Hid (levM L' v = ob ∧ reaM L' v = oc) := by
              refine ⟨?_, ?_⟩
              · unfold levM; rw [HAO.out]
              · unfold reaM; rw [HAO.out]
            have DV : Hid (valM L' xx = if oa = xx then 1 else -1) := by unfold Hid valM; rw [HV.out, HAO.out]
            obtain ⟨r0, r1, r2⟩ := three G8.out
            have u0 := Wd.cell r0
            have u1 := Wd.cell r1
            have u2 := Wd.cell r2
            go_wp2
            refine wp_region_wd (by kernel_rfl) (by kernel_rfl) ?_
            repeat (first | go_big_quiet_skip | (go_big_quiet_want; go_big_quiet_op; go_big_quiet_on))
            refine wpQuiet_nil ?_
            intro w9 hw'
            obtain ⟨⟨_, hb9⟩, hw''⟩ := hw'
            subst hw''
            have B9 := Lib.hid hb9
            have G9 : Hid (w9.heap[w7.heap.size]? = some (.cells #[.int .i64 oa, .int .i64 ob, .int .i64 oc] 31 (0, 0))) := (hb9.block _ (Array.getElem?_eq_some_iff.1 G8.out).1).trans G8.out
            have X9 := Lib.hid (X8.out.later P J8.out hb9)
            clear hb9 u0 u1 u2 r0 r1 r2
            obtain ⟨r0, r1, r2⟩ := three G9.out
            obtain ⟨x0, x1, x2⟩ := three X9.out.heap
            by_cases hq : oa = xx
            · have hqb : (oa == xx) = true := beq_iff_eq.2 hq
              have DV2 : Hid (valM L' xx = 1) := by unfold Hid; rw [DV.out, if_pos hq]
              clear hq
              go_wp2
              go_meet
              exact ⟨by rw [DV2.out], by rw [D.out.1], by rw [D.out.2], B9.out⟩
            · have hqb : (oa == xx) = false := beq_eq_false_iff_ne.2 hq
              have DV2 : Hid (valM L' xx = -1) := by unfold Hid; rw [DV.out, if_neg hq]
              clear hq
              go_wp2
              go_meet
              exact ⟨by rw [DV2.out], by rw [D.out.1], by rw [D.out.2], B9.out⟩
        case rest =>
          obtain ⟨rfl, rfl, rfl, hbc⟩ := hcut
          have VN := Lib.hid (val_neg FA.out HT.out.2.1)
          obtain ⟨hv0, hv1⟩ := val_small L' xx
          have J9 := Lib.hid (J8.out.later P hbc)
          have X9 := Lib.hid (X8.out.later P J8.out hbc)
          have B9 := Lib.hid (B8.out.trans (hbc.mono B8.out.size))
          clear hbc J8 X8 B8 G8 HOV HAO
          have PV := Lib.hid (fun x (hx : Below wc.heap.size wc x) => P.value x b _ _ _ xx (J9.out.later P hx).at_ HT.out.2.1)
          have PN := Lib.hid (fun x (hx : Below wc.heap.size wc x) => P.value x b _ _ _ (negW xx) (J9.out.later P hx).at_ (negW_i64 HT.out.2.1))
          rw [VN.out] at PN
          have HNW : Hid (wrap64 (-xx) = negW xx) := neg_is HT.out.2.1
          have PL := Lib.hid (fun x (hx : Below wc.heap.size wc x) => P.level x b _ _ _ v (J9.out.later P hx).at_ (by rw [← HV.out]; exact abs_fits HT.out.2.1))
          have PR := Lib.hid (fun x (hx : Below wc.heap.size wc x) => P.reason x b _ _ _ v (J9.out.later P hx).at_ (by rw [← HV.out]; exact abs_fits HT.out.2.1))
          have PD := Lib.hid (fun x (hx : Below wc.heap.size wc x) => P.depth x b _ _ _ (J9.out.later P hx).at_)
          have PE := Lib.hid (fun x (hx : Below wc.heap.size wc x) => P.len x b _ _ _ (J9.out.later P hx).at_)
          have PI := Lib.hid (fun x (hx : Below wc.heap.size wc x) => P.lits x b _ _ _ (J9.out.later P hx).at_)
          have PA := Lib.hid (fun (i : Int) (h0 : -1 ≤ i) (h1 : i ≤ 60) x (hx : Below wc.heap.size wc x) => P.at_ x b _ _ _ i (J9.out.later P hx).at_ ⟨by omega, by omega⟩)
          generalize valM L' xx = va at *
          generalize levM L' v = vb at *
          generalize reaM L' v = vc at *
          obtain ⟨ys, hys⟩ : ∃ y, L'.map Tri.a = y := ⟨_, rfl⟩
          have hyl : ys.length = L'.length := by rw [← hys, List.length_map]
          have HYA : Hid (∀ j, (h : j < L'.length) → ys[j]? = some L'[j].a) := fun j h => by rw [← hys, List.getElem?_map, List.getElem?_eq_getElem h]; rfl
          have HYF : Hid (∀ x ∈ ys, I64 x) := fun x hx => by
            rw [← hys] at hx
            obtain ⟨s, hs, rfl⟩ := List.mem_map.1 hx
            exact (FA.out s hs).1
          rw [hys, ← hyl] at PI
          have HYL := Lib.hid hyl
          clear hys hyl VN
          obtain ⟨wo, rfl⟩ : ∃ x, x = wr := ⟨_, rfl⟩
          go_wp2
          go_loopw [23, 24] (fun s i wr => ∃ (j : Nat) (v5 : Value), j ≤ L'.length ∧ i = .int .i64 j ∧ v5 = s ∧ OwnC wr wc.heap.size 3 1 v5 (ints (ys.take j)) ∧ Below wc.heap.size wc wr) (fun _ i _ => L'.length - (intOf i).toNat)
          case atStart => exact ⟨0, _, Nat.zero_le _, rfl, rfl, OwnC.nil _ _ _ _, Below.refl _ _⟩
          case round =>
            obtain ⟨j, v5, hj, rfl, rfl, how, hbw⟩ := hrel
            have HO := Lib.hid how
            have BW := Lib.hid hbw
            clear how hbw
            by_cases hjl : j < L'.length
            · have hjz : (j : Int) < (L'.length : Int) := by omega
              obtain ⟨bq, oq, hA, -, c0, c1, c2⟩ := LRow.tri (LR.out wr (B9.out.trans (BW.out.mono B9.out.size))) hjl
              subst hA
              have HYJ := Lib.hid (HYA.out j hjl)
              have PAJ := Lib.hid (fun x hx => PA.out (j : Int) (by omega) (by omega) x hx)
              rw [place_at L' j hjl] at PAJ
              generalize htj : L'[j] = t at *
              have HTJ := Lib.hid htj
              clear htj
              have HN : Hid (ints (ys.take (j + 1)) = ints (ys.take j) ++ [[.int .i64 t.a]]) := by
                unfold Hid
                obtain ⟨h1, h2⟩ := List.getElem?_eq_some_iff.1 HYJ.out
                rw [List.take_succ_eq_append_getElem h1, h2]
                simp [ints]
              have HLN : Hid ((ints (ys.take j)).length ≤ j) := by unfold Hid; simp [ints]; omega
              obtain ⟨W8, hW8⟩ : ∃ x, wr.alloc (.cells #[.int .i64 t.a] 3) = x := ⟨_, rfl⟩
              have b8 : Below wr.heap.size wr W8 := by rw [← hW8]; exact (Below.refl _ _).alloc (Nat.le_refl _) _
              have O8 := Lib.hid (HO.out.keep b8)
              have B8 := Lib.hid (BW.out.trans (b8.mono BW.out.size))
              have HC : Hid (∀ (i : Nat) u, [Value.int .i64 t.a][i]? = some u → W8.cell? ⟨wr.heap.size, i, none⟩ = some u) := fun i u hu => by
                rw [← hW8, Lib.cell_of_heap (show (wr.alloc (.cells #[.int .i64 t.a] 3)).heap[wr.heap.size]? = some (.cells #[.int .i64 t.a] 3 (0, 0)) from Array.getElem?_push_size)]; simpa using hu
              have HONE : Hid (∀ u ∈ [Value.int .i64 t.a], u.oneCell' = true) := fun u hu => by
                obtain rfl := List.mem_singleton.1 hu
                rfl
              clear b8 c1 c2
              go_wp2_with (at_builtin; refine wpList_push5 _ rfl (.tmp 171) (.tmp 177) 37 rfl 3 1 8 (.int .i64 0) Try.underlying37 int_info rfl (by decide) wc.heap.size v5 _ O8.out rfl wr.heap.size 1 rfl [.int .i64 t.a] HC.out rfl HONE.out (by have := HLN.out; omega) (by have := HLN.out; omega) B8.out.size ?_)
              intro v2 w9 hown hbel _ _
              have O9 : Hid (OwnC w9 wc.heap.size 3 1 v2 (ints (ys.take (j + 1)))) := by unfold Hid; rw [HN.out]; exact hown
              have B10 := Lib.hid (B8.out.trans hbel)
              clear hown hbel hW8 HC HONE O8 B8 HO BW HN c0
              obtain ⟨bq', oq', hA, -, c0, c1, c2⟩ := LRow.tri (LR.out w9 (B9.out.trans (B10.out.mono B9.out.size))) hjl
              injection hA with hA
              injection hA with e1 e2
              subst e1
              subst e2
              rw [HTJ.out] at c0
              clear c1 c2
              have u0 := Wd.cell c0
              have KA := Lib.hid (fun (u : Wd w9.heap.size w9) => Calls.in_wd u (PAJ.out u.w (B10.out.trans (u.ok.mono B10.out.size))) (Nat.le_refl _))
              go_wp2
              refine wp_region_wd (by kernel_rfl) (by kernel_rfl) ?_
              repeat (first | go_big_quiet_skip | (go_big_quiet_want; go_big_quiet_op; first | go_big_quiet_on | (apply Exists.intro; refine ⟨fun u => ?_, ?_⟩; (first | (go_at_call 14; with_reducible exact KA.out u)); go_big_quiet_on)))
              refine wpQuiet_nil ?_
              intro w11 hw'
              obtain ⟨⟨_, hb9⟩, hw''⟩ := hw'
              subst hw''
              have O11 := Lib.hid (O9.out.keep hb9)
              have B11 := Lib.hid (B10.out.trans (hb9.mono B10.out.size))
              clear hb9 u0 c0 KA PAJ O9 B10
              have hbb : (t.a != t.a) = false := by simp
              go_wp2
              go_roundw
              case rel => exact ⟨j + 1, _, by omega, by go_num, rfl, O11.out, B11.out⟩
              case measure => simp [intOf]; omega
            · have HJ : Hid (j = L'.length) := by unfold Hid; omega
              have hjz : ¬ (j : Int) < (L'.length : Int) := by omega
              have HOE : Hid (OwnC wr wc.heap.size 3 1 v5 (ints ys)) := by have := HO.out; rw [HJ.out, ← HYL.out, List.take_length] at this; exact this
              obtain ⟨A5, q5, hv5, hr5, h51, h52⟩ := HOE.out.row (by decide) (fun y hy => by obtain ⟨z, _, rfl⟩ := List.mem_map.1 hy; rfl)
              rw [show (ints ys).length = ys.length by simp [ints]] at hv5 h51
              obtain rfl := hv5
              have hz60 : ys.length ≤ 60 := by have := HYL.out; omega
              have IB := Lib.hid (⟨hr5, HYF.out, by omega⟩ : ILies wr wr.heap.size A5 ys)
              clear HO HOE hr5 hjl h51 h52
              have PE1 := Lib.hid (PA.out (L'.length : Int) (by omega) (by omega))
              rw [place_end] at PE1
              have PE2 := Lib.hid (PA.out (-1) (by omega) (by omega))
              rw [place_neg] at PE2
              obtain ⟨wq, rfl⟩ : ∃ x, x = wr := ⟨_, rfl⟩
              obtain ⟨x0, x1, x2⟩ := three (X9.out.later P J9.out BW.out).heap
              have XB := Lib.hid (fun x (hx : Below wq.heap.size wq x) => (three (X9.out.later P J9.out (BW.out.trans (hx.mono BW.out.size))).heap).2.1)
              have BQ := Lib.hid (fun x (hx : Below wq.heap.size wq x) => BW.out.trans (hx.mono BW.out.size))
              go_wp2_with fail
              refine (PV.out wq BW.out).mono ?_
              rintro e z1 ⟨rfl, h1⟩
              have Z1 := Lib.hid h1
              clear h1 x0 x1 x2
              have x1 := XB.out z1 Z1.out
              have hnw := HNW.out
              go_wp2_with fail
              refine (PN.out z1 (BQ.out z1 Z1.out)).mono ?_
              rintro e z2 ⟨rfl, h2⟩
              have Z2 := Lib.hid (Z1.out.trans (h2.mono Z1.out.size))
              clear h2 x1 hnw
              go_wp2_with fail
              refine (PL.out z2 (BQ.out z2 Z2.out)).mono ?_
              rintro e z3 ⟨rfl, h3⟩
              have Z3 := Lib.hid (Z2.out.trans (h3.mono Z2.out.size))
              clear h3
              go_wp2_with fail
              refine (PR.out z3 (BQ.out z3 Z3.out)).mono ?_
              rintro e z4 ⟨rfl, h4⟩
              have Z4 := Lib.hid (Z3.out.trans (h4.mono Z3.out.size))
              clear h4
              go_wp2_with fail
              refine (PD.out z4 (BQ.out z4 Z4.out)).mono ?_
              rintro e z5 ⟨rfl, h5⟩
              have Z5 := Lib.hid (Z4.out.trans (h5.mono Z4.out.size))
              clear h5
              go_wp2_with fail
              refine (PE.out z5 (BQ.out z5 Z5.out)).mono ?_
              rintro e z6 ⟨rfl, h6⟩
              have Z6 := Lib.hid (Z5.out.trans (h6.mono Z5.out.size))
              clear h6
              go_wp2_with fail
              refine (PI.out z6 (BQ.out z6 Z6.out)).mono ?_
              rintro e z7 ⟨⟨A7, q7, rfl, -, h7⟩, h8⟩
              have Z7 := Lib.hid (Z6.out.trans (h8.mono Z6.out.size))
              have I7 := Lib.hid (⟨fresh_row h7, HYF.out, by omega⟩ : ILies z7 z7.heap.size A7 ys)
              have I8 := Lib.hid ((IB.out.below Z7.out).more Z7.out.size)
              have IC := Lib.hid (ints_any ys ys A7 A5 q7 q5 z7 I7.out I8.out)
              rw [decide_eq_true rfl] at IC
              clear h7 h8
              go_wp2_with fail
              refine IC.out.mono ?_
              rintro e z8 ⟨rfl, h9⟩
              have Z8 := Lib.hid (Z7.out.trans (h9.mono Z7.out.size))
              clear h9 IC I7 I8
              go_wp2_with fail
              refine (PE1.out z8 (BQ.out z8 Z8.out)).mono ?_
              rintro e z9 ⟨rfl, h9⟩
              have Z9 := Lib.hid (Z8.out.trans (h9.mono Z8.out.size))
              clear h9
              go_wp2_with fail
              refine (PE2.out z9 (BQ.out z9 Z9.out)).mono ?_
              rintro e z10 ⟨rfl, h9⟩
              have J10 := Lib.hid (J9.out.later P (BQ.out z10 (Z9.out.trans (h9.mono Z9.out.size))))
              clear h9
              go_wp2
              go_roundw
              case rel => exact ⟨k + 1, _, _, _, _, by omega, by omega, by go_num, rfl, rfl, rfl, J10.out, K1.out⟩
              case measure => simp [intOf]; omega
    · by_cases h1 : k < l.length
      · have k1 : (k : Int) < (l.length : Int) := by omega
        have k2 : ¬ (k : Int) < 60 := by omega
        go_wp2
        go_ret
        exact ⟨rfl, J.out.bl⟩
      · have k1 : ¬ (k : Int) < (l.length : Int) := by omega
        go_wp2
        go_ret
        exact ⟨rfl, J.out.bl⟩
end Go.Proofs.Ytomkdegajhijjaa.Tra
