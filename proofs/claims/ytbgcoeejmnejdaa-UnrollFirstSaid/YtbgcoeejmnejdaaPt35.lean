/- tseitin.isBase, from and its closure, Lit, check; condition: the circuit lies in memory. tseitin.each; lists of clauses that a call makes: what appending leaves; condition: the list lies in memory and takes at most 2^47 bytes. -/
import Derived.Test.YtbgcoeejmnejdaaPt32
import Derived.Test.YtbgcoeejmnejdaaPt34
import Derived.Test.YtbgcoeejmnejdaaPt12
import Derived.Test.YtbgcoeejmnejdaaPt23
namespace Go.Proofs.Ytbgcoeejmnejdaa.Tse
open Go.ChangeShapes Go.WideShapes Go.ChangeAt Go.RowKit Go.Maps Circ Cw Str Sim Rep Cla

def isBaseB (b : Int) : Bool := decide (0 ≤ b) && decide (b ≤ 262144)
theorem base_good {b : Int} (h : isBaseB b = true) : baseT b = b ∧ 0 ≤ b ∧ b ≤ 262144 := by
  unfold isBaseB at h
  simp only [Bool.and_eq_true, decide_eq_true_eq] at h
  unfold baseT
  rw [if_neg (by omega), if_neg (by omega)]
  exact ⟨rfl, h⟩
theorem base_bad {b : Int} (h : isBaseB b = false) : baseT b = 0 := by
  unfold isBaseB at h
  unfold baseT
  by_cases h1 : b < 0
  · rw [if_pos h1]
  · rw [if_neg h1]
    by_cases h2 : 262144 < b
    · rw [if_pos h2]
    · rw [decide_eq_true (by omega), decide_eq_true (by omega)] at h
      cases h
theorem base_range (b : Int) : 0 ≤ baseT b ∧ baseT b ≤ 262144 := by
  unfold baseT
  split
  · omega
  · split <;> omega
set_option maxRecDepth 100000 in
theorem isbase_any (b : Int) (w : World) : Calls Try.prog 142 #[.int .i64 b] w fun e w' => e = .returned (.bool (isBaseB b)) ∧ w = w' := by
  unfold isBaseB
  by_cases h0 : 0 ≤ b
  · by_cases h1 : b ≤ 262144
    · go_enter Try.func142, Try.ntmps142
      go_wp2
      go_ret
      exact ⟨by rw [decide_eq_true h0, decide_eq_true h1]; rfl, rfl⟩
    · go_enter Try.func142, Try.ntmps142
      go_wp2
      go_ret
      exact ⟨by rw [decide_eq_false (show ¬ b ≤ 262144 by omega)]; rfl, rfl⟩
  · go_enter Try.func142, Try.ntmps142
    go_wp2
    go_ret
    exact ⟨by rw [decide_eq_false (show ¬ 0 ≤ b by omega)]; rfl, rfl⟩
/-- the box that the closure over literals reads -/
def BaseAt (w : World) (bx : Nat) (b : Int) : Prop := w.heap[bx]? = some (.cells #[.int .i64 b] 3 (0, 0))
theorem BaseAt.cell {w : World} {bx : Nat} {b : Int} (h : BaseAt w bx b) : w.cell? ⟨bx, 0, none⟩ = some (.int .i64 b) := by
  unfold BaseAt at h
  simp [World.cell?, h]
theorem BaseAt.lt {w : World} {bx : Nat} {b : Int} (h : BaseAt w bx b) : bx < w.heap.size := (Array.getElem?_eq_some_iff.1 h).1
theorem BaseAt.below {w w' : World} {bx B : Nat} {b : Int} (h : BaseAt w bx b) (hb : Below B w w') (hB : bx < B) : BaseAt w' bx b := (hb.block bx hB).trans h
def litV (bx : Nat) : Value := .func (.func 143) #[] #[.pointer (some ⟨bx, 0, none⟩)]
set_option maxHeartbeats 4000000 in
set_option maxRecDepth 100000 in
theorem from_any (b : Int) (w : World) : Calls Try.prog 115 #[.int .i64 b] w fun e w' => (∃ bx, e = .returned (litV bx) ∧ w.heap.size ≤ bx ∧ BaseAt w' bx (baseT b)) ∧ Below w.heap.size w w' := by
  unfold litV
  have IB := Lib.hid (isbase_any b)
  have hal : Below w.heap.size w (w.alloc (.cells #[.int .i64 b] 3)) := (Below.refl _ _).alloc (Nat.le_refl _) _
  have hbk : (w.alloc (.cells #[.int .i64 b] 3)).heap[w.heap.size]? = some (.cells #[.int .i64 b] 3 (0, 0)) := Array.getElem?_push_size
  cases hb : isBaseB b with
  | true =>
    rw [hb] at IB
    have HB := Lib.hid (base_good hb).1
    rw [HB.out]
    have HAL := Lib.hid hal
    have HBK := Lib.hid hbk
    clear hb hal hbk
    go_enter Try.func115, Try.ntmps115
    go_wp2_with fail
    refine (IB.out _).mono ?_
    rintro e w' ⟨rfl, rfl⟩
    go_wp2
    go_ret
    exact ⟨⟨_, rfl, Nat.le_refl _, HBK.out⟩, HAL.out⟩
  | false =>
    rw [hb] at IB
    have HB := Lib.hid (base_bad hb)
    rw [HB.out]
    have HAL := Lib.hid hal
    have HBK := Lib.hid hbk
    clear hb hal hbk
    obtain ⟨Z, u, ⟨hZ, pZ, tZ⟩, EZ, FZ⟩ := step_set (w.alloc (.cells #[.int .i64 b] 3)) _ 0 (.int .i64 0) HBK.out (by show 0 < 1; decide)
    have pZ2 : (w.alloc (.cells #[.int .i64 b] 3)).cell? ⟨w.heap.size, 0, none⟩ = some (.int .i64 b) := BaseAt.cell HBK.out
    clear pZ
    have BZ : Hid (Below w.heap.size w Z) := FZ.below HAL.out (Nat.le_refl _)
    have EZ2 : Hid (BaseAt Z w.heap.size 0) := EZ
    clear EZ FZ
    go_enter Try.func115, Try.ntmps115
    go_wp2_with fail
    refine (IB.out _).mono ?_
    rintro e w' ⟨rfl, rfl⟩
    go_wp2
    go_ret
    exact ⟨⟨_, rfl, Nat.le_refl _, EZ2.out⟩, BZ.out⟩
/-- the literal, from what it counts as -/
theorem lit_cap (b l : Int) : litT b l = if cnt (min l 4097) % 2 = 1 then -(baseT b + cnt (min l 4097) / 2 + 1) else baseT b + cnt (min l 4097) / 2 + 1 := by
  have : capT l = cnt (min l 4097) := by
    unfold capT cnt
    split <;> split <;> first | omega | (split <;> omega)
  unfold litT
  rw [this]
theorem lit_fits (b l : Int) : -264193 ≤ litT b l ∧ litT b l ≤ 264193 := by
  obtain ⟨h0, h1⟩ := base_range b
  have h2 : 0 ≤ capT l ∧ capT l ≤ 4097 := by
    unfold capT
    split
    · omega
    · split <;> omega
  unfold litT
  split <;> omega
theorem lit_i64 (b l : Int) : I64 (litT b l) := by
  have := lit_fits b l
  unfold I64
  omega
set_option maxHeartbeats 8000000 in
set_option maxRecDepth 100000 in
theorem from1_any (b l : Int) (bx : Nat) (w : World) (_hl : I64 l) (h : BaseAt w bx (baseT b)) : Calls Try.prog 143 #[.int .i64 l, .pointer (some ⟨bx, 0, none⟩)] w fun e w' => e = .returned (.int .i64 (litT b l)) ∧ Below w.heap.size w w' := by
  have hc := h.cell
  obtain ⟨hb0, hb1⟩ := base_range b
  have HL := Lib.hid (lit_cap b l)
  obtain ⟨r, hr⟩ : ∃ r, litT b l = r := ⟨_, rfl⟩
  rw [hr] at HL ⊢
  clear hr h
  generalize baseT b = c at *
  obtain ⟨k, hk⟩ : ∃ k, min l 4097 = k := ⟨_, rfl⟩
  rw [hk] at HL
  have hk1 : k ≤ 4097 := by omega
  have VA := Lib.hid (fun w => var_any k w (by omega))
  have NA := Lib.hid (fun w => neg_any k w (by omega))
  have hv0 : 0 ≤ cnt k / 2 := by unfold cnt; split <;> omega
  have hv1 : cnt k / 2 ≤ 2048 := by unfold cnt; split <;> omega
  obtain ⟨v, hv⟩ : ∃ v, cnt k / 2 = v := ⟨_, rfl⟩
  rw [hv] at HL VA hv0 hv1
  clear hv
  have KV := Lib.hid (fun (u : Wd w.heap.size w) => Calls.in_wd u ((VA.out u.w).mono fun e w' ⟨h1, h2⟩ => ⟨h1, h2 ▸ Below.refl _ _⟩) (Nat.le_refl _))
  have u0 := Wd.cell hc
  have HK := Lib.hid hk
  clear hk
  cases hn : decide (cnt k % 2 = 1) with
  | true =>
    rw [hn] at NA
    have HR : Hid (r = -(c + v + 1)) := by rw [HL.out, if_pos (of_decide_eq_true hn)]; exact rfl
    rw [HR.out]
    clear HL HR hn
    go_enter Try.func143, Try.ntmps143
    go_wp2
    rw [HK.out]
    refine wp_region_wd (by kernel_rfl) (by kernel_rfl) ?_
    repeat (first | go_big_quiet_skip | (go_big_quiet_want; go_big_quiet_op; first | go_big_quiet_on | (apply Exists.intro; refine ⟨fun u => ?_, ?_⟩; (first | (go_at_call 59; with_reducible exact KV.out u)); go_big_quiet_on)))
    refine wpQuiet_nil ?_
    intro w5 hw'
    obtain ⟨⟨_, hb9⟩, hw''⟩ := hw'
    subst hw''
    have B5 := Lib.hid hb9
    clear hb9 KV u0
    go_wp2_with fail
    refine (NA.out _).mono ?_
    rintro e w' ⟨rfl, rfl⟩
    go_wp2
    go_ret
    exact ⟨rfl, B5.out⟩
  | false =>
    rw [hn] at NA
    have HR : Hid (r = c + v + 1) := by rw [HL.out, if_neg (of_decide_eq_false hn)]; exact rfl
    rw [HR.out]
    clear HL HR hn
    go_enter Try.func143, Try.ntmps143
    go_wp2
    rw [HK.out]
    refine wp_region_wd (by kernel_rfl) (by kernel_rfl) ?_
    repeat (first | go_big_quiet_skip | (go_big_quiet_want; go_big_quiet_op; first | go_big_quiet_on | (apply Exists.intro; refine ⟨fun u => ?_, ?_⟩; (first | (go_at_call 59; with_reducible exact KV.out u)); go_big_quiet_on)))
    refine wpQuiet_nil ?_
    intro w5 hw'
    obtain ⟨⟨_, hb9⟩, hw''⟩ := hw'
    subst hw''
    have B5 := Lib.hid hb9
    clear hb9 KV u0
    go_wp2_with fail
    refine (NA.out _).mono ?_
    rintro e w' ⟨rfl, rfl⟩
    go_wp2
    go_ret
    exact ⟨rfl, B5.out⟩
set_option maxHeartbeats 4000000 in
set_option maxRecDepth 100000 in
theorem plit_any (b l : Int) (w : World) (hl : I64 l) : Calls Try.prog 120 #[.int .i64 b, .int .i64 l] w fun e w' => e = .returned (.int .i64 (litT b l)) ∧ Below w.heap.size w w' := by
  have FA := Lib.hid (from_any b w)
  have FB := Lib.hid (fun bx w h => from1_any b l bx w hl h)
  unfold litV at FA
  generalize litT b l = x at *
  generalize baseT b = c at *
  go_enter Try.func120, Try.ntmps120
  go_wp2_with fail
  refine FA.out.mono ?_
  rintro e w1 ⟨⟨bx, rfl, -, h1⟩, hb⟩
  have H1 := Lib.hid h1
  have HB := Lib.hid hb
  clear h1 hb
  go_wp2_with fail
  refine (FB.out bx w1 H1.out).mono ?_
  rintro e w2 ⟨rfl, hb2⟩
  have HB2 := Lib.hid (HB.out.trans (hb2.mono HB.out.size))
  go_wp2
  go_ret
  exact ⟨rfl, HB2.out⟩
set_option maxHeartbeats 16000000 in
set_option maxRecDepth 100000 in
theorem pcheck_any (c : Cir) (s : Places) (b : Int) (w : World) (h : CLies w w.heap.size c s) (hf : CFits c s) :
    Calls Try.prog 114 #[cirV c s, .int .i64 b] w fun e w' => e = .returned (.int .i64 (errT c b)) ∧ Below w.heap.size w w' := by
  obtain ⟨WA, hWA⟩ : ∃ x, w.alloc (.cells #[.int .i64 c.max, .slice s.ai c.ins.length s.ki, .slice s.al c.lats.length s.kl, .slice s.ao c.outs.length s.ko, .slice s.ab c.bads.length s.kb, .slice s.ac c.invs.length s.kc, .slice s.aa c.ands.length s.ka, .slice s.an c.names.length s.kn] 27) = x := ⟨_, rfl⟩
  have bA : Hid (Below w.heap.size w WA) := by unfold Hid; rw [← hWA]; exact (Below.refl _ _).alloc (Nat.le_refl _) _
  have GA : Hid (WA.heap[w.heap.size]? = some (.cells (cirC c s) 27 (0, 0))) := by unfold Hid; rw [← hWA]; exact Array.getElem?_push_size
  obtain ⟨e0, e1, e2, e3, e4, e5, e6, e7⟩ := cells8 GA.out
  have LW : Hid (∀ x, Below w.heap.size w x → CLies x x.heap.size c s) := fun x hx => (h.below hx).more hx.size
  have CK := Lib.hid (check_any c s WA (LW.out WA bA.out) hf)
  have IB := Lib.hid (isbase_any b)
  cases hc : chk c with
  | false =>
    have HE : errT c b = 9 := by unfold errT; rw [← chk_same, hc]; rfl
    rw [HE]
    rw [chkV_no c hc] at CK
    clear h hf hc IB HE
    unfold cirV at CK ⊢
    rw [show cirC c s = #[.int .i64 c.max, .slice s.ai c.ins.length s.ki, .slice s.al c.lats.length s.kl, .slice s.ao c.outs.length s.ko, .slice s.ab c.bads.length s.kb, .slice s.ac c.invs.length s.kc, .slice s.aa c.ands.length s.ka, .slice s.an c.names.length s.kn] from rfl] at CK ⊢
    go_enter Try.func114, Try.ntmps114
    go_wp2_with fail
    refine CK.out.mono ?_
    rintro e w1 ⟨rfl, hb⟩
    have B1 : Hid (Below w.heap.size w w1) := bA.out.trans (hb.mono bA.out.size)
    clear e0 e1 e2 e3 e4 e5 e6 e7 hWA CK hb
    go_wp2
    go_ret
    exact ⟨rfl, B1.out⟩
  | true =>
    have hok : refOk c = true := by rw [← chk_same]; exact hc
    have HE : errT c b = if isBaseB b = true then 0 else 4 := by
      unfold errT isBaseB
      rw [hok, if_neg (by decide)]
      by_cases h1 : b < 0
      · rw [if_pos h1, decide_eq_false (by omega)]; rfl
      · rw [if_neg h1, decide_eq_true (by omega)]
        by_cases h2 : 262144 < b
        · rw [if_pos h2, decide_eq_false (by omega)]; rfl
        · rw [if_neg h2, decide_eq_true (by omega)]; rfl
    rw [HE]
    rw [chkV_yes c hc] at CK
    clear h hf hc hok HE
    unfold cirV at CK ⊢
    rw [show cirC c s = #[.int .i64 c.max, .slice s.ai c.ins.length s.ki, .slice s.al c.lats.length s.kl, .slice s.ao c.outs.length s.ko, .slice s.ab c.bads.length s.kb, .slice s.ac c.invs.length s.kc, .slice s.aa c.ands.length s.ka, .slice s.an c.names.length s.kn] from rfl] at CK ⊢
    cases hb0 : isBaseB b with
    | true =>
      rw [hb0] at IB
      clear hb0
      rw [if_pos rfl]
      go_enter Try.func114, Try.ntmps114
      go_wp2_with fail
      refine CK.out.mono ?_
      rintro e w1 ⟨rfl, hb⟩
      have B1 : Hid (Below w.heap.size w w1) := bA.out.trans (hb.mono bA.out.size)
      clear e0 e1 e2 e3 e4 e5 e6 e7 hWA CK hb
      go_wp2_with fail
      refine (IB.out _).mono ?_
      rintro e w' ⟨rfl, rfl⟩
      go_wp2
      go_ret
      exact ⟨rfl, B1.out⟩
    | false =>
      rw [hb0] at IB
      clear hb0
      rw [if_neg (by decide)]
      go_enter Try.func114, Try.ntmps114
      go_wp2_with fail
      refine CK.out.mono ?_
      rintro e w1 ⟨rfl, hb⟩
      have B1 : Hid (Below w.heap.size w w1) := bA.out.trans (hb.mono bA.out.size)
      clear e0 e1 e2 e3 e4 e5 e6 e7 hWA CK hb
      go_wp2_with fail
      refine (IB.out _).mono ?_
      rintro e w' ⟨rfl, rfl⟩
      go_wp2
      go_ret
      exact ⟨rfl, B1.out⟩
end Go.Proofs.Ytbgcoeejmnejdaa.Tse
namespace Go.Proofs.Ytbgcoeejmnejdaa.Tse
open Go.ChangeShapes Go.WideShapes Go.ChangeAt Go.RowKit Go.Maps Circ Cw Str Sim Rep Cla

/-- the clause lies in a block of numbers -/
structure Mz (w : World) (z : Clz) : Prop where
  row : z.l = [] ∨ ∃ b cs, z.A = some ⟨b, 0, none⟩ ∧ w.heap[b]? = some (.cells cs 3 (0, 0)) ∧ ∀ (i : Nat) x, z.l[i]? = some x → cs[i]? = some (.int .i64 x)
  fits : ∀ x ∈ z.l, I64 x
  len : z.l.length ≤ 9223372036854775807
theorem Mz.lies {w : World} {z : Clz} (h : Mz w z) : z.Lies w w.heap.size := by
  refine ⟨?_, h.fits, h.len⟩
  rcases h.row with h0 | ⟨b, cs, hA, hb, hc⟩
  · left; rw [h0]; rfl
  · refine .inr ⟨b, 0, hA, (Array.getElem?_eq_some_iff.1 hb).1, fun i ys hi j u hj => ?_⟩
    unfold ints at hi
    rw [List.getElem?_map] at hi
    cases hx : z.l[i]? with
    | none => rw [hx] at hi; cases hi
    | some x =>
      rw [hx] at hi
      obtain rfl : [Value.int .i64 x] = ys := by simpa using hi
      match j, hj with
      | 0, hj =>
        obtain rfl : Value.int .i64 x = u := by simpa using hj
        have := hc i x hx
        simp [World.cell?, hb, this]
theorem Mz.keep {w w' : World} {z : Clz} (h : Mz w z) (hk : ∀ (b : Nat) cs, w.heap[b]? = some (.cells cs 3 (0, 0)) → w'.heap[b]? = w.heap[b]?) : Mz w' z := by
  refine ⟨?_, h.fits, h.len⟩
  rcases h.row with h0 | ⟨b, cs, hA, hb, hc⟩
  · exact .inl h0
  · exact .inr ⟨b, cs, hA, (hk b cs hb).trans hb, hc⟩
theorem Mz.below {w w' : World} {z : Clz} (h : Mz w z) (hb : Below w.heap.size w w') : Mz w' z := h.keep fun b _ hh => hb.block b (Array.getElem?_eq_some_iff.1 hh).1
theorem own_type {w : World} {base : Nat} {e : TypeId} {m : Nat} {v : Value} {xs : List (List Value)} (h : OwnC w base e m v xs) {g : Nat} (hg : v.ownBlock = some g) : ∃ cur, w.heap[g]? = some (.cells cur e (0, 0)) := by
  obtain ⟨_, h⟩ := h
  rcases h with ⟨rfl, h0⟩ | ⟨g', cap, cur, rfl, hb, hh, _⟩
  · simp [Value.ownBlock] at hg
  · have : g' = g := by simpa [Value.ownBlock] using hg
    subst this
    exact ⟨cur, hh⟩
/-- a list of clauses that the call makes -/
structure Mk (w : World) (base : Nat) (v : Value) (K : List Clz) : Prop where
  own : OwnC w base 22 1 v (K.map Clz.cells)
  each : ∀ z ∈ K, Mz w z
theorem Mk.nil (w : World) (base : Nat) : Mk w base (.slice none 0 0) [] := ⟨OwnC.nil _ _ _ _, fun _ h => (List.not_mem_nil h).elim⟩
theorem Mk.below {w w' : World} {base : Nat} {v : Value} {K : List Clz} (h : Mk w base v K) (hb : Below w.heap.size w w') : Mk w' base v K := ⟨h.own.keep hb, fun z hz => (h.each z hz).below hb⟩
/-- what appending clauses leaves -/
theorem Mk.push {w w' : World} {base : Nat} {v v' : Value} {K Z : List Clz} (h : Mk w base v K) (hz : ∀ z ∈ Z, Mz w z) (hown : OwnC w' base 22 1 v' (K.map Clz.cells ++ Z.map Clz.cells)) (hk : ∀ k, k < w.heap.size → some k ≠ v.ownBlock → w'.heap[k]? = w.heap[k]?) : Mk w' base v' (K ++ Z) := by
  refine ⟨by rw [List.map_append]; exact hown, fun z hm => ?_⟩
  have hq : Mz w z := (List.mem_append.1 hm).elim (h.each z) (hz z)
  refine hq.keep fun b cs hb => hk b (Array.getElem?_eq_some_iff.1 hb).1 fun e => ?_
  obtain ⟨cur, hc⟩ := own_type h.own e.symm
  rw [hb] at hc
  injection hc with hc
  injection hc with _ hc _
  exact absurd hc (by decide)
theorem Mk.lies {w : World} {base : Nat} {v : Value} {K : List Clz} (h : Mk w base v K) : ∃ A q, v = .slice A K.length q ∧ ALies w w.heap.size A K := by
  obtain ⟨A, q, rfl, hr, h1, h2⟩ := h.own.row (by decide) (fun y hy => by obtain ⟨z, _, rfl⟩ := List.mem_map.1 hy; rfl)
  rw [List.length_map] at h1 ⊢
  exact ⟨A, q, rfl, hr, fun z hz => (h.each z hz).lies, by omega⟩
theorem int_info : (Try.prog.info? 3).map (fun i => (i.zero, i.size, i.bytes)) = some (some (.int .i64 0), 1, 8) := by kernel_rfl
theorem row_info : (Try.prog.info? 22).map (fun i => (i.zero, i.size, i.bytes)) = some (some (.slice none 0 0), 1, 24) := by kernel_rfl
theorem made_list (n : Nat) (hn : n * 8 ≤ 140737488355328) (w : World) : OwnC (w.alloc (.cells (madeCells #[.int .i64 0] n) 3)) w.heap.size 3 1 (.slice (some ⟨w.heap.size, 0, none⟩) 0 n) [] :=
  World.ownsRow_made w (madeCells #[.int .i64 0] n) n (Nat.le_refl _) (by unfold maxLen; omega) (by rw [size_madeCells]; omega)
theorem make_list (n : Nat) (hn : n * 8 ≤ 140737488355328) (w : World) : (Instr.makeSlice 22 (.int .i64 0) (.int .i64 (n : Int))).run Try.prog w = .ok (.slice (some ⟨w.heap.size, 0, none⟩) 0 n) (w.alloc (.cells (madeCells #[.int .i64 0] n) 3)) := by
  obtain ⟨i, hi, hz, hs, hb⟩ := info_parts int_info
  have := run_make (P := Try.prog) w 22 3 i (.int .i64 0) Try.underlying22 hi hz .i64 .i64 0 n (by omega) (by omega) (by rw [hb]; omega) (by omega)
  rw [this, hs, Int.toNat_zero, Int.toNat_natCast, Nat.mul_one]
  rfl
theorem ints_flat : ∀ xs : List Int, (ints xs).flatten = xs.map (Value.int .i64)
  | [] => rfl
  | a :: r => by
    have := ints_flat r
    unfold ints at this ⊢
    rw [List.map_cons, List.flatten_cons, this]; rfl
theorem own_mz {w : World} {base : Nat} {v : Value} {xs : List Int} (h : OwnC w base 3 1 v (ints xs)) (hf : ∀ x ∈ xs, I64 x) : ∃ A q, v = .slice A xs.length q ∧ Mz w ⟨xs, A, q⟩ := by
  have hl : (ints xs).length = xs.length := by simp [ints]
  have hfl := ints_flat xs
  obtain ⟨_, h⟩ := h
  rcases h with ⟨rfl, h0⟩ | ⟨g, cap, cur, rfl, _, hg, hn, hmx, hs, ht⟩
  · have hx0 : xs = [] := List.eq_nil_of_length_eq_zero (by omega)
    subst hx0
    exact ⟨none, 0, rfl, .inl rfl, hf, by decide⟩
  · rw [hl]
    refine ⟨_, _, rfl, .inr ⟨g, cur, rfl, hg, fun i x hi => ?_⟩, hf, by show xs.length ≤ 9223372036854775807; unfold maxLen at hmx; omega⟩
    have hil : i < xs.length := (List.getElem?_eq_some_iff.1 hi).1
    rw [hfl, hl, Nat.mul_one] at ht
    have e := congrArg (fun l : List Value => l[i]?) ht
    simp only [List.getElem?_take, List.getElem?_map, hi] at e
    rw [if_pos hil] at e
    simpa using e
set_option maxHeartbeats 8000000 in
set_option maxRecDepth 100000 in
theorem each_any (b : Int) (bx : Nat) (l : List Int) (A : Option Addr) (q : Nat) (w : World) (hl : ILies w w.heap.size A l) (hbx : BaseAt w bx (baseT b)) (hn : l.length * 8 ≤ 140737488355328) :
    Calls Try.prog 118 #[.slice A l.length q, litV bx] w fun e w' => (∃ A' q', e = .returned (.slice A' (l.map (litT b)).length q') ∧ Mz w' ⟨l.map (litT b), A', q'⟩) ∧ Below w.heap.size w w' := by
  have HL := Lib.hid hl
  have HBX := Lib.hid hbx
  have HN := Lib.hid hn
  have hll := hl.len
  have hmk := make_list l.length hn
  have O0 := Lib.hid (made_list l.length hn w)
  obtain ⟨wm, hwm⟩ : ∃ x, w.alloc (.cells (madeCells #[.int .i64 0] l.length) 3) = x := ⟨_, rfl⟩
  have BM : Hid (Below w.heap.size w wm) := by unfold Hid; rw [← hwm]; exact (Below.refl _ _).alloc (Nat.le_refl _) _
  rw [hwm] at O0
  have HWM := Lib.hid hwm
  clear hl hbx hn hwm
  unfold litV
  go_enter Try.func118, Try.ntmps118
  go_wp2
  rw [HWM.out]
  clear hmk
  go_loopw [5, 13] (fun v i wr => ∃ (k : Nat) (vv : Value), k ≤ l.length ∧ i = .int .i64 k ∧ vv = v ∧ OwnC wr w.heap.size 3 1 vv (ints ((l.map (litT b)).take k)) ∧ Below w.heap.size w wr) (fun _ i _ => l.length - (intOf i).toNat)
  case atStart => exact ⟨0, _, Nat.zero_le _, rfl, rfl, O0.out, BM.out⟩
  case round =>
    clear O0 BM HWM
    obtain ⟨k, v1, hk, rfl, rfl, how, hb⟩ := hrel
    have HO := Lib.hid how
    have HB := Lib.hid hb
    clear how hb
    by_cases hlt : k < l.length
    · obtain ⟨b0, o, rfl, -, hc⟩ := LRow.int (HL.out.below HB.out).row hlt
      have LX := Lib.hid (from1_any b l[k] bx wr (HL.out.fits _ (List.getElem_mem hlt)) (HBX.out.below HB.out HBX.out.lt))
      have HTN : Hid (ints ((l.map (litT b)).take (k + 1)) = ints ((l.map (litT b)).take k) ++ [[.int .i64 (litT b l[k])]]) := by
        unfold Hid
        rw [List.take_succ_eq_append_getElem (by simpa using hlt), List.getElem_map]
        simp [ints]
      have HLN : Hid ((ints ((l.map (litT b)).take k)).length = k) := by unfold Hid; simp [ints]; omega
      generalize litT b l[k] = y at *
      generalize l[k] = x at *
      go_wp2_with fail
      refine LX.out.mono ?_
      rintro e w2 ⟨rfl, hb2⟩
      have O2 := Lib.hid (HO.out.keep hb2)
      have B2 := Lib.hid (HB.out.trans (hb2.mono HB.out.size))
      clear hb2 LX hc
      have hal : Below w2.heap.size w2 (w2.alloc (.cells #[.int .i64 y] 3)) := (Below.refl _ _).alloc (Nat.le_refl _) _
      have O6 := Lib.hid (O2.out.keep hal)
      have B6 : Hid (Below w.heap.size w (w2.alloc (.cells #[.int .i64 y] 3))) := B2.out.trans (hal.mono B2.out.size)
      have HC : Hid (∀ (i : Nat) u, [Value.int .i64 y][i]? = some u → (w2.alloc (.cells #[.int .i64 y] 3)).cell? ⟨w2.heap.size, i, none⟩ = some u) := fun i u hu => by
        rw [Lib.cell_of_heap (show (w2.alloc (.cells #[.int .i64 y] 3)).heap[w2.heap.size]? = some (.cells #[.int .i64 y] 3 (0, 0)) from Array.getElem?_push_size)]; simpa using hu
      have HONE : Hid (∀ u ∈ [Value.int .i64 y], u.oneCell' = true) := fun u hu => by
        simp only [List.mem_singleton] at hu
        subst hu; rfl
      clear hal
      go_wp2_with (at_builtin; refine wpList_push _ rfl (.tmp 17) (.tmp 21) 22 rfl 3 1 8 (.int .i64 0) Try.underlying22 int_info rfl (by decide) w.heap.size v1 _ O6.out rfl w2.heap.size 1 rfl [.int .i64 y] HC.out rfl HONE.out (by have h1 := HLN.out; have h3 := HN.out; omega) (by have h1 := HLN.out; have h3 := HN.out; omega) B6.out.size ?_)
      intro v2 w6 hown hbel _
      have HO7 : Hid (OwnC w6 w.heap.size 3 1 v2 (ints ((l.map (litT b)).take (k + 1)))) := by unfold Hid; rw [HTN.out]; exact hown
      have B7 : Hid (Below w.heap.size w w6) := B6.out.trans hbel
      clear hown hbel O6 B6 HC HONE O2 B2 HTN HLN HO HB
      go_wp2
      go_roundw
      case rel => exact ⟨k + 1, _, by omega, by go_num, rfl, HO7.out, B7.out⟩
      case measure => simp [intOf]; omega
    · obtain rfl : k = l.length := by omega
      have HE : Hid (OwnC wr w.heap.size 3 1 v1 (ints (l.map (litT b)))) := by have := HO.out; rwa [List.take_of_length_le (by simp)] at this
      obtain ⟨A', q', hv, hz⟩ := own_mz HE.out (fun x hx => by obtain ⟨y, _, rfl⟩ := List.mem_map.1 hx; exact lit_i64 b y)
      have HV := Lib.hid hv
      have HZ := Lib.hid hz
      clear hv hz HE HO
      go_wp2
      go_ret
      exact ⟨⟨A', q', by rw [← HV.out]; rfl, HZ.out⟩, HB.out⟩
end Go.Proofs.Ytbgcoeejmnejdaa.Tse
