/- The setter's open: the literals that may be true, with their places, handed out one by one; for every loop body that keeps what lay below block n0 and every variable's literal. -/
import Derived.Test.YtefbknpoehmfaaaPb17
import Derived.Test.YtefbknpoehmfaaaPb19
import Derived.Test.YtefbknpoehmfaaaPb22
import Derived.RangeFuncFrom
import Derived.RangeFuncLeaves
import Derived.LoopIn
import Derived.TacticsInMore
import Derived.LoopNIn
import Derived.Sort.QuietIn
namespace Go.Proofs.Ytefbknpoehmfaaa.For
open Go.ChangeShapes Go.WideShapes Go.ChangeAt Go.RowKit Go.Maps Go.Sort Go.Shelf Circ Cw Cla Rep Str

attribute [local go_sem] Oper.semAt_some

/-- the literals of a clause that may be true, with their places -/
def opensL (set : List Int) : Nat → List Int → List (Nat × Int)
  | _, [] => []
  | k, x :: r => if set.getD x.natAbs 0 = -x then opensL set (k + 1) r else (k, x) :: opensL set (k + 1) r
theorem opens_none {set : List Int} {kept : Int} : ∀ {l : List Int} {k : Nat}, (∀ y ∈ opensL set k l, y.2 = kept) → findP set kept l = none
  | [], _, _ => rfl
  | x :: r, k, h => by
    unfold opensL at h
    unfold findP
    by_cases h1 : set.getD x.natAbs 0 = -x
    · rw [if_pos h1] at h ⊢
      exact opens_none h
    · rw [if_neg h1] at h ⊢
      rw [if_pos (h _ List.mem_cons_self)]
      exact opens_none fun y hy => h y (List.mem_cons_of_mem _ hy)
theorem opens_some {set : List Int} {kept n : Int} {j : Nat} : ∀ {l : List Int} {k : Nat} {a b : List (Nat × Int)}, opensL set k l = a ++ (j, n) :: b → (∀ y ∈ a, y.2 = kept) → n ≠ kept → k ≤ j ∧ j - k < l.length ∧ findP set kept l = some (n, l.drop (j + 1 - k))
  | [], _, a, b, h, _, _ => by
    unfold opensL at h
    have := congrArg List.length h
    simp at this
  | x :: r, k, a, b, h, ha, hn => by
    unfold opensL at h
    unfold findP
    by_cases h1 : set.getD x.natAbs 0 = -x
    · rw [if_pos h1] at h ⊢
      obtain ⟨c1, c2, c3⟩ := opens_some h ha hn
      refine ⟨by omega, by simp only [List.length_cons]; omega, ?_⟩
      rw [c3, show j + 1 - k = (j + 1 - (k + 1)) + 1 by omega]; rfl
    · rw [if_neg h1] at h ⊢
      cases a with
      | nil =>
        simp only [List.nil_append, List.cons.injEq, Prod.mk.injEq] at h
        obtain ⟨⟨rfl, rfl⟩, -⟩ := h
        rw [if_neg hn]
        refine ⟨Nat.le_refl _, by simp, ?_⟩
        rw [show k + 1 - k = 1 by omega]; rfl
      | cons z a =>
        simp only [List.cons_append, List.cons.injEq] at h
        obtain ⟨hz, h⟩ := h
        have hzk := ha z List.mem_cons_self
        rw [← hz] at hzk
        rw [if_pos hzk]
        obtain ⟨c1, c2, c3⟩ := opens_some h (fun y hy => ha y (List.mem_cons_of_mem _ hy)) hn
        refine ⟨by omega, by simp only [List.length_cons]; omega, ?_⟩
        rw [c3, show j + 1 - k = (j + 1 - (k + 1)) + 1 by omega]; rfl
theorem opens_take {set : List Int} : ∀ (l : List Int) (k j : Nat) (hj : j < l.length), opensL set k (l.take (j + 1)) = if set.getD l[j].natAbs 0 = -l[j] then opensL set k (l.take j) else opensL set k (l.take j) ++ [(k + j, l[j])]
  | x :: r, k, 0, _ => by
    simp only [List.take_succ_cons, List.take_zero, List.getElem_cons_zero, opensL, Nat.add_zero, List.nil_append]
  | x :: r, k, j + 1, hj => by
    have ih := opens_take (set := set) r (k + 1) j (by simpa using hj)
    simp only [List.take_succ_cons, List.getElem_cons_succ]
    rw [opensL, opensL, ih, show k + 1 + j = k + (j + 1) by omega]
    by_cases h1 : set.getD x.natAbs 0 = -x
    · simp only [if_pos h1]
    · simp only [if_neg h1]
      split <;> simp
theorem opens_prefix (set : List Int) : ∀ (l : List Int) (k j : Nat), opensL set k (l.take j) <+: opensL set k l
  | [], _, j => by rw [List.take_nil]; exact List.prefix_refl _
  | x :: r, k, 0 => by rw [List.take_zero]; exact List.nil_prefix
  | x :: r, k, j + 1 => by
    have ih := opens_prefix set r (k + 1) j
    rw [List.take_succ_cons, opensL, opensL]
    split
    · exact ih
    · exact (List.prefix_cons_inj _).2 ih
theorem opens_len (set : List Int) : ∀ (l : List Int) (k : Nat), (opensL set k l).length ≤ l.length
  | [], _ => Nat.le_refl _
  | x :: r, k => by
    have ih := opens_len set r (k + 1)
    rw [opensL]
    split
    · exact Nat.le_succ_of_le ih
    · simp only [List.length_cons]; omega
/-- the literals' setting lies in memory below block n0, wherever the loop's body leaves that -/
structure SetAt (n0 bxs R bs N : Nat) (set : List Int) (W : World) : Prop where
  len : set.length = N
  box : ∀ W', Below n0 W W' → W'.cell? ⟨bxs, 0, none⟩ = some (.pointer (some ⟨R, 0, none⟩))
  sl : ∀ W', Below n0 W W' → W'.cell? ⟨R, 0, none⟩ = some (.slice (some ⟨bs, 0, none⟩) N N)
  at_ : ∀ W', Below n0 W W' → ∀ v, v < N → W'.cell? ⟨bs, 0 + v, none⟩ = some (.int .i64 (set.getD v 0))
theorem op_field_setter_0 (a : Act) (w : World) (b : Nat) (t : Nat) (h : a.tmps.getD t undef = .pointer (some ⟨b, 0, none⟩)) (oo : Oper) (ho : oo.op = .fieldAddr 60 (.tmp t) 0) : (execOp a.eval oo).run Try.prog w = .ok (.value (.pointer (some ⟨b, 0, none⟩))) w := by
  have h' : a.tmps[t]?.getD undef = .pointer (some ⟨b, 0, none⟩) := by simpa using h
  unfold execOp
  rw [ho]
  go_simp
/-- what operation j of the round leaves -/
def opnR (R bs N y k : Nat) (x z : Int) (g : Bool) (Post : Bool → World → Prop) : Nat → (Nat → Value) → World → Prop
  | 0, f, _ => f 13 = .pointer (some ⟨R, 0, none⟩)
  | 1, f, _ => f 14 = .pointer (some ⟨R, 0, none⟩)
  | 2, f, _ => f 15 = .pointer (some ⟨R, 0, none⟩)
  | 3, f, _ => f 16 = .slice (some ⟨bs, 0, none⟩) N N
  | 4, f, _ => f 17 = .int .i64 x
  | 5, f, _ => f 18 = .int .i64 (x.natAbs : Int)
  | 6, f, _ => f 19 = .pointer (some ⟨bs, 0 + x.natAbs, none⟩)
  | 7, f, _ => f 20 = .int .i64 z
  | 8, f, _ => f 21 = .int .i64 x
  | 9, f, _ => f 22 = .int .i64 (-x)
  | 10, f, _ => f 23 = .bool g
  | 11, f, _ => f 24 = .bool g
  | 12, f, _ => g = true → f 25 = .func (.yield y) #[] #[]
  | 13, f, _ => g = true → f 26 = .int .i64 (k : Int)
  | 14, f, _ => g = true → f 27 = .int .i64 x
  | 15, f, w => g = true → ∃ b, f 28 = .bool b ∧ Post b w
  | 16, f, w => g = true → ∃ b, f 29 = .bool (!b) ∧ Post b w
  | 17, f, w => (g = false → f 30 = .bool false) ∧ (g = true → ∃ b, f 30 = .bool (!b) ∧ Post b w)
  | _, _, _ => True
def opnM : Nat → List Nat
  | 0 => [13]
  | 1 => [14]
  | 2 => [15]
  | 3 => [16]
  | 4 => [17]
  | 5 => [18]
  | 6 => [19]
  | 7 => [20]
  | 8 => [21]
  | 9 => [22]
  | 10 => [23]
  | 11 => [24]
  | 12 => [25]
  | 13 => [26]
  | 14 => [27]
  | 15 => [28]
  | 16 => [29]
  | 17 => [30]
  | _ => []
theorem opn_stab {R bs N y k : Nat} {x z : Int} {g : Bool} {Post : Bool → World → Prop} (jj : Nat) {f f' : Nat → Value} {w : World} (hf : ∀ t ∈ opnM jj, f' t = f t) (h : opnR R bs N y k x z g Post jj f w) : opnR R bs N y k x z g Post jj f' w := by
  match jj, hf, h with
  | 0, hf, h => exact (hf 13 (by decide)).trans h
  | 1, hf, h => exact (hf 14 (by decide)).trans h
  | 2, hf, h => exact (hf 15 (by decide)).trans h
  | 3, hf, h => exact (hf 16 (by decide)).trans h
  | 4, hf, h => exact (hf 17 (by decide)).trans h
  | 5, hf, h => exact (hf 18 (by decide)).trans h
  | 6, hf, h => exact (hf 19 (by decide)).trans h
  | 7, hf, h => exact (hf 20 (by decide)).trans h
  | 8, hf, h => exact (hf 21 (by decide)).trans h
  | 9, hf, h => exact (hf 22 (by decide)).trans h
  | 10, hf, h => exact (hf 23 (by decide)).trans h
  | 11, hf, h => exact (hf 24 (by decide)).trans h
  | 12, hf, h => exact fun hg => (hf 25 (by decide)).trans (h hg)
  | 13, hf, h => exact fun hg => (hf 26 (by decide)).trans (h hg)
  | 14, hf, h => exact fun hg => (hf 27 (by decide)).trans (h hg)
  | 15, hf, h => exact fun hg => (h hg).elim fun b hb => ⟨b, (hf 28 (by decide)).trans hb.1, hb.2⟩
  | 16, hf, h => exact fun hg => (h hg).elim fun b hb => ⟨b, (hf 29 (by decide)).trans hb.1, hb.2⟩
  | 17, hf, h => exact ⟨fun hg => (hf 30 (by decide)).trans (h.1 hg), fun hg => (h.2 hg).elim fun b hb => ⟨b, (hf 30 (by decide)).trans hb.1, hb.2⟩⟩
  | _ + 18, _, _ => trivial
theorem opn_at15 {R bs N y k : Nat} {x z : Int} {g : Bool} {Post : Bool → World → Prop} (jj : Nat) (hj : jj ≠ 15) {f f' : Nat → Value} {w w' : World} (h16 : jj = 16 ∨ jj = 17 → opnR R bs N y k x z g Post jj f' w') (hf : ∀ t ∈ opnM jj, f' t = f t) (h : opnR R bs N y k x z g Post jj f w) : opnR R bs N y k x z g Post jj f' w' := by
  match jj, hj, h16, hf, h with
  | 0, _, _, hf, h => exact (hf 13 (by decide)).trans h
  | 1, _, _, hf, h => exact (hf 14 (by decide)).trans h
  | 2, _, _, hf, h => exact (hf 15 (by decide)).trans h
  | 3, _, _, hf, h => exact (hf 16 (by decide)).trans h
  | 4, _, _, hf, h => exact (hf 17 (by decide)).trans h
  | 5, _, _, hf, h => exact (hf 18 (by decide)).trans h
  | 6, _, _, hf, h => exact (hf 19 (by decide)).trans h
  | 7, _, _, hf, h => exact (hf 20 (by decide)).trans h
  | 8, _, _, hf, h => exact (hf 21 (by decide)).trans h
  | 9, _, _, hf, h => exact (hf 22 (by decide)).trans h
  | 10, _, _, hf, h => exact (hf 23 (by decide)).trans h
  | 11, _, _, hf, h => exact (hf 24 (by decide)).trans h
  | 12, _, _, hf, h => exact fun hg => (hf 25 (by decide)).trans (h hg)
  | 13, _, _, hf, h => exact fun hg => (hf 26 (by decide)).trans (h hg)
  | 14, _, _, hf, h => exact fun hg => (hf 27 (by decide)).trans (h hg)
  | 15, hj, _, _, _ => exact absurd rfl hj
  | 16, _, h, _, _ => exact h (.inl rfl)
  | 17, _, h, _, _ => exact h (.inr rfl)
  | _ + 18, _, _, _, _ => trivial
theorem var_small (x : Int) (w : World) (h : x.natAbs ≤ 262144) : Calls Try.prog 47 #[.int .i64 x] w fun e w' => e = .returned (.int .i64 (x.natAbs : Int)) ∧ w' = w := by
  have := var_any x w
  rwa [show varW x = (x.natAbs : Int) by unfold varW wrap64; split <;> omega] at this
set_option maxRecDepth 100000 in
set_option maxHeartbeats 16000000 in
theorem open1_in (n : Nat) (y bxl bxs R bs N n0 : Nat) (A : Option Addr) (q : Nat) (l set : List Int) (J Jx : List (Nat × Int) → World → Prop) (hl : l.length ≤ 9223372036854775807) (hN : N ≤ 262145) (hlit : ∀ x ∈ l, x.natAbs < N)
    (hY : ∀ pre x W, J pre W → x ∈ opensL set 0 l → pre.length < l.length → YieldAt Fence.wide (n - 1) Try.prog y #[.int .i64 (x.1 : Int), .int .i64 x.2] W fun e W' =>
      (e = .returned (.bool true) ∧ J (pre ++ [x]) W' ∧ Below n0 W W') ∨ (e = .returned (.bool false) ∧ Jx (pre ++ [x]) W'))
    (hJd : ∀ pre W, J pre W → J pre W.drew)
    (W : World) (hc : W.cell? ⟨bxl, 0, none⟩ = some (.slice A l.length q)) (hr : LRow W n0 1 A (ints l)) (hs : SetAt n0 bxs R bs N set W) (h0 : J [] W) :
    CallsIn Fence.wide n Try.prog 68 #[.func (.yield y) #[] #[], .pointer (some ⟨bxl, 0, none⟩), .pointer (some ⟨bxs, 0, none⟩)] W fun e W' => (∃ v, e = .returned v) ∧
      ((∃ ys, ys = opensL set 0 l ∧ J ys W') ∨ (∃ pre, pre <+: opensL set 0 l ∧ Jx pre W')) := by
  have HR : Hid (∀ x, Below n0 W x → LRow x n0 1 A (ints l)) := fun x hx => hr.below hx
  have HS := Lib.hid hs
  have HY := Lib.hid hY
  have HLIT := Lib.hid hlit
  have HJD := Lib.hid hJd
  have EV : Hid (∀ args w, (callFunc 47 args).run Try.prog w = .ok (.enter 47 args) w) := enters_of Try.func47 (by kernel_rfl) rfl
  clear hr hY hs hlit hJd
  refine callsIn_of_wp Try.func68 rfl trivial ?_ rfl
  simp only [Try.ntmps68, List.size_toArray, List.length_cons, List.length_nil, Nat.reduceAdd, Nat.reduceSub, Array.replicate_succ, Array.replicate_zero, List.push_toArray, List.append_toArray, List.nil_append, List.cons_append]
  gi_wp2
  gi_loopw [8] (fun i wr => ∃ k : Nat, k ≤ l.length ∧ i = .int .i64 k ∧ J (opensL set 0 (l.take k)) wr ∧ Below n0 W wr) (fun i _ => l.length - (intOf i).toNat)
  case atStart => exact ⟨0, Nat.zero_le _, rfl, by simpa [opensL] using h0, Below.refl _ _⟩
  case round =>
    obtain ⟨k, hk, rfl, hJ, hb⟩ := hrel
    have HJ := Lib.hid hJ
    have HB := Lib.hid hb
    clear hJ hb
    by_cases hlt : k < l.length
    · obtain ⟨b, o, rfl, -, hcell⟩ := LRow.int (HR.out _ HB.out) hlt
      have hkz : (k : Int) < (l.length : Int) := by omega
      have HTK := Lib.hid (opens_take (set := set) l 0 k hlt)
      have HPF := Lib.hid (opens_prefix set l 0 (k + 1))
      have hxN := HLIT.out _ (List.getElem_mem hlt)
      have HPL : Hid ((opensL set 0 (l.take k)).length < l.length) := by
        unfold Hid
        have := opens_len set (l.take k) 0
        rw [List.length_take] at this
        omega
      rw [Nat.zero_add] at HTK
      generalize l[k] = x at *
      have HX := Lib.hid hxN
      have VA := Lib.hid (fun w => var_small x w (by omega))
      have HNX : Hid (IntKind.i64.wrap (-x) = -x) := IntWalk.i64_in _ (by omega)
      obtain ⟨z, hz⟩ : ∃ z, set.getD x.natAbs 0 = z := ⟨_, rfl⟩
      have HZ : Hid (∀ w', Below n0 W w' → w'.cell? ⟨bs, 0 + x.natAbs, none⟩ = some (.int .i64 z)) := fun w' hw => by rw [HS.out.at_ w' hw _ hxN, hz]
      rw [hz] at HTK
      clear hz hxN
      obtain ⟨g, hg⟩ : ∃ g, (z != -x) = g := ⟨_, rfl⟩
      have HG : Hid ((z != -x) = g) := hg
      have BD : Hid (Below n0 W wr.drew) := HB.out.trans (Below.refl _ _).drew
      have HGN : Hid (g = false → J (opensL set 0 (l.take (k + 1))) wr.drew) := fun h => by
        have hz : z = -x := by
          rw [h] at hg
          simpa using hg
        rw [HTK.out, if_pos hz]
        exact HJD.out _ _ HJ.out
      have HGY : Hid (g = true → opensL set 0 (l.take (k + 1)) = opensL set 0 (l.take k) ++ [(k, x)]) := fun h => by
        have hz : ¬ z = -x := by
          rw [h] at hg
          simpa using hg
        rw [HTK.out, if_neg hz]
      have YA := Lib.hid (fun h : g = true => HY.out (opensL set 0 (l.take k)) (k, x) wr.drew (HJD.out _ _ HJ.out) (HPF.out.subset (by rw [HGY.out h]; simp)) HPL.out)
      clear hg
      gi_wp2_with fail
      refine wpIn_region_free (by kernel_rfl) (by kernel_rfl) opnM (by kernel_rfl) (by kernel_rfl)
        (fun d w' => d 15 = false ∨ g = false → w' = wr.drew) (opnR R bs N y k x z g (fun b w => (b = true → J (opensL set 0 (l.take k) ++ [(k, x)]) w ∧ Below n0 wr.drew w) ∧ (b = false → Jx (opensL set 0 (l.take k) ++ [(k, x)]) w))) (fun _ => rfl) (fun jj f f' w hf h => opn_stab jj hf h) ?_ ?_ ?_
      · intro i oo d a' w' ho hw hok hD
        have hok2 : g = false → w' = wr.drew := fun h => hok (.inr h)
        match i, ho, hD, hw with
          | 0, ho, hD, hw =>
            obtain rfl := Option.some.inj ho
            exact Bool.noConfusion (show true = false from hw)
          | 1, ho, hD, hw =>
            obtain rfl := Option.some.inj ho
            exact Bool.noConfusion (show true = false from hw)
          | 2, ho, hD, hw =>
            obtain rfl := Option.some.inj ho
            exact Bool.noConfusion (show true = false from hw)
          | 3, ho, hD, hw =>
            obtain rfl := Option.some.inj ho
            exact Bool.noConfusion (show true = false from hw)
          | 4, ho, hD, hw =>
            obtain rfl := Option.some.inj ho
            exact Bool.noConfusion (show true = false from hw)
          | 5, ho, hD, hw =>
            obtain rfl := Option.some.inj ho
            exact Bool.noConfusion (show true = false from hw)
          | 6, ho, hD, hw =>
            obtain rfl := Option.some.inj ho
            exact Bool.noConfusion (show true = false from hw)
          | 7, ho, hD, hw =>
            obtain rfl := Option.some.inj ho
            exact Bool.noConfusion (show true = false from hw)
          | 8, ho, hD, hw =>
            obtain rfl := Option.some.inj ho
            exact Bool.noConfusion (show true = false from hw)
          | 9, ho, hD, hw =>
            obtain rfl := Option.some.inj ho
            exact Bool.noConfusion (show true = false from hw)
          | 10, ho, hD, hw =>
            obtain rfl := Option.some.inj ho
            exact Bool.noConfusion (show true = false from hw)
          | 11, ho, hD, hw =>
            obtain rfl := Option.some.inj ho
            exact Bool.noConfusion (show true = false from hw)
          | 12, ho, hD, hw =>
            obtain rfl := Option.some.inj ho
            have hy : a'.tmps.getD 24 undef = .bool g := hD 11 (by kernel_rfl)
            rw [wanted_of (t := 24) rfl rfl hy] at hw
            have hgf : g = false := by
              cases hgg : g with
              | false => rfl
              | true => rw [hgg] at hw; cases hw
            exact ⟨fun _ => hok2 hgf, fun f _ _ hb => by rw [hgf] at hb; cases hb⟩
          | 13, ho, hD, hw =>
            obtain rfl := Option.some.inj ho
            have hy : a'.tmps.getD 24 undef = .bool g := hD 11 (by kernel_rfl)
            rw [wanted_of (t := 24) rfl rfl hy] at hw
            have hgf : g = false := by
              cases hgg : g with
              | false => rfl
              | true => rw [hgg] at hw; cases hw
            exact ⟨fun _ => hok2 hgf, fun f _ _ hb => by rw [hgf] at hb; cases hb⟩
          | 14, ho, hD, hw =>
            obtain rfl := Option.some.inj ho
            have hy : a'.tmps.getD 24 undef = .bool g := hD 11 (by kernel_rfl)
            rw [wanted_of (t := 24) rfl rfl hy] at hw
            have hgf : g = false := by
              cases hgg : g with
              | false => rfl
              | true => rw [hgg] at hw; cases hw
            exact ⟨fun _ => hok2 hgf, fun f _ _ hb => by rw [hgf] at hb; cases hb⟩
          | 15, ho, hD, hw =>
            obtain rfl := Option.some.inj ho
            have hy : a'.tmps.getD 24 undef = .bool g := hD 11 (by kernel_rfl)
            rw [wanted_of (t := 24) rfl rfl hy] at hw
            have hgf : g = false := by
              cases hgg : g with
              | false => rfl
              | true => rw [hgg] at hw; cases hw
            exact ⟨fun _ => hok2 hgf, fun f _ _ hb => by rw [hgf] at hb; cases hb⟩
          | 16, ho, hD, hw =>
            obtain rfl := Option.some.inj ho
            have hy : a'.tmps.getD 24 undef = .bool g := hD 11 (by kernel_rfl)
            rw [wanted_of (t := 24) rfl rfl hy] at hw
            have hgf : g = false := by
              cases hgg : g with
              | false => rfl
              | true => rw [hgg] at hw; cases hw
            exact ⟨fun _ => hok2 hgf, fun f _ _ hb => by rw [hgf] at hb; cases hb⟩
          | 17, ho, hD, hw =>
            obtain rfl := Option.some.inj ho
            exact Bool.noConfusion (show true = false from hw)
          | i + 18, ho, _, _ => exact absurd ho (by simp)
      · intro i oo d a' w' ho hw hd hun hdf hok hD K hK0
        match i, ho, hw, hd, hD, hK0, hun with
          | 0, ho, hw, hd, hD, hK0, hun =>
            have e := (congrArg Oper.op (Option.some.inj ho)).symm
            obtain rfl := Option.some.inj ho
            have HB := Lib.hid (hok (.inl (hd 15 (by kernel_rfl))))
            have hWw : w' = wr.drew → Below n0 W w' := fun h => h ▸ BD.out
            exact wpIn_of_wp0 (wp_val (op_cell_setter a' w' _ 2 _ (hun 2 (by kernel_rfl)) (HS.out.box w' (hWw HB.out)) _ e) (hK0 _ _ (fun _ => HB.out) (fun f h1 _ => h1 _ rfl) (fun j f _ _ hf hq => opn_stab j hf hq)))
          | 1, ho, hw, hd, hD, hK0, hun =>
            have e := (congrArg Oper.op (Option.some.inj ho)).symm
            obtain rfl := Option.some.inj ho
            have HB := Lib.hid (hok (.inl (hd 15 (by kernel_rfl))))
            have hWw : w' = wr.drew → Below n0 W w' := fun h => h ▸ BD.out
            exact wpIn_of_wp0 (wp_val (op_nilc a' w' _ 13 (hD 0 (by kernel_rfl)) _ e) (hK0 _ _ (fun _ => HB.out) (fun f h1 _ => h1 _ rfl) (fun j f _ _ hf hq => opn_stab j hf hq)))
          | 2, ho, hw, hd, hD, hK0, hun =>
            have e := (congrArg Oper.op (Option.some.inj ho)).symm
            obtain rfl := Option.some.inj ho
            have HB := Lib.hid (hok (.inl (hd 15 (by kernel_rfl))))
            have hWw : w' = wr.drew → Below n0 W w' := fun h => h ▸ BD.out
            exact wpIn_of_wp0 (wp_val (op_field_setter_0 a' w' R 14 (hD 1 (by kernel_rfl)) _ e) (hK0 _ _ (fun _ => HB.out) (fun f h1 _ => h1 _ rfl) (fun j f _ _ hf hq => opn_stab j hf hq)))
          | 3, ho, hw, hd, hD, hK0, hun =>
            have e := (congrArg Oper.op (Option.some.inj ho)).symm
            obtain rfl := Option.some.inj ho
            have HB := Lib.hid (hok (.inl (hd 15 (by kernel_rfl))))
            have hWw : w' = wr.drew → Below n0 W w' := fun h => h ▸ BD.out
            exact wpIn_of_wp0 (wp_val (op_cell_ints a' w' _ 15 _ (hD 2 (by kernel_rfl)) (HS.out.sl w' (hWw HB.out)) _ e) (hK0 _ _ (fun _ => HB.out) (fun f h1 _ => h1 _ rfl) (fun j f _ _ hf hq => opn_stab j hf hq)))
          | 4, ho, hw, hd, hD, hK0, hun =>
            have e := (congrArg Oper.op (Option.some.inj ho)).symm
            obtain rfl := Option.some.inj ho
            have HB := Lib.hid (hok (.inl (hd 15 (by kernel_rfl))))
            have hWw : w' = wr.drew → Below n0 W w' := fun h => h ▸ BD.out
            exact wpIn_of_wp0 (wp_val (op_mv a' w' 5 _ e) (hK0 _ _ (fun _ => HB.out) (fun f h1 _ => (h1 _ rfl).trans (hun 5 (by kernel_rfl))) (fun j f _ _ hf hq => opn_stab j hf hq)))
          | 5, ho, hw, hd, hD, hK0, hun =>
            have e := (congrArg Oper.op (Option.some.inj ho)).symm
            obtain rfl := Option.some.inj ho
            have HB := Lib.hid (hok (.inl (hd 15 (by kernel_rfl))))
            have hWw : w' = wr.drew → Below n0 W w' := fun h => h ▸ BD.out
            refine wpIn_of_wp0 (wp_enter (op_call1 a' w' 47 17 3 EV.out _ e) ?_)
            rw [show a'.tmps.getD 17 undef = .int .i64 x from hD 4 (by kernel_rfl)]
            refine (VA.out w').mono ?_
            rintro ee w2 ⟨rfl, rfl⟩
            exact .inl ⟨_, rfl, hK0 _ _ (fun _ => HB.out) (fun f h1 _ => h1 _ rfl) (fun j f _ _ hf hq => opn_stab j hf hq)⟩
          | 6, ho, hw, hd, hD, hK0, hun =>
            have e := (congrArg Oper.op (Option.some.inj ho)).symm
            obtain rfl := Option.some.inj ho
            have HB := Lib.hid (hok (.inl (hd 15 (by kernel_rfl))))
            have hWw : w' = wr.drew → Below n0 W w' := fun h => h ▸ BD.out
            exact wpIn_of_wp0 (wp_val (op_at_ints a' w' bs 0 N N x.natAbs 16 18 (hD 3 (by kernel_rfl)) (hD 5 (by kernel_rfl)) HX.out _ e) (hK0 _ _ (fun _ => HB.out) (fun f h1 _ => h1 _ rfl) (fun j f _ _ hf hq => opn_stab j hf hq)))
          | 7, ho, hw, hd, hD, hK0, hun =>
            have e := (congrArg Oper.op (Option.some.inj ho)).symm
            obtain rfl := Option.some.inj ho
            have HB := Lib.hid (hok (.inl (hd 15 (by kernel_rfl))))
            have hWw : w' = wr.drew → Below n0 W w' := fun h => h ▸ BD.out
            exact wpIn_of_wp0 (wp_val (op_cell_int a' w' _ 19 _ (hD 6 (by kernel_rfl)) (HZ.out w' (hWw HB.out)) _ e) (hK0 _ _ (fun _ => HB.out) (fun f h1 _ => h1 _ rfl) (fun j f _ _ hf hq => opn_stab j hf hq)))
          | 8, ho, hw, hd, hD, hK0, hun =>
            have e := (congrArg Oper.op (Option.some.inj ho)).symm
            obtain rfl := Option.some.inj ho
            have HB := Lib.hid (hok (.inl (hd 15 (by kernel_rfl))))
            have hWw : w' = wr.drew → Below n0 W w' := fun h => h ▸ BD.out
            exact wpIn_of_wp0 (wp_val (op_mv a' w' 5 _ e) (hK0 _ _ (fun _ => HB.out) (fun f h1 _ => (h1 _ rfl).trans (hun 5 (by kernel_rfl))) (fun j f _ _ hf hq => opn_stab j hf hq)))
          | 9, ho, hw, hd, hD, hK0, hun =>
            have e := (congrArg Oper.op (Option.some.inj ho)).symm
            obtain rfl := Option.some.inj ho
            have HB := Lib.hid (hok (.inl (hd 15 (by kernel_rfl))))
            have hWw : w' = wr.drew → Below n0 W w' := fun h => h ▸ BD.out
            exact wpIn_of_wp0 (wp_val (op_neg a' w' x 21 (hD 8 (by kernel_rfl)) HNX.out _ e) (hK0 _ _ (fun _ => HB.out) (fun f h1 _ => h1 _ rfl) (fun j f _ _ hf hq => opn_stab j hf hq)))
          | 10, ho, hw, hd, hD, hK0, hun =>
            have e := (congrArg Oper.op (Option.some.inj ho)).symm
            obtain rfl := Option.some.inj ho
            have HB := Lib.hid (hok (.inl (hd 15 (by kernel_rfl))))
            have hWw : w' = wr.drew → Below n0 W w' := fun h => h ▸ BD.out
            exact wpIn_of_wp0 (wp_val ((op_ne a' w' z (-x) 20 22 (hD 7 (by kernel_rfl)) (hD 9 (by kernel_rfl)) _ e).trans (by rw [HG.out])) (hK0 _ _ (fun _ => HB.out) (fun f h1 _ => h1 _ rfl) (fun j f _ _ hf hq => opn_stab j hf hq)))
          | 11, ho, hw, hd, hD, hK0, hun =>
            have e := (congrArg Oper.op (Option.some.inj ho)).symm
            obtain rfl := Option.some.inj ho
            have HB := Lib.hid (hok (.inl (hd 15 (by kernel_rfl))))
            have hWw : w' = wr.drew → Below n0 W w' := fun h => h ▸ BD.out
            exact wpIn_of_wp0 (wp_val (op_mv a' w' 23 _ e) (hK0 _ _ (fun _ => HB.out) (fun f h1 _ => (h1 _ rfl).trans (hD 10 (by kernel_rfl))) (fun j f _ _ hf hq => opn_stab j hf hq)))
          | 12, ho, hw, hd, hD, hK0, hun =>
            have e := (congrArg Oper.op (Option.some.inj ho)).symm
            obtain rfl := Option.some.inj ho
            have hg : g = true := by
              rw [wanted_of (t := 24) rfl rfl (show a'.tmps.getD 24 undef = .bool g from hD 11 (by kernel_rfl))] at hw
              exact eq_of_beq hw
            have HB := Lib.hid (hok (.inl (hd 15 (by kernel_rfl))))
            have hWw : w' = wr.drew → Below n0 W w' := fun h => h ▸ BD.out
            exact wpIn_of_wp0 (wp_val (op_mv a' w' 0 _ e) (hK0 _ _ (fun _ => HB.out) (fun f h1 _ _ => (h1 _ rfl).trans (hun 0 (by kernel_rfl))) (fun j f _ _ hf hq => opn_stab j hf hq)))
          | 13, ho, hw, hd, hD, hK0, hun =>
            have e := (congrArg Oper.op (Option.some.inj ho)).symm
            obtain rfl := Option.some.inj ho
            have hg : g = true := by
              rw [wanted_of (t := 24) rfl rfl (show a'.tmps.getD 24 undef = .bool g from hD 11 (by kernel_rfl))] at hw
              exact eq_of_beq hw
            have HB := Lib.hid (hok (.inl (hd 15 (by kernel_rfl))))
            have hWw : w' = wr.drew → Below n0 W w' := fun h => h ▸ BD.out
            exact wpIn_of_wp0 (wp_val (op_mv a' w' 4 _ e) (hK0 _ _ (fun _ => HB.out) (fun f h1 _ _ => (h1 _ rfl).trans (hun 4 (by kernel_rfl))) (fun j f _ _ hf hq => opn_stab j hf hq)))
          | 14, ho, hw, hd, hD, hK0, hun =>
            have e := (congrArg Oper.op (Option.some.inj ho)).symm
            obtain rfl := Option.some.inj ho
            have hg : g = true := by
              rw [wanted_of (t := 24) rfl rfl (show a'.tmps.getD 24 undef = .bool g from hD 11 (by kernel_rfl))] at hw
              exact eq_of_beq hw
            have HB := Lib.hid (hok (.inl (hd 15 (by kernel_rfl))))
            have hWw : w' = wr.drew → Below n0 W w' := fun h => h ▸ BD.out
            exact wpIn_of_wp0 (wp_val (op_mv a' w' 5 _ e) (hK0 _ _ (fun _ => HB.out) (fun f h1 _ _ => (h1 _ rfl).trans (hun 5 (by kernel_rfl))) (fun j f _ _ hf hq => opn_stab j hf hq)))
          | 15, ho, hw, hd, hD, hK0, hun =>
            have e := (congrArg Oper.op (Option.some.inj ho)).symm
            obtain rfl := Option.some.inj ho
            have hg : g = true := by
              rw [wanted_of (t := 24) rfl rfl (show a'.tmps.getD 24 undef = .bool g from hD 11 (by kernel_rfl))] at hw
              exact eq_of_beq hw
            have hw0 := hok (.inl (hd 15 (by kernel_rfl)))
            subst hw0
            have hok2 : ∀ w2 : World, (decide ((15 : Nat) = 15) || d 15) = false ∨ g = false → w2 = wr.drew := fun w2 h => by
              rcases h with h | h
              · simp at h
              · rw [hg] at h; cases h
            refine op_yield2 a' _ y _ _ 25 26 27 _ _ (hD 12 (by kernel_rfl) hg) (hD 13 (by kernel_rfl) hg) (hD 14 (by kernel_rfl) hg) _ e ?_
            obtain ⟨f1, f2, f3, f4, f5, f6⟩ := YA.out hg
            refine ⟨f1, f2, f3, f4, f5, f6.mono ?_⟩
            rintro ee w2 (⟨rfl, h1, h2⟩ | ⟨rfl, h1⟩)
            · exact ⟨_, rfl, hK0 _ _ (hok2 w2) (fun f h3 _ _ => ⟨true, h3 _ rfl, fun _ => ⟨h1, h2⟩, (fun h => by cases h)⟩) (fun j f hj hdj hf hq => opn_at15 j hj (fun h => absurd hdj (by rcases h with rfl | rfl; exact (by rw [hd 16 (by kernel_rfl)]; decide); exact (by rw [hd 17 (by kernel_rfl)]; decide))) hf hq)⟩
            · exact ⟨_, rfl, hK0 _ _ (hok2 w2) (fun f h3 _ _ => ⟨false, h3 _ rfl, (fun h => by cases h), fun _ => h1⟩) (fun j f hj hdj hf hq => opn_at15 j hj (fun h => absurd hdj (by rcases h with rfl | rfl; exact (by rw [hd 16 (by kernel_rfl)]; decide); exact (by rw [hd 17 (by kernel_rfl)]; decide))) hf hq)⟩
          | 16, ho, hw, hd, hD, hK0, hun =>
            have e := (congrArg Oper.op (Option.some.inj ho)).symm
            obtain rfl := Option.some.inj ho
            have hg : g = true := by
              rw [wanted_of (t := 24) rfl rfl (show a'.tmps.getD 24 undef = .bool g from hD 11 (by kernel_rfl))] at hw
              exact eq_of_beq hw
            obtain ⟨b, h1, h2⟩ := hD 15 (by kernel_rfl) hg
            exact wpIn_of_wp0 (wp_val (op_not a' w' b 28 h1 _ e) (hK0 _ _ hok (fun f h3 _ _ => ⟨b, h3 _ rfl, h2⟩) (fun j f _ _ hf hq => opn_stab j hf hq)))
          | 17, ho, hw, hd, hD, hK0, hun =>
            have e := (congrArg Oper.op (Option.some.inj ho)).symm
            obtain rfl := Option.some.inj ho
            have h24 : a'.tmps.getD 24 undef = .bool g := hD 11 (by kernel_rfl)
            cases hgg : g with
            | false =>
              rw [hgg] at h24
              exact wpIn_of_wp0 (wp_val (op_pick_no a' w' 24 29 h24 _ e) (hK0 _ _ hok (fun f h3 _ => ⟨fun _ => h3 _ rfl, (fun h => by rw [hgg] at h; cases h)⟩) (fun j f _ _ hf hq => opn_stab j hf hq)))
            | true =>
              rw [hgg] at h24
              obtain ⟨b, h1, h2⟩ := hD 16 (by kernel_rfl) hgg
              exact wpIn_of_wp0 (wp_val (op_pick a' w' true (!b) 24 29 h24 h1 _ e) (hK0 _ _ hok (fun f h3 _ => ⟨(fun h => by rw [hgg] at h; cases h), fun _ => ⟨b, h3 _ rfl, h2⟩⟩) (fun j f _ _ hf hq => opn_stab j hf hq)))
          | i + 18, ho, _, _, _, _, _ => exact absurd ho (by simp)
      · intro a' w3 hsz hdf hkt hok hR
        have HF3 := frame_sets [13, 14, 15, 16, 17, 18, 19, 20, 21, 22, 23, 24, 25, 26, 27, 28, 29, 30] (by kernel_rfl) hsz hkt
        obtain ⟨d, hok⟩ := hok
        have h30 := hR 17 (by decide)
        obtain ⟨tm, df⟩ := a'
        obtain rfl : df = _ := hdf
        simp only [List.foldl_cons, List.foldl_nil] at HF3
        have HOK := Lib.hid hok
        clear hkt hR hsz hok
        have HP := Lib.hid h30
        clear h30
        cases g with
        | false =>
          have h30 := HP.out.1 rfl
          replace h30 : tm.getD 30 undef = _ := h30
          rw [h30] at HF3
          clear h30
          generalize tm.getD 13 undef = y13 at HF3
          generalize tm.getD 14 undef = y14 at HF3
          generalize tm.getD 15 undef = y15 at HF3
          generalize tm.getD 16 undef = y16 at HF3
          generalize tm.getD 17 undef = y17 at HF3
          generalize tm.getD 18 undef = y18 at HF3
          generalize tm.getD 19 undef = y19 at HF3
          generalize tm.getD 20 undef = y20 at HF3
          generalize tm.getD 21 undef = y21 at HF3
          generalize tm.getD 22 undef = y22 at HF3
          generalize tm.getD 23 undef = y23 at HF3
          generalize tm.getD 24 undef = y24 at HF3
          generalize tm.getD 25 undef = y25 at HF3
          generalize tm.getD 26 undef = y26 at HF3
          generalize tm.getD 27 undef = y27 at HF3
          generalize tm.getD 28 undef = y28 at HF3
          generalize tm.getD 29 undef = y29 at HF3
          simp only [List.setIfInBounds_toArray, List.set_cons_succ, List.set_cons_zero] at HF3
          subst HF3
          have hw3 := HOK.out (.inr rfl)
          subst hw3
          have HJ2 := Lib.hid (HGN.out rfl)
          clear HP HOK
          gi_wp2
          go_roundw
          case rel => first | exact ⟨_, _, _, ⟨k + 1, by omega, rfl, HJ2.out, BD.out⟩, rfl, rfl, by go_num⟩ | exact ⟨k + 1, by omega, by go_num, HJ2.out, BD.out⟩
          case measure => simp [intOf]; omega
        | true =>
          obtain ⟨b2, h30, hP⟩ := HP.out.2 rfl
          replace h30 : tm.getD 30 undef = _ := h30
          rw [h30] at HF3
          clear h30
          generalize tm.getD 13 undef = y13 at HF3
          generalize tm.getD 14 undef = y14 at HF3
          generalize tm.getD 15 undef = y15 at HF3
          generalize tm.getD 16 undef = y16 at HF3
          generalize tm.getD 17 undef = y17 at HF3
          generalize tm.getD 18 undef = y18 at HF3
          generalize tm.getD 19 undef = y19 at HF3
          generalize tm.getD 20 undef = y20 at HF3
          generalize tm.getD 21 undef = y21 at HF3
          generalize tm.getD 22 undef = y22 at HF3
          generalize tm.getD 23 undef = y23 at HF3
          generalize tm.getD 24 undef = y24 at HF3
          generalize tm.getD 25 undef = y25 at HF3
          generalize tm.getD 26 undef = y26 at HF3
          generalize tm.getD 27 undef = y27 at HF3
          generalize tm.getD 28 undef = y28 at HF3
          generalize tm.getD 29 undef = y29 at HF3
          simp only [List.setIfInBounds_toArray, List.set_cons_succ, List.set_cons_zero] at HF3
          subst HF3
          have HPP := Lib.hid hP
          clear HP HOK hP
          have HGY2 := Lib.hid (HGY.out rfl)
          clear HGY HGN HG
          cases b2 with
          | true =>
            obtain ⟨hj2, hb2⟩ := HPP.out.1 rfl
            rw [← HGY2.out] at hj2
            have HJ2 := Lib.hid hj2
            have HB2 : Hid (Below n0 W w3) := BD.out.trans hb2
            clear hj2 hb2 HPP
            gi_wp2
            go_roundw
            case rel => first | exact ⟨_, _, _, ⟨k + 1, by omega, rfl, HJ2.out, HB2.out⟩, rfl, rfl, by go_num⟩ | exact ⟨k + 1, by omega, by go_num, HJ2.out, HB2.out⟩
            case measure => simp [intOf]; omega
          | false =>
            have hj2 := HPP.out.2 rfl
            rw [← HGY2.out] at hj2
            have HJ2 := Lib.hid hj2
            clear hj2 HPP
            gi_wp2
            refine bodyPost_ret (results_none rfl _ _ _) rfl ?_
            exact ⟨⟨_, rfl⟩, .inr ⟨_, HPF.out, HJ2.out⟩⟩
    · obtain rfl : k = l.length := by omega
      have HEND : l.take l.length = l := List.take_length
      rw [HEND] at HJ
      gi_wp2
      go_end0
      exact ⟨⟨_, rfl⟩, .inl ⟨_, rfl, HJ.out⟩⟩
theorem open_any (R : Nat) (A : Option Addr) (n q : Nat) (w : World) : Calls Try.prog 61 #[.pointer (some ⟨R, 0, none⟩), .slice A n q] w fun e w' => e = .returned (.func (.func 68) #[] #[.pointer (some ⟨w.heap.size + 1, 0, none⟩), .pointer (some ⟨w.heap.size, 0, none⟩)]) ∧
    w' = (w.alloc (.cells #[.pointer (some ⟨R, 0, none⟩)] 79)).alloc (.cells #[.slice A n q] 25) := by
  go_enter Try.func61, Try.ntmps61
  go_wp2
  go_ret
  exact ⟨rfl, rfl⟩
theorem grownBy_drew (w : World) : w.grownBy w.drew none := ⟨rfl, rfl, rfl, Nat.le_refl _, fun _ _ _ => rfl⟩
/-- the literals that may be true, each with the word that it is one -/
abbrev Opens (set l : List Int) : Type := { p : Nat × Int // p ∈ opensL set 0 l }
/-- what open hands back gives the literals that may be true, in their order -/
theorem open_stops (n : Nat) (bxl bxs R bs N n0 : Nat) (A : Option Addr) (q : Nat) (l set : List Int) (w : World) (hbx : bxl < n0) (hn0 : n0 ≤ w.heap.size) (hl : l.length ≤ 9223372036854775807) (hN : N ≤ 262145) (hlit : ∀ x ∈ l, x.natAbs < N)
    (hc : w.cell? ⟨bxl, 0, none⟩ = some (.slice A l.length q)) (hr : LRow w n0 1 A (ints l)) (hs : SetAt n0 bxs R bs N set w) :
    SeqStopsK Fence.wide n Try.prog 68 #[.pointer (some ⟨bxl, 0, none⟩), .pointer (some ⟨bxs, 0, none⟩)] (fun x : Opens set l => #[Value.int .i64 (x.1.1 : Int), .int .i64 x.1.2]) (Below n0) (fun ys => ys.map Subtype.val = opensL set 0 l) (fun pre => pre.map Subtype.val <+: opensL set 0 l) l.length w := fun y J Jx W hW hJ hJx hY h0 => by
  refine (open1_in n y bxl bxs R bs N n0 A q l set (fun pre W => ∃ p : List (Opens set l), p.map Subtype.val = pre ∧ J p W) (fun pre W => ∃ p : List (Opens set l), p.map Subtype.val = pre ∧ Jx p W) hl hN hlit
    (fun pre x W2 ⟨p, hp, hj⟩ hx hlen => ?_) (fun pre W2 ⟨p, hp, hj⟩ => ⟨p, hp, hJ p W2 _ none hj (grownBy_drew W2) (fun r e => by cases e)⟩) W ((hW.cell (p := ⟨bxl, 0, none⟩) (by show bxl < _; omega)).trans hc) (hr.below (hW.mono hn0))
    ⟨hs.len, fun W' h => hs.box W' ((hW.mono hn0).trans h), fun W' h => hs.sl W' ((hW.mono hn0).trans h), fun W' h => hs.at_ W' ((hW.mono hn0).trans h)⟩ ⟨[], rfl, h0⟩).mono ?_
  · obtain ⟨f1, f2, f3, f4, f5, f6⟩ := hY p ⟨x, hx⟩ W2 hj (by rw [← hp, List.length_map] at hlen; exact hlen)
    refine ⟨f1, f2, f3, f4, f5, f6.mono ?_⟩
    rintro e W3 (⟨h1, h2, h3⟩ | ⟨h1, h2⟩)
    · exact .inl ⟨h1, ⟨p ++ [⟨x, hx⟩], by rw [List.map_append, hp]; rfl, h2⟩, h3⟩
    · exact .inr ⟨h1, ⟨p ++ [⟨x, hx⟩], by rw [List.map_append, hp]; rfl, h2⟩⟩
  · rintro e W3 ⟨hv, h | h⟩
    · obtain ⟨ys, hys, p, hp, hj⟩ := h
      exact ⟨hv, .inl ⟨p, hp.trans hys, hj⟩⟩
    · obtain ⟨ys, hys, p, hp, hj⟩ := h
      exact ⟨hv, .inr ⟨p, by show p.map Subtype.val <+: _; rw [hp]; exact hys, hj⟩⟩
theorem opens_mem {set : List Int} : ∀ {l : List Int} {k : Nat} {p : Nat × Int}, p ∈ opensL set k l → k ≤ p.1 ∧ p.1 - k < l.length ∧ p.2 ∈ l
  | [], _, p, h => absurd h List.not_mem_nil
  | x :: r, k, p, h => by
    unfold opensL at h
    have key : p ∈ opensL set (k + 1) r → k ≤ p.1 ∧ p.1 - k < (x :: r).length ∧ p.2 ∈ x :: r := fun h => by
      obtain ⟨a, b, c⟩ := opens_mem h
      exact ⟨by omega, by simp only [List.length_cons]; omega, List.mem_cons_of_mem _ c⟩
    split at h
    · exact key h
    · rcases List.mem_cons.1 h with rfl | h
      · exact ⟨Nat.le_refl _, by simp, List.mem_cons_self⟩
      · exact key h
end Go.Proofs.Ytefbknpoehmfaaa.For
