/- A number put into a list that rises; what a literal is hangs on its cone alone; no program is named here, no condition. Has, Put and first, as the pages' own lists do it; no condition but that lists are short. Put, as the pages' own lists do it; condition: the list is short. -/
import Derived.Test.YtpaneggajjgdlaaPc33
import Derived.Test.YtpaneggajjgdlaaPc13
import Derived.Test.YtpaneggajjgdlaaPc22
namespace Go.Proofs.Ytpaneggajjgdlaa.Sim
open Circ Cw Str

def putM : List Int → Int → List Int
  | [], n => [n]
  | x :: l, n => if x < n then x :: putM l n else if x = n then n :: l else n :: x :: l
theorem putM_mem (l : List Int) (n y : Int) : y ∈ putM l n ↔ y = n ∨ y ∈ l := by
  induction l with
  | nil => simp [putM]
  | cons x l ih =>
    unfold putM
    split
    · rw [List.mem_cons, ih, List.mem_cons]
      constructor
      · rintro (h | h | h)
        · exact .inr (.inl h)
        · exact .inl h
        · exact .inr (.inr h)
      · rintro (h | h | h)
        · exact .inr (.inl h)
        · exact .inl h
        · exact .inr (.inr h)
    · split
      · rename_i h
        rw [List.mem_cons, List.mem_cons, h]
        constructor
        · rintro (h | h)
          · exact .inl h
          · exact .inr (.inr h)
        · rintro (h | h | h)
          · exact .inl h
          · exact .inl h
          · exact .inr h
      · simp only [List.mem_cons]
theorem putM_sorted {l : List Int} (n : Int) (h : l.Pairwise (· < ·)) : (putM l n).Pairwise (· < ·) := by
  induction l with
  | nil => simp [putM]
  | cons x l ih =>
    obtain ⟨h1, h2⟩ := List.pairwise_cons.1 h
    unfold putM
    split
    · rename_i hx
      refine List.pairwise_cons.2 ⟨fun y hy => ?_, ih h2⟩
      rcases (putM_mem l n y).1 hy with rfl | hy
      · exact hx
      · exact h1 y hy
    · split
      · rename_i e
        rw [← e]; exact h
      · rename_i hx he
        refine List.pairwise_cons.2 ⟨fun y hy => ?_, h⟩
        rcases List.mem_cons.1 hy with rfl | hy
        · omega
        · have := h1 y hy; omega
theorem putM_len {l : List Int} (n : Int) : l.length ≤ (putM l n).length ∧ ((putM l n).length = l.length → putM l n = l) ∧ (putM l n).length ≤ l.length + 1 := by
  induction l with
  | nil => simp [putM]
  | cons x l ih =>
    unfold putM
    split
    · simp only [List.length_cons]
      refine ⟨by omega, fun h => ?_, by omega⟩
      rw [ih.2.1 (by omega)]
    · split
      · rename_i e
        simp only [List.length_cons]
        exact ⟨Nat.le_refl _, fun _ => by rw [e], by omega⟩
      · simp only [List.length_cons]
        exact ⟨by omega, fun h => by omega, by omega⟩
/-- as the loop makes it -/
theorem putM_cut (n : Int) : ∀ (l : List Int) (k : Nat), k ≤ l.length → (∀ y ∈ l.take k, y < n) → (∀ h : k < l.length, ¬ l[k] < n) → putM l n = l.take k ++ n :: (if l[k]? = some n then l.drop (k + 1) else l.drop k)
  | [], k, hk, _, _ => by
    obtain rfl : k = 0 := by simpa using hk
    rfl
  | x :: l, 0, _, _, he => by
    have hx : ¬ x < n := he (by simp)
    unfold putM
    rw [if_neg hx]
    simp only [List.take_zero, List.nil_append, List.getElem?_cons_zero, Option.some.injEq, List.drop_zero]
    by_cases h : x = n
    · rw [if_pos h, if_pos h]; rfl
    · rw [if_neg h, if_neg h]
  | x :: l, k + 1, hk, ha, he => by
    have hx : x < n := ha x (by simp)
    unfold putM
    rw [if_pos hx, putM_cut n l k (by simpa using hk) (fun y hy => ha y (by simp [hy])) (fun h => by have := he (by simpa using h); rwa [List.getElem_cons_succ] at this)]
    simp
/-- a list that rises, of few numbers, is short -/
theorem rise_len : ∀ (l : List Int) (a b : Int), l.Pairwise (· < ·) → (∀ y ∈ l, a ≤ y ∧ y ≤ b) → a ≤ b + 1 → (l.length : Int) ≤ b - a + 1
  | [], a, b, _, _, h => by simp; omega
  | x :: l, a, b, h, hy, hab => by
    obtain ⟨h1, h2⟩ := List.pairwise_cons.1 h
    have hx := hy x List.mem_cons_self
    have := rise_len l (x + 1) b h2 (fun y hm => ⟨by have := h1 y hm; omega, (hy y (List.mem_cons_of_mem _ hm)).2⟩) (by omega)
    simp only [List.length_cons]
    omega
structure ConeS (v0 : Int) (l : List Int) : Prop where
  up : l.Pairwise (· < ·)
  el : ∀ y ∈ l, 0 ≤ y ∧ (y = v0 ∨ y ≤ 2048)
theorem ConeS.nil (v0 : Int) : ConeS v0 [] := ⟨List.Pairwise.nil, by simp⟩
theorem ConeS.put {v0 : Int} {l : List Int} (h : ConeS v0 l) {n : Int} (h0 : 0 ≤ n) (hn : n = v0 ∨ n ≤ 2048) : ConeS v0 (putM l n) :=
  ⟨putM_sorted n h.up, fun y hy => by
    rcases (putM_mem l n y).1 hy with rfl | hy
    · exact ⟨h0, hn⟩
    · exact h.el y hy⟩
theorem ConeS.len {v0 : Int} {l : List Int} (h : ConeS v0 l) : l.length ≤ 2050 := by
  rcases List.eq_nil_or_concat l with rfl | ⟨l', z, rfl⟩
  · simp
  · have hu := h.up
    rw [List.concat_eq_append] at hu h ⊢
    obtain ⟨h1, -, h3⟩ := List.pairwise_append.1 hu
    have := rise_len l' 0 2048 h1 (fun y hy => by
      have a := h.el y (List.mem_append_left _ hy)
      have b := h.el z (List.mem_append_right _ (List.mem_singleton.2 rfl))
      have c := h3 y hy z (List.mem_singleton.2 rfl)
      omega) (by omega)
    rw [List.length_append, List.length_singleton]
    omega

/- what a literal is hangs on its cone alone -/
theorem eval_agree (S : Int → Prop) : ∀ (l : List Tri) (V W : Int → Bool), (∀ n, S n → V n = W n) → (∀ t ∈ l, S (t.a / 2) → S (t.b / 2) ∧ S (t.c / 2)) → ∀ n, S n → evalM V l n = evalM W l n
  | [], _, _, h, _, n, hn => h n hn
  | t :: l, V, W, h, hc, n, hn => by
    have e : ∀ V, evalM V (t :: l) = evalM (setM V (t.a / 2) (bitM V t.b && bitM V t.c)) l := fun _ => rfl
    rw [e, e]
    refine eval_agree S l _ _ (fun k hk => ?_) (fun u hu => hc u (List.mem_cons_of_mem _ hu)) n hn
    unfold setM
    by_cases hka : k = t.a / 2
    · rw [if_pos hka, if_pos hka]
      obtain ⟨h1, h2⟩ := hc t List.mem_cons_self (by rw [← hka]; exact hk)
      unfold bitM
      rw [h _ h1, h _ h2]
    · rw [if_neg hka, if_neg hka, h k hk]
theorem puts_agree (n : Int) (hn : 0 ≤ n) (L : List Int) (sa sb : ByteArray) (va vb : List UInt8) (hlen : va.length = vb.length) (hL : ∀ x ∈ L, 0 ≤ x ∧ x / 2 < (va.length : Int)) (h : bitV va n = bitV vb n) : ∀ k, k ≤ L.length → (∀ i, i < k → L.getD i 0 / 2 = n → sa.data.toList.getD i 0 = sb.data.toList.getD i 0) → bitV (putsV va L sa k) n = bitV (putsV vb L sb k) n
  | 0, _, _ => h
  | k + 1, hk, hs => by
    have hm : L.getD k 0 ∈ L := by rw [List.getD_eq_getElem?_getD, List.getElem?_eq_getElem hk]; exact List.getElem_mem hk
    have ih := puts_agree n hn L sa sb va vb hlen hL h k (by omega) (fun i hi => hs i (by omega))
    have hl := hL _ hm
    unfold putsV
    rw [bitV_put _ hl.1 hn (by rw [putsV_len]; exact hl.2), bitV_put _ hl.1 hn (by rw [putsV_len, ← hlen]; exact hl.2)]
    by_cases e : n = L.getD k 0 / 2
    · rw [if_pos e, if_pos e, hs k (by omega) e.symm]
    · rw [if_neg e, if_neg e, ih]
/-- what is in the cone's list, or 0 -/
def InS (R : List Int) (n : Int) : Prop := n = 0 ∨ n ∈ R
/-- all that its gates are made of is in it -/
def Closed (R : List Int) (t : Tri) : Prop := t.a / 2 ∈ R → (t.b / 2 = 0 ∨ t.b / 2 ∈ R) ∧ (t.c / 2 = 0 ∨ t.c / 2 ∈ R)
theorem cone_same {c : Cir} (hr : refOk c = true) (st a b : ByteArray) (R : List Int) (hR : ∀ t ∈ c.ands, Closed R t) (hab : ∀ i, i < c.ins.length → c.ins.getD i 0 / 2 ∈ R → a.data.toList.getD i 0 = b.data.toList.getD i 0) {l : Int} (h0 : 0 ≤ l) (hl : InS R (l / 2)) : trueM (valsM c st a) l = trueM (valsM c st b) l := by
  rw [true_bit _ h0, true_bit _ h0]
  unfold bitM
  rw [vals_eval st a hr _ (by omega), vals_eval st b hr _ (by omega)]
  congr 1
  have hi : ∀ x ∈ c.ins, 0 ≤ x ∧ x / 2 < ((zeroV c).length : Int) := fun x hx => by
    have := own_in hr (show x ∈ own c from List.mem_append.2 (.inl hx)); omega
  have hlt : ∀ x ∈ c.lats.map Tri.a, 0 ≤ x ∧ x / 2 < ((zeroV c).length : Int) := fun x hx => by
    have := own_in hr (show x ∈ own c from List.mem_append.2 (.inr (List.mem_append.2 (.inl hx)))); omega
  have key : ∀ n, 0 ≤ n → InS R n → evalM (bitV (baseB c st a)) c.ands n = evalM (bitV (baseB c st b)) c.ands n := fun n hn hS => by
    refine eval_agree (fun n => 0 ≤ n ∧ InS R n) c.ands _ _ (fun k hk => ?_) (fun t ht hS => ?_) n ⟨hn, hS⟩
    · unfold baseB
      refine puts_agree k hk.1 _ st st _ _ (by rw [putsV_len, putsV_len]) (by rw [putsV_len]; exact hlt) ?_ _ (by simp) (fun _ _ _ => rfl)
      refine puts_agree k hk.1 _ a b _ _ rfl hi rfl _ (Nat.le_refl _) (fun i hil e => ?_)
      rcases hk.2 with h | h
      · have hm : c.ins.getD i 0 ∈ c.ins := by rw [List.getD_eq_getElem?_getD, List.getElem?_eq_getElem hil]; exact List.getElem_mem hil
        have := own_in hr (show c.ins.getD i 0 ∈ own c from List.mem_append.2 (.inl hm))
        omega
      · exact hab i hil (by rw [e]; exact h)
    · obtain ⟨a1, a2, a3, a4, a5, a6, -⟩ := (good_ands hr).mem t ht
      have hA : t.a / 2 ∈ R := by
        rcases hS.2 with h | h
        · omega
        · exact h
      obtain ⟨q1, q2⟩ := hR t ht hA
      exact ⟨⟨by omega, q1⟩, ⟨by omega, q2⟩⟩
  exact key _ (by omega) hl
end Go.Proofs.Ytpaneggajjgdlaa.Sim
namespace Go.Proofs.Ytpaneggajjgdlaa.Sim
open Go.ChangeShapes Go.WideShapes Go.ChangeAt Go.RowKit Go.Maps Circ Cw
open Str

theorem refhas_any (l : List Int) (n : Int) (A : Option Addr) (q : Nat) (w : World) (hn : l.length ≤ 9223372036854775807) (hr : LRow w w.heap.size 1 A (ints l)) :
    Calls Try.prog 38 #[.slice A l.length q, .int .i64 n] w fun e w' => e = .returned (.bool (decide (n ∈ l))) ∧ w = w' := by
  have HR := Lib.hid hr
  clear hr
  go_enter Try.func38, Try.ntmps38
  go_wp2
  go_loop [5] (fun i => ∃ k : Nat, k ≤ l.length ∧ i = .int .i64 k ∧ ¬ n ∈ l.take k) (fun i => l.length - (intOf i).toNat)
  case atStart => exact ⟨0, Nat.zero_le _, rfl, by simp⟩
  case round =>
    obtain ⟨k, hk, rfl, ha⟩ := hrel
    have HA := Lib.hid ha
    clear ha
    by_cases hlt : k < l.length
    · obtain ⟨b, o, rfl, -, hc⟩ := LRow.int HR.out hlt
      have HM := Lib.hid (List.getElem_mem hlt)
      have HT := Lib.hid (List.take_succ_eq_append_getElem hlt)
      generalize l[k] = x at *
      by_cases he : x = n
      · have hb : (x == n) = true := by rw [beq_iff_eq]; exact he
        have HF : Hid (decide (n ∈ l) = true) := decide_eq_true (he ▸ HM.out)
        clear he
        go_wp2
        go_ret
        exact ⟨by rw [HF.out]; rfl, rfl⟩
      · have hb : (x == n) = false := beq_eq_false_iff_ne.2 he
        have HN : Hid (¬ n ∈ l.take (k + 1)) := by
          unfold Hid
          rw [HT.out, List.mem_append, List.mem_singleton]
          rintro (h | h)
          · exact HA.out h
          · exact he h.symm
        clear he HT
        go_wp2
        go_round
        case rel => exact ⟨k + 1, by omega, by go_num, HN.out⟩
        case measure => simp [intOf]; omega
    · obtain rfl : k = l.length := by omega
      have HF : Hid (decide (n ∈ l) = false) := decide_eq_false (by have h := HA.out; rwa [List.take_length] at h)
      go_wp2
      go_ret
      exact ⟨by rw [HF.out]; rfl, rfl⟩
set_option maxHeartbeats 4000000 in
set_option maxRecDepth 100000 in
theorem reffirst_any (c : Cir) (s : Places) (k : Nat) (w : World) (h : CLies w w.heap.size c s) (hr : refOk c = true) (hk : k < c.ands.length) :
    Calls Try.prog 60 #[cirV c s, .int .i64 (k : Int)] w fun e w' => e = .returned (.bool true) ∧ Below w.heap.size w w' := by
  obtain ⟨WA, hWA⟩ : ∃ x, w.alloc (.cells #[.int .i64 c.max, .slice s.ai c.ins.length s.ki, .slice s.al c.lats.length s.kl, .slice s.ao c.outs.length s.ko, .slice s.ab c.bads.length s.kb, .slice s.ac c.invs.length s.kc, .slice s.aa c.ands.length s.ka, .slice s.an c.names.length s.kn] 27) = x := ⟨_, rfl⟩
  have bA : Hid (Below w.heap.size w WA) := by unfold Hid; rw [← hWA]; exact (Below.refl _ _).alloc (Nat.le_refl _) _
  have GA : Hid (WA.heap[w.heap.size]? = some (.cells (cirC c s) 27 (0, 0))) := by unfold Hid; rw [← hWA]; exact Array.getElem?_push_size
  have HR := Lib.hid hr
  have HK := Lib.hid hk
  have HZ := Lib.hid (ref_sizes hr)
  have LW : Hid (∀ x, Below w.heap.size w x → CLies x x.heap.size c s) := fun x hx => (h.below hx).more hx.size
  clear h hr
  unfold cirV
  rw [show cirC c s = #[.int .i64 c.max, .slice s.ai c.ins.length s.ki, .slice s.al c.lats.length s.kl, .slice s.ao c.outs.length s.ko, .slice s.ab c.bads.length s.kb, .slice s.ac c.invs.length s.kc, .slice s.aa c.ands.length s.ka, .slice s.an c.names.length s.kn] from rfl]
  go_enter Try.func60, Try.ntmps60
  go_wp2
  clear hWA
  have G9 : Hid (∀ x, Below WA.heap.size WA x → x.heap[w.heap.size]? = some (.cells (cirC c s) 27 (0, 0))) := fun x hx => (hx.block _ (lt_of_block GA.out)).trans GA.out
  go_loopw [5] (fun i wr => ∃ j : Nat, j ≤ k ∧ i = .int .i64 j ∧ Below WA.heap.size WA wr) (fun i _ => k - (intOf i).toNat)
  case atStart => exact ⟨0, Nat.zero_le _, rfl, Below.refl _ _⟩
  case round =>
    obtain ⟨j, hj, rfl, hbw⟩ := hrel
    have HB := Lib.hid hbw
    clear hbw
    have hka : k < c.ands.length := HK.out
    have za : c.ands.length ≤ 4097 := HZ.out.2.2.2.2.2
    by_cases hlt : j < k
    · have hja : j < c.ands.length := by omega
      obtain ⟨e0, e1, e2, e3, e4, e5, e6, e7⟩ := cells8 (G9.out _ HB.out)
      obtain ⟨b0, o, hA, -, c0, -, -⟩ := LRow.tri (LW.out wr (bA.out.trans (HB.out.mono bA.out.size))).ands hja
      obtain ⟨b1, o1, hA1, -, d0, -, -⟩ := LRow.tri (LW.out wr (bA.out.trans (HB.out.mono bA.out.size))).ands hka
      rw [hA] at hA1 e6
      simp only [Option.some.injEq, Addr.mk.injEq, and_true] at hA1
      obtain ⟨rfl, rfl⟩ := hA1
      have hx := own_in HR.out (show c.ands[j].a ∈ own c from List.mem_append.2 (.inr (List.mem_append.2 (.inr (List.mem_map_of_mem (List.getElem_mem hja))))))
      have hy := own_in HR.out (show c.ands[k].a ∈ own c from List.mem_append.2 (.inr (List.mem_append.2 (.inr (List.mem_map_of_mem (List.getElem_mem hka))))))
      have hlessq := ands_less HR.out hlt hka
      obtain ⟨m, hm, hm1⟩ := max_nat HR.out
      have hmx := max_len HR.out
      rw [hmx, hm] at hx hy
      clear hA hm hmx
      generalize c.ands[j].a = x at *
      generalize c.ands[k].a = y at *
      obtain ⟨vx, hvx⟩ : ∃ v : Nat, x / 2 = (v : Int) := ⟨(x / 2).toNat, by omega⟩
      obtain ⟨vy, hvy⟩ : ∃ v : Nat, y / 2 = (v : Int) := ⟨(y / 2).toNat, by omega⟩
      have tx : x.tdiv 2 = (vx : Int) := by rw [Int.tdiv_eq_ediv_of_nonneg (by omega)]; exact hvx
      have ty : y.tdiv 2 = (vy : Int) := by rw [Int.tdiv_eq_ediv_of_nonneg (by omega)]; exact hvy
      have hbx : vx ≤ 4096 := by omega
      have hby : vy ≤ 4096 := by omega
      have hxx : x ≤ 9223372036854775807 := by omega
      have hyy : y ≤ 9223372036854775807 := by omega
      have hge : decide (0 ≤ x) = true := decide_eq_true (by omega)
      have hx0 : 0 ≤ x := by omega
      have hy0 : 0 ≤ y := by omega
      have hne : ((vx : Int) == (vy : Int)) = false := beq_eq_false_iff_ne.2 (by omega)
      have hne2 : (vx == vy) = false := beq_eq_false_iff_ne.2 (by omega)
      have hne3 : ¬ vx = vy := by omega
      clear hvx hvy hx hy hlessq
      go_wp2
      have u6 := Wd.cell e6
      have uc := Wd.cell c0
      have ud := Wd.cell d0
      refine wp_region_wd (by kernel_rfl) (by kernel_rfl) ?_
      repeat (first | go_big_quiet_skip | (go_big_quiet_want; go_big_quiet_op; go_big_quiet_on))
      refine wpQuiet_nil ?_
      intro wz9 hw'
      obtain ⟨⟨_, hb9⟩, hw''⟩ := hw'
      subst hw''
      have BZ : Hid (Below WA.heap.size WA wz9) := HB.out.trans (hb9.mono HB.out.size)
      clear hb9 u6 uc ud e0 e1 e2 e3 e4 e5 e6 e7 c0 d0 tx ty hge hne hne2 hne3
      go_wp2
      go_roundw
      case rel => exact ⟨j + 1, by omega, by go_num, BZ.out⟩
      case measure => simp [intOf]; omega
    · obtain rfl : j = k := by omega
      have BF : Hid (Below w.heap.size w wr) := bA.out.trans (HB.out.mono bA.out.size)
      go_wp2
      go_ret
      exact ⟨rfl, BF.out⟩
end Go.Proofs.Ytpaneggajjgdlaa.Sim
namespace Go.Proofs.Ytpaneggajjgdlaa.Sim
open Go.ChangeShapes Go.WideShapes Go.ChangeAt Go.RowKit Go.Maps Circ Cw
open Str

/-- a list that may be cut: none of nothing, or one that lies somewhere -/
def Cuts (A : Option Addr) (l : List Int) (q : Nat) : Prop := (l = [] ∧ A = none ∧ q = 0) ∨ ((∃ b o, A = some ⟨b, o, none⟩) ∧ l.length ≤ q ∧ q ≤ 9223372036854775807)
theorem drop_row {w : World} {B b o : Nat} {l : List Int} (h : LRow w B 1 (some ⟨b, o, none⟩) (ints l)) (k : Nat) : LRow w B 1 (some ⟨b, o + k, none⟩) (ints (l.drop k)) := by
  rcases h with h | ⟨b', o', e, hb, hc⟩
  · have hl : l = [] := by simpa [ints] using h
    subst hl
    exact .inl (by simp [ints])
  · simp only [Option.some.injEq, Addr.mk.injEq, and_true] at e
    obtain ⟨rfl, rfl⟩ := e
    refine .inr ⟨b, o + k, rfl, hb, fun i ys hi j u hj => ?_⟩
    have e : (ints l)[k + i]? = some ys := by
      have : ints (l.drop k) = (ints l).drop k := by unfold ints; rw [List.map_drop]
      rw [this, List.getElem?_drop] at hi
      exact hi
    have := hc (k + i) ys e j u hj
    rw [show o + k + (i * 1 + j) = o + ((k + i) * 1 + j) from by omega]
    exact this
set_option maxHeartbeats 8000000 in
set_option maxRecDepth 100000 in
theorem refput_any (l : List Int) (n : Int) (A : Option Addr) (q : Nat) (w : World) (hn : l.length ≤ 4096) (hr : LRow w w.heap.size 1 A (ints l)) (hA : Cuts A l q) :
    Calls Try.prog 59 #[.slice A l.length q, .int .i64 n] w fun e w' => (∃ v, e = .returned v ∧ OwnI w' w.heap.size v (putM l n)) ∧ Below w.heap.size w w' := by
  have HR : Hid (∀ x, Below w.heap.size w x → LRow x w.heap.size 1 A (ints l)) := fun x hx => hr.below hx
  have HCA := Lib.hid hA
  clear hr hA
  go_enter Try.func59, Try.ntmps59
  go_wp2
  go_loopw [5, 6] (fun t i wr => ∃ (k : Nat) (v : Value), k ≤ l.length ∧ i = .int .i64 k ∧ t = v ∧ OwnI wr w.heap.size v (l.take k) ∧ (∀ y ∈ l.take k, y < n) ∧ Below w.heap.size w wr) (fun _ i _ => l.length - (intOf i).toNat)
  case atStart => exact ⟨0, _, Nat.zero_le _, rfl, rfl, OwnI.nil _ _, by simp, Below.refl _ _⟩
  case round =>
    obtain ⟨k, v, hk, rfl, hzv, how, hall, hb⟩ := hrel
    obtain rfl := hzv.symm
    have HOW := Lib.hid how
    have HALL := Lib.hid hall
    have HB := Lib.hid hb
    clear how hall hb hzv
    by_cases hlt : k < l.length
    · obtain ⟨b, o, rfl, -, hc⟩ := LRow.int (HR.out _ HB.out) hlt
      have HCQ : Hid (l.length ≤ q ∧ q ≤ 9223372036854775807) := by
        rcases HCA.out with ⟨h1, -, -⟩ | ⟨-, h2⟩
        · rw [h1] at hlt; exact absurd hlt (by simp)
        · exact h2
      have HT := Lib.hid (List.take_succ_eq_append_getElem hlt)
      have HG : Hid (l[k]? = some l[k]) := List.getElem?_eq_getElem hlt
      have HC : Hid (∀ X, Below w.heap.size w X → X.cell? ⟨b, o + k, none⟩ = some (.int .i64 l[k])) := fun X hX => by
        obtain ⟨b', o', e, -, hc'⟩ := LRow.int (HR.out X hX) hlt
        simp only [Option.some.injEq, Addr.mk.injEq, and_true] at e
        obtain ⟨rfl, rfl⟩ := e
        exact hc'
      have HCUT := Lib.hid (fun (h : ¬ l[k] < n) => putM_cut n l k hk HALL.out (fun _ => h))
      generalize l[k] = x at *
      by_cases hx : x < n
      · have hd : decide (x < n) = true := decide_eq_true hx
        have HN : Hid (∀ y ∈ l.take (k + 1), y < n) := by
          unfold Hid
          rw [HT.out]
          intro y hy
          rcases List.mem_append.1 hy with hy | hy
          · exact HALL.out y hy
          · rw [List.mem_singleton.1 hy]; exact hx
        have hba : Below wr.heap.size wr (wr.alloc (.cells #[.int .i64 x] 3)) := (Below.refl _ _).alloc (Nat.le_refl _) _
        have HBB := Lib.hid hba
        have HONE := Lib.hid (one_row wr x 3)
        have HLn : Hid (((l.take k).length + [x].length) * 8 ≤ 140737488355328) := by unfold Hid; simp; omega
        clear hba HCUT HG
        go_wp2_with (at_builtin; refine wpList_app _ rfl (.tmp 19) (.tmp 24) rfl w.heap.size _ v (l.take k) [x] rfl (HOW.out.keep HBB.out) _ 1 1 rfl rfl HONE.out HLn.out (Nat.le_trans HB.out.size HBB.out.size) ?_)
        intro v2 w3 hown2 hg2 hloc2
        rw [← HT.out] at hown2
        have HO2 := Lib.hid hown2
        have HB2 : Hid (Below w.heap.size w w3) := (HB.out.trans (HBB.out.mono HB.out.size)).trans (own_below (HOW.out.keep HBB.out) hg2 (Nat.le_trans HB.out.size HBB.out.size))
        clear hown2 hg2 hloc2 hc hd
        go_wp2
        go_roundw
        case rel => exact ⟨k + 1, v2, by omega, by go_num, rfl, HO2.out, HN.out, HB2.out⟩
        case measure => simp [intOf]; omega
      · have hd : decide (x < n) = false := decide_eq_false hx
        have HPQ := Lib.hid (HCUT.out hx)
        rw [HG.out] at HPQ
        have hba : Below wr.heap.size wr (wr.alloc (.cells #[.int .i64 n] 3)) := (Below.refl _ _).alloc (Nat.le_refl _) _
        have HBB := Lib.hid hba
        have HONE := Lib.hid (one_row wr n 3)
        have HLn : Hid (((l.take k).length + [n].length) * 8 ≤ 140737488355328) := by unfold Hid; simp; omega
        have HLK := Lib.hid hlt
        clear hba HCUT HG HT
        go_wp2_with (at_builtin; refine wpList_app _ rfl (.tmp 28) (.tmp 30) rfl w.heap.size _ v (l.take k) [n] rfl (HOW.out.keep HBB.out) _ 1 1 rfl rfl HONE.out HLn.out (Nat.le_trans HB.out.size HBB.out.size) ?_)
        intro v2 w3 hown2 hg2 hloc2
        have HO2 := Lib.hid hown2
        have HB2 : Hid (Below w.heap.size w w3) := (HB.out.trans (HBB.out.mono HB.out.size)).trans (own_below (HOW.out.keep HBB.out) hg2 (Nat.le_trans HB.out.size HBB.out.size))
        clear hown2 hg2 hloc2 hd hx
        have hc3 := HC.out w3 HB2.out
        by_cases he : x = n
        · have hb : (x == n) = true := by rw [beq_iff_eq]; exact he
          have HP : Hid (putM l n = l.take k ++ n :: l.drop (k + 1)) := by have := HPQ.out; rw [if_pos (by rw [he])] at this; exact this
          clear he HPQ
          have HBY : Hid (((l.take k ++ [n]).length + (l.drop (k + 1)).length) * 8 ≤ 140737488355328) := by unfold Hid; simp; omega
          have hkl : k + 1 ≤ l.length := by omega
          have hkq : k + 1 ≤ q := by have := HCQ.out.1; omega
          have hqm : q ≤ 9223372036854775807 := HCQ.out.2
          have hrow := drop_row (HR.out w3 HB2.out) (k + 1)
          by_cases hq : k + 1 = q
          · have HD : Hid (l.drop (k + 1) = []) := by have := HCQ.out.1; exact List.drop_eq_nil_of_le (by omega)
            subst hq
            clear hrow
            go_wp2_with (at_builtin; refine wpList_app _ rfl (.tmp 46) (.tmp 49) rfl w.heap.size w.heap.size v2 (l.take k ++ [n]) (l.drop (k + 1)) rfl HO2.out _ _ _ (by simp) rfl (.inl (by rw [HD.out]; rfl)) HBY.out HB2.out.size ?_)
            intro v5 w5 hown5 hg5 hloc5
            have HO5 := Lib.hid hown5
            have HB5 : Hid (Below w.heap.size w w5) := HB2.out.trans (own_below HO2.out hg5 HB2.out.size)
            clear hown5 hg5 hloc5
            go_wp2
            go_ret
            exact ⟨⟨v5, rfl, by rw [HP.out]; exact HO5.out⟩, HB5.out⟩
          · have hq2 : k + 1 < q := by omega
            have HROW := Lib.hid hrow
            clear hrow
            go_wp2_with (at_builtin; refine wpList_app _ rfl (.tmp 46) (.tmp 49) rfl w.heap.size w.heap.size v2 (l.take k ++ [n]) (l.drop (k + 1)) rfl HO2.out _ _ _ (by simp) rfl HROW.out HBY.out HB2.out.size ?_)
            intro v5 w5 hown5 hg5 hloc5
            have HO5 := Lib.hid hown5
            have HB5 : Hid (Below w.heap.size w w5) := HB2.out.trans (own_below HO2.out hg5 HB2.out.size)
            clear hown5 hg5 hloc5
            go_wp2
            go_ret
            exact ⟨⟨v5, rfl, by rw [HP.out]; exact HO5.out⟩, HB5.out⟩
        · have hb : (x == n) = false := beq_eq_false_iff_ne.2 he
          have HP : Hid (putM l n = l.take k ++ n :: l.drop k) := by have := HPQ.out; rw [if_neg (fun e => he (Option.some.inj e))] at this; exact this
          clear he HPQ
          have HBY : Hid (((l.take k ++ [n]).length + (l.drop (k)).length) * 8 ≤ 140737488355328) := by unfold Hid; simp; omega
          have hkl : k ≤ l.length := by omega
          have hkq : k ≤ q := by have := HCQ.out.1; omega
          have hqm : q ≤ 9223372036854775807 := HCQ.out.2
          have hrow := drop_row (HR.out w3 HB2.out) (k)
          by_cases hq : k = q
          · have HD : Hid (l.drop (k) = []) := by have := HCQ.out.1; exact List.drop_eq_nil_of_le (by omega)
            subst hq
            clear hrow
            go_wp2_with (at_builtin; refine wpList_app _ rfl (.tmp 46) (.tmp 49) rfl w.heap.size w.heap.size v2 (l.take k ++ [n]) (l.drop (k)) rfl HO2.out _ _ _ (by simp) rfl (.inl (by rw [HD.out]; rfl)) HBY.out HB2.out.size ?_)
            intro v5 w5 hown5 hg5 hloc5
            have HO5 := Lib.hid hown5
            have HB5 : Hid (Below w.heap.size w w5) := HB2.out.trans (own_below HO2.out hg5 HB2.out.size)
            clear hown5 hg5 hloc5
            go_wp2
            go_ret
            exact ⟨⟨v5, rfl, by rw [HP.out]; exact HO5.out⟩, HB5.out⟩
          · have hq2 : k < q := by omega
            have HROW := Lib.hid hrow
            clear hrow
            go_wp2_with (at_builtin; refine wpList_app _ rfl (.tmp 46) (.tmp 49) rfl w.heap.size w.heap.size v2 (l.take k ++ [n]) (l.drop (k)) rfl HO2.out _ _ _ (by simp) rfl HROW.out HBY.out HB2.out.size ?_)
            intro v5 w5 hown5 hg5 hloc5
            have HO5 := Lib.hid hown5
            have HB5 : Hid (Below w.heap.size w w5) := HB2.out.trans (own_below HO2.out hg5 HB2.out.size)
            clear hown5 hg5 hloc5
            go_wp2
            go_ret
            exact ⟨⟨v5, rfl, by rw [HP.out]; exact HO5.out⟩, HB5.out⟩
    · obtain rfl : k = l.length := by omega
      rw [List.take_length] at HOW HALL
      have HP : Hid (putM l n = l ++ [n]) := by
        have h := putM_cut n l l.length (Nat.le_refl _) (by rw [List.take_length]; exact HALL.out) (fun h => absurd h (Nat.lt_irrefl _))
        unfold Hid
        rw [h, List.take_length, List.getElem?_eq_none (Nat.le_refl _)]
        simp
      have hba : Below wr.heap.size wr (wr.alloc (.cells #[.int .i64 n] 3)) := (Below.refl _ _).alloc (Nat.le_refl _) _
      have HBB := Lib.hid hba
      have HONE := Lib.hid (one_row wr n 3)
      have HLn : Hid ((l.length + [n].length) * 8 ≤ 140737488355328) := by unfold Hid; simp; omega
      clear hba
      have HBY : Hid (((l ++ [n]).length + ([] : List Int).length) * 8 ≤ 140737488355328) := by unfold Hid; simp; omega
      go_wp2_with (at_builtin; refine wpList_app _ rfl (.tmp 28) (.tmp 30) rfl w.heap.size _ v l [n] rfl (HOW.out.keep HBB.out) _ 1 1 rfl rfl HONE.out HLn.out (Nat.le_trans HB.out.size HBB.out.size) ?_)
      intro v2 w3 hown2 hg2 hloc2
      have HO2 := Lib.hid hown2
      have HB2 : Hid (Below w.heap.size w w3) := (HB.out.trans (HBB.out.mono HB.out.size)).trans (own_below (HOW.out.keep HBB.out) hg2 (Nat.le_trans HB.out.size HBB.out.size))
      clear hown2 hg2 hloc2
      rcases HCA.out with ⟨hl0, rfl, rfl⟩ | ⟨⟨b, o, rfl⟩, hq0, hqm⟩
      · have hl0' : l.length = 0 := by rw [hl0]; rfl
        have HLZ := Lib.hid hl0
        clear hl0
        rw [hl0']
        go_wp2_with (at_builtin; refine wpList_app _ rfl (.tmp 46) (.tmp 49) rfl w.heap.size w.heap.size v2 (l ++ [n]) [] rfl HO2.out _ _ _ rfl rfl (.inl rfl) HBY.out HB2.out.size ?_)
        intro v5 w5 hown5 hg5 hloc5
        have HO5 := Lib.hid hown5
        have HB5 : Hid (Below w.heap.size w w5) := HB2.out.trans (own_below HO2.out hg5 HB2.out.size)
        clear hown5 hg5 hloc5 hl0'
        go_wp2
        go_ret
        exact ⟨⟨v5, rfl, by rw [HP.out]; exact HO5.out⟩, HB5.out⟩
      · by_cases hq : l.length = q
        · have hzz : l.length - l.length = ([] : List Int).length := by simp
          subst hq
          go_wp2_with (at_builtin; refine wpList_app _ rfl (.tmp 46) (.tmp 49) rfl w.heap.size w.heap.size v2 (l ++ [n]) [] rfl HO2.out _ _ _ (by simp) rfl (.inl rfl) HBY.out HB2.out.size ?_)
          intro v5 w5 hown5 hg5 hloc5
          have HO5 := Lib.hid hown5
          have HB5 : Hid (Below w.heap.size w w5) := HB2.out.trans (own_below HO2.out hg5 HB2.out.size)
          clear hown5 hg5 hloc5
          go_wp2
          go_ret
          exact ⟨⟨v5, rfl, by rw [HP.out]; exact HO5.out⟩, HB5.out⟩
        · have hq2 : l.length < q := by omega
          go_wp2_with (at_builtin; refine wpList_app _ rfl (.tmp 46) (.tmp 49) rfl w.heap.size w.heap.size v2 (l ++ [n]) [] rfl HO2.out _ _ _ (by simp) rfl (.inl rfl) HBY.out HB2.out.size ?_)
          intro v5 w5 hown5 hg5 hloc5
          have HO5 := Lib.hid hown5
          have HB5 : Hid (Below w.heap.size w w5) := HB2.out.trans (own_below HO2.out hg5 HB2.out.size)
          clear hown5 hg5 hloc5
          go_wp2
          go_ret
          exact ⟨⟨v5, rfl, by rw [HP.out]; exact HO5.out⟩, HB5.out⟩
end Go.Proofs.Ytpaneggajjgdlaa.Sim
