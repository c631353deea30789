/- Trits: what is known of what is not known; no program is named here, no condition. What the pages say of bits, truth and clauses; no condition but that texts are as long as Go's may be. -/
import Derived.Test.YthcigpklbhjglaaPt28
import Derived.Test.YthcigpklbhjglaaPt27
import Derived.Laws.CopyOwn
namespace Go.Proofs.Ythcigpklbhjglaa.Ter
open Circ Cw Str Sim

/-- '0', '1' or 'x' -/
def isTrit (x : UInt8) : Bool := isBit x || decide (x.toNat = 120)
/-- is s n trits? -/
def tritsM (s : ByteArray) (n : Int) : Bool := decide ((s.size : Int) = n) && s.data.toList.all isTrit
def isT (x : UInt8) : Prop := x = 48 ∨ x = 49 ∨ x = 120
theorem isT_of {x : UInt8} (h : isTrit x = true) : isT x := by
  unfold isTrit at h
  rw [Bool.or_eq_true, decide_eq_true_eq] at h
  rcases h with h | h
  · rcases isB_of h with h | h
    · exact .inl h
    · exact .inr (.inl h)
  · exact .inr (.inr (UInt8.toNat_inj.1 h))
theorem trits_parts {s : ByteArray} {n : Nat} (h : tritsM s (n : Int) = true) : s.size = n ∧ ∀ y ∈ s.data.toList, isT y := by
  unfold tritsM at h
  simp only [Bool.and_eq_true, decide_eq_true_eq] at h
  exact ⟨by omega, fun y hy => isT_of (List.all_eq_true.1 h.2 y hy)⟩
/-- the opposite trit -/
def notT (x : UInt8) : UInt8 := if x = 48 then 49 else if x = 49 then 48 else x
/-- a literal's trit; of a variable that has none x -/
def ofT (v : List UInt8) (l : Int) : UInt8 := if cnt l % 2 = 1 then notT (v.getD (cnt l / 2).toNat 120) else v.getD (cnt l / 2).toNat 120
def andT (a b : UInt8) : UInt8 := if a = 48 ∨ b = 48 then 48 else if a = 49 ∧ b = 49 then 49 else 120
def gateT (v : List UInt8) (t : Tri) : List UInt8 := putV v t.a (andT (ofT v t.b) (ofT v t.c))
def gatesT (v : List UInt8) (l : List Tri) : List UInt8 := l.foldl gateT v
/-- the trits of a circuit in a state and with an input -/
def valsT (c : Cir) (st inp : ByteArray) : List UInt8 := gatesT (baseB c st inp) c.ands
theorem gateT_len (v : List UInt8) (t : Tri) : (gateT v t).length = v.length := putV_len _ _ _
theorem gatesT_len : ∀ (l : List Tri) (v : List UInt8), (gatesT v l).length = v.length
  | [], _ => rfl
  | t :: l, v => by
    show (gatesT (gateT v t) l).length = _
    rw [gatesT_len l, gateT_len]
theorem gatesT_snoc (v : List UInt8) (l : List Tri) (k : Nat) (h : k < l.length) : gatesT v (l.take (k + 1)) = gateT (gatesT v (l.take k)) l[k] := by
  unfold gatesT
  rw [List.take_succ_eq_append_getElem h, List.foldl_append]; rfl
theorem valsT_len (c : Cir) (st inp : ByteArray) : (valsT c st inp).length = c.max.toNat + 1 := by
  unfold valsT; rw [gatesT_len, base_len]
theorem andT_isT (a b : UInt8) : isT (andT a b) := by
  unfold andT isT
  split
  · exact .inl rfl
  · split
    · exact .inr (.inl rfl)
    · exact .inr (.inr rfl)
/- all octets are trits -/
theorem putV_isT {v : List UInt8} {l : Int} {x : UInt8} (h : ∀ y ∈ v, isT y) (hx : isT x) : ∀ y ∈ putV v l x, isT y := fun y hy => by
  unfold putV at hy
  rcases List.mem_or_eq_of_mem_set hy with hy | hy
  · exact h y hy
  · rw [hy]; exact hx
theorem putsV_isT {v : List UInt8} {L : List Int} {s : ByteArray} (h : ∀ y ∈ v, isT y) (hs : ∀ y ∈ s.data.toList, isT y) : ∀ k, k ≤ s.size → ∀ y ∈ putsV v L s k, isT y
  | 0, _ => h
  | k + 1, hk => by
    unfold putsV
    refine putV_isT (putsV_isT h hs k (by omega)) (hs _ ?_)
    have hl : k < s.data.toList.length := by simp; omega
    rw [List.getD_eq_getElem?_getD, List.getElem?_eq_getElem hl]
    exact List.getElem_mem hl
theorem gatesT_isT {v : List UInt8} (h : ∀ y ∈ v, isT y) (l : List Tri) : ∀ y ∈ gatesT v l, isT y := by
  unfold gatesT
  induction l generalizing v with
  | nil => exact h
  | cons t l ih => exact ih (putV_isT h (andT_isT _ _))
theorem valsT_isT {c : Cir} {st inp : ByteArray} (hs : tritsM st (c.lats.length : Int) = true) (hi : tritsM inp (c.ins.length : Int) = true) : ∀ y ∈ valsT c st inp, isT y := by
  obtain ⟨a1, a2⟩ := trits_parts hs
  obtain ⟨b1, b2⟩ := trits_parts hi
  refine gatesT_isT ?_ _
  unfold baseB
  refine putsV_isT (putsV_isT (fun y hy => ?_) b2 _ (by omega)) a2 _ (by omega)
  rw [(List.mem_replicate.1 hy).2]; exact .inl rfl
/- with more that is known no less is known -/
/-- x tells no more than y, and nothing else -/
def cov (x y : UInt8) : Prop := x = y ∨ x = 120
/-- trit by trit -/
def Cov (a b : List UInt8) : Prop := a.length = b.length ∧ ∀ i, cov (a.getD i 120) (b.getD i 120)
theorem Cov.refl (a : List UInt8) : Cov a a := ⟨rfl, fun _ => .inl rfl⟩
theorem cov_trans {x y z : UInt8} (h : cov x y) (k : cov y z) : cov x z := by
  rcases h with rfl | h
  · exact k
  · exact .inr h
theorem Cov.trans {a b c : List UInt8} (h : Cov a b) (k : Cov b c) : Cov a c := ⟨h.1.trans k.1, fun i => cov_trans (h.2 i) (k.2 i)⟩
theorem cov_not {x y : UInt8} (h : cov x y) : cov (notT x) (notT y) := by
  rcases h with rfl | rfl
  · exact .inl rfl
  · exact .inr rfl
theorem cov_of {a b : List UInt8} (h : Cov a b) (l : Int) : cov (ofT a l) (ofT b l) := by
  unfold ofT
  split
  · exact cov_not (h.2 _)
  · exact h.2 _
theorem cov_and {a b x y : UInt8} (h : cov a x) (k : cov b y) : cov (andT a b) (andT x y) := by
  rcases h with rfl | rfl
  · rcases k with rfl | rfl
    · exact .inl rfl
    · unfold andT
      by_cases ha : a = 48
      · rw [if_pos (.inl ha), if_pos (.inl ha)]; exact .inl rfl
      · rw [if_neg (by rintro (h | h); exact ha h; exact absurd h (by decide)), if_neg (by rintro ⟨_, h⟩; exact absurd h (by decide))]; exact .inr rfl
  · unfold andT
    by_cases hb : b = 48
    · have hy : y = 48 := by
        rcases k with h | h
        · rw [← h]; exact hb
        · rw [hb] at h; exact absurd h (by decide)
      rw [if_pos (.inr hb), if_pos (.inr hy)]; exact .inl rfl
    · rw [if_neg (by rintro (h | h); exact absurd h (by decide); exact hb h), if_neg (by rintro ⟨h, _⟩; exact absurd h (by decide))]; exact .inr rfl
theorem getD_put (v : List UInt8) (l : Int) (x : UInt8) (i : Nat) : (putV v l x).getD i 120 = if i = (l / 2).toNat ∧ i < v.length then x else v.getD i 120 := by
  unfold putV
  rw [List.getD_eq_getElem?_getD, List.getD_eq_getElem?_getD, List.getElem?_set]
  by_cases h : (l / 2).toNat = i
  · subst h
    rw [if_pos rfl]
    by_cases h2 : (l / 2).toNat < v.length
    · rw [if_pos h2, if_pos ⟨rfl, h2⟩]; rfl
    · rw [if_neg h2, if_neg (fun e => h2 e.2), List.getElem?_eq_none (by omega)]
  · rw [if_neg h, if_neg (fun e => h e.1.symm)]
theorem cov_put {a b : List UInt8} (h : Cov a b) (l : Int) {x y : UInt8} (hx : cov x y) : Cov (putV a l x) (putV b l y) := by
  refine ⟨by rw [putV_len, putV_len]; exact h.1, fun i => ?_⟩
  rw [getD_put, getD_put, h.1]
  split
  · exact hx
  · exact h.2 i
theorem cov_gates {a b : List UInt8} (h : Cov a b) (l : List Tri) : Cov (gatesT a l) (gatesT b l) := by
  unfold gatesT
  induction l generalizing a b with
  | nil => exact h
  | cons t l ih => exact ih (cov_put h _ (cov_and (cov_of h _) (cov_of h _)))
theorem cov_puts {a b : List UInt8} (h : Cov a b) (L : List Int) (s u : ByteArray) : ∀ k, (∀ i, i < k → cov (s.data.toList.getD i 0) (u.data.toList.getD i 0)) → Cov (putsV a L s k) (putsV b L u k)
  | 0, _ => h
  | k + 1, hs => cov_put (cov_puts h L s u k fun i hi => hs i (by omega)) _ (hs k (by omega))
/-- WITH MORE THAT IS KNOWN NO LESS IS KNOWN -/
theorem cov_vals (c : Cir) {st su inp iu : ByteArray} (hs : ∀ i, i < c.lats.length → cov (st.data.toList.getD i 0) (su.data.toList.getD i 0)) (hi : ∀ i, i < c.ins.length → cov (inp.data.toList.getD i 0) (iu.data.toList.getD i 0)) : Cov (valsT c st inp) (valsT c su iu) := by
  unfold valsT baseB
  exact cov_gates (cov_puts (cov_puts (Cov.refl _) _ _ _ _ hi) _ _ _ _ hs) _
/- trits that are bits are bits -/
theorem of_bit {v : List UInt8} (h : ∀ y ∈ v, isB y) {l : Int} (h0 : 0 ≤ l) (hl : l / 2 < (v.length : Int)) : ofT v l = bitB (trueM v l) := by
  have hi : (l / 2).toNat < v.length := by omega
  unfold ofT trueM
  rw [cnt_pos l h0, List.getD_eq_getElem?_getD, List.getElem?_eq_getElem hi, Option.getD_some]
  rcases h _ (List.getElem_mem hi) with e | e <;> rw [e] <;> by_cases ho : l % 2 = 1
  · rw [if_pos ho, decide_eq_true ho]; rfl
  · rw [if_neg ho, decide_eq_false ho]; rfl
  · rw [if_pos ho, decide_eq_true ho]; rfl
  · rw [if_neg ho, decide_eq_false ho]; rfl
theorem and_bit (x y : Bool) : andT (bitB x) (bitB y) = bitB (x && y) := by cases x <;> cases y <;> rfl
theorem put_same {v : List UInt8} {l : Int} {x : UInt8} (h : v[(l / 2).toNat]? = some x) : putV v l x = v := by
  unfold putV
  apply List.ext_getElem?
  intro i
  rw [List.getElem?_set]
  by_cases e : (l / 2).toNat = i
  · subst e
    rw [if_pos rfl, h, if_pos (List.getElem?_eq_some_iff.1 h).1]
  · rw [if_neg e]
/-- gates of bits: as step by step -/
theorem gatesT_bits {B : Int → Prop} {l : List Tri} (hg : Str.Good B l) (v0 : List UInt8) (hb : ∀ y ∈ v0, isB y) (hlen : ∀ t ∈ l, t.a / 2 < (v0.length : Int)) (h0 : ∀ t ∈ l, bitV v0 (t.a / 2) = false) : gatesT v0 l = gatesV v0 l := by
  induction hg with
  | nil => rfl
  | snoc l t h1 h2 h3 h4 h5 h6 h7 h8 h9 h10 h11 ih =>
    have ih := ih (fun u hu => hlen u (List.mem_append_left _ hu)) (fun u hu => h0 u (List.mem_append_left _ hu))
    have ht := hlen t (List.mem_append_right _ (List.mem_singleton.2 rfl))
    have ht0 := h0 t (List.mem_append_right _ (List.mem_singleton.2 rfl))
    have e1 : gatesT v0 (l ++ [t]) = gateT (gatesT v0 l) t := by unfold gatesT; rw [List.foldl_append]; rfl
    have e2 : gatesV v0 (l ++ [t]) = gateV (gatesV v0 l) t := by unfold gatesV; rw [List.foldl_append]; rfl
    rw [e1, e2, ih]
    have hlv : (gatesV v0 l).length = v0.length := gatesV_len _ _
    have hbv : ∀ y ∈ gatesV v0 l, isB y := gatesV_bits hb l
    have hev := gates_eval h1 v0 (fun u hu => hlen u (List.mem_append_left _ hu)) (fun u hu => h0 u (List.mem_append_left _ hu)) (t.a / 2) (by omega)
    rw [eval_other _ _ _ (fun u hu => by have := h4 u hu; have := (h1.mem u hu).2.1; omega), ht0] at hev
    generalize gatesV v0 l = v at *
    unfold gateT gateV
    rw [of_bit hbv h5 (by omega), of_bit hbv h7 (by omega), and_bit]
    cases hq : (trueM v t.b && trueM v t.c) with
    | true => rw [if_pos rfl]; rfl
    | false =>
      rw [if_neg (by decide)]
      refine put_same ?_
      have hi : (t.a / 2).toNat < v.length := by omega
      unfold bitV at hev
      rw [List.getElem?_eq_getElem hi] at hev ⊢
      rcases hbv _ (List.getElem_mem hi) with e | e
      · rw [e]; rfl
      · rw [e] at hev; exact absurd hev (by decide)
theorem valsT_bits {c : Cir} (hr : refOk c = true) {st inp : ByteArray} (hs : bitsM st (c.lats.length : Int) = true) (hi : bitsM inp (c.ins.length : Int) = true) : valsT c st inp = valsM c st inp := by
  have hbl : ((baseB c st inp).length : Int) = ((zeroV c).length : Int) := by unfold baseB; rw [putsV_len, putsV_len]
  unfold valsT valsM
  refine gatesT_bits (good_ands hr) _ (base_bits hs hi) (fun t ht => ?_) (fun t ht => ?_)
  · rw [hbl]
    exact (own_in hr (List.mem_append.2 (.inr (List.mem_append.2 (.inr (List.mem_map_of_mem ht)))))).2.2
  · have hm : t.a ∈ c.ands.map Tri.a := List.mem_map_of_mem ht
    obtain ⟨a1, a2, _⟩ := own_in hr (List.mem_append.2 (.inr (List.mem_append.2 (.inr hm))))
    have hnd := (own_facts hr).1
    unfold own at hnd
    rw [List.nodup_append] at hnd
    obtain ⟨-, hn2, hn3⟩ := hnd
    rw [List.nodup_append] at hn2
    refine base_bit st inp hr _ (by omega) (fun x hx e => ?_) (fun x hx e => ?_)
    · obtain ⟨b1, b2, _⟩ := own_in hr (show x ∈ own c from List.mem_append.2 (.inl hx))
      exact hn3 x hx t.a (List.mem_append.2 (.inr hm)) (by omega)
    · obtain ⟨b1, b2, _⟩ := own_in hr (show x ∈ own c from List.mem_append.2 (.inr (List.mem_append.2 (.inl hx))))
      exact hn2.2.2 x hx t.a hm (by omega)
/-- WHAT IS KNOWN IS SO: trits cover the values of whatever bits stand for x -/
theorem sound_vals {c : Cir} (hr : refOk c = true) {st inp su iu : ByteArray} (hs : bitsM su (c.lats.length : Int) = true) (hi : bitsM iu (c.ins.length : Int) = true) (hcs : ∀ i, i < c.lats.length → cov (st.data.toList.getD i 0) (su.data.toList.getD i 0)) (hci : ∀ i, i < c.ins.length → cov (inp.data.toList.getD i 0) (iu.data.toList.getD i 0)) : Cov (valsT c st inp) (valsM c su iu) := by
  rw [← valsT_bits hr hs hi]
  exact cov_vals c hcs hci
end Go.Proofs.Ythcigpklbhjglaa.Ter
namespace Go.Proofs.Ythcigpklbhjglaa.Sim
open Go.ChangeShapes Go.WideShapes Go.ChangeAt Go.RowKit Go.Maps Circ Cw

theorem take_all (s : ByteArray) (k : Nat) (h : k < s.size) : (s.data.toList.take (k + 1)).all isBit = ((s.data.toList.take k).all isBit && isBit (s[k]'h)) := by
  have hl : k < s.data.toList.length := by simpa using h
  rw [List.take_succ_eq_append_getElem hl, List.all_append]
  congr 1
  rw [List.all_cons, List.all_nil, Bool.and_true]
  congr 1
theorem refbits_any (s : ByteArray) (n : Int) (w : World) (hs : s.size ≤ 9223372036854775807) :
    Calls Try.prog 29 #[.string s, .int .i64 n] w fun e w' => e = .returned (.bool (bitsM s n)) ∧ w = w' := by
  go_enter Try.func29, Try.ntmps29
  go_wp2
  go_loop [5] (fun i => ∃ k : Nat, k ≤ s.size ∧ i = .int .i64 k ∧ (s.data.toList.take k).all isBit = true) (fun i => s.size - (intOf i).toNat)
  case atStart => exact ⟨0, Nat.zero_le _, rfl, rfl⟩
  case round =>
    obtain ⟨k, hk, rfl, ha⟩ := hrel
    have HA := Lib.hid ha
    clear ha
    by_cases hlt : k < s.size
    · have HT := Lib.hid (take_all s k hlt)
      rw [HA.out, Bool.true_and] at HT
      have hib : isBit (s[k]'hlt) = (decide ((s[k]'hlt).toNat = 48) || decide ((s[k]'hlt).toNat = 49)) := rfl
      rw [hib] at HT
      clear hib
      have hkl : k < s.data.toList.length := by simpa using hlt
      by_cases h0 : (s[k]'hlt).toNat = 48
      · have b0 : (((s[k]'hlt).toNat : Int) != 48) = false := by rw [bne_eq_false_iff_eq]; omega
        have HN : Hid ((s.data.toList.take (k + 1)).all isBit = true) := by have h := HT.out; rw [h0] at h; exact h
        clear HT
        go_wp2
        go_round
        case rel => exact ⟨k + 1, by omega, by go_num, HN.out⟩
        case measure => simp [intOf]; omega
      · have b0 : (((s[k]'hlt).toNat : Int) != 48) = true := by rw [bne_iff_ne]; omega
        by_cases h1 : (s[k]'hlt).toNat = 49
        · have b1 : (((s[k]'hlt).toNat : Int) != 49) = false := by rw [bne_eq_false_iff_eq]; omega
          have HN : Hid ((s.data.toList.take (k + 1)).all isBit = true) := by have h := HT.out; rw [h1] at h; exact h
          clear HT
          go_wp2
          go_round
          case rel => exact ⟨k + 1, by omega, by go_num, HN.out⟩
          case measure => simp [intOf]; omega
        · have b1 : (((s[k]'hlt).toNat : Int) != 49) = true := by rw [bne_iff_ne]; omega
          have HF : Hid (bitsM s n = false) := by
            have h := HT.out
            rw [show decide ((s[k]'hlt).toNat = 48) = false from decide_eq_false h0, show decide ((s[k]'hlt).toNat = 49) = false from decide_eq_false h1] at h
            unfold Hid bitsM
            rw [← List.take_append_drop (k + 1) s.data.toList, List.all_append, h]
            simp
          clear HT
          go_wp2
          go_ret
          exact ⟨by rw [HF.out]; rfl, rfl⟩
    · obtain rfl : k = s.size := by omega
      have HF : Hid (bitsM s n = ((s.size : Int) == n)) := by
        have h := HA.out
        rw [List.take_of_length_le (by simp)] at h
        unfold Hid bitsM
        rw [h, Bool.and_true]; rfl
      go_wp2
      go_ret
      exact ⟨by rw [HF.out]; rfl, rfl⟩
theorem rvar2_any (x : Int) (hx : x ≤ 9223372036854775807) (w : World) : Calls Try.prog 61 #[.int .i64 x] w fun e w' => e = .returned (.int .i64 (cnt x / 2)) ∧ w = w' := by
  by_cases h : x < 0
  · rw [cnt_neg x h]
    go_enter Try.func61, Try.ntmps61
    go_wp2
    go_ret
    exact ⟨rfl, rfl⟩
  · rw [cnt_pos x (by omega)]
    exact Str.rvar_any x (by omega) ⟨by omega, hx⟩ w
theorem rneg2_any (x : Int) (hx : x ≤ 9223372036854775807) (w : World) : Calls Try.prog 62 #[.int .i64 x] w fun e w' => e = .returned (.bool (decide (cnt x % 2 = 1))) ∧ w = w' := by
  by_cases h : x < 0
  · rw [cnt_neg x h]
    have hd : decide (0 < x) = false := decide_eq_false (by omega)
    go_enter Try.func62, Try.ntmps62
    go_wp2
    go_ret
    exact ⟨rfl, rfl⟩
  · rw [cnt_pos x (by omega)]
    exact Str.rneg_any x (by omega) ⟨by omega, hx⟩ w
theorem reftrue_any (s : ByteArray) (l : Int) (w : World) (_hs : s.size ≤ 9223372036854775807) (hl : l ≤ 9223372036854775807) :
    Calls Try.prog 31 #[.string s, .int .i64 l] w fun e w' => e = .returned (.bool (trueM s.data.toList l)) ∧ w = w' := by
  have RV := Lib.hid (rvar2_any l hl w)
  have RN := Lib.hid (fun w => rneg2_any l hl w)
  have h0 : 0 ≤ cnt l / 2 := by unfold cnt; split <;> omega
  obtain ⟨i, hi⟩ : ∃ i : Nat, cnt l / 2 = (i : Int) := ⟨(cnt l / 2).toNat, by omega⟩
  have hi2 : i ≤ 4611686018427387903 := by unfold cnt at hi; split at hi <;> omega
  unfold trueM
  rw [hi, Int.toNat_natCast]
  rw [hi] at RV
  clear h0 hi
  by_cases hlt : i < s.size
  · have hl' : i < s.data.toList.length := by simpa using hlt
    have HE : Hid (decide (s.data.toList[i]? = some 49) = ((((s[i]'hlt).toNat : Nat) : Int) == 49)) := by
      unfold Hid
      rw [List.getElem?_eq_getElem hl', u8_49, show s.data.toList[i] = s[i]'hlt from by rw [Array.getElem_toList]; rfl]
    rw [HE.out]
    clear HE
    go_enter Try.func31, Try.ntmps31
    go_wp2_with fail
    refine RV.out.mono ?_
    rintro e w' ⟨rfl, rfl⟩
    go_wp2_with fail
    refine (RN.out w).mono ?_
    rintro e w' ⟨rfl, rfl⟩
    go_wp2
    go_ret
    exact ⟨rfl, rfl⟩
  · have HE : Hid (decide (s.data.toList[i]? = some 49) = false) := by
      unfold Hid
      rw [List.getElem?_eq_none (by simp; omega)]; rfl
    rw [HE.out, show (false != decide (cnt l % 2 = 1)) = decide (cnt l % 2 = 1) from by cases decide (cnt l % 2 = 1) <;> rfl]
    clear HE
    go_enter Try.func31, Try.ntmps31
    go_wp2_with fail
    refine RV.out.mono ?_
    rintro e w' ⟨rfl, rfl⟩
    go_wp2_with fail
    refine (RN.out w).mono ?_
    rintro e w' ⟨rfl, rfl⟩
    go_wp2
    go_ret
    exact ⟨rfl, rfl⟩
theorem refholds_any (s : ByteArray) (l : List Int) (A : Option Addr) (q : Nat) (w : World) (hs : s.size ≤ 9223372036854775807) (hl : ∀ x ∈ l, I64 x) (hn : l.length ≤ 9223372036854775807) (hr : LRow w w.heap.size 1 A (ints l)) :
    Calls Try.prog 33 #[.string s, .slice A l.length q] w fun e w' => e = .returned (.bool (holdsM s.data.toList l)) ∧ w = w' := by
  have HL := Lib.hid hl
  have HR := Lib.hid hr
  clear hl hr
  go_enter Try.func33, Try.ntmps33
  go_wp2
  go_loop [5] (fun i => ∃ k : Nat, k ≤ l.length ∧ i = .int .i64 k ∧ (l.take k).any (trueM s.data.toList) = false) (fun i => l.length - (intOf i).toNat)
  case atStart => exact ⟨0, Nat.zero_le _, rfl, rfl⟩
  case round =>
    obtain ⟨k, hk, rfl, ha⟩ := hrel
    have HA := Lib.hid ha
    clear ha
    by_cases hlt : k < l.length
    · obtain ⟨b, o, rfl, -, hc⟩ := LRow.int HR.out hlt
      have RT := Lib.hid (reftrue_any s l[k] w hs (HL.out _ (List.getElem_mem hlt)).2)
      have HT : Hid ((l.take (k + 1)).any (trueM s.data.toList) = trueM s.data.toList l[k]) := by
        unfold Hid
        rw [List.take_succ_eq_append_getElem hlt, List.any_append, HA.out]; simp
      have HM := Lib.hid (List.getElem_mem hlt)
      generalize l[k] = x at *
      cases hq : trueM s.data.toList x with
      | true =>
        rw [hq] at RT HT
        have HF : Hid (holdsM s.data.toList l = true) := List.any_eq_true.2 ⟨x, HM.out, hq⟩
        clear hq HT
        go_wp2_with fail
        refine RT.out.mono ?_
        rintro e w' ⟨rfl, rfl⟩
        go_wp2
        go_ret
        exact ⟨by rw [HF.out]; rfl, rfl⟩
      | false =>
        rw [hq] at RT HT
        clear hq
        go_wp2_with fail
        refine RT.out.mono ?_
        rintro e w' ⟨rfl, rfl⟩
        go_wp2
        go_round
        case rel => exact ⟨k + 1, by omega, by go_num, HT.out⟩
        case measure => simp [intOf]; omega
    · obtain rfl : k = l.length := by omega
      have HF : Hid (holdsM s.data.toList l = false) := by have h := HA.out; rw [List.take_length] at h; exact h
      go_wp2
      go_ret
      exact ⟨by rw [HF.out]; rfl, rfl⟩
theorem refbit_any (b : Bool) (w : World) : Calls Try.prog 72 #[.bool b] w fun e w' => e = .returned (sv [bitB b]) ∧ w = w' := by
  cases b <;>
  · go_enter Try.func72, Try.ntmps72
    go_wp2
    go_ret
    exact ⟨rfl, rfl⟩
theorem conv1 (w : World) (g : Nat) (x : UInt8) (h : w.cell? ⟨g, 0, none⟩ = some (.int .u8 ((x.toNat : Nat) : Int))) : (convert 59 9 (.slice (some ⟨g, 0, none⟩) 1 1)).run Try.prog w = .ok (sv [x]) w := by
  have := run_convert_bytes_arg (P := Try.prog) (w := w) 59 5 Try.underlying59 Try.underlying5 g 0 1 1 [((x.toNat : Nat) : Int)] rfl (fun i hi => by
    obtain rfl : i = 0 := by simp at hi; omega
    exact h) 9 Try.underlying9
  have e : strOfNums [((x.toNat : Nat) : Int)] = ⟨[x].toArray⟩ := by
    unfold strOfNums
    rw [List.map_cons, List.map_nil, show UInt8.ofNat (((x.toNat : Nat) : Int).toNat) = x from by rw [Int.toNat_natCast]; exact UInt8.ofNat_toNat]
  rw [this, e]; rfl
theorem set_text (v : List UInt8) (k : Nat) (hk : k < v.length) (x : UInt8) : ((⟨v.toArray⟩ : ByteArray).extract 0 k ++ ⟨[x].toArray⟩) ++ (⟨v.toArray⟩ : ByteArray).extract (k + 1) v.length = ⟨(v.set k x).toArray⟩ := by
  apply ByteArray.ext
  rw [ByteArray.data_append, ByteArray.data_append, ByteArray.data_extract, ByteArray.data_extract]
  apply Array.toList_inj.1
  rw [List.set_eq_take_append_cons_drop, if_pos hk]
  simp
  rw [List.take_of_length_le (by simp)]
theorem sv_size (v : List UInt8) : (⟨v.toArray⟩ : ByteArray).size = v.length := by show v.toArray.size = _; simp
set_option maxHeartbeats 4000000 in
set_option maxRecDepth 100000 in
theorem refset_any (v : List UInt8) (k : Nat) (x : UInt8) (w : World) (hk : k < v.length) (hv : v.length ≤ 1048576) :
    Calls Try.prog 70 #[sv v, .int .i64 (k : Int), .int .u8 ((x.toNat : Nat) : Int)] w fun e w' => e = .returned (sv (v.set k x)) ∧ Below w.heap.size w w' := by
  have hsz := sv_size v
  have ST := Lib.hid (set_text v k hk x)
  unfold sv
  obtain ⟨s, hs⟩ : ∃ s, (⟨v.toArray⟩ : ByteArray) = s := ⟨_, rfl⟩
  rw [hs] at hsz ST ⊢
  have hcv := fun w : World => conv1 (w.alloc (.cells #[.int .u8 ((x.toNat : Nat) : Int)] 5)) w.heap.size x (by rw [World.cell?_alloc_new]; rfl)
  have hcd := fun w : World => conv1 ((w.alloc (.cells #[.int .u8 ((x.toNat : Nat) : Int)] 5)).drew) w.heap.size x (by
    have h : ((w.alloc (.cells #[.int .u8 ((x.toNat : Nat) : Int)] 5)).drew).heap[w.heap.size]? = some (.cells #[.int .u8 ((x.toNat : Nat) : Int)] 5 (0, 0)) := Array.getElem?_push_size
    rw [Lib.cell_of_heap h]; rfl)
  unfold sv at hcv hcd
  have hk2 : k ≤ s.size := by omega
  have hk3 : k + 1 ≤ s.size := by omega
  have hk4 : (k : Int) + 1 ≤ (s.size : Int) := by omega
  have hk5 : (k : Int) ≤ (s.size : Int) := by omega
  have hs2 : s.size ≤ 1048576 := by omega
  have VL := Lib.hid hsz
  clear hs hsz
  go_enter Try.func70, Try.ntmps70
  go_wp2
  go_region
  all_goals
    clear hcv hcd
    go_wp2
    go_ret
    refine ⟨?_, ?_⟩
    · show Ending.returned (Value.string _) = _
      rw [← ST.out, VL.out]
    · first | exact ((Below.refl _ _).alloc (Nat.le_refl _) _).drew | exact (Below.refl _ _).drew.alloc (Nat.le_refl _) _ | exact ((Below.refl _ _).alloc (Nat.le_refl _) _)
end Go.Proofs.Ythcigpklbhjglaa.Sim
