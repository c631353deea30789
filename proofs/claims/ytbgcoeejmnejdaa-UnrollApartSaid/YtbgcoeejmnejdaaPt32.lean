/- Frames, one behind the other; no program is named here; condition: the circuit may be. interlockref07.Allowed, Initial, Path; condition: what they are handed lies in memory. What the laws of layer 12 ask of the program's own functions; the page's example over them. Condition (force): of at most N clauses of at most N literals. -/
import Derived.Test.YtbgcoeejmnejdaaPt31
import Derived.Test.YtbgcoeejmnejdaaPt21
import Derived.Test.YtbgcoeejmnejdaaPt11
namespace Go.Proofs.Ytbgcoeejmnejdaa.Unr
open Circ Cw Str Sim Rep Cla Tse

/-- may a frame be? -/
def rightM (c : Cir) (f : Int) : Bool := decide (0 ≤ f) && (decide (f ≤ 80) && refOk c)
def baseM (c : Cir) (f : Int) : Int := if rightM c f = true then f * (c.max + 1) else 0
def firstL (t : Tri) : List (List Int) := if t.c = 0 then [[-(t.a / 2 + 1)]] else if t.c = 1 then [[t.a / 2 + 1]] else []
def firstM (c : Cir) : List (List Int) := if refOk c = true then c.lats.flatMap firstL else []
/-- latch k (from 1 on, below 0: not) in a frame that begins at b -/
def latT (c : Cir) (b k : Int) : Int := if k < 0 then -(b + (c.lats.getD (-k - 1).toNat ⟨0, 0, 0⟩).a / 2 + 1) else b + (c.lats.getD (k - 1).toNat ⟨0, 0, 0⟩).a / 2 + 1
def frameT (c : Cir) (L1 L2 L3 : List (List Int)) (b : Int) : List (List Int) := gatesT c b ++ (forceT c L1 b ++ (L2.map (fun l => l.map (litT b)) ++ L3.map (fun l => l.map (latT c b))))
def twoL (c : Cir) (b0 b1 x : Int) (i : Nat) : List (List Int) := [[-(x + (i : Int) + 1), latT c b0 ((i : Int) + 1), latT c b1 ((i : Int) + 1)], [-(x + (i : Int) + 1), -latT c b0 ((i : Int) + 1), -latT c b1 ((i : Int) + 1)]]
def apartL (c : Cir) (b0 b1 x : Int) : List (List Int) := (List.range c.lats.length).flatMap (twoL c b0 b1 x) ++ [(List.range c.lats.length).map fun (i : Nat) => x + (i : Int) + 1]

theorem is_posG {w : ByteArray} {n : Nat} (hn : n < w.size) (_hz : w.size ≤ 1099511627776) : isM w ((n : Int) + 1) = decide (w.data.toList[n]? = some 49) := by
  have a1 : absW ((n : Int) + 1) = (n : Int) + 1 := by unfold absW negW; split <;> split <;> omega
  have hl : n < w.data.toList.length := by simpa using hn
  unfold isM
  rw [a1, decide_eq_true (by omega), decide_eq_true (show (n : Int) + 1 ≤ (w.size : Int) by omega), decide_eq_true (show (0 : Int) < (n : Int) + 1 by omega), Bool.true_and, Bool.true_and]
  rw [show ((n : Int) + 1 - 1).toNat = n by omega, List.getD_eq_getElem?_getD, List.getElem?_eq_getElem hl]
  rw [Bool.eq_iff_iff, beq_iff_eq, decide_eq_true_eq, decide_eq_true_eq]
  show (w.data.toList[n]).toNat = 49 ↔ _
  rw [Option.some.injEq]
  constructor
  · intro h; exact UInt8.toNat_inj.1 h
  · intro h; rw [h]; rfl
theorem is_negG {w : ByteArray} {n : Nat} (hn : n < w.size) (hz : w.size ≤ 1099511627776) : isM w (-((n : Int) + 1)) = !decide (w.data.toList[n]? = some 49) := by
  rw [is_both (by omega) (by omega) (by omega), is_posG hn hz]
/-- a literal, moved behind what lies ahead -/
theorem is_moved {s v : ByteArray} {p : List UInt8} (hs : s.data.toList = p ++ v.data.toList) (hz : s.size ≤ 1099511627776) {x : Int} (hx : x ≠ 0) (h1 : -1099511627776 ≤ x) (h2 : x ≤ 1099511627776) : isM s (mvT (p.length : Int) x) = isM v x := by
  have hsz : s.size = p.length + v.size := by
    have := congrArg List.length hs
    rw [List.length_append] at this
    simpa using this
  have key : ∀ n : Nat, n < v.size → s.data.toList[p.length + n]? = v.data.toList[n]? := fun n hn => by
    rw [hs, List.getElem?_append_right (by omega), Nat.add_sub_cancel_left]
  have off : ∀ (w : ByteArray) (y : Int), (w.size : Int) < absW y → isM w y = false := fun w y h => by
    unfold isM
    rw [decide_eq_false (show ¬ absW y ≤ (w.size : Int) by omega)]; simp
  unfold mvT
  by_cases hp : 0 < x
  · rw [if_neg (by omega)]
    obtain ⟨n, rfl⟩ : ∃ n : Nat, x = (n : Int) + 1 := ⟨(x - 1).toNat, by omega⟩
    by_cases hn : n < v.size
    · rw [show (n : Int) + 1 + (p.length : Int) = ((p.length + n : Nat) : Int) + 1 by omega, is_posG (by omega) hz, is_posG hn (by omega), key n hn]
    · rw [off v _ (by unfold absW negW; split <;> split <;> omega), off s _ (by unfold absW negW; split <;> split <;> omega)]
  · rw [if_pos (by omega)]
    obtain ⟨n, rfl⟩ : ∃ n : Nat, x = -((n : Int) + 1) := ⟨(-x - 1).toNat, by omega⟩
    by_cases hn : n < v.size
    · rw [show -((n : Int) + 1) - (p.length : Int) = -(((p.length + n : Nat) : Int) + 1) by omega, is_negG (by omega) hz, is_negG hn (by omega), key n hn]
    · rw [off v _ (by unfold absW negW; split <;> split <;> omega), off s _ (by unfold absW negW; split <;> split <;> omega)]
theorem one_moved {s v : ByteArray} {p : List UInt8} (hs : s.data.toList = p ++ v.data.toList) (hz : s.size ≤ 1099511627776) {l : List Int} (hl : ∀ x ∈ l, x ≠ 0 ∧ -1099511627776 ≤ x ∧ x ≤ 1099511627776) : oneM s (l.map (mvT (p.length : Int))) = oneM v l := by
  unfold oneM
  rw [List.any_map, Bool.eq_iff_iff, List.any_eq_true, List.any_eq_true]
  have e : ∀ x ∈ l, (isM s ∘ mvT (p.length : Int)) x = isM v x := fun x hx => is_moved hs hz (hl x hx).1 (hl x hx).2.1 (hl x hx).2.2
  exact ⟨fun ⟨x, hx, h⟩ => ⟨x, hx, by rw [← e x hx]; exact h⟩, fun ⟨x, hx, h⟩ => ⟨x, hx, by rw [e x hx]; exact h⟩⟩
theorem all_moved {s v : ByteArray} {p : List UInt8} (hs : s.data.toList = p ++ v.data.toList) (hz : s.size ≤ 1099511627776) {K : List (List Int)} (hl : ∀ l ∈ K, ∀ x ∈ l, x ≠ 0 ∧ -1099511627776 ≤ x ∧ x ≤ 1099511627776) : (K.map fun l => l.map (mvT (p.length : Int))).all (oneM s) = K.all (oneM v) := by
  rw [List.all_map, Bool.eq_iff_iff, List.all_eq_true, List.all_eq_true]
  have e : ∀ l ∈ K, (oneM s ∘ fun l => l.map (mvT (p.length : Int))) l = oneM v l := fun l h => one_moved hs hz (hl l h)
  exact ⟨fun h l hm => by rw [← e l hm]; exact h l hm, fun h l hm => by rw [e l hm]; exact h l hm⟩
theorem lit_small (l : Int) : litT 0 l ≠ 0 ∧ -1099511627776 ≤ litT 0 l ∧ litT 0 l ≤ 1099511627776 ∧ -litT 0 l ≠ 0 ∧ -1099511627776 ≤ -litT 0 l ∧ -litT 0 l ≤ 1099511627776 := by
  have h1 : 0 ≤ capT l ∧ capT l ≤ 4097 := by unfold capT; split <;> (try split) <;> omega
  unfold litT
  rw [base_zero]
  split <;> omega
section
variable {c : Cir}
theorem lat_own (hr : refOk c = true) {i : Nat} (hi : i < c.lats.length) : 2 ≤ c.lats[i].a ∧ c.lats[i].a % 2 = 0 ∧ c.lats[i].a / 2 ≤ c.max := by
  have hm : c.lats[i].a ∈ own c := List.mem_append.2 (.inr (List.mem_append.2 (.inl (List.mem_map_of_mem (List.getElem_mem hi)))))
  have := (own_facts hr).2 _ hm
  omega
/-- what a latch is worth: its state -/
theorem vals_lat (st inp : ByteArray) (hr : refOk c = true) (_hs : bitsM st (c.lats.length : Int) = true) {i : Nat} (hi : i < c.lats.length) : bitV (valsM c st inp) (c.lats[i].a / 2) = decide (st.data.toList.getD i 0 = 49) := by
  obtain ⟨h2, he, hmx⟩ := lat_own hr hi
  have hm : c.lats[i].a ∈ c.lats.map Tri.a := List.mem_map_of_mem (List.getElem_mem hi)
  obtain ⟨hnd, hfx⟩ := own_facts hr
  unfold own at hnd
  rw [List.nodup_append] at hnd
  obtain ⟨-, hnd2, -⟩ := hnd
  rw [List.nodup_append] at hnd2
  obtain ⟨hnl, -, hla⟩ := hnd2
  have hev : ∀ x ∈ c.lats.map Tri.a, x % 2 = 0 ∧ 2 ≤ x := fun x hx => by
    have := hfx x (List.mem_append.2 (.inr (List.mem_append.2 (.inl hx)))); omega
  rw [vals_eval st inp hr _ (by omega), eval_other _ _ _ (fun u hu => by
    have h3 := hla _ hm u.a (List.mem_map_of_mem hu)
    have h4 := hfx u.a (List.mem_append.2 (.inr (List.mem_append.2 (.inr (List.mem_map_of_mem hu)))))
    omega)]
  unfold baseB
  have hml := max_len (c := c) hr
  have hlen : ((putsV (zeroV c) c.ins inp c.ins.length).length : Int) = c.max + 1 := by rw [putsV_len]; exact hml
  generalize putsV (zeroV c) c.ins inp c.ins.length = v at hlen
  have hL : ∀ x ∈ c.lats.map Tri.a, 0 ≤ x ∧ x / 2 < (v.length : Int) := fun x hx => by
    have := hfx x (List.mem_append.2 (.inr (List.mem_append.2 (.inl hx)))); omega
  have key : ∀ k, k ≤ c.lats.length → i < k → bitV (putsV v (c.lats.map Tri.a) st k) (c.lats[i].a / 2) = decide (st.data.toList.getD i 0 = 49) := by
    intro k
    induction k with
    | zero => intro _ h; omega
    | succ k ih =>
      intro hk hik
      have hkl : k < (c.lats.map Tri.a).length := by rw [List.length_map]; omega
      have hge : (c.lats.map Tri.a).getD k 0 = (c.lats.map Tri.a)[k] := by rw [List.getD_eq_getElem?_getD, List.getElem?_eq_getElem hkl]; rfl
      have hmk : (c.lats.map Tri.a)[k] ∈ c.lats.map Tri.a := List.getElem_mem _
      unfold putsV
      rw [hge, bitV_put _ (hL _ hmk).1 (by omega) (by rw [putsV_len]; exact (hL _ hmk).2)]
      by_cases e : i = k
      · subst e
        have : (c.lats.map Tri.a)[i] = c.lats[i].a := by simp
        rw [this, if_pos rfl]
        simp
      · have hne : (c.lats.map Tri.a)[k] ≠ c.lats[i].a := fun h => by
          have hx : (c.lats.map Tri.a)[i]'(by simpa using hi) = c.lats[i].a := by simp
          rw [← hx] at h
          have := (List.getElem_inj hnl).1 h
          omega
        have q1 := hev _ hmk
        rw [if_neg (by omega)]
        exact ih (by omega) (by omega)
  have := key c.lats.length (Nat.le_refl _) hi
  simpa using this
theorem getD_lat {i : Nat} (hi : i < c.lats.length) : c.lats.getD i ⟨0, 0, 0⟩ = c.lats[i] := by rw [List.getD_eq_getElem?_getD, List.getElem?_eq_getElem hi]; rfl
/-- a latch's literal in a text that has the circuit's values behind what lies ahead -/
theorem lat_is (st inp : ByteArray) (hr : refOk c = true) (hs : bitsM st (c.lats.length : Int) = true) {s : ByteArray} {p r : List UInt8} (hsv : s.data.toList = p ++ (valsM c st inp ++ r)) (hz : s.size ≤ 1099511627776) {i : Nat} (hi : i < c.lats.length) :
    isM s (latT c (p.length : Int) ((i : Int) + 1)) = decide (st.data.toList.getD i 0 = 49) ∧ isM s (-latT c (p.length : Int) ((i : Int) + 1)) = !decide (st.data.toList.getD i 0 = 49) := by
  obtain ⟨h2, he, hmx⟩ := lat_own hr hi
  obtain ⟨hv1, hv2⟩ := vals_small st inp hr
  have hlen := congrArg List.length hsv
  rw [List.length_append, List.length_append] at hlen
  have hsz : s.data.toList.length = s.size := by simp
  obtain ⟨n, hn⟩ : ∃ n : Nat, c.lats[i].a / 2 = (n : Int) := ⟨(c.lats[i].a / 2).toNat, by omega⟩
  have e : latT c (p.length : Int) ((i : Int) + 1) = ((p.length + n : Nat) : Int) + 1 := by
    unfold latT
    rw [if_neg (by omega), show ((i : Int) + 1 - 1).toNat = i by omega, getD_lat hi, hn]
    omega
  have hvl := vals_lat st inp hr hs hi
  rw [hn] at hvl
  unfold bitV at hvl
  rw [Int.toNat_natCast] at hvl
  have hat : s.data.toList[p.length + n]? = (valsM c st inp)[n]? := by
    rw [hsv, List.getElem?_append_right (by omega), Nat.add_sub_cancel_left, List.getElem?_append_left (by omega)]
  rw [e, is_negG (by omega) hz, is_posG (by omega) hz, hat, hvl]
  exact ⟨rfl, rfl⟩
/-- what holds at first -/
theorem first_iff (st inp : ByteArray) (hr : refOk c = true) (hs : bitsM st (c.lats.length : Int) = true) (v : ByteArray) (hv : v.data.toList = valsM c st inp) : (firstM c).all (oneM v) = initM c st := by
  have hz : v.size ≤ 1099511627776 := by
    have := (vals_small st inp hr).2
    have h2 : v.size = (valsM c st inp).length := by rw [← hv]; simp
    omega
  unfold firstM initM
  rw [if_pos hr, hs, Bool.true_and, List.all_flatMap]
  have key : ∀ i (hi : i < c.lats.length), (firstL c.lats[i]).all (oneM v) = initB c.lats[i] (st.data.toList.getD i 0) := fun i hi => by
    obtain ⟨h2, he, hmx⟩ := lat_own hr hi
    obtain ⟨g1, g2⟩ := lat_is st inp hr hs (s := v) (p := []) (r := []) (by simpa using hv) hz hi
    have e : latT c (([] : List UInt8).length : Int) ((i : Int) + 1) = c.lats[i].a / 2 + 1 := by
      unfold latT
      rw [if_neg (by omega), show ((i : Int) + 1 - 1).toNat = i by omega, getD_lat hi]
      simp
    rw [e] at g1 g2
    have hl := List.all_eq_true.1 (ref_parts hr).2.1 _ (List.getElem_mem hi)
    unfold latR at hl
    simp only [Bool.and_eq_true, Bool.or_eq_true, decide_eq_true_eq] at hl
    have hb : decide ((st.data.toList.getD i 0).toNat = 49) = decide (st.data.toList.getD i 0 = 49) := by
      rw [decide_eq_decide]
      constructor
      · intro h; exact UInt8.toNat_inj.1 h
      · intro h; rw [h]; rfl
    unfold initB firstL
    rw [hb]
    rcases hl.1 with (h | h) | h
    · rw [if_pos h, decide_eq_false (show ¬ c.lats[i].c = c.lats[i].a by omega), decide_eq_false (show ¬ c.lats[i].c = 1 by omega)]
      simp only [List.all_cons, List.all_nil, oneM, List.any_cons, List.any_nil, Bool.or_false, Bool.and_true, Bool.false_or]
      rw [g2]
      cases decide (st.data.toList.getD i 0 = 49) <;> rfl
    · rw [if_neg (by omega), if_pos h, decide_eq_false (show ¬ c.lats[i].c = c.lats[i].a by omega), decide_eq_true h]
      simp only [List.all_cons, List.all_nil, oneM, List.any_cons, List.any_nil, Bool.or_false, Bool.and_true, Bool.false_or]
      rw [g1]
      cases decide (st.data.toList.getD i 0 = 49) <;> rfl
    · rw [if_neg (by omega), if_neg (by omega), decide_eq_true h]; rfl
  rw [Bool.eq_iff_iff, List.all_eq_true, List.all_eq_true]
  constructor
  · intro h i hi
    have hi' := List.mem_range.1 hi
    rw [getD_lat hi', ← key i hi']
    exact h _ (List.getElem_mem hi')
  · intro h t ht
    obtain ⟨i, hi, rfl⟩ := List.getElem_of_mem ht
    have := h i (List.mem_range.2 hi)
    rw [getD_lat hi, ← key i hi] at this
    exact this
end
section
variable {c : Cir}
theorem lit_map (L : List (List Int)) {b : Int} (h0 : 0 ≤ b) (h1 : b ≤ 262144) : (L.map fun l => l.map (litT b)) = (L.map fun l => l.map (litT 0)).map fun l => l.map (mvT b) := by
  rw [List.map_map]
  refine List.map_congr_left fun l _ => ?_
  show l.map (litT b) = (l.map (litT 0)).map (mvT b)
  rw [List.map_map]
  exact List.map_congr_left fun x _ => (lit_moves h0 h1 x).1
theorem gates_small (hr : refOk c = true) : ∀ l ∈ gatesT c 0, ∀ x ∈ l, x ≠ 0 ∧ -1099511627776 ≤ x ∧ x ≤ 1099511627776 := fun l hl x hx => by
  have hm : c.max ≤ 2048 := by have := (vals_small (c := c) ⟨#[]⟩ ⟨#[]⟩ hr); omega
  unfold gatesT at hl
  rcases List.mem_append.1 hl with h | h
  · obtain ⟨v, hv, rfl⟩ := List.mem_map.1 h
    have := List.mem_range.1 (List.mem_filter.1 hv).1
    rw [List.mem_singleton.1 hx]
    omega
  · obtain ⟨t, _, h2⟩ := List.mem_flatMap.1 h
    have a1 := lit_small t.a
    have a2 := lit_small t.b
    have a3 := lit_small t.c
    unfold andT at h2
    simp only [List.mem_cons, List.not_mem_nil, or_false] at h2
    rcases h2 with rfl | rfl | rfl <;> simp only [List.mem_cons, List.not_mem_nil, or_false] at hx <;> rcases hx with rfl | hx <;> (try rcases hx with rfl | rfl) <;> (try subst hx) <;> omega
theorem force_small' (L : List (List Int)) : ∀ l ∈ forceT c L 0, ∀ x ∈ l, x ≠ 0 ∧ -1099511627776 ≤ x ∧ x ≤ 1099511627776 := fun l hl x hx => by
  unfold forceT at hl
  rcases List.mem_append.1 hl with h | h
  · obtain ⟨y, _, rfl⟩ := List.mem_map.1 h
    have := lit_small y
    rw [List.mem_singleton.1 hx]; omega
  · obtain ⟨m, _, rfl⟩ := List.mem_map.1 h
    obtain ⟨y, _, rfl⟩ := List.mem_map.1 hx
    have := lit_small y
    omega
theorem lits_small (L : List (List Int)) : ∀ l ∈ (L.map fun l => l.map (litT 0)), ∀ x ∈ l, x ≠ 0 ∧ -1099511627776 ≤ x ∧ x ≤ 1099511627776 := fun l hl x hx => by
  obtain ⟨m, _, rfl⟩ := List.mem_map.1 hl
  obtain ⟨y, _, rfl⟩ := List.mem_map.1 hx
  have := lit_small y
  omega
theorem lits_hold (st inp : ByteArray) (hr : refOk c = true) (L : List (List Int)) (hL : ∀ l ∈ L, ∀ x ∈ l, 0 ≤ x ∧ x / 2 ≤ c.max) (v : ByteArray) (hv : v.data.toList = valsM c st inp) : (L.map fun l => l.map (litT 0)).all (oneM v) = L.all (holdsM (valsM c st inp)) := by
  obtain ⟨hm, hm2⟩ := vals_small st inp hr
  have hz : v.size = (valsM c st inp).length := by rw [← hv]; simp
  have h1 : ∀ x : Int, 0 ≤ x ∧ x / 2 ≤ c.max → isM v (litT 0 x) = trueM (valsM c st inp) x := fun x h => by
    rw [lit_true h.1 (by omega) (by omega), hv]
  rw [List.all_map, Bool.eq_iff_iff, List.all_eq_true, List.all_eq_true]
  have p : ∀ l ∈ L, (oneM v ∘ fun l => l.map (litT 0)) l = holdsM (valsM c st inp) l := fun l hl => by
    show oneM v (l.map (litT 0)) = _
    unfold oneM holdsM
    rw [List.any_map, Bool.eq_iff_iff, List.any_eq_true, List.any_eq_true]
    constructor
    · rintro ⟨x, hx, h⟩; exact ⟨x, hx, by rw [← h1 x (hL l hl x hx)]; exact h⟩
    · rintro ⟨x, hx, h⟩; exact ⟨x, hx, by show isM v (litT 0 x) = true; rw [h1 x (hL l hl x hx)]; exact h⟩
  exact ⟨fun h x hx => by rw [← p x hx]; exact h x hx, fun h x hx => by rw [p x hx]; exact h x hx⟩
/-- a number of a state's clause, in a frame -/
theorem known_is (st inp : ByteArray) (hr : refOk c = true) (hs : bitsM st (c.lats.length : Int) = true) {s : ByteArray} {p : List UInt8} (hsv : s.data.toList = p ++ (valsM c st inp ++ [])) (hz : s.size ≤ 1099511627776) {k : Int} (h0 : k ≠ 0) (h1 : -(c.lats.length : Int) ≤ k) (h2 : k ≤ (c.lats.length : Int)) : isM s (latT c (p.length : Int) k) = isM st k := by
  obtain ⟨hsz, hsb⟩ := bits_parts hs
  have hstz : st.size = c.lats.length := by omega
  have hlz : c.lats.length ≤ 1099511627776 := by
    obtain ⟨hh, -⟩ := ref_parts hr
    unfold refHead at hh
    simp only [Bool.and_eq_true, Bool.not_eq_true', decide_eq_false_iff_not] at hh
    omega
  have hgd : ∀ i, i < c.lats.length → decide (st.data.toList.getD i 0 = 49) = decide (st.data.toList[i]? = some 49) := fun i hi => by
    have hl : i < st.data.toList.length := by simp; omega
    rw [List.getD_eq_getElem?_getD, List.getElem?_eq_getElem hl]
    simp
  by_cases hp : 0 < k
  · obtain ⟨i, rfl⟩ : ∃ i : Nat, k = (i : Int) + 1 := ⟨(k - 1).toNat, by omega⟩
    rw [(lat_is st inp hr hs hsv hz (i := i) (by omega)).1, is_posG (by omega) (by omega), hgd i (by omega)]
  · obtain ⟨i, rfl⟩ : ∃ i : Nat, k = -((i : Int) + 1) := ⟨(-k - 1).toNat, by omega⟩
    have e : latT c (p.length : Int) (-((i : Int) + 1)) = -latT c (p.length : Int) ((i : Int) + 1) := by
      unfold latT
      rw [if_pos (by omega), if_neg (by omega), show (- -((i : Int) + 1) - 1).toNat = i by omega, show ((i : Int) + 1 - 1).toNat = i by omega]
    rw [e, (lat_is st inp hr hs hsv hz (i := i) (by omega)).2, is_negG (by omega) (by omega), hgd i (by omega)]
/-- what holds in a frame -/
theorem frame_iff (st inp : ByteArray) (hr : refOk c = true) (hs : bitsM st (c.lats.length : Int) = true) (hi : bitsM inp (c.ins.length : Int) = true) (L1 L2 L3 : List (List Int)) (h1 : ∀ l ∈ L1, ∀ x ∈ l, 0 ≤ x ∧ x / 2 ≤ c.max) (h2 : ∀ l ∈ L2, ∀ x ∈ l, 0 ≤ x ∧ x / 2 ≤ c.max)
    (h3 : ∀ l ∈ L3, ∀ k ∈ l, k ≠ 0 ∧ -(c.lats.length : Int) ≤ k ∧ k ≤ (c.lats.length : Int)) (v s : ByteArray) (p : List UInt8) (hv : v.data.toList = valsM c st inp) (hsv : s.data.toList = p ++ v.data.toList) (hp : p.length ≤ 262144) (hz : s.size ≤ 1099511627776) :
    (frameT c L1 L2 L3 (p.length : Int)).all (oneM s) = (allowedM c L1 (valsM c st inp) && (L2.all (holdsM (valsM c st inp)) && L3.all (oneM st))) := by
  have hb0 : (0 : Int) ≤ (p.length : Int) := by omega
  have hb1 : (p.length : Int) ≤ 262144 := by omega
  unfold frameT
  rw [List.all_append, List.all_append, List.all_append]
  have e1 : (gatesT c (p.length : Int)).all (oneM s) = true := by
    rw [gates_move c hb0 hb1, all_moved hsv hz (gates_small hr)]
    have hvl : v.size = (valsM c st inp).length := by rw [← hv]; simp
    rw [gates_iff st inp hr hs hi v hvl (by rw [hv]; exact vals_bits hs hi) (fun n hn _ _ => by rw [hv]), decide_eq_true hv]
  have e2 : (forceT c L1 (p.length : Int)).all (oneM s) = allowedM c L1 (valsM c st inp) := by
    rw [force_move c L1 hb0 hb1, all_moved hsv hz (force_small' L1), force_iff st inp hr L1 h1 v hv]
  have e3 : (L2.map fun l => l.map (litT (p.length : Int))).all (oneM s) = L2.all (holdsM (valsM c st inp)) := by
    rw [lit_map L2 hb0 hb1, all_moved hsv hz (lits_small L2), lits_hold st inp hr L2 h2 v hv]
  have e4 : (L3.map fun l => l.map (latT c (p.length : Int))).all (oneM s) = L3.all (oneM st) := by
    rw [hv] at hsv
    rw [List.all_map, Bool.eq_iff_iff, List.all_eq_true, List.all_eq_true]
    have q : ∀ l ∈ L3, (oneM s ∘ fun l => l.map (latT c (p.length : Int))) l = oneM st l := fun l hl => by
      show oneM s (l.map (latT c (p.length : Int))) = _
      unfold oneM
      rw [List.any_map, Bool.eq_iff_iff, List.any_eq_true, List.any_eq_true]
      have k := fun x hx => known_is st inp hr hs (s := s) (p := p) (by simpa using hsv) hz (h3 l hl x hx).1 (h3 l hl x hx).2.1 (h3 l hl x hx).2.2
      constructor
      · rintro ⟨x, hx, h⟩; exact ⟨x, hx, by rw [← k x hx]; exact h⟩
      · rintro ⟨x, hx, h⟩; exact ⟨x, hx, by show isM s (latT c (p.length : Int) x) = true; rw [k x hx]; exact h⟩
    exact ⟨fun h x hx => by rw [← q x hx]; exact h x hx, fun h x hx => by rw [q x hx]; exact h x hx⟩
  rw [e1, e2, e3, e4, Bool.true_and]
theorem frame_some (L1 L2 L3 : List (List Int)) (b : Int) (hm : 0 ≤ c.max) : 1 ≤ (frameT c L1 L2 L3 b).length := by
  have h : 0 < (gatesT c b).length := by
    have h0 : (0 : Nat) ∈ (List.range (c.max + 1).toNat).filter fun (v : Nat) => freeT c (v : Int) := by
      rw [List.mem_filter, List.mem_range]
      refine ⟨by omega, ?_⟩
      unfold freeT
      rw [decide_eq_true (by rfl)]; rfl
    have := List.length_pos_of_mem h0
    unfold gatesT
    rw [List.length_append, List.length_map]
    omega
  unfold frameT
  rw [List.length_append]
  omega
/-- two frames' states are unlike -/
theorem apart_iff (a b inp : ByteArray) (hr : refOk c = true) (ha : bitsM a (c.lats.length : Int) = true) (hb : bitsM b (c.lats.length : Int) = true) (s : ByteArray) (d : List UInt8) (hsv : s.data.toList = valsM c a inp ++ (valsM c b inp ++ d)) (hd : d.length = c.lats.length) (hdd : ∀ i, i < c.lats.length → d[i]? = some (if a.data.toList.getD i 0 = b.data.toList.getD i 0 then 48 else 49)) (hz : s.size ≤ 1099511627776) :
    (apartL c 0 (c.max + 1) (2 * (c.max + 1))).all (oneM s) = !decide (a = b) := by
  obtain ⟨hva1, hva2⟩ := vals_small a inp hr
  obtain ⟨hvb1, hvb2⟩ := vals_small b inp hr
  obtain ⟨hsa, hab⟩ := bits_parts ha
  obtain ⟨hsb, hbb⟩ := bits_parts hb
  have hlen := congrArg List.length hsv
  rw [List.length_append, List.length_append] at hlen
  have hsz : s.data.toList.length = s.size := by simp
  have X : ∀ i, i < c.lats.length → isM s (2 * (c.max + 1) + (i : Int) + 1) = !decide (a.data.toList.getD i 0 = b.data.toList.getD i 0) ∧ isM s (-(2 * (c.max + 1) + (i : Int) + 1)) = decide (a.data.toList.getD i 0 = b.data.toList.getD i 0) := fun i hi => by
    have e : 2 * (c.max + 1) + (i : Int) + 1 = (((valsM c a inp).length + (valsM c b inp).length + i : Nat) : Int) + 1 := by omega
    have hat : s.data.toList[(valsM c a inp).length + (valsM c b inp).length + i]? = d[i]? := by
      rw [hsv, List.getElem?_append_right (by omega), List.getElem?_append_right (by omega)]
      congr 1
      omega
    rw [e, is_negG (by omega) hz, is_posG (by omega) hz, hat, hdd i hi]
    by_cases h : a.data.toList.getD i 0 = b.data.toList.getD i 0
    · rw [if_pos h, decide_eq_true h]; exact ⟨rfl, rfl⟩
    · rw [if_neg h, decide_eq_false h]; exact ⟨rfl, rfl⟩
  have Y0 : ∀ i, i < c.lats.length → _ := fun i hi => lat_is a inp hr ha (s := s) (p := []) (r := valsM c b inp ++ d) (by simpa using hsv) hz hi
  have Y1 : ∀ i, i < c.lats.length → _ := fun i hi => lat_is b inp hr hb (s := s) (p := valsM c a inp) (r := d) hsv hz hi
  rw [show (([] : List UInt8).length : Int) = 0 from rfl] at Y0
  rw [hva1] at Y1
  have bit : ∀ i, i < c.lats.length → isB (a.data.toList.getD i 0) ∧ isB (b.data.toList.getD i 0) := fun i hi => by
    have la : i < a.data.toList.length := by simp; omega
    have lb : i < b.data.toList.length := by simp; omega
    rw [List.getD_eq_getElem?_getD, List.getD_eq_getElem?_getD, List.getElem?_eq_getElem la, List.getElem?_eq_getElem lb]
    exact ⟨hab _ (List.getElem_mem la), hbb _ (List.getElem_mem lb)⟩
  unfold apartL
  rw [List.all_append, List.all_flatMap]
  have e1 : ((List.range c.lats.length).all fun i => (twoL c 0 (c.max + 1) (2 * (c.max + 1)) i).all (oneM s)) = true := by
    rw [List.all_eq_true]
    intro i hi
    have hi' := List.mem_range.1 hi
    obtain ⟨x1, x2⟩ := X i hi'
    obtain ⟨y1, y2⟩ := Y0 i hi'
    obtain ⟨z1, z2⟩ := Y1 i hi'
    obtain ⟨b1, b2⟩ := bit i hi'
    unfold twoL oneM
    simp only [List.all_cons, List.all_nil, List.any_cons, List.any_nil, Bool.or_false, Bool.and_true]
    rw [x2, y1, y2, z1, z2]
    rcases b1 with h1 | h1 <;> rcases b2 with h2 | h2 <;> rw [h1, h2] <;> decide
  have e2 : oneM s ((List.range c.lats.length).map fun (i : Nat) => 2 * (c.max + 1) + (i : Int) + 1) = !decide (a = b) := by
    unfold oneM
    rw [List.any_map]
    have hsab : a.size = b.size := by omega
    by_cases h : a = b
    · rw [decide_eq_true h, Bool.not_true, List.any_eq_false]
      intro i hi
      show ¬ isM s _ = true
      rw [(X i (List.mem_range.1 hi)).1, h, decide_eq_true rfl]; decide
    · rw [decide_eq_false h, Bool.not_false, List.any_eq_true]
      by_cases hx : ∃ i, i < c.lats.length ∧ a.data.toList.getD i 0 ≠ b.data.toList.getD i 0
      · obtain ⟨i, hi, hne⟩ := hx
        exact ⟨i, List.mem_range.2 hi, by show isM s _ = true; rw [(X i hi).1, decide_eq_false hne]; rfl⟩
      · exfalso
        apply h
        apply ByteArray.ext
        apply Array.toList_inj.1
        apply List.ext_getElem (by simp; omega)
        intro i h1 h2
        have hi : i < c.lats.length := by simp at h1; omega
        have : a.data.toList.getD i 0 = b.data.toList.getD i 0 := Classical.byContradiction fun hne => hx ⟨i, hi, hne⟩
        rw [List.getD_eq_getElem?_getD, List.getD_eq_getElem?_getD, List.getElem?_eq_getElem h1, List.getElem?_eq_getElem h2] at this
        exact this
  rw [e1, Bool.true_and]
  simp only [List.all_cons, List.all_nil, Bool.and_true]
  exact e2
theorem apart_len (b0 b1 x : Int) : (apartL c b0 b1 x).length = 2 * c.lats.length + 1 := by
  unfold apartL
  rw [List.length_append]
  have : ∀ n, ((List.range n).flatMap (twoL c b0 b1 x)).length = 2 * n := by
    intro n
    induction n with
    | zero => rfl
    | succ n ih => rw [List.range_succ, List.flatMap_append, List.length_append, ih]; simp [twoL]; omega
  rw [this]; rfl
end
end Go.Proofs.Ytbgcoeejmnejdaa.Unr
namespace Go.Proofs.Ytbgcoeejmnejdaa.Rep
open Go.ChangeShapes Go.WideShapes Go.ChangeAt Go.RowKit Go.Maps Circ Cw
open Str Sim

theorem all_take {α : Type} (l : List α) (p : α → Bool) (k : Nat) (hk : k < l.length) : (l.take (k + 1)).all p = ((l.take k).all p && p l[k]) := by
  rw [List.take_succ_eq_append_getElem hk, List.all_append]; simp
theorem all_not {α : Type} {l : List α} {p : α → Bool} {k : Nat} (hk : k < l.length) (h : p l[k] = false) : l.all p = false := by
  rw [List.all_eq_false]
  exact ⟨l[k], List.getElem_mem hk, by rw [h]; decide⟩
set_option maxHeartbeats 16000000 in
set_option maxRecDepth 100000 in
theorem refallowed_any (c : Cir) (s : Places) (L : List Clz) (A : Option Addr) (q : Nat) (v : ByteArray) (w : World) (h : CLies w w.heap.size c s) (hf : CFits c s) (hz : v.size ≤ 9223372036854775807) (hn : c.invs.length ≤ 9223372036854775807) (hA : ALies w w.heap.size A L) :
    Calls Try.prog 39 #[cirV c s, .slice A L.length q, .string v] w fun e w' => e = .returned (.bool (allowedM c (L.map Clz.l) v.data.toList)) ∧ Below w.heap.size w w' := by
  obtain ⟨WA, hWA⟩ : ∃ x, w.alloc (.cells #[.int .i64 c.max, .slice s.ai c.ins.length s.ki, .slice s.al c.lats.length s.kl, .slice s.ao c.outs.length s.ko, .slice s.ab c.bads.length s.kb, .slice s.ac c.invs.length s.kc, .slice s.aa c.ands.length s.ka, .slice s.an c.names.length s.kn] 27) = x := ⟨_, rfl⟩
  have bA : Hid (Below w.heap.size w WA) := by unfold Hid; rw [← hWA]; exact (Below.refl _ _).alloc (Nat.le_refl _) _
  have GA : Hid (WA.heap[w.heap.size]? = some (.cells (cirC c s) 27 (0, 0))) := by unfold Hid; rw [← hWA]; exact Array.getElem?_push_size
  obtain ⟨e0, e1, e2, e3, e4, e5, e6, e7⟩ := cells8 GA.out
  have LW : Hid (∀ x, Below w.heap.size w x → CLies x x.heap.size c s) := fun x hx => (h.below hx).more hx.size
  have AW : Hid (ALies WA WA.heap.size A L) := (hA.below bA.out).more bA.out.size
  have HF := Lib.hid hf
  have HN := Lib.hid hn
  have HL := Lib.hid hA.len
  clear h hf hA hn
  unfold cirV
  rw [show cirC c s = #[.int .i64 c.max, .slice s.ai c.ins.length s.ki, .slice s.al c.lats.length s.kl, .slice s.ao c.outs.length s.ko, .slice s.ab c.bads.length s.kb, .slice s.ac c.invs.length s.kc, .slice s.aa c.ands.length s.ka, .slice s.an c.names.length s.kn] from rfl]
  go_enter Try.func39, Try.ntmps39
  go_wp2
  clear e0 e1 e2 e3 e4 e5 e6 e7 hWA
  go_loop [7] (fun i => ∃ k : Nat, k ≤ c.invs.length ∧ i = .int .i64 k ∧ (c.invs.take k).all (trueM v.data.toList) = true) (fun i => c.invs.length - (intOf i).toNat)
  case atStart => exact ⟨0, Nat.zero_le _, rfl, rfl⟩
  case round =>
    obtain ⟨k, hk, rfl, ha⟩ := hrel
    have HA := Lib.hid ha
    have hn := HN.out
    clear ha
    obtain ⟨e0, e1, e2, e3, e4, e5, e6, e7⟩ := cells8 GA.out
    by_cases hlt : k < c.invs.length
    · obtain ⟨b, o, hA2, -, hc⟩ := LRow.int (LW.out WA bA.out).invs hlt
      rw [hA2] at e5
      have TJ := Lib.hid (reftrue_any v c.invs[k] WA hz (HF.out.invs _ (List.getElem_mem hlt)).2)
      have HT := Lib.hid (all_take c.invs (trueM v.data.toList) k hlt)
      rw [HA.out, Bool.true_and] at HT
      have HNo := Lib.hid (fun h => all_not (p := trueM v.data.toList) hlt h)
      clear hA2
      generalize c.invs[k] = x at *
      cases hq : trueM v.data.toList x with
      | true =>
        rw [hq] at TJ HT
        clear hq HNo
        go_wp2_with fail
        refine TJ.out.mono ?_
        rintro e w' ⟨rfl, rfl⟩
        go_wp2
        go_round
        case rel => exact ⟨k + 1, by omega, by go_num, HT.out⟩
        case measure => simp [intOf]; omega
      | false =>
        rw [hq] at TJ
        have HF9 : Hid (allowedM c (L.map Clz.l) v.data.toList = false) := by unfold Hid allowedM; rw [HNo.out hq]; rfl
        clear hq HNo HT
        go_wp2_with fail
        refine TJ.out.mono ?_
        rintro e w' ⟨rfl, rfl⟩
        go_wp2
        go_ret
        exact ⟨by rw [HF9.out]; rfl, bA.out⟩
    · obtain rfl : k = c.invs.length := by omega
      rw [List.take_length] at HA
      go_wp2
      clear e0 e1 e2 e3 e4 e5 e6 e7
      go_loop [8] (fun i => ∃ k : Nat, k ≤ L.length ∧ i = .int .i64 k ∧ (L.take k).all (fun z => holdsM v.data.toList z.l) = true) (fun i => L.length - (intOf i).toNat)
      case atStart => exact ⟨0, Nat.zero_le _, rfl, rfl⟩
      case round =>
        obtain ⟨j, hj, rfl, hb⟩ := hrel
        have HB := Lib.hid hb
        have hl := HL.out
        clear hb
        by_cases hlt2 : j < L.length
        · obtain ⟨b, o, hA2, -, hc⟩ := AW.out.at hlt2
          have ZL := AW.out.each L[j] (List.getElem_mem hlt2)
          have HJ := Lib.hid (refholds_any v L[j].l L[j].A L[j].q WA hz ZL.fits ZL.len ZL.row)
          have HT := Lib.hid (all_take L (fun z => holdsM v.data.toList z.l) j hlt2)
          rw [HB.out, Bool.true_and] at HT
          have HNo := Lib.hid (fun h => all_not (p := fun z : Clz => holdsM v.data.toList z.l) hlt2 h)
          have hjz : (j : Int) < (L.length : Int) := by omega
          subst hA2
          clear ZL
          generalize L[j] = z at *
          cases hq : holdsM v.data.toList z.l with
          | true =>
            rw [hq] at HJ HT
            clear hq HNo
            go_wp2_with fail
            refine HJ.out.mono ?_
            rintro e w' ⟨rfl, rfl⟩
            go_wp2
            go_round
            case rel => exact ⟨j + 1, by omega, by go_num, HT.out⟩
            case measure => simp [intOf]; omega
          | false =>
            rw [hq] at HJ
            have HF9 : Hid (allowedM c (L.map Clz.l) v.data.toList = false) := by
              have := HNo.out hq
              unfold Hid allowedM
              rw [List.all_map, show (holdsM v.data.toList ∘ Clz.l) = (fun z : Clz => holdsM v.data.toList z.l) from rfl, this, Bool.and_false]
            clear hq HNo HT
            go_wp2_with fail
            refine HJ.out.mono ?_
            rintro e w' ⟨rfl, rfl⟩
            go_wp2
            go_ret
            exact ⟨by rw [HF9.out]; rfl, bA.out⟩
        · obtain rfl : j = L.length := by omega
          have HF9 : Hid (allowedM c (L.map Clz.l) v.data.toList = true) := by
            have := HB.out
            rw [List.take_length] at this
            unfold Hid allowedM
            rw [HA.out, List.all_map, show (holdsM v.data.toList ∘ Clz.l) = (fun z : Clz => holdsM v.data.toList z.l) from rfl, this]; rfl
          go_wp2
          go_ret
          exact ⟨by rw [HF9.out]; rfl, bA.out⟩
theorem init_take (c : Cir) (s : ByteArray) (k : Nat) (hk : k < c.lats.length) : ((List.range c.lats.length).take (k + 1)).all (fun i => initB (c.lats.getD i ⟨0, 0, 0⟩) (s.data.toList.getD i 0)) = (((List.range c.lats.length).take k).all (fun i => initB (c.lats.getD i ⟨0, 0, 0⟩) (s.data.toList.getD i 0)) && initB c.lats[k] (s.data.toList.getD k 0)) := by
  rw [all_take _ _ k (by simpa using hk), List.getElem_range, lat_at c hk]
theorem init_not (c : Cir) (s : ByteArray) {k : Nat} (hk : k < c.lats.length) (h : initB c.lats[k] (s.data.toList.getD k 0) = false) : initM c s = false := by
  unfold initM
  rw [all_not (k := k) (by simpa using hk) (by rw [List.getElem_range, lat_at c hk]; exact h), Bool.and_false]
theorem at_byte (s : ByteArray) {k : Nat} (h : k < s.size) (d : UInt8) : s.data.toList.getD k d = s[k]'h := by
  have hl : k < s.data.toList.length := by simpa using h
  rw [List.getD_eq_getElem?_getD, List.getElem?_eq_getElem hl, Option.getD_some, Array.getElem_toList]; rfl
set_option maxHeartbeats 16000000 in
set_option maxRecDepth 100000 in
theorem refinitial_any (c : Cir) (s : Places) (st : ByteArray) (w : World) (h : CLies w w.heap.size c s) (hz : st.size ≤ 9223372036854775807) :
    Calls Try.prog 43 #[cirV c s, .string st] w fun e w' => e = .returned (.bool (initM c st)) ∧ Below w.heap.size w w' := by
  obtain ⟨WA, hWA⟩ : ∃ x, w.alloc (.cells #[.int .i64 c.max, .slice s.ai c.ins.length s.ki, .slice s.al c.lats.length s.kl, .slice s.ao c.outs.length s.ko, .slice s.ab c.bads.length s.kb, .slice s.ac c.invs.length s.kc, .slice s.aa c.ands.length s.ka, .slice s.an c.names.length s.kn] 27) = x := ⟨_, rfl⟩
  have bA : Hid (Below w.heap.size w WA) := by unfold Hid; rw [← hWA]; exact (Below.refl _ _).alloc (Nat.le_refl _) _
  have GA : Hid (WA.heap[w.heap.size]? = some (.cells (cirC c s) 27 (0, 0))) := by unfold Hid; rw [← hWA]; exact Array.getElem?_push_size
  obtain ⟨e0, e1, e2, e3, e4, e5, e6, e7⟩ := cells8 GA.out
  have LW : Hid (∀ x, Below w.heap.size w x → CLies x x.heap.size c s) := fun x hx => (h.below hx).more hx.size
  have TB := Lib.hid (refbits_any st (c.lats.length : Int) WA hz)
  have HZ := Lib.hid hz
  clear h hz
  cases hb : bitsM st (c.lats.length : Int) with
  | false =>
    have HF9 : Hid (initM c st = false) := by unfold Hid initM; rw [hb]; rfl
    rw [hb] at TB
    clear hb
    unfold cirV
    rw [show cirC c s = #[.int .i64 c.max, .slice s.ai c.ins.length s.ki, .slice s.al c.lats.length s.kl, .slice s.ao c.outs.length s.ko, .slice s.ab c.bads.length s.kb, .slice s.ac c.invs.length s.kc, .slice s.aa c.ands.length s.ka, .slice s.an c.names.length s.kn] from rfl]
    go_enter Try.func43, Try.ntmps43
    go_wp2_with fail
    refine TB.out.mono ?_
    rintro e w' ⟨rfl, rfl⟩
    clear e0 e1 e2 e3 e4 e5 e6 e7 hWA
    go_wp2
    go_ret
    exact ⟨by rw [HF9.out]; rfl, bA.out⟩
  | true =>
    have HS := Lib.hid (bits_parts hb).1
    have HBT := Lib.hid hb
    rw [hb] at TB
    clear hb
    unfold cirV
    rw [show cirC c s = #[.int .i64 c.max, .slice s.ai c.ins.length s.ki, .slice s.al c.lats.length s.kl, .slice s.ao c.outs.length s.ko, .slice s.ab c.bads.length s.kb, .slice s.ac c.invs.length s.kc, .slice s.aa c.ands.length s.ka, .slice s.an c.names.length s.kn] from rfl]
    go_enter Try.func43, Try.ntmps43
    go_wp2_with fail
    refine TB.out.mono ?_
    rintro e w' ⟨rfl, rfl⟩
    clear e0 e1 e2 e3 e4 e5 e6 e7 hWA
    go_wp2
    go_loopw [5] (fun i wr => ∃ k : Nat, k ≤ st.size ∧ i = .int .i64 k ∧ ((List.range c.lats.length).take k).all (fun i => initB (c.lats.getD i ⟨0, 0, 0⟩) (st.data.toList.getD i 0)) = true ∧ Below WA.heap.size WA wr) (fun i _ => st.size - (intOf i).toNat)
    case atStart => exact ⟨0, Nat.zero_le _, rfl, rfl, Below.refl _ _⟩
    case round =>
      obtain ⟨k, hk, rfl, ha, hbw⟩ := hrel
      have HA := Lib.hid ha
      have HB := Lib.hid hbw
      have hz := HZ.out
      clear ha hbw
      have GW : Hid (wr.heap[w.heap.size]? = some (.cells (cirC c s) 27 (0, 0))) := (HB.out.block _ (lt_of_block GA.out)).trans GA.out
      have BW : Hid (Below w.heap.size w wr) := bA.out.trans (HB.out.mono bA.out.size)
      obtain ⟨e0, e1, e2, e3, e4, e5, e6, e7⟩ := cells8 GW.out
      by_cases hlt : k < st.size
      · have hkl : k < c.lats.length := by have := HS.out; omega
        have hkz : (k : Int) < (c.lats.length : Int) := by omega
        have hk0 : (0 : Int) ≤ (k : Int) := by omega
        have hks : (k : Int) < (st.size : Int) := by omega
        obtain ⟨b, o, hA2, -, c0, c1, c2⟩ := LRow.tri (LW.out wr BW.out).lats hkl
        rw [hA2] at e2
        have HT := Lib.hid (init_take c st k hkl)
        rw [HA.out, Bool.true_and, at_byte st hlt] at HT
        have HNo := Lib.hid (init_not c st hkl)
        rw [at_byte st hlt] at HNo
        clear hA2
        generalize c.lats[k] = t at *
        by_cases hca : t.c = t.a
        · have b0 : (t.c != t.a) = false := bne_eq_false_iff_eq.2 hca
          have HX : Hid (((List.range c.lats.length).take (k + 1)).all (fun i => initB (c.lats.getD i ⟨0, 0, 0⟩) (st.data.toList.getD i 0)) = true) := by
            unfold Hid; rw [HT.out]; unfold initB; rw [decide_eq_true hca]; rfl
          clear HT HNo hca
          go_wp2
          go_roundw
          case rel => exact ⟨k + 1, by omega, by go_num, HX.out, HB.out⟩
          case measure => simp [intOf]; omega
        · have b0 : (t.c != t.a) = true := bne_iff_ne.2 hca
          have hd0 : decide (t.c = t.a) = false := decide_eq_false hca
          by_cases hc1 : t.c = 1
          · have b1 : (t.c == 1) = true := by rw [beq_iff_eq]; exact hc1
            have hd1 : decide (t.c = 1) = true := decide_eq_true hc1
            by_cases h49 : (st[k]'hlt).toNat = 49
            · have b2 : (((st[k]'hlt).toNat : Int) == 49) = true := by rw [beq_iff_eq]; omega
              have HX : Hid (((List.range c.lats.length).take (k + 1)).all (fun i => initB (c.lats.getD i ⟨0, 0, 0⟩) (st.data.toList.getD i 0)) = true) := by
                unfold Hid; rw [HT.out]; unfold initB; rw [hd0, hd1, decide_eq_true h49]; rfl
              clear HT HNo hca hc1 h49 hd0 hd1
              go_wp2
              go_roundw
              case rel => exact ⟨k + 1, by omega, by go_num, HX.out, HB.out⟩
              case measure => simp [intOf]; omega
            · have b2 : (((st[k]'hlt).toNat : Int) == 49) = false := by rw [beq_eq_false_iff_ne]; omega
              have HX := Lib.hid (HNo.out (by unfold initB; rw [hd0, hd1, decide_eq_false h49]; rfl))
              clear HT HNo hca hc1 h49 hd0 hd1
              go_wp2
              go_ret
              exact ⟨by rw [HX.out]; rfl, BW.out⟩
          · have b1 : (t.c == 1) = false := beq_eq_false_iff_ne.2 hc1
            have hd1 : decide (t.c = 1) = false := decide_eq_false hc1
            by_cases h49 : (st[k]'hlt).toNat = 49
            · have b2 : (((st[k]'hlt).toNat : Int) == 49) = true := by rw [beq_iff_eq]; omega
              have HX := Lib.hid (HNo.out (by unfold initB; rw [hd0, hd1, decide_eq_true h49]; rfl))
              clear HT HNo hca hc1 h49 hd0 hd1
              go_wp2
              go_ret
              exact ⟨by rw [HX.out]; rfl, BW.out⟩
            · have b2 : (((st[k]'hlt).toNat : Int) == 49) = false := by rw [beq_eq_false_iff_ne]; omega
              have HX : Hid (((List.range c.lats.length).take (k + 1)).all (fun i => initB (c.lats.getD i ⟨0, 0, 0⟩) (st.data.toList.getD i 0)) = true) := by
                unfold Hid; rw [HT.out]; unfold initB; rw [hd0, hd1, decide_eq_false h49]; rfl
              clear HT HNo hca hc1 h49 hd0 hd1
              go_wp2
              go_roundw
              case rel => exact ⟨k + 1, by omega, by go_num, HX.out, HB.out⟩
              case measure => simp [intOf]; omega
      · obtain rfl : k = st.size := by omega
        have HF9 : Hid (initM c st = true) := by
          have h := HA.out
          rw [List.take_of_length_le (by rw [List.length_range, HS.out]; exact Nat.le_refl _)] at h
          unfold Hid initM
          rw [h, HBT.out]; rfl
        go_wp2
        go_ret
        exact ⟨by rw [HF9.out]; rfl, BW.out⟩
end Go.Proofs.Ytbgcoeejmnejdaa.Rep
namespace Go.Proofs.Ytbgcoeejmnejdaa.Tse
open Go.ChangeShapes Go.WideShapes Go.ChangeAt Go.RowKit Go.Maps Circ Cw Str Sim Rep Cla

/-- the error of a circuit and a base -/
def errT (c : Cir) (b : Int) : Int := if refOk c = false then 9 else if b < 0 then 4 else if 262144 < b then 4 else 0
def gListT (c : Cir) (b : Int) : List (List Int) := if errT c b = 0 then gatesT c b else []
def fListT (c : Cir) (L : List (List Int)) (b : Int) : List (List Int) := if errT c b = 0 then forceT c L b else []
theorem clz_lies {w : World} {B : Nat} {z : Clz} (h : z.Lies w B) : ILies w B z.A z.l := ⟨h.row, h.fits, h.len⟩
/-- the program's own Lit, Gates, Force answer as the pages say -/
structure Prog12 (N : Nat) : Prop where
  lit : ∀ (b l : Int) (w : World), I64 b → I64 l → Calls Try.prog 120 #[.int .i64 b, .int .i64 l] w fun e w' => e = .returned (.int .i64 (litT b l)) ∧ Below w.heap.size w w'
  gates : ∀ (c : Cir) (s : Places) (b : Int) (w : World), CLies w w.heap.size c s → CFits c s → I64 b →
    Calls Try.prog 77 #[cirV c s, .int .i64 b] w fun e w' => (∃ K A' q', e = .returned (.tuple #[.slice A' K.length q', .int .i64 (errT c b)]) ∧ ALies w' w'.heap.size A' K ∧ K.map Clz.l = gListT c b) ∧ Below w.heap.size w w'
  force : ∀ (c : Cir) (s : Places) (L : List Clz) (A : Option Addr) (q : Nat) (b : Int) (w : World), CLies w w.heap.size c s → CFits c s → ALies w w.heap.size A L → I64 b → L.length * 3 ≤ N → (∀ z ∈ L, z.l.length ≤ N) →
    Calls Try.prog 78 #[cirV c s, .slice A L.length q, .int .i64 b] w fun e w' => (∃ K A' q', e = .returned (.tuple #[.slice A' K.length q', .int .i64 (errT c b)]) ∧ ALies w' w'.heap.size A' K ∧ K.map Clz.l = fListT c (L.map Clz.l) b) ∧ Below w.heap.size w w'
theorem all_take {α : Type} (l : List α) (p : α → Bool) (k : Nat) (hk : k < l.length) : (l.take (k + 1)).all p = ((l.take k).all p && p l[k]) := by
  rw [List.take_succ_eq_append_getElem hk, List.all_append]; simp
end Go.Proofs.Ytbgcoeejmnejdaa.Tse
