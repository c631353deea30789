/- harmed: the models that a clause makes false, handed out one after the other; conditions: at most 14 variables; the loop's body writes but one row. A set of pairs of bits in memory; the marks that loops over iterators leave. No condition but that there are not too many. -/
import Derived.Test.YtefbknpoehmfaaaPb35
import Derived.Test.YtefbknpoehmfaaaPb26
import Derived.Test.YtefbknpoehmfaaaPb03
import Derived.RangeFuncLeaves
import Derived.DeepKeys3
namespace Go.Proofs.Ytefbknpoehmfaaa.For
open Go.ChangeShapes Go.WideShapes Go.ChangeAt Go.RowKit Go.Maps Go.Shelf Circ Cw Cla Rep

/-- all below n0 but block o is kept -/
def KO (o n0 : Nat) (W W' : World) : Prop := W.heap.size ≤ W'.heap.size ∧ ∀ k, k < n0 → k ≠ o → W'.heap[k]? = W.heap[k]?
theorem KO.refl (o n0 : Nat) (W : World) : KO o n0 W W := ⟨Nat.le_refl _, fun _ _ _ => rfl⟩
theorem KO.trans {o n0 : Nat} {A B C : World} (h : KO o n0 A B) (k : KO o n0 B C) : KO o n0 A C := ⟨Nat.le_trans h.1 k.1, fun i h1 h2 => (k.2 i h1 h2).trans (h.2 i h1 h2)⟩
theorem subs_step (o n r : Nat) (h : r ≤ n) : subsM o n r = r :: if r = 0 then [] else subsM o (n - 1) ((r - 1) &&& o) := by
  match n, h with
  | 0, h =>
    obtain rfl : r = 0 := by omega
    rfl
  | n + 1, h => rfl
attribute [local go_sem] Oper.semAt_some
set_option maxRecDepth 100000 in
set_option maxHeartbeats 8000000 in
theorem harm_in (n : Nat) (hn : 1 ≤ n) (y bs bb o n0 V a b : Nat) (J Jx : List Nat → World → Prop) (hV : V ≤ 14) (ha : a < 2 ^ 14) (hb : b < 2 ^ 14) (hbs : bs < n0) (hbb : bb < n0) (hos : bs ≠ o) (hob : bb ≠ o)
    (hY : ∀ pre x W, J pre W → x ∈ harmed V a b → pre.length < (harmed V a b).length → YieldAt Fence.wide (n - 1) Try.prog y #[.int .i64 (x : Int)] W fun e W' =>
      (e = .returned (.bool true) ∧ J (pre ++ [x]) W' ∧ KO o n0 W W') ∨ (e = .returned (.bool false) ∧ Jx (pre ++ [x]) W'))
    (W : World) (hs : W.heap[bs]? = some (.cells #[.int .i64 (a : Int), .int .i64 (b : Int)] 95 (0, 0))) (hc : W.heap[bb]? = some (.cells #[.int .i64 ((2 ^ V - 1 : Nat) : Int)] 3 (0, 0))) (h0 : J [] W) :
    CallsIn Fence.wide n Try.prog 64 #[.func (.yield y) #[] #[], .pointer (some ⟨bs, 0, none⟩), .pointer (some ⟨bb, 0, none⟩)] W fun e W' => (∃ v, e = .returned v) ∧
      ((∃ ys, ys = harmed V a b ∧ J ys W') ∨ (∃ pre, pre <+: harmed V a b ∧ Jx pre W')) := by
  have HS : Hid (∀ x, KO o n0 W x → x.heap[bs]? = some (.cells #[.int .i64 (a : Int), .int .i64 (b : Int)] 95 (0, 0))) := fun x hx => (hx.2 bs hbs hos).trans hs
  have HC : Hid (∀ x, KO o n0 W x → x.cell? ⟨bb, 0, none⟩ = some (.int .i64 ((2 ^ V - 1 : Nat) : Int))) := fun x hx => by
    rw [Lib.cell_of_heap ((hx.2 bb hbb hob).trans hc)]; rfl
  have HY := Lib.hid hY
  have H0 := Lib.hid h0
  obtain ⟨e0, e1⟩ := cells2 hs
  have e2 := HC.out W (KO.refl _ _ _)
  have hab := bits_and64 a b (by omega) (by omega)
  have hob1 := bits_or64 a b (by omega) (by omega)
  have hrs := bits_rest64 V a b hV (Nat.lt_of_lt_of_le (Nat.or_lt_two_pow ha hb) (by decide))
  have hle : othersM V a b ≤ 2 ^ V - 1 := Nat.and_le_left
  have hp : 2 ^ V ≤ 16384 := Nat.le_trans (Nat.pow_le_pow_right (by decide) hV) (by decide)
  have HD : Hid (harmed V a b = if a &&& b ≠ 0 then [] else (subsM (othersM V a b) (othersM V a b) (othersM V a b)).map (b ||| ·)) := rfl
  have ho2 : othersM V a b ≤ 16384 := by omega
  clear hs hc hY h0 hle
  generalize hH : harmed V a b = L at *
  generalize othersM V a b = oo at *
  generalize (2 ^ V - 1 : Nat) = mm at *
  obtain ⟨c, hcc⟩ : ∃ c, a &&& b = c := ⟨_, rfl⟩
  rw [hcc] at hab HD
  obtain ⟨u, hu⟩ : ∃ u, a ||| b = u := ⟨_, rfl⟩
  rw [hu] at hob1 hrs
  clear hcc hu hH hp
  refine callsIn_of_wp Try.func64 rfl trivial ?_ rfl
  simp only [Try.ntmps64, List.size_toArray, List.length_cons, List.length_nil, Nat.reduceAdd, Nat.reduceSub, Array.replicate_succ, Array.replicate_zero, List.push_toArray, List.append_toArray, List.nil_append, List.cons_append]
  by_cases hc0 : c = 0
  · have hd : ((c : Int) != 0) = false := by simp [hc0]
    rw [if_neg (by simpa using hc0)] at HD
    clear hc0
    gi_wp2
    clear e0 e1 e2 hab hob1 hrs hd
    gi_loopw [5] (fun i wr => ∃ (k r : Nat) (pre : List Nat), i = .int .i64 r ∧ r ≤ k ∧ r ≤ 16384 ∧ L = pre ++ (subsM oo k r).map (b ||| ·) ∧ J pre wr ∧ KO o n0 W wr) (fun i _ => (intOf i).toNat)
    case atStart => exact ⟨oo, oo, [], rfl, Nat.le_refl _, ho2, HD.out, H0.out, KO.refl _ _ _⟩
    case round =>
      obtain ⟨k, r, pre, rfl, hrk, hr, hL, hJ, hK⟩ := hrel
      rw [subs_step oo k r hrk, List.map_cons] at hL
      have HL := Lib.hid hL
      have HK := Lib.hid hK
      have hor := bits_or64 b r (by omega) (by omega)
      have hy := HY.out pre (b ||| r) wr hJ (by rw [hL]; simp) (by rw [hL]; simp)
      have HRK := Lib.hid hrk
      clear hL hK hJ hrk
      obtain ⟨e0, e1⟩ := cells2 (HS.out wr HK.out)
      generalize b ||| r = x at *
      obtain ⟨fn, tmps, assign, body, hy, hR⟩ := hy
      have HRR := Lib.hid hR
      clear hR
      by_cases hr0 : r = 0
      · have hd : ((r : Int) != 0) = false := by simp [hr0]
        rw [if_pos hr0, List.map_nil] at HL
        clear hr0
        gi_wp2
        refine HRR.out.mono ?_
        rintro e W3 (⟨rfl, hJ3, hk3⟩ | ⟨rfl, hJx3⟩)
        · have HJ3 := Lib.hid hJ3
          clear hJ3 hk3
          gi_wp2
          go_end0
          exact ⟨⟨_, rfl⟩, .inl ⟨_, by rw [HL.out], HJ3.out⟩⟩
        · have HJx3 := Lib.hid hJx3
          clear hJx3
          gi_wp2
          go_end0
          exact ⟨⟨_, rfl⟩, .inr ⟨_, by rw [HL.out]; exact List.prefix_rfl, HJx3.out⟩⟩
      · have hd : ((r : Int) != 0) = true := by simp [hr0]
        rw [if_neg hr0] at HL
        have HR1 : Hid (1 ≤ r) := by unfold Hid; omega
        have hnx : bits .and .i64 ((r : Int) - 1) (oo : Int) = (((r - 1) &&& oo : Nat) : Int) := by
          rw [show (r : Int) - 1 = ((r - 1 : Nat) : Int) by omega]
          exact bits_and64 _ _ (by omega) (by omega)
        have HLE : Hid ((r - 1) &&& oo ≤ r - 1) := Nat.and_le_left
        generalize (r - 1) &&& oo = r2 at *
        clear hr0
        gi_wp2
        refine HRR.out.mono ?_
        rintro e W3 (⟨rfl, hJ3, hk3⟩ | ⟨rfl, hJx3⟩)
        · have HJ3 := Lib.hid hJ3
          have HK3 := Lib.hid (HK.out.trans hk3)
          clear hJ3 hk3
          gi_wp2
          go_roundw
          case rel => exact ⟨k - 1, r2, pre ++ [x], rfl, by have := HLE.out; have := HR1.out; have := HRK.out; omega, by have := HLE.out; omega, by rw [HL.out, List.append_assoc]; rfl, HJ3.out, HK3.out⟩
          case measure => have := HLE.out; have := HR1.out; simp [intOf]; omega
        · have HJx3 := Lib.hid hJx3
          clear hJx3
          gi_wp2
          go_end0
          exact ⟨⟨_, rfl⟩, .inr ⟨_, ⟨_, by rw [HL.out, List.append_assoc]; rfl⟩, HJx3.out⟩⟩
  · have hd : ((c : Int) != 0) = true := by simp [hc0]
    rw [if_pos (by simpa using hc0)] at HD
    clear hc0
    gi_wp2
    refine bodyPost_ret (results_none rfl _ _ _) rfl ?_
    exact ⟨⟨_, rfl⟩, .inl ⟨_, HD.out.symm, H0.out⟩⟩
/-- one of the models below 2^V -/
abbrev Mdl (n : Nat) : Type := { m : Nat // m < n }
theorem harm_stops (n : Nat) (hn : 1 ≤ n) (bs bb o n0 V a b : Nat) (w : World) (hV : V ≤ 14) (ha : a < 2 ^ 14) (hb : b < 2 ^ 14) (hbs : bs < n0) (hbb : bb < n0) (hos : bs ≠ o) (hob : bb ≠ o) (hlt : ∀ m ∈ harmed V a b, m < 2 ^ V)
    (hs : w.heap[bs]? = some (.cells #[.int .i64 (a : Int), .int .i64 (b : Int)] 95 (0, 0))) (hc : w.heap[bb]? = some (.cells #[.int .i64 ((2 ^ V - 1 : Nat) : Int)] 3 (0, 0))) :
    SeqStopsK Fence.wide n Try.prog 64 #[.pointer (some ⟨bs, 0, none⟩), .pointer (some ⟨bb, 0, none⟩)] (fun x : Mdl (2 ^ V) => #[Value.int .i64 (x.1 : Int)]) (KO o n0) (fun ys => ys.map Subtype.val = harmed V a b) (fun pre => pre.map Subtype.val <+: harmed V a b) (harmed V a b).length w := fun y J Jx W hW hJ hJx hY h0 => by
  refine (harm_in n hn y bs bb o n0 V a b (fun pre W => ∃ p : List (Mdl (2 ^ V)), p.map Subtype.val = pre ∧ J p W) (fun pre W => ∃ p : List (Mdl (2 ^ V)), p.map Subtype.val = pre ∧ Jx p W) hV ha hb hbs hbb hos hob
    (fun pre x W2 ⟨p, hp, hj⟩ hx hlen => ?_) W ((hW.block _ (lt_of_block hs)).trans hs) ((hW.block _ (lt_of_block hc)).trans hc) ⟨[], rfl, h0⟩).mono ?_
  · obtain ⟨f1, f2, f3, f4, f5, f6⟩ := hY p ⟨x, hlt x hx⟩ W2 hj (by rw [← hp, List.length_map] at hlen; exact hlen)
    refine ⟨f1, f2, f3, f4, f5, f6.mono ?_⟩
    rintro e W3 (⟨h1, h2, h3⟩ | ⟨h1, h2⟩)
    · exact .inl ⟨h1, ⟨p ++ [⟨x, hlt x hx⟩], by rw [List.map_append, hp]; rfl, h2⟩, h3⟩
    · exact .inr ⟨h1, ⟨p ++ [⟨x, hlt x hx⟩], by rw [List.map_append, hp]; rfl, h2⟩⟩
  · rintro e W3 ⟨hv, h | h⟩
    · obtain ⟨ys, hys, p, hp, hj⟩ := h
      exact ⟨hv, .inl ⟨p, hp.trans hys, hj⟩⟩
    · obtain ⟨pre, hpre, p, hp, hj⟩ := h
      exact ⟨hv, .inr ⟨p, by show p.map Subtype.val <+: _; rw [hp]; exact hpre, hj⟩⟩
set_option maxHeartbeats 2000000 in
set_option maxRecDepth 100000 in
theorem harm_any (a b mm : Int) (w : World) : Calls Try.prog 57 #[.agg #[.int .i64 a, .int .i64 b], .int .i64 mm] w fun e w' => e = .returned (.func (.func 64) #[] #[.pointer (some ⟨w.heap.size, 0, none⟩), .pointer (some ⟨w.heap.size + 1, 0, none⟩)]) ∧
    w' = (w.alloc (.cells #[.int .i64 a, .int .i64 b] 95)).alloc (.cells #[.int .i64 mm] 3) := by
  go_enter Try.func57, Try.ntmps57
  go_wp2
  go_ret
  exact ⟨by simp, rfl⟩
end Go.Proofs.Ytefbknpoehmfaaa.For
namespace Go.Proofs.Ytefbknpoehmfaaa.For
open Go.ChangeShapes Go.WideShapes Go.ChangeAt Go.RowKit Go.Maps Circ Cw Cla Rep

theorem scells : Try.prog.cellsOf 95 = 2 := by kernel_rfl
theorem sicells : Try.prog.cellsOf 3 = 1 := by kernel_rfl
theorem keySd : Keyed Try.prog 95 := Keyed.of_law (Go.deep_law (m := 2) (by omega) (by kernel_rfl) (by kernel_rfl) (by rw [Try.underlying95]))
def sdV (a b : Int) : Value := .agg #[.int .i64 a, .int .i64 b]
def sdK (a b : Int) : Lit := .string (keyBytes [.int .i64 a, .int .i64 b])
theorem sd_formed (a b : Int) : (sdV a b).formed Try.prog 95 = true := by simp [sdV, Value.formed, Try.underlying95, scells]
theorem sd_key {a b : Int} (ha : I64 a) (hb : I64 b) : keyOf Try.prog 95 (sdV a b) = some (sdK a b) := by
  have hkt : Try.prog.keyType 95 = true := by kernel_rfl
  have hm : ∃ m, Try.prog.types.size + 1 = m + 2 := ⟨Try.prog.types.size - 1, by have : 1 ≤ Try.prog.types.size := of_decide_eq_true (by kernel_rfl); omega⟩
  obtain ⟨m, hm⟩ := hm
  have wa := wf64 ha
  have wb := wf64 hb
  have one : ∀ x : Int, (Lit.int .i64 x).wf = true → Try.prog.keyLits (m + 1) 3 [.int .i64 x] = some [.int .i64 x] := fun x hx => by
    unfold Program.keyLits
    rw [Try.underlying3]
    simp [hx]
  have two : Try.prog.keyLits (m + 2) 95 [.int .i64 a, .int .i64 b] = some [.int .i64 a, .int .i64 b] := by
    unfold Program.keyLits
    rw [Try.underlying95]
    have e0 := one a wa
    have e1 := one b wb
    simp [scells, sicells, e0, e1]
  unfold keyOf
  rw [Try.underlying95]
  simp only
  rw [hkt, sd_formed, hm]
  simp only [Bool.and_self, if_true]
  rw [show (sdV a b).cells.toList = [.int .i64 a, .int .i64 b] from rfl, two]
  rfl
theorem sd_inj {a b c d : Int} (ha : I64 a) (hb : I64 b) (hc : I64 c) (hd : I64 d) (h : sdK a b = sdK c d) : a = c ∧ b = d := by
  have := keySd.inj (sd_key ha hb) (h ▸ sd_key hc hd)
  simp [sdV] at this
  exact this
/-- how an element without parts reads -/
def nilE : Value → Option (DataW Unit × List MemPlace)
  | .agg ⟨[]⟩ => some (.lit (.bool true), [])
  | _ => none
theorem nilE_inv {v : Value} {z : DataW Unit × List MemPlace} (h : nilE v = some z) : v = .agg #[] := by
  unfold nilE at h
  split at h
  · rfl
  · cases h
theorem zero_nil (w : World) : (zeroValue 97).run Try.prog w = .ok (.agg #[]) w := by kernel_rfl
/-- block B is a set of pairs -/
def IsMet (w : World) (B : Nat) (G : Int × Int → Bool) (N : Nat) : Prop :=
  ∃ n D, w.ownsMap Try.prog 95 nilE B n D ∧ n ≤ N ∧ ∀ x y, I64 x → I64 y → Maps.has D (sdK x y) = G (x, y)
theorem IsMet.made (w : World) : IsMet (w.alloc (.map #[] 0)) w.heap.size (fun _ => false) 0 :=
  ⟨0, _, World.ownsMap_made w _ _ _, Nat.le_refl _, fun _ _ _ _ => rfl⟩
theorem IsMet.lt {w : World} {B N : Nat} {G : Int × Int → Bool} (h : IsMet w B G N) : B < w.heap.size := by
  obtain ⟨n, D, h1, _⟩ := h; exact h1.lt
theorem IsMet.keep {w w' : World} {B N : Nat} {G : Int × Int → Bool} (h : IsMet w B G N) (hb : w'.heap[B]? = w.heap[B]?) : IsMet w' B G N := by
  obtain ⟨n, D, ⟨es, cl, h0, r⟩, h2⟩ := h
  exact ⟨n, D, ⟨es, cl, hb.trans h0, r⟩, h2⟩
theorem IsMet.look {w : World} {B N : Nat} {G : Int × Int → Bool} (h : IsMet w B G N) {x y : Int} (hx : I64 x) (hy : I64 y) :
    (Instr.lookup 93 (.map (some B)) (.agg #[.int .i64 x, .int .i64 y]) true).run Try.prog w = .ok (.tuple #[.agg #[], .bool (G (x, y))]) w := by
  obtain ⟨n, D, h1, _, h3⟩ := h
  obtain ⟨v, ps, hr, hv⟩ := h1.look_ok keySd Try.underlying93 (zero_nil w) (show nilE (.agg #[]) = some (.lit (.bool true), []) from rfl) (sd_key hx hy)
  obtain rfl := nilE_inv hv
  rw [h3 x y hx hy] at hr
  exact hr
theorem IsMet.store {w : World} {B N : Nat} {G : Int × Int → Bool} (h : IsMet w B G N) {x y : Int} (hx : I64 x) (hy : I64 y) (hn : N < 9223372036854775807) :
    ∃ w', (Instr.mapUpdate 93 (.map (some B)) (.agg #[.int .i64 x, .int .i64 y]) (.agg #[])).run Try.prog w = .ok () w' ∧ IsMet w' B (fun p => if p = (x, y) then true else G p) (N + 1) ∧ w.grownBy w' (some B) := by
  obtain ⟨n, D, h1, h2, h3⟩ := h
  obtain ⟨w', hr, h4, h5⟩ := h1.store keySd Try.underlying93 (by unfold maxLen; omega) (sd_key hx hy) (show nilE (.agg #[]) = some (.lit (.bool true), []) from rfl)
  refine ⟨w', hr, ⟨n + 1, _, h4, by omega, fun a b ha hb => ?_⟩, h5.grown⟩
  by_cases e : (a, b) = (x, y)
  · simp only [Prod.mk.injEq] at e
    obtain ⟨rfl, rfl⟩ := e
    rw [has_put_same h1.isMap (keySd.key (sd_key ha hb))]; simp
  · have hne : sdK a b ≠ sdK x y := fun h => e (by obtain ⟨h1, h2⟩ := sd_inj ha hb hx hy h; rw [h1, h2])
    rw [has_put_other hne, h3 a b ha hb]
    show _ = if (a, b) = (x, y) then true else G (a, b)
    rw [if_neg e]
/-- marks that are taken when the function is left -/
def Marks (B : Nat) (W : World) : List Deferred → Prop
  | [] => True
  | d :: ds => (∃ D, d = { target := .collected D, args := #[] } ∧ B ≤ D ∧ W.heap[D]? = some (.deferred (some [])) ∧ ∀ d' ∈ ds, d'.target ≠ .collected D) ∧ Marks B W ds
theorem Marks.keep {B : Nat} {W W' : World} : ∀ {ds : List Deferred}, Marks B W ds → (∀ D, W.heap[D]? = some (.deferred (some [])) → (∃ d ∈ ds, d.target = .collected D) → W'.heap[D]? = some (.deferred (some []))) → Marks B W' ds
  | [], _, _ => trivial
  | d :: ds, ⟨⟨D, h1, h2, h3, h4⟩, h5⟩, h => ⟨⟨D, h1, h2, h D h3 ⟨d, List.mem_cons_self, by rw [h1]⟩, h4⟩, Marks.keep h5 fun D' a ⟨d', b, c⟩ => h D' a ⟨d', List.mem_cons_of_mem _ b, c⟩⟩
theorem Marks.lt {B : Nat} {W : World} : ∀ {ds : List Deferred}, Marks B W ds → ∀ d ∈ ds, ∃ D, d.target = .collected D ∧ D < W.heap.size
  | [], _, d, hd => absurd hd List.not_mem_nil
  | d :: ds, ⟨⟨D, h1, h2, h3, h4⟩, h5⟩, d', hd => by
    rcases List.mem_cons.1 hd with rfl | hd
    · exact ⟨D, by rw [h1], (Array.getElem?_eq_some_iff.1 h3).1⟩
    · exact Marks.lt h5 d' hd
/-- a mark more -/
theorem Marks.cons {B D : Nat} {W0 W : World} {ds : List Deferred} (h : Marks B W0 ds) (hk : ∀ k, k < W0.heap.size → ∀ o : Obj, W0.heap[k]? = some o → o.isCells = false → o.isWalk = false → (∀ es c, o ≠ .map es c) → W.heap[k]? = some o) (hB : B ≤ D) (hD : W0.heap.size ≤ D) (hd : W.heap[D]? = some (.deferred (some []))) :
    Marks B W ({ target := .collected D, args := #[] } :: ds) := by
  refine ⟨⟨D, rfl, hB, hd, fun d' hd' e => ?_⟩, h.keep fun D' h1 _ => hk D' (Array.getElem?_eq_some_iff.1 h1).1 _ h1 rfl rfl (fun _ _ e => by cases e)⟩
  obtain ⟨D', h1, h2⟩ := h.lt d' hd'
  rw [h1] at e
  cases e
  omega
/-- all marks taken: what holds whatever deferred blocks were emptied -/
theorem leaves_marks {F : Fence} {n : Nat} {P : Program} {fn : Func} {tmps : Array Value} {R : Ending → World → Prop} {B : Nat} (hP : World → Prop) (hput : ∀ W D, hP W → B ≤ D → W.heap[D]? = some (.deferred (some [])) → hP (W.putObj D (.deferred none)))
    (hend : ∀ W, hP W → ∃ v, (results fn tmps).run P W = .ok v W ∧ R (.returned v) W) : ∀ (ds : List Deferred) (W : World), Marks B W ds → hP W → LeavesInM F n P fn tmps R ds .returning W
  | [], W, _, h => hend W h
  | d :: ds, W, ⟨⟨D, h1, h2, h3, h4⟩, h5⟩, h => ⟨by simp, .inl ⟨D, _, by rw [h1], run_takeDeferred h3, leaves_marks hP hput hend ds _ (h5.keep fun D' a ⟨d', b, c⟩ => by
      have hne : D' ≠ D := fun e => h4 d' b (by rw [c, e])
      exact (World.putObj_heap_other hne).trans a) (hput W D h h2 h3)⟩⟩
end Go.Proofs.Ytefbknpoehmfaaa.For
