/- Which models make a clause false: ruledOut. Conditions: at most 14 variables, every literal one of them. -/
import Derived.Test.YtefbknpoehmfaaaPb38
import Derived.Deep.OwnRows
namespace Go.Proofs.Ytefbknpoehmfaaa.For
open Go.ChangeShapes Go.WideShapes Go.ChangeAt Go.RowKit Go.Maps Go.Shelf Circ Cw Cla Rep
attribute [local go_sem] Oper.semAt_some

theorem infoBl : (Try.prog.info? 4).map (fun i => (i.zero, i.size, i.bytes)) = some (some (.bool false), 1, 1) := by kernel_rfl
theorem IsMet.mono {w : World} {B N M : Nat} {G : Int × Int → Bool} (h : IsMet w B G N) (hn : N ≤ M) : IsMet w B G M := by
  obtain ⟨n, D, h1, h2, h3⟩ := h
  exact ⟨n, D, h1, Nat.le_trans h2 hn, h3⟩
theorem IsMet.map {w : World} {B N : Nat} {G : Int × Int → Bool} (h : IsMet w B G N) : ∃ es cl, w.heap[B]? = some (.map es cl) := by
  obtain ⟨n, D, ⟨es, cl, h0, r⟩, h2⟩ := h
  exact ⟨es, cl, h0⟩
/-- a clause with the sides of one that was met is harmed alike -/
theorem harm_same {V p2 : Nat} (hp2 : 2 ^ V = p2) {a b : List Int} (ha : ∀ x ∈ a, litN V x) (hb : ∀ x ∈ b, litN V x) (h1 : isB2 V a = isB2 V b) (h2 : notB V a = notB V b) {m : Nat} (hm : m < p2) : harmB V a m = harmB V b m := by
  rw [← hp2] at hm
  have x1 := harm_iff hm ha
  have x2 := harm_iff hm hb
  rw [h1, h2] at x1
  rw [Bool.eq_iff_iff, ← x1, ← x2]
theorem any_snoc (L : List Clz) (z : Clz) (p : Clz → Bool) : (L ++ [z]).any p = (L.any p || p z) := by simp
theorem own_row {n0 g p2 : Nat} {w5 : World} (hg : g < n0) (hn0 : n0 = w5.heap.size) {α : Type} (Φ : List α → (Nat → Bool) → Prop) : OwnFrom n0 (fun (pre : List α) W => (∃ F', BRow W g p2 F' ∧ Φ pre F') ∧ KO g n0 w5 W) := fun s W W' row ⟨⟨F', h1, h2⟩, h3⟩ hg' hr => by
  have hne : ∀ k, k < n0 → W'.heap[k]? = W.heap[k]? := fun k hk => hg'.block k (Nat.lt_of_lt_of_le hk (hn0 ▸ h3.1)) (fun e => by have := (hr k e.symm).1; omega)
  exact ⟨⟨F', h1.keep (hne g hg), h2⟩, ⟨Nat.le_trans h3.1 hg'.size, fun k hk h => (hne k hk).trans (h3.2 k hk h)⟩⟩
theorem body_marks {F : Fence} {n : Nat} {P : Program} {fn : Func} {R : Ending → World → Prop} {tm : Array Value} {ds : List Deferred} {w : World} (h : LeavesInM F n P fn tm R ds .returning w) : bodyPostM F n P fn R .ret { tmps := tm, defers := ds } w := h
theorem end_marks {V p2 w0 : Nat} {L : List Clz} {F : Nat → Bool} {w wr : World} {tm : Array Value} {ds : List Deferred} (hp2 : 2 ^ V = p2) (hw : w.heap.size = w0) (hM : Marks w0 wr ds) (hr : BRow wr (w0 + 1) p2 F) (hF : ∀ m, m < p2 → F m = L.any (fun z => harmB V z.l m)) (hb : Below w0 w wr) (ht : tm.getD 2 undef = .slice (some ⟨w0 + 1, 0, none⟩) p2 p2) :
    LeavesInM Fence.wide 9 Try.prog Try.f44 tm (fun e w' => (∃ g F, e = .returned (.slice (some ⟨g, 0, none⟩) (2 ^ V) (2 ^ V)) ∧ BRow w' g (2 ^ V) F ∧ ∀ m, m < 2 ^ V → F m = L.any (fun z => harmB V z.l m)) ∧ Below w.heap.size w w') ds .returning wr := by
  subst hp2
  subst hw
  refine leaves_marks (B := w.heap.size) (fun W => BRow W (w.heap.size + 1) (2 ^ V) F ∧ Below w.heap.size w W) (fun W D ⟨h1, h2⟩ hB hD => ⟨h1.keep (World.putObj_heap_other fun e => ?_), h2.grown (grownBy_putObj' W D _) h2.size (fun j e => by cases e; exact hB)⟩) (fun W ⟨h1, h2⟩ => ?_) ds wr hM ⟨hr, hb⟩
  · obtain ⟨cur, hcur, _⟩ := h1.blk
    rw [e, hD] at hcur
    cases hcur
  · exact ⟨_, results_tmp rfl _ _ _, ⟨w.heap.size + 1, F, by rw [ht], h1, hF⟩, h2⟩
/-- where the loop over the clauses stands -/
structure RuSt (V p2 : Nat) (L : List Clz) (A : Option Addr) (q : Nat) (w : World) (k : Nat) (ds : List Deferred) (W : World) : Prop where
  box : W.heap[w.heap.size]? = some (.cells #[.int .i64 V, .slice A L.length q] 24 (0, 0))
  hdr : W.heap[w.heap.size + 2]? = some (.cells #[.slice (some ⟨w.heap.size + 1, 0, none⟩) p2 p2] 76 (0, 0))
  row : ∃ F, BRow W (w.heap.size + 1) p2 F ∧ ∀ m, m < p2 → F m = (L.take k).any (fun z => harmB V z.l m)
  met : ∃ G, IsMet W (w.heap.size + 3) G k ∧ ∀ x y, I64 x → I64 y → G (x, y) = true → ∃ z ∈ L.take k, (isB2 V z.l : Int) = x ∧ (notB V z.l : Int) = y
  marks : Marks w.heap.size W ds
  bel : Below w.heap.size w W
/-- .. where no block but new ones has turned since -/
theorem RuSt.grow {V p2 : Nat} {L : List Clz} {A : Option Addr} {q : Nat} {w : World} {k : Nat} {ds : List Deferred} {W W' : World} (h : RuSt V p2 L A q w k ds W) (hb : Below W.heap.size W W') : RuSt V p2 L A q w k ds W' where
  box := (hb.block _ (lt_of_block h.box)).trans h.box
  hdr := (hb.block _ (lt_of_block h.hdr)).trans h.hdr
  row := by obtain ⟨F, h1, h2⟩ := h.row; exact ⟨F, h1.below hb h1.lt, h2⟩
  met := by obtain ⟨G, h1, h2⟩ := h.met; exact ⟨G, h1.keep (hb.block _ h1.lt), h2⟩
  marks := h.marks.keep fun D h1 _ => (hb.block _ (Array.getElem?_eq_some_iff.1 h1).1).trans h1
  bel := h.bel.trans (hb.mono h.bel.size)
set_option maxRecDepth 100000 in
set_option maxHeartbeats 16000000 in
theorem ruled_any (V : Nat) (L : List Clz) (A : Option Addr) (q : Nat) (w : World) (hV : V ≤ 14) (hA : ALies w w.heap.size A L) (hl : ∀ z ∈ L, ∀ x ∈ z.l, litN V x) (hn : L.length ≤ 1048576) :
    Calls Try.prog 44 #[forV V A L.length q] w fun e w' => (∃ g F, e = .returned (.slice (some ⟨g, 0, none⟩) (2 ^ V) (2 ^ V)) ∧ BRow w' g (2 ^ V) F ∧ ∀ m, m < 2 ^ V → F m = L.any (fun z => harmB V z.l m)) ∧ Below w.heap.size w w' := by
  obtain ⟨p2, hp2⟩ : ∃ p2, 2 ^ V = p2 := ⟨_, rfl⟩
  have hp : p2 ≤ 16384 := by rw [← hp2]; exact Nat.le_trans (Nat.pow_le_pow_right (by decide) hV) (by decide)
  have hp1 : 1 ≤ p2 := by rw [← hp2]; exact Nat.pow_pos (by decide)
  have hsh : wrap64 ((2 : Int) ^ V) = (p2 : Int) := by
    have h := shl_one V hV
    rw [Int.one_mul, IntKind.wrap_i64, Nat.one_shiftLeft, hp2] at h
    rw [← h]
    unfold wrap64
    rfl
  have hmk : ∀ w, (Instr.makeSlice 76 (.int .i64 (p2 : Int)) (.int .i64 (p2 : Int))).run Try.prog w = .ok (.slice (some ⟨w.heap.size, 0, none⟩) p2 p2) (w.alloc (.cells (madeCells #[.bool false] p2) 4)) := fun w => run_make_row' (P := Try.prog) 76 4 (.bool false) 1 Try.underlying76 infoBl rfl .i64 .i64 p2 (by omega) (by omega) w
  have hmm := @run_makeMap Try.prog
  obtain ⟨WA, hWA⟩ : ∃ x, w.alloc (.cells #[.int .i64 V, .slice A L.length q] 24) = x := ⟨_, rfl⟩
  have bA : Below w.heap.size w WA := by rw [← hWA]; exact (Below.refl _ _).alloc (Nat.le_refl _) _
  have sA : WA.heap.size = w.heap.size + 1 := by rw [← hWA]; simp
  have gA : WA.heap[w.heap.size]? = some (.cells #[.int .i64 V, .slice A L.length q] 24 (0, 0)) := by rw [← hWA]; exact Array.getElem?_push_size
  obtain ⟨W1, hW1⟩ : ∃ x, WA.alloc (.cells (madeCells #[.bool false] p2) 4) = x := ⟨_, rfl⟩
  have b1 : Below WA.heap.size WA W1 := by rw [← hW1]; exact (Below.refl _ _).alloc (Nat.le_refl _) _
  have s1 : W1.heap.size = w.heap.size + 2 := by rw [← hW1]; simp [sA]
  have g1 : BRow W1 (w.heap.size + 1) p2 (fun _ => false) := by rw [← hW1, ← sA]; exact brow_made
  obtain ⟨W2, hW2⟩ : ∃ x, W1.alloc (.cells #[.slice (some ⟨w.heap.size + 1, 0, none⟩) p2 p2] 76) = x := ⟨_, rfl⟩
  have b2 : Below W1.heap.size W1 W2 := by rw [← hW2]; exact (Below.refl _ _).alloc (Nat.le_refl _) _
  have s2 : W2.heap.size = w.heap.size + 3 := by rw [← hW2]; simp [s1]
  have g2 : W2.heap[w.heap.size + 2]? = some (.cells #[.slice (some ⟨w.heap.size + 1, 0, none⟩) p2 p2] 76 (0, 0)) := by rw [← hW2, ← s1]; exact Array.getElem?_push_size
  obtain ⟨W3, hW3⟩ : ∃ x, W2.alloc (.map #[] 0) = x := ⟨_, rfl⟩
  have b3 : Below W2.heap.size W2 W3 := by rw [← hW3]; exact (Below.refl _ _).alloc (Nat.le_refl _) _
  have s3 : W3.heap.size = w.heap.size + 4 := by rw [← hW3]; simp [s2]
  have b23 : Below W1.heap.size W1 W3 := b2.trans (b3.mono (by omega))
  have b13 : Below WA.heap.size WA W3 := b1.trans (b23.mono (by omega))
  have ST0 : Hid (RuSt V p2 L A q w 0 [] W3) := {
    box := (b13.block _ (lt_of_block gA)).trans gA
    hdr := (b3.block _ (lt_of_block g2)).trans g2
    row := ⟨_, g1.below b23 g1.lt, fun m _ => rfl⟩
    met := ⟨_, by rw [← hW3, ← s2]; exact IsMet.made W2, fun _ _ _ _ h => by cases h⟩
    marks := trivial
    bel := bA.trans (b13.mono (by omega)) }
  obtain ⟨e0, e1⟩ := cells2 gA
  obtain ⟨e2, e3⟩ := cells2 ST0.out.box
  have HL := Lib.hid hl
  have HA : Hid (∀ x, Below w.heap.size w x → ALies x x.heap.size A L) := fun x hx => (hA.below hx).more hx.size
  have HNL := Lib.hid hn
  have HP2 := Lib.hid hp2
  clear hl hn hA bA gA b1 g1 b2 g2 b3 b23 b13 hp2
  unfold forV
  refine (callsIn_wide (n := 9)).1 (callsIn_of_wp_marks Try.func44 rfl trivial ?_ rfl)
  simp only [Try.ntmps44, List.size_toArray, List.length_cons, List.length_nil, Nat.reduceAdd, Nat.reduceSub, Array.replicate_succ, Array.replicate_zero, List.push_toArray, List.append_toArray, List.nil_append, List.cons_append]
  refine wpIn_wide.2 ?_
  go_wp2
  clear e0 e1 e2 e3 hW1 hW2 hW3 hWA sA s1 s2 s3 hmk hmm hsh
  refine wp_loop (fun a' w' => ∃ (k : Nat) (ds : List Deferred) (u6 u7 u8 u9 u10 u13 u14 u15 u20 u21 u22 u23 u24 u25 u26 u27 u28 u29 u30 u31 u32 u33 u34 u35 u36 u37 u38 u39 u40 u41 u42 u43 u44 u45 u46 : Value), a' = { tmps := #[.agg #[.int .i64 V, .slice A L.length q], .pointer (some ⟨w.heap.size, 0, none⟩), .slice none 0 0, .pointer (some ⟨w.heap.size + 2, 0, none⟩), .map (some (w.heap.size + 3)), undef, u6, u7, u8, u9, u10, .pointer (some ⟨w.heap.size, 0, none⟩), .int .i64 V, u13, u14, u15, .pointer (some ⟨w.heap.size, 1, none⟩), .slice A L.length q, .int .i64 L.length, .int .i64 (k : Int), u20, u21, u22, u23, u24, u25, u26, u27, u28, u29, u30, u31, u32, u33, u34, u35, u36, u37, u38, u39, u40, u41, u42, u43, u44, u45, u46, undef], defers := ds } ∧ k ≤ L.length ∧ RuSt V p2 L A q w k ds w') (fun a' _ => L.length - (intOf (a'.tmps.getD 19 undef)).toNat) ?_ ?_
  · refine ⟨0, [], _, _, _, _, _, _, _, _, _, _, _, _, _, _, _, _, _, _, _, _, _, _, _, _, _, _, _, _, _, _, _, _, _, _, _, rfl, Nat.zero_le _, ST0.out⟩
  · rintro a' wr ⟨k, ds, u6, u7, u8, u9, u10, u13, u14, u15, u20, u21, u22, u23, u24, u25, u26, u27, u28, u29, u30, u31, u32, u33, u34, u35, u36, u37, u38, u39, u40, u41, u42, u43, u44, u45, u46, rfl, hk, hst⟩
    have HST := Lib.hid hst
    clear hst ST0
    by_cases hlt : k < L.length
    · obtain ⟨b, o, hAe, -, hc⟩ := (HA.out wr HST.out.bel).at hlt
      have HZ := Lib.hid (clz_lies ((HA.out wr HST.out.bel).each _ (List.getElem_mem hlt)))
      have HZL := Lib.hid (HL.out _ (List.getElem_mem hlt))
      have k0 : (0 : Int) ≤ (k : Int) := by omega
      have k1 : (k : Int) < (L.length : Int) := by omega
      obtain ⟨e0, e1⟩ := cells2 HST.out.box
      have HTK : Hid (L.take (k + 1) = L.take k ++ [L[k]]) := List.take_succ_eq_append_getElem hlt
      subst hAe
      generalize L[k] = z at *
      have SA := Lib.hid (sides_any V z.l z.A z.q wr hV HZ.out HZL.out)
      go_wp2_with fail
      refine SA.out.mono ?_
      rintro e w1 ⟨rfl, hb1⟩
      clear e0 e1 hc
      have S1 := HST.out.grow hb1
      obtain ⟨w2, hw2⟩ : ∃ y, w1.alloc (.cells #[.int .i64 (isB2 V z.l), .int .i64 (notB V z.l)] 95) = y := ⟨_, rfl⟩
      have hb2 : Below w1.heap.size w1 w2 := by rw [← hw2]; exact (Below.refl _ _).alloc (Nat.le_refl _) _
      have sz2 : w2.heap.size = w1.heap.size + 1 := by rw [← hw2]; simp
      have gz : w2.heap[w1.heap.size]? = some (.cells #[.int .i64 (isB2 V z.l), .int .i64 (notB V z.l)] 95 (0, 0)) := by rw [← hw2]; exact Array.getElem?_push_size
      have S2 := S1.grow hb2
      obtain ⟨w3, hw3⟩ : ∃ y, w2.alloc (.cells #[] 97) = y := ⟨_, rfl⟩
      have hb3 : Below w2.heap.size w2 w3 := by rw [← hw3]; exact (Below.refl _ _).alloc (Nat.le_refl _) _
      have sz3 : w3.heap.size = w1.heap.size + 2 := by rw [← hw3]; simp [sz2]
      have S3 := S2.grow hb3
      have gz3 := (hb3.block _ (lt_of_block gz)).trans gz
      have his : isB2 V z.l < 16384 := is_lt V hV _ 0 (by decide) HZL.out
      have hno : notB V z.l < 16384 := not_lt V hV _ 0 (by decide) HZL.out
      generalize hib : isB2 V z.l = ib at *
      generalize hnb : notB V z.l = nb at *
      obtain ⟨G, hG, hGz⟩ := S2.met
      have hi64 : I64 (ib : Int) := ⟨by omega, by omega⟩
      have hn64 : I64 (nb : Int) := ⟨by omega, by omega⟩
      have hlk := hG.look hi64 hn64
      obtain ⟨c0, c1⟩ := cells2 gz
      have GZ := Lib.hid gz
      clear gz
      have HGZ := Lib.hid hGz
      have HKN : Hid (k ≤ 1048576) := by have := HNL.out; unfold Hid; omega
      have HMEM : Hid (∀ y ∈ L.take k, ∀ x ∈ y.l, litN V x) := fun y hy => HL.out y (List.mem_of_mem_take hy)
      have HLT := Lib.hid hlt
      have hkn : k ≤ 1048576 := HKN.out
      clear hGz hlt hk
      cases hgm : G ((ib : Int), (nb : Int)) with
      | true =>
        rw [hgm] at hlk
        go_wp2
        refine ⟨⟨k + 1, ds, _, _, _, _, _, _, _, _, _, _, _, _, _, _, _, _, _, _, _, _, _, _, _, _, _, _, _, _, _, _, _, _, _, _, _, rfl, HLT.out, ?_⟩, by have := HLT.out; simp [intOf]; omega⟩
        obtain ⟨z', hz', x1, x2⟩ := HGZ.out _ _ hi64 hn64 hgm
        exact { box := S3.box, hdr := S3.hdr, marks := S3.marks, bel := S3.bel, met := by
                  refine ⟨G, (hG.keep (hb3.block _ hG.lt)).mono (Nat.le_succ _), fun x y hx hy h => ?_⟩
                  obtain ⟨y', hy', h1⟩ := HGZ.out x y hx hy h
                  exact ⟨y', by rw [HTK.out]; exact List.mem_append_left _ hy', h1⟩
                row := by
                  obtain ⟨F, h1, h2⟩ := S3.row
                  refine ⟨F, h1, fun m hm => ?_⟩
                  rw [h2 m hm, HTK.out, any_snoc]
                  have e := harm_same HP2.out (HMEM.out z' hz') HZL.out (by rw [hib]; omega) (by rw [hnb]; omega) hm
                  cases hz : harmB V z.l m with
                  | false => simp
                  | true =>
                    rw [hz] at e
                    rw [List.any_eq_true.2 ⟨z', hz', e⟩]; rfl }
      | false =>
        rw [hgm] at hlk
        obtain ⟨c2, c3⟩ := cells2 gz3
        have hG3 := hG.keep (hb3.block _ hG.lt)
        obtain ⟨w4, hup, hG4, hgr⟩ := hG3.store hi64 hn64 (by have := HKN.out; omega)
        have hsz4 := hgr.size
        have hmlt : w.heap.size + 3 < wr.heap.size := by obtain ⟨G', h', _⟩ := HST.out.met; exact h'.lt
        have hwr1 := hb1.size
        have b4 : ∀ j, j < w3.heap.size → j ≠ w.heap.size + 3 → w4.heap[j]? = w3.heap[j]? := fun j h1 h2 => hgr.block j h1 (fun e => h2 (Option.some.inj e))
        have gz4 : w4.heap[w1.heap.size]? = some (.cells #[.int .i64 (ib : Int), .int .i64 (nb : Int)] 95 (0, 0)) := (b4 _ (by omega) (by omega)).trans gz3
        have S4 : Hid (Below w.heap.size w w4 ∧ w4.heap[w.heap.size]? = some (.cells #[.int .i64 V, .slice (some ⟨b, o, none⟩) L.length q] 24 (0, 0)) ∧ w4.heap[w.heap.size + 2]? = some (.cells #[.slice (some ⟨w.heap.size + 1, 0, none⟩) p2 p2] 76 (0, 0)) ∧ Marks w.heap.size w4 ds) := by
          refine ⟨S3.bel.grown hgr S3.bel.size (fun j e => by cases e; omega), (b4 _ (by omega) (by omega)).trans S3.box, (b4 _ (by omega) (by omega)).trans S3.hdr, S3.marks.keep fun D h1 _ => ?_⟩
          refine (b4 D (Array.getElem?_eq_some_iff.1 h1).1 fun e => ?_).trans h1
          obtain ⟨es, cl, hm⟩ := hG3.map
          rw [e, hm] at h1
          cases h1
        obtain ⟨F, hF, hFm⟩ := S3.row
        have hF4 := hF.keep (b4 _ (by omega) (by omega))
        obtain ⟨c4, c5⟩ := cells2 gz4
        have c6 : w4.cell? ⟨w.heap.size + 2, 0, none⟩ = some (.slice (some ⟨w.heap.size + 1, 0, none⟩) p2 p2) := by rw [Lib.cell_of_heap S4.out.2.2.1]; rfl
        have hm1 : (p2 : Int) - 1 = ((p2 - 1 : Nat) : Int) := by omega
        have HARM := Lib.hid (harm_any (ib : Int) (nb : Int) ((p2 - 1 : Nat) : Int) w4)
        have hl4 : w1.heap.size + 2 ≤ w4.heap.size := by omega
        have HFA := Lib.hid hFm
        clear hG hG3 S2 S1 hb3 hb2 gz3 hFm hF
        go_wp2_with fail
        refine HARM.out.mono ?_
        rintro e w5 ⟨rfl, hw5⟩
        have HW5 := Lib.hid hw5
        clear hw5
        go_wp2_with fail
        have sz5 : w5.heap.size = w4.heap.size + 2 := by rw [HW5.out]; simp
        have b5 : Below w4.heap.size w4 w5 := by rw [HW5.out]; exact ((Below.refl _ _).alloc (Nat.le_refl _) _).alloc (by simp) _
        have gs : w5.heap[w4.heap.size]? = some (.cells #[.int .i64 (ib : Int), .int .i64 (nb : Int)] 95 (0, 0)) := by
          rw [HW5.out]
          exact (((Below.refl (w4.alloc (.cells #[.int .i64 (ib : Int), .int .i64 (nb : Int)] 95)).heap.size _).alloc (Nat.le_refl _) _).block _ (by simp)).trans Array.getElem?_push_size
        have gb : w5.heap[w4.heap.size + 1]? = some (.cells #[.int .i64 ((2 ^ V - 1 : Nat) : Int)] 3 (0, 0)) := by
          rw [HW5.out, HP2.out, show w4.heap.size + 1 = (w4.alloc (.cells #[.int .i64 (ib : Int), .int .i64 (nb : Int)] 95)).heap.size by simp]
          exact Array.getElem?_push_size
        obtain ⟨B4, bx4, hd4, M4⟩ := S4.out
        have hd5 := Lib.hid ((b5.block _ (lt_of_block hd4)).trans hd4)
        have bx5 := Lib.hid ((b5.block _ (lt_of_block bx4)).trans bx4)
        have M5 := Lib.hid (M4.keep fun D h1 _ => (b5.block _ (Array.getElem?_eq_some_iff.1 h1).1).trans h1)
        have B5 : Below w.heap.size w w5 := B4.trans (b5.mono B4.size)
        have F5 : BRow w5 (w.heap.size + 1) p2 F := hF4.below b5 hF4.lt
        have G5 := Lib.hid (hG4.keep (b5.block _ hG4.lt))
        have HLTH : ∀ m ∈ harmed V ib nb, m < 2 ^ V := by
          have := harm_lt HZL.out
          rw [hib, hnb] at this
          exact this
        have HH : Hid (∀ m, m < p2 → (m ∈ harmed V ib nb ↔ harmB V z.l m = true)) := fun m hm => by
          have := harm_iff (V := V) (m := m) (by rw [HP2.out]; exact hm) HZL.out
          rw [hib, hnb] at this
          exact this
        have hor : w.heap.size + 1 < w4.heap.size := by omega
        clear b5 gz4 c4 c5 c6 hlk hup hgr hb1 b4 HARM c0 c1 c2 c3 hw3 hw2 S3 S4 B4 bx4 hd4 M4 hF4 hG4 hgm
        refine (wpIn_wide (n := 9)).1 ?_
        refine wpIn_rangeFunc_ownG rfl (by decide) (gf := 64) (lb := #[.pointer (some ⟨w4.heap.size, 0, none⟩), .pointer (some ⟨w4.heap.size + 1, 0, none⟩)]) rfl trivial (enters_of Try.func64 (by kernel_rfl) rfl)
          (harm_stops 8 (by decide) w4.heap.size (w4.heap.size + 1) (w.heap.size + 1) w5.heap.size V ib nb w5 hV his hno (by omega) (by omega) (by omega) (by omega) HLTH gs gb)
          (fun h1 h2 => KO.trans h1 h2) (fun W l o1 o2 hl _ _ _ => ⟨by simp, fun j hj _ => World.putObj_heap_other (by omega)⟩) (Below.refl _ _) (fun _ => rfl)
          (fun pre W => ((∃ F', BRow W (w.heap.size + 1) p2 F' ∧ ∀ m, m < p2 → F' m = (F m || pre.any (fun x : Mdl (2 ^ V) => x.1 == m))) ∧ KO (w.heap.size + 1) w5.heap.size w5 W) ∧ Below w.heap.size w W)
          (fun _ _ _ => False)
          (OwnFrom.and (own_row (by omega) rfl _) (ownFrom_below (Nat.le_refl _) (by omega)))
          (fun _ _ _ _ _ hs _ _ => hs)
          ⟨⟨⟨F, F5, fun m _ => by simp⟩, KO.refl _ _ _⟩, B5⟩
          (fun x => { tmps := #[.agg #[.int .i64 V, .slice (some ⟨b, o, none⟩) L.length q], .pointer (some ⟨w.heap.size, 0, none⟩), .slice none 0 0, .pointer (some ⟨w.heap.size + 2, 0, none⟩), .map (some (w.heap.size + 3)), undef, .slice z.A z.l.length z.q, .pointer (some ⟨w1.heap.size, 0, none⟩), .pointer (some ⟨w1.heap.size + 1, 0, none⟩), .bool false, .int .i64 (x.1 : Int), .pointer (some ⟨w.heap.size, 0, none⟩), .int .i64 V, u13, u14, u15, .pointer (some ⟨w.heap.size, 1, none⟩), .slice (some ⟨b, o, none⟩) L.length q, .int .i64 L.length, .int .i64 (k : Int), .bool true, .pointer (some ⟨b, o + k, none⟩), .slice z.A z.l.length z.q, .pointer (some ⟨w.heap.size, 0, none⟩), .int .i64 V, .slice z.A z.l.length z.q, .agg #[.int .i64 (ib : Int), .int .i64 (nb : Int)], .tuple #[.agg #[], .bool false], .map (some (w.heap.size + 3)), .agg #[.int .i64 (ib : Int), .int .i64 (nb : Int)], .tuple #[.agg #[], .bool false], .agg #[], .bool false, .bool false, .map (some (w.heap.size + 3)), .agg #[.int .i64 (ib : Int), .int .i64 (nb : Int)], .agg #[], .agg #[.int .i64 (ib : Int), .int .i64 (nb : Int)], .slice (some ⟨w.heap.size + 1, 0, none⟩) p2 p2, .int .i64 p2, .int .i64 ((p2 - 1 : Nat) : Int), .func (.func 64) #[] #[.pointer (some ⟨w4.heap.size, 0, none⟩), .pointer (some ⟨w4.heap.size + 1, 0, none⟩)], .int .i64 (x.1 : Int), u43, u44, u45, u46, undef], defers := [] }) ?assign ?body ?done ?stop
        case assign =>
          intro l x W K hK
          gi_wp2
          exact hK
        case body =>
          rintro y pre ⟨m, hm⟩ Wr ⟨⟨⟨F', hF', hFm'⟩, hKO⟩, hBW⟩ hlt
          rw [HP2.out] at hm
          have c0 : Wr.cell? ⟨w.heap.size + 2, 0, none⟩ = some (.slice (some ⟨w.heap.size + 1, 0, none⟩) p2 p2) := by rw [Lib.cell_of_heap ((hKO.2 _ (by omega) (by omega)).trans hd5.out)]; rfl
          have c1 := hF'.cell hm
          have c2 := hF'.thaw m
          have m0 : (0 : Int) ≤ (m : Int) := by omega
          have m1 : (m : Int) < (p2 : Int) := by omega
          have HF2 := Lib.hid (hF'.store m hm true)
          have HFM := Lib.hid hFm'
          have HKO := Lib.hid hKO
          have HBW := Lib.hid hBW
          clear hF' hFm' hKO hBW
          gi_wp2
          have hko2 : KO (w.heap.size + 1) w5.heap.size Wr (Wr.setCell ⟨w.heap.size + 1, m, none⟩ (.bool true)) := ⟨by simp [World.setCell], fun j _ hj => set_others Wr _ _ _ j hj⟩
          refine ⟨(KeepsOthers.setCell _ _ _).from _, hko2, ⟨⟨_, HF2.out, fun i hi => ?_⟩, HKO.out.trans hko2⟩, HBW.out.setCell (by show w.heap.size ≤ w.heap.size + 1; omega) _⟩
          rw [List.any_append]
          by_cases e : i = m
          · subst e; simp
          · have hmi : (m == i) = false := by simpa using Ne.symm e
            rw [if_neg e, HFM.out i hi]; simp [hmi]
        case done =>
          rintro D ys WE hD hS ⟨⟨⟨F', hF', hFm'⟩, hKO⟩, hBE⟩ hK
          have HS := Lib.hid hS
          have HF2 := Lib.hid hF'
          have HFM := Lib.hid hFm'
          have HKO := Lib.hid hKO
          have HBE := Lib.hid hBE
          have HK := Lib.hid hK
          have HD := Lib.hid hD
          clear hS hF' hFm' hKO hBE hK hD
          go_wp2
          refine ⟨⟨k + 1, { target := .collected D, args := #[] } :: ds, _, _, _, _, _, _, _, _, _, _, _, _, _, _, _, _, _, _, _, _, _, _, _, _, _, _, _, _, _, _, _, _, _, _, _, rfl, HLT.out, ?_⟩, by have := HLT.out; simp [intOf]; omega⟩
          exact { box := (HKO.out.2 _ (by omega) (by omega)).trans bx5.out
                  hdr := (HKO.out.2 _ (by omega) (by omega)).trans hd5.out
                  bel := HBE.out
                  marks := M5.out.cons (fun j hj o' h1 h2 _ _ => (HKO.out.2 j hj fun e => by
                    obtain ⟨cur, h3, _⟩ := F5.blk
                    rw [e, h3] at h1
                    obtain rfl := Option.some.inj h1
                    cases h2).trans h1) (by have := HD.out; omega) HD.out HK.out
                  met := by
                    refine ⟨_, G5.out.keep (HKO.out.2 _ (by omega) (by omega)), fun x y hx hy h => ?_⟩
                    replace h : (if (x, y) = ((ib : Int), (nb : Int)) then true else G (x, y)) = true := h
                    by_cases e : (x, y) = ((ib : Int), (nb : Int))
                    · simp only [Prod.mk.injEq] at e
                      exact ⟨z, by rw [HTK.out]; simp, by rw [hib, e.1], by rw [hnb, e.2]⟩
                    · rw [if_neg e] at h
                      obtain ⟨y', hy', h1⟩ := HGZ.out x y hx hy h
                      exact ⟨y', by rw [HTK.out]; exact List.mem_append_left _ hy', h1⟩
                  row := by
                    refine ⟨F', HF2.out, fun m hm => ?_⟩
                    rw [HFM.out m hm, HTK.out, any_snoc, HFA.out m hm]
                    congr 1
                    rw [Bool.eq_iff_iff, List.any_eq_true, ← HH.out m hm, ← HS.out, List.mem_map]
                    constructor
                    · rintro ⟨x, hx, e⟩; exact ⟨x, hx, by simpa using e⟩
                    · rintro ⟨x, hx, e⟩; exact ⟨x, hx, by simpa using e⟩ }
        case stop =>
          rintro D c pre W _ _ h _
          exact h.elim
    · obtain rfl : k = L.length := by omega
      obtain ⟨e0, e1⟩ := cells2 HST.out.box
      have e2 : wr.cell? ⟨w.heap.size + 2, 0, none⟩ = some (.slice (some ⟨w.heap.size + 1, 0, none⟩) p2 p2) := by rw [Lib.cell_of_heap HST.out.hdr]; rfl
      obtain ⟨F, hF, hFm⟩ := HST.out.row
      have HF : Hid (BRow wr (w.heap.size + 1) p2 F ∧ ∀ m, m < p2 → F m = L.any (fun z => harmB V z.l m)) := ⟨hF, fun m hm => by rw [hFm m hm, List.take_length]⟩
      clear hF hFm
      go_wp2
      exact body_marks (end_marks HP2.out rfl HST.out.marks HF.out.1 HF.out.2 HST.out.bel rfl)
end Go.Proofs.Ytefbknpoehmfaaa.For
