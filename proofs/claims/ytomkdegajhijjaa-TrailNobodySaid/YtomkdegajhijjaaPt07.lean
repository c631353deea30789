/- trail's kept and above over a record in memory; a region that draws, whose calls lay blocks (wp_region_quiet_below). Condition: at most 2^18 variables. The landed trail as TrailRuns asks: what it holds, which blocks are its own, what its moves leave; kept. Condition: at most 2^18 variables, at most 2^60 levels. The landed trail's functions that only read: Depth, Len, At, Value, Level, Reason, Lits; of a trail, or of one that nobody made. Condition: what kept answers. -/
import Derived.Test.YtomkdegajhijjaaPt06
import Derived.Lib.QuietBelow
import Derived.Test.YtomkdegajhijjaaPt05
namespace Go.Proofs.Ytomkdegajhijjaa.Tra
open Go.BigFrame Go.Sort
open Go.ChangeShapes Go.WideShapes Go.ChangeAt Go.RowKit Go.Maps Circ Cw Cla

/-- a record of what is set -/
structure RecG (w : World) (t : Nat) (vc vo : Value) (n : Nat) (L : List Tri) (d : Int) : Prop where
  m : Rec w t vc vo (cellsM n L) (L.map Tri.a) d
  g : Good n L
  n : n ≤ 262144
section
variable {w w' : World} {t n : Nat} {vc vo : Value} {L : List Tri} {d : Int}
theorem RecG.below (h : RecG w t vc vo n L d) (hb : Below w.heap.size w w') : RecG w' t vc vo n L d := ⟨h.m.below hb, h.g, h.n⟩
theorem RecG.few (h : RecG w t vc vo n L d) : L.length ≤ 262144 := Nat.le_trans h.g.few h.n
theorem of_any (h : RecG w t vc vo n L d) (v : Int) :
    Calls Try.prog 25 #[.pointer (some ⟨t, 0, none⟩), .int .i64 v] w fun e w' => e = .returned (aggT (cellM L v)) ∧ Below w.heap.size w w' := by
  by_cases hv : 1 ≤ v ∧ v ≤ (n : Int)
  · obtain ⟨x, rfl⟩ : ∃ x : Nat, v = (x : Int) + 1 := ⟨(v - 1).toNat, by omega⟩
    have := of_in h.m x (by rw [cells_len]; omega) (by rw [cells_len]; exact h.n)
    rwa [cells_get _ (by omega)] at this
  · rw [h.g.cell_out hv]
    exact of_out h.m v (by rw [cells_len]; exact hv)
theorem atL {i : Nat} (hi : i < L.length) : (L.map Tri.a).getD i 0 = (getT L i).a := by
  rw [List.getD_eq_getElem?_getD, List.getElem?_map, List.getElem?_eq_getElem hi, getT_get hi]; rfl
theorem cell_of_at (g : Good n L) {i : Nat} (hi : i < L.length) : cellM L (absW (getT L i).a) = getT L i := by
  rw [getT_get hi]
  unfold cellM
  rw [g.at_in (List.getElem_mem hi)]; rfl
theorem RecG.cells (h : RecG w t vc vo n L d) : ∃ A q, vo = .slice A L.length q ∧ L.length ≤ q ∧ w.cell? ⟨t, 1, none⟩ = some (.slice A L.length q) ∧ (0 < L.length → ∃ g, A = some ⟨g, 0, none⟩ ∧ ∀ i, i < L.length → w.cell? ⟨g, i, none⟩ = some (.int .i64 (getT L i).a)) := by
  obtain ⟨A, q, hvo, -, hq, hr⟩ := h.m.ord
  rw [List.length_map] at hvo hq hr
  refine ⟨A, q, hvo, hq, by rw [← hvo]; exact h.m.cells.2.1, fun hp => ?_⟩
  obtain ⟨g, hA, cc, -⟩ := hr hp
  exact ⟨g, hA, fun i hi => by rw [cc i hi, atL hi]⟩
theorem field_b (a b c : Int) (w : World) : (Instr.field 51 (.agg #[.int .i64 a, .int .i64 b, .int .i64 c]) 1).run Try.prog w = .ok (.int .i64 b) w := by kernel_rfl
theorem field_c (a b c : Int) (w : World) : (Instr.field 51 (.agg #[.int .i64 a, .int .i64 b, .int .i64 c]) 2).run Try.prog w = .ok (.int .i64 c) w := by kernel_rfl
set_option maxHeartbeats 8000000 in
set_option maxRecDepth 100000 in
theorem above_any (h : RecG w t vc vo n L d) (lv : Int) :
    Calls Try.prog 27 #[.pointer (some ⟨t, 0, none⟩), .int .i64 lv] w fun e w' => ∃ k : Nat, e = .returned (.int .i64 (k : Int)) ∧ k ≤ L.length ∧ (∀ i, L.length - k ≤ i → i < L.length → lv < (getT L i).b) ∧ (k < L.length → (getT L (L.length - 1 - k)).b ≤ lv) ∧ Below w.heap.size w w' := by
  have HH := Lib.hid h
  have HF := Lib.hid h.few
  clear h
  go_enter Try.func27, Try.ntmps27
  go_wp2
  go_loopw [5] (fun x wr => ∃ k : Nat, x = .int .i64 (k : Int) ∧ k ≤ L.length ∧ (∀ i, L.length - k ≤ i → i < L.length → lv < (getT L i).b) ∧ Below w.heap.size w wr) (fun x _ => L.length - (intOf x).toNat)
  case atStart => exact ⟨0, rfl, Nat.zero_le _, fun i h1 h2 => by omega, Below.refl _ _⟩
  case round =>
    obtain ⟨k, rfl, hk, ha, hb⟩ := hrel
    have HA := Lib.hid ha
    have HB := Lib.hid hb
    have HR := Lib.hid (HH.out.below hb)
    clear ha hb
    obtain ⟨A, q, -, -, c1, hrow⟩ := HR.out.cells
    by_cases hlt : k < L.length
    · have k1 : (k : Int) < (L.length : Int) := by omega
      obtain ⟨g, rfl, cc⟩ := hrow (by omega)
      obtain ⟨j, hj⟩ : ∃ j, L.length - 1 - k = j := ⟨_, rfl⟩
      have ca := cc j (by omega)
      have HCE := Lib.hid (cell_of_at HR.out.g (i := j) (by omega))
      have OF := Lib.hid (fun (W : World) (hW : Below wr.heap.size wr W) => of_any (HR.out.below hW) (absW (getT L j).a))
      have VA := Lib.hid (fun (W : World) => var_any (getT L j).a W (by have := (HR.out.g.r (getT L j) (by rw [getT_get (by omega)]; exact List.getElem_mem (by omega))).2.2.1.1; exact this))
      rw [HCE.out] at OF
      have HJ := Lib.hid hj
      have i0 : (0 : Int) ≤ (L.length : Int) - 1 - (k : Int) := by omega
      have i1 : (L.length : Int) - 1 - (k : Int) < (L.length : Int) := by omega
      have it : ((L.length : Int) - 1 - (k : Int)).toNat = j := by omega
      have l0 : (0 : Int) ≤ (L.length : Int) := by omega
      have l1 : (L.length : Int) ≤ 262144 := by have := HF.out; omega
      have HE1 : Hid (∀ b : Int, b = (getT L j).b → lv < b → k + 1 ≤ L.length ∧ ∀ i, L.length - (k + 1) ≤ i → i < L.length → lv < (getT L i).b) := fun b hb hl => by
        refine ⟨by omega, fun i h1 h2 => ?_⟩
        by_cases hi : i = j
        · rw [hi, ← hb]; exact hl
        · exact HA.out i (by omega) h2
      have HE2 : Hid (∀ b : Int, b = (getT L j).b → ¬ lv < b → k < L.length → (getT L (L.length - 1 - k)).b ≤ lv) := fun b hb hl _ => by
        rw [hj, ← hb]; omega
      clear hlt HH cc hrow hj HCE
      generalize getT L j = s at *
      generalize absW s.a = v at *
      obtain ⟨a, b, c⟩ := s
      have HE3 := HE1.out b rfl
      have HE4 := HE2.out b rfl
      have cR1 : ∀ d os, (grow (redrawn wr d) os).cell? ⟨t, 1, none⟩ = some (.slice (some ⟨g, 0, none⟩) L.length q) := cell_regrown c1
      have cR2 : ∀ d os, (grow (redrawn wr d) os).cell? ⟨g, j, none⟩ = some (.int .i64 a) := cell_regrown ca
      replace HE1 := Lib.hid HE3
      replace HE2 := Lib.hid HE4
      clear HE3 HE4
      unfold aggT at OF
      have FB := fun W => field_b a b c W
      by_cases hl : lv < b
      · have HE := Lib.hid (HE1.out hl)
        clear HE1 HE2
        go_wp2
        refine wp_region_quiet_below (by kernel_rfl) (by kernel_rfl) ?_
        repeat (go_big_quiet_step (first | exact Calls.regrown_of ((VA.out _).mono (by rintro e w' ⟨h1, rfl⟩; exact ⟨h1, Below.refl _ _⟩)) | exact Calls.regrown_of (OF.out _ (below_regrown _ _ _))))
        refine wpQuiet_nil ?_
        intro w2 hw2
        have B2 : Hid (Below wr.heap.size wr w2) := by
          obtain ⟨p, rfl⟩ := hw2
          exact below_regrown _ _ _
        clear hw2 cR1 cR2 c1 ca HR
        go_wp2
        go_roundw
        case rel => exact ⟨k + 1, by go_num, HE.out.1, HE.out.2, HB.out.trans (B2.out.mono HB.out.size)⟩
        case measure => simp [intOf]; omega
      · have HE := Lib.hid (HE2.out hl)
        clear HE1 HE2
        go_wp2
        refine wp_region_quiet_below (by kernel_rfl) (by kernel_rfl) ?_
        repeat (go_big_quiet_step (first | exact Calls.regrown_of ((VA.out _).mono (by rintro e w' ⟨h1, rfl⟩; exact ⟨h1, Below.refl _ _⟩)) | exact Calls.regrown_of (OF.out _ (below_regrown _ _ _))))
        refine wpQuiet_nil ?_
        intro w2 hw2
        have B2 : Hid (Below wr.heap.size wr w2) := by
          obtain ⟨p, rfl⟩ := hw2
          exact below_regrown _ _ _
        clear hw2 cR1 cR2 c1 ca HR
        go_wp2
        go_ret
        exact ⟨k, rfl, hk, HA.out, HE.out, HB.out.trans (B2.out.mono HB.out.size)⟩
    · obtain rfl : k = L.length := by omega
      have hl : ¬ ((L.length : Int) < (L.length : Int)) := by omega
      have hd : decide ((L.length : Int) < (L.length : Int)) = false := decide_eq_false hl
      clear hrow HH
      go_wp2
      go_quiet (fail)
      go_wp2
      go_ret
      exact ⟨L.length, rfl, Nat.le_refl _, HA.out, fun h => by omega, below_drewN HB.out _⟩
end
end Go.Proofs.Ytomkdegajhijjaa.Tra
namespace Go.Proofs.Ytomkdegajhijjaa.Tra
open Go.ChangeShapes Go.WideShapes Go.ChangeAt Go.RowKit Go.Maps Circ Cw Cla

def BoxT (w : World) (b t : Nat) : Prop := w.heap[b]? = some (.cells #[.pointer (some ⟨t, 0, none⟩)] 43 (0, 0))
theorem BoxT.one {w : World} {b t s : Nat} (h : BoxT w b t) (k : BoxT w b s) : t = s := by
  unfold BoxT at *
  rw [h] at k
  injection k with k
  injection k with k
  simpa using k
def ownT (w : World) (b k : Nat) : Prop := ∃ t vc vo d, BoxT w b t ∧ w.heap[t]? = some (.cells #[vc, vo, d] 47 (0, 0)) ∧ (k = b ∨ TOwn t vc vo k)
structure Lvl (L : List Tri) (d : Int) : Prop where
  d0 : 0 ≤ d
  d1 : d ≤ 1152921504606846976
  le : ∀ s ∈ L, s.b ≤ d
def AtT (w : World) (b : Nat) (vars : Int) (L : List Tri) (d : Int) : Prop := ∃ (t : Nat) (vc vo : Value) (n : Nat), vars = (n : Int) ∧ BoxT w b t ∧ RecG w t vc vo n L d ∧ Lvl L d
def I15 : TrailI := ⟨AtT, ownT⟩
section
variable {w w' : World} {b t n n' : Nat} {vc vo vc' vo' : Value} {L L' : List Tri} {d d' vars : Int}
theorem rec_one {vc2 vo2 d2 : Value} (T : RecG w t vc vo n L d) (k : w.heap[t]? = some (.cells #[vc2, vo2, d2] 47 (0, 0))) : vc2 = vc ∧ vo2 = vo := by
  have := T.m.box
  rw [k] at this
  injection this with this
  injection this with this
  injection this with this
  injection this with h1 h2
  injection h2 with h2
  exact ⟨h1, h2⟩
theorem own_iff (hb : BoxT w b t) (T : RecG w t vc vo n L d) (k : Nat) : ownT w b k ↔ (k = b ∨ TOwn t vc vo k) := by
  constructor
  · rintro ⟨t2, vc2, vo2, d2, h1, h2, h3⟩
    obtain rfl := hb.one h1
    obtain ⟨rfl, rfl⟩ := rec_one T h2
    exact h3
  · exact fun h => ⟨t, vc, vo, _, hb, T.m.box, h⟩
theorem box_not (hb : BoxT w b t) (T : RecG w t vc vo n L d) : ¬ TOwn t vc vo b := by
  rintro (h | h | h)
  · exact types_apart hb T.m.box (by decide) h
  · obtain ⟨cur, hc⟩ := own_type T.m.oc h
    exact types_apart hb hc (by decide) rfl
  · obtain ⟨cur, hc⟩ := own_type T.m.oo h
    exact types_apart hb hc (by decide) rfl
theorem box_later (hb : BoxT w b t) (T : RecG w t vc vo n L d) (C : Chg (TOwn t vc vo) w w') : BoxT w' b t :=
  (C.other b (Array.getElem?_eq_some_iff.1 hb).1 (box_not hb T)).trans hb
theorem eff_of (hb : BoxT w b t) (T : RecG w t vc vo n L d) (C : Chg (TOwn t vc vo) w w') (T' : RecG w' t vc' vo' n' L' d')
    (hc : ∀ k, vc'.ownBlock = some k → vc.ownBlock = some k ∨ w.heap.size ≤ k) (ho : ∀ k, vo'.ownBlock = some k → vo.ownBlock = some k ∨ w.heap.size ≤ k) : Eff I15 w b w' := by
  refine ⟨C.os, C.tape, C.output, C.size, fun k hk hn => C.other k hk fun e => hn ((own_iff hb T k).2 (.inr e)), fun k hk => ?_⟩
  have hk' : ownT w' b k := hk
  rw [own_iff (box_later hb T C) T' k] at hk'
  show ownT w b k ∨ _
  rw [own_iff hb T k]
  rcases hk' with e | e | e | e
  · exact .inl (.inl e)
  · exact .inl (.inr (.inl e))
  · rcases hc k e with e | e
    · exact .inl (.inr (.inr (.inl e)))
    · exact .inr e
  · rcases ho k e with e | e
    · exact .inl (.inr (.inr (.inr e)))
    · exact .inr e
theorem eff_refl (I : TrailI) (w : World) (b : Nat) : Eff I w b w := ⟨rfl, rfl, rfl, Nat.le_refl _, fun _ _ _ => rfl, fun _ h => .inl h⟩
theorem eff_below (hb : BoxT w b t) (T : RecG w t vc vo n L d) (h : Below w.heap.size w w') : Eff I15 w b w' :=
  eff_of hb T (Chg.of_below h) (T.below h) (fun _ h => .inl h) (fun _ h => .inl h)
theorem at_below (h : AtT w b vars L d) (hb : Below w.heap.size w w') : AtT w' b vars L d := by
  obtain ⟨t, vc, vo, n, e, h1, h2, h3⟩ := h
  exact ⟨t, vc, vo, n, e, (hb.block _ (Array.getElem?_eq_some_iff.1 h1).1).trans h1, h2.below hb, h3⟩
theorem at_keep (h : AtT w b vars L d) (hk : ∀ k, ownT w b k → w'.heap[k]? = w.heap[k]?) : AtT w' b vars L d ∧ ∀ k, ownT w' b k → ownT w b k := by
  obtain ⟨t, vc, vo, n, e, hb, T, hh⟩ := h
  have hk' := fun k (e : k = b ∨ TOwn t vc vo k) => hk k ((own_iff hb T k).2 e)
  have hb' : BoxT w' b t := (hk' b (.inl rfl)).trans hb
  have T' : RecG w' t vc vo n L d := ⟨T.m.keep (w' := w') fun k e => hk' k (.inr e), T.g, T.n⟩
  exact ⟨⟨t, vc, vo, n, e, hb', T', hh⟩, fun k e => (own_iff hb T k).2 ((own_iff hb' T' k).1 e)⟩
theorem at_lt (h : AtT w b vars L d) {k : Nat} (hk : ownT w b k) : k < w.heap.size := by
  obtain ⟨t, vc, vo, n, -, hb, T, hh⟩ := h
  rcases (own_iff hb T k).1 hk with rfl | e
  · exact (Array.getElem?_eq_some_iff.1 hb).1
  · exact T.m.lt k e
end
set_option maxHeartbeats 4000000 in
set_option maxRecDepth 100000 in
theorem kept_any (w : World) (b t : Nat) (hg : BoxT w b t) : Calls Try.prog 22 #[.pointer (some ⟨b, 0, none⟩)] w fun e w' => e = .returned (.pointer (some ⟨t, 0, none⟩)) ∧ w' = w := by
  have hc : w.cell? ⟨b, 0, none⟩ = some (.pointer (some ⟨t, 0, none⟩)) := by rw [Lib.cell_of_heap hg]; rfl
  clear hg
  go_enter Try.func22, Try.ntmps22
  go_wp2
  go_ret
  exact ⟨rfl, rfl⟩
theorem nothing_rec (w : World) : ∃ W, w.alloc (.cells #[.slice none 0 0, .slice none 0 0, .int .i64 0] 47) = W ∧ RecG W w.heap.size (.slice none 0 0) (.slice none 0 0) 0 [] 0 ∧ Below w.heap.size w W :=
  ⟨_, rfl, ⟨⟨Array.getElem?_push_size, World.ownsRow_nil _ _ _ _, OwnI.nil _ _⟩, Good.nil 0, by decide⟩, (Below.refl _ _).alloc (Nat.le_refl _) _⟩
set_option maxHeartbeats 4000000 in
set_option maxRecDepth 100000 in
theorem kept_nob (w : World) (p : Value) (h : Nob w p) : Calls Try.prog 22 #[p] w fun e w' => e = .returned (.pointer (some ⟨w.heap.size, 0, none⟩)) ∧ RecG w' w.heap.size (.slice none 0 0) (.slice none 0 0) 0 [] 0 ∧ Below w.heap.size w w' := by
  obtain ⟨W, hW, hR, hB⟩ := nothing_rec w
  have HR := Lib.hid hR
  have HB := Lib.hid hB
  clear hR hB
  rcases h with rfl | ⟨g, rfl, hg⟩
  · go_enter Try.func22, Try.ntmps22
    go_wp2
    go_ret
    exact ⟨rfl, HR.out, HB.out⟩
  · have hc : w.cell? ⟨g, 0, none⟩ = some (.pointer none) := by rw [Lib.cell_of_heap hg]; rfl
    clear hg
    go_enter Try.func22, Try.ntmps22
    go_wp2
    go_ret
    exact ⟨rfl, HR.out, HB.out⟩
end Go.Proofs.Ytomkdegajhijjaa.Tra
namespace Go.Proofs.Ytomkdegajhijjaa.Tra
open Go.ChangeShapes Go.WideShapes Go.ChangeAt Go.RowKit Go.Maps Circ Cw Cla

/-- what kept answers of p: a record of what is set -/
def KeptP (w : World) (p : Value) (n : Nat) (L : List Tri) (d : Int) : Prop := Calls Try.prog 22 #[p] w fun e w1 => ∃ (t : Nat) (vc vo : Value), e = .returned (.pointer (some ⟨t, 0, none⟩)) ∧ RecG w1 t vc vo n L d ∧ Below w.heap.size w w1
theorem nob_kept {w : World} {p : Value} (h : Nob w p) : KeptP w p 0 [] 0 := (kept_nob w p h).mono fun _ _ ⟨h1, h2, h3⟩ => ⟨_, _, _, h1, h2, h3⟩
theorem at_kept {w : World} {b : Nat} {vars : Int} {L : List Tri} {d : Int} (h : AtT w b vars L d) : ∃ n : Nat, vars = (n : Int) ∧ KeptP w (.pointer (some ⟨b, 0, none⟩)) n L d := by
  obtain ⟨t, vc, vo, n, e, hb, T, -⟩ := h
  refine ⟨n, e, (kept_any w b t hb).mono ?_⟩
  rintro e w1 ⟨h1, rfl⟩
  exact ⟨_, _, _, h1, T, Below.refl _ _⟩
section
variable {w : World} {n : Nat} {L : List Tri} {d : Int} {p : Value}
set_option maxHeartbeats 4000000 in
set_option maxRecDepth 100000 in
theorem depth_k (K : KeptP w p n L d) : Calls Try.prog 18 #[p] w fun e w' => e = .returned (.int .i64 d) ∧ Below w.heap.size w w' := by
  unfold KeptP at K
  go_enter Try.func18, Try.ntmps18
  go_wp2_with fail
  refine K.mono ?_
  rintro e w1 ⟨t, vc, vo, rfl, hR, hb⟩
  have c2 := hR.m.cells.2.2
  clear K hR
  go_wp2
  go_ret
  exact ⟨rfl, hb⟩
set_option maxHeartbeats 4000000 in
set_option maxRecDepth 100000 in
theorem len_k (K : KeptP w p n L d) : Calls Try.prog 19 #[p] w fun e w' => e = .returned (.int .i64 (L.length : Int)) ∧ Below w.heap.size w w' := by
  unfold KeptP at K
  go_enter Try.func19, Try.ntmps19
  go_wp2_with fail
  refine K.mono ?_
  rintro e w1 ⟨t, vc, vo, rfl, hR, hb⟩
  obtain ⟨A, q, -, -, c1, -⟩ := hR.cells
  clear K hR
  go_wp2
  go_ret
  exact ⟨rfl, hb⟩
theorem place_in {i : Nat} (hi : i < L.length) : placeM L (i : Int) = (getT L i).a := by
  unfold placeM
  rw [if_pos (by omega), Int.toNat_natCast, List.getElem?_eq_getElem hi, getT_get hi]
theorem place_out {i : Int} (hi : ¬ (0 ≤ i ∧ i < (L.length : Int))) : placeM L i = 0 := by
  unfold placeM
  by_cases h : 0 ≤ i
  · rw [if_pos h, List.getElem?_eq_none (by omega)]
  · rw [if_neg h]
set_option maxHeartbeats 4000000 in
set_option maxRecDepth 100000 in
theorem at_k (K : KeptP w p n L d) (i : Int) : Calls Try.prog 14 #[p, .int .i64 i] w fun e w' => e = .returned (.int .i64 (placeM L i)) ∧ Below w.heap.size w w' := by
  unfold KeptP at K
  by_cases h0 : i < 0
  · have HR : Hid (placeM L i = 0) := place_out (by omega)
    go_enter Try.func14, Try.ntmps14
    go_wp2_with fail
    refine K.mono ?_
    rintro e w1 ⟨t, vc, vo, rfl, hR, hb⟩
    clear K hR
    go_wp2
    go_ret
    exact ⟨by rw [HR.out]; rfl, hb⟩
  · by_cases h1 : (L.length : Int) ≤ i
    · have HR : Hid (placeM L i = 0) := place_out (by omega)
      go_enter Try.func14, Try.ntmps14
      go_wp2_with fail
      refine K.mono ?_
      rintro e w1 ⟨t, vc, vo, rfl, hR, hb⟩
      obtain ⟨A, q, -, -, c1, -⟩ := hR.cells
      clear K hR
      go_wp2
      go_ret
      exact ⟨by rw [HR.out]; rfl, hb⟩
    · obtain ⟨j, rfl⟩ : ∃ j : Nat, i = (j : Int) := ⟨i.toNat, by omega⟩
      have HR : Hid (placeM L (j : Int) = (getT L j).a) := place_in (by omega)
      have i0 : (0 : Int) ≤ (j : Int) := by omega
      have i1 : (j : Int) < (L.length : Int) := by omega
      go_enter Try.func14, Try.ntmps14
      go_wp2_with fail
      refine K.mono ?_
      rintro e w1 ⟨t, vc, vo, rfl, hR, hb⟩
      obtain ⟨A, q, -, -, c1, hrow⟩ := hR.cells
      obtain ⟨g, rfl, cc⟩ := hrow (by omega)
      have cj := cc j (by omega)
      generalize (getT L j).a = a at *
      clear K hR cc hrow
      go_wp2
      go_ret
      exact ⟨by rw [HR.out]; rfl, hb⟩
set_option maxHeartbeats 4000000 in
set_option maxRecDepth 100000 in
theorem reason_k (K : KeptP w p n L d) (v : Int) : Calls Try.prog 17 #[p, .int .i64 v] w fun e w' => e = .returned (.int .i64 (reaM L v)) ∧ Below w.heap.size w w' := by
  unfold KeptP at K
  have HR := Lib.hid (rea_cell (L := L) v)
  go_enter Try.func17, Try.ntmps17
  go_wp2_with fail
  refine K.mono ?_
  rintro e w1 ⟨t, vc, vo, rfl, hR, hb⟩
  have OF := Lib.hid (of_any hR v)
  have HB := Lib.hid hb
  clear K hR hb
  generalize cellM L v = s at *
  obtain ⟨a, b, c⟩ := s
  go_wp2_with fail
  refine OF.out.mono ?_
  rintro e w2 ⟨rfl, hb2⟩
  have B2 : Hid (Below w.heap.size w w2) := HB.out.trans (hb2.mono HB.out.size)
  have FC := field_c a b c
  unfold aggT
  clear OF hb2
  go_wp2
  go_ret
  exact ⟨by rw [HR.out]; rfl, B2.out⟩
set_option maxHeartbeats 8000000 in
set_option maxRecDepth 100000 in
theorem level_k (K : KeptP w p n L d) (v : Int) : Calls Try.prog 16 #[p, .int .i64 v] w fun e w' => e = .returned (.int .i64 (levM L v)) ∧ Below w.heap.size w w' := by
  unfold KeptP at K
  have HR := Lib.hid (lev_cell (L := L) v)
  generalize levM L v = r at *
  go_enter Try.func16, Try.ntmps16
  go_wp2_with fail
  refine K.mono ?_
  rintro e w1 ⟨t, vc, vo, rfl, hR, hb⟩
  have OF := Lib.hid (of_any hR v)
  have HB := Lib.hid hb
  have HS := Lib.hid (hR.g.set v)
  clear K hR hb
  generalize (atM L v).isNone = z at *
  generalize cellM L v = s at *
  go_wp2_with fail
  refine OF.out.mono ?_
  rintro e w2 ⟨rfl, hb2⟩
  have B2 : Hid (Below w.heap.size w w2) := HB.out.trans (hb2.mono HB.out.size)
  obtain ⟨W1, hW1⟩ : ∃ y, w2.alloc (.cells #[.int .i64 s.a, .int .i64 s.b, .int .i64 s.c] 51) = y := ⟨_, rfl⟩
  have g1 : W1.heap[w2.heap.size]? = some (.cells #[.int .i64 s.a, .int .i64 s.b, .int .i64 s.c] 51 (0, 0)) := by rw [← hW1]; exact Array.getElem?_push_size
  have b1 : Below w2.heap.size w2 W1 := by rw [← hW1]; exact (Below.refl _ _).alloc (Nat.le_refl _) _
  have B3 : Hid (Below w.heap.size w W1) := B2.out.trans (b1.mono B2.out.size)
  obtain ⟨r0, r1, r2⟩ := three g1
  have SA := Lib.hid (set_any s W1)
  rw [HS.out] at SA
  have H1 : Hid (∀ W, Below W1.heap.size W1 W → W.cell? ⟨w2.heap.size, 1, none⟩ = some (.int .i64 s.b)) := fun W hW => (hW.cell (block_lt_of_cell r1)).trans r1
  clear OF hb2 g1 b1 HS HB B2
  obtain ⟨a, b, c⟩ := s
  unfold aggT at *
  go_wp2_with fail
  refine SA.out.mono ?_
  rintro e w3 ⟨rfl, hb3⟩
  have c1 := H1.out w3 hb3
  have B4 : Hid (Below w.heap.size w w3) := B3.out.trans (hb3.mono B3.out.size)
  clear SA H1 hb3 r0 r1 r2 hW1
  cases z with
  | true =>
    go_wp2
    go_ret
    exact ⟨by rw [HR.out]; rfl, B4.out⟩
  | false =>
    go_wp2
    go_ret
    exact ⟨by rw [HR.out]; rfl, B4.out⟩
set_option maxHeartbeats 8000000 in
set_option maxRecDepth 100000 in
theorem value_k (K : KeptP w p n L d) (l : Int) (hl : I64 l) : Calls Try.prog 15 #[p, .int .i64 l] w fun e w' => e = .returned (.int .i64 (valM L l)) ∧ Below w.heap.size w w' := by
  unfold KeptP at K
  have HR := Lib.hid (val_cell (L := L) l)
  generalize valM L l = r at *
  have VA := Lib.hid (fun W => var_any l W hl)
  clear hl
  go_enter Try.func15, Try.ntmps15
  go_wp2_with fail
  refine K.mono ?_
  rintro e w1 ⟨t, vc, vo, rfl, hR, hb⟩
  have OF := Lib.hid (of_any hR (absW l))
  have HB := Lib.hid hb
  have HS := Lib.hid (hR.g.set (absW l))
  clear K hR hb
  generalize (atM L (absW l)).isNone = z at *
  generalize cellM L (absW l) = s at *
  generalize absW l = v at *
  go_wp2_with fail
  refine (VA.out _).mono ?_
  rintro e w1 ⟨rfl, rfl⟩
  go_wp2_with fail
  refine OF.out.mono ?_
  rintro e w2 ⟨rfl, hb2⟩
  have B2 : Hid (Below w.heap.size w w2) := HB.out.trans (hb2.mono HB.out.size)
  obtain ⟨W1, hW1⟩ : ∃ y, w2.alloc (.cells #[.int .i64 s.a, .int .i64 s.b, .int .i64 s.c] 51) = y := ⟨_, rfl⟩
  have g1 : W1.heap[w2.heap.size]? = some (.cells #[.int .i64 s.a, .int .i64 s.b, .int .i64 s.c] 51 (0, 0)) := by rw [← hW1]; exact Array.getElem?_push_size
  have b1 : Below w2.heap.size w2 W1 := by rw [← hW1]; exact (Below.refl _ _).alloc (Nat.le_refl _) _
  have B3 : Hid (Below w.heap.size w W1) := B2.out.trans (b1.mono B2.out.size)
  obtain ⟨r0, r1, r2⟩ := three g1
  have SA := Lib.hid (set_any s W1)
  rw [HS.out] at SA
  have H1 : Hid (∀ W, Below W1.heap.size W1 W → W.cell? ⟨w2.heap.size, 0, none⟩ = some (.int .i64 s.a)) := fun W hW => (hW.cell (block_lt_of_cell r0)).trans r0
  clear OF VA hb2 g1 b1 HS HB B2
  obtain ⟨a, b, c⟩ := s
  unfold aggT at *
  go_wp2_with fail
  refine SA.out.mono ?_
  rintro e w3 ⟨rfl, hb3⟩
  have c1 := H1.out w3 hb3
  have B4 : Hid (Below w.heap.size w w3) := B3.out.trans (hb3.mono B3.out.size)
  clear SA H1 hb3 r0 r1 r2 hW1
  cases z with
  | true =>
    go_wp2
    go_ret
    exact ⟨by rw [HR.out]; rfl, B4.out⟩
  | false =>
    by_cases he : a = l
    · have hb : (a == l) = true := beq_iff_eq.2 he
      have HE : Hid (r = 1) := by have := HR.out; rw [if_neg (by decide), if_pos he] at this; exact this
      clear he HR
      go_wp2
      go_ret
      exact ⟨by rw [HE.out]; rfl, B4.out⟩
    · have hb : (a == l) = false := beq_eq_false_iff_ne.2 he
      have HE : Hid (r = -1) := by have := HR.out; rw [if_neg (by decide), if_neg he] at this; exact this
      clear he HR
      go_wp2
      go_ret
      exact ⟨by rw [HE.out]; rfl, B4.out⟩
end
end Go.Proofs.Ytomkdegajhijjaa.Tra
