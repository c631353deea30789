/- The walk of strash.Hash; no condition but that what is asked of it fits. -/
import Derived.Test.YtpaneggajjgdlaaPk19
namespace Go.Proofs.Ytpaneggajjgdlaa.Str
open Go.ChangeShapes Go.WideShapes Go.ChangeAt Go.RowKit Go.Maps Circ Cw
open Cpy (copy_any Apart)

theorem ands_far {c : Cir} (h : refOk c = true) : ∀ (k : Nat) (hk : k < c.ands.length), 2 * (k : Int) + 2 ≤ c.ands[k].a
  | 0, hk => by have := (ands_own h (List.getElem_mem hk)).1; omega
  | k + 1, hk => by
    have h1 := ands_far h k (by omega)
    have h2 : c.ands[k].a < c.ands[k + 1].a := ands_less h (Nat.lt_succ_self k) hk
    have h3 := (ands_own h (List.getElem_mem hk)).2.1
    have h4 := (ands_own h (List.getElem_mem (show k < c.ands.length by omega))).2.1
    omega
theorem ref_sizes {c : Cir} (h : refOk c = true) : c.ins.length ≤ 64 ∧ c.lats.length ≤ 64 ∧ c.outs.length ≤ 64 ∧ c.bads.length ≤ 64 ∧ c.invs.length ≤ 64 ∧ c.ands.length ≤ 4097 := by
  obtain ⟨hh, -, -, -, ho, hb, hi⟩ := ref_parts h
  unfold refHead at hh
  unfold allKnown at ho hb hi
  simp only [Bool.and_eq_true, Bool.not_eq_true', decide_eq_false_iff_not, decide_eq_true_eq] at hh ho hb hi
  refine ⟨by omega, by omega, ho.2, hb.2, hi.2, ?_⟩
  rcases Nat.lt_or_ge 4097 c.ands.length with h1 | h1
  · have h2 := ands_far h 4097 h1
    have h3 := (ands_own h (List.getElem_mem h1)).2.2.1
    omega
  · exact h1
def latH (f : Int → Int) (t : Tri) : Tri := ⟨t.a, f t.b, t.c⟩
def plH (s : Places) (A : Option Addr) (q : Nat) : Places := { s with aa := A, ka := q }
theorem boxH_swap (c : Cir) (s : Places) (A : Option Addr) (q : Nat) : cirC (swapM c) (plH s A q) = boxH c s (.slice A (runM c.ands).st.length q) := by
  unfold cirC boxH swapM plH
  simp only [List.length_map]
theorem boxH_hash (c : Cir) (s : Places) (A : Option Addr) (q : Nat) : cirC (hashM c) (plH s A q) = boxH c s (.slice A (hashM c).ands.length q) := by
  unfold cirC boxH hashM swapM plH
  simp only [List.length_map]
theorem run_st_fit (l : List Tri) (hl : ∀ t ∈ l, t.fits) (k : Nat) (hk : k ≤ l.length) : ∀ t ∈ (runM (l.take k)).st, t.fits := by
  induction k with
  | zero => intro t ht; cases ht
  | succ k ih =>
    have F := (run_fit l hl k (by omega)).f
    have ih := ih (by omega)
    have ht := hl _ (List.getElem_mem (show k < l.length by omega))
    rw [List.take_succ_eq_append_getElem (by omega), runM_snoc]
    generalize runM (l.take k) = h at *
    generalize l[k] = u at *
    intro t h1
    unfold stepM at h1
    split at h1
    · exact ih t h1
    · rcases List.mem_append.1 h1 with h2 | h2
      · exact ih t h2
      · obtain rfl := List.mem_singleton.1 h2
        exact ⟨ht.1, of_fit F ht.2.1, of_fit F ht.2.2⟩
theorem swap_fits {c : Cir} {s s' : Places} {A : Option Addr} {q : Nat} (hf : CFits c s) (ha : c.ands.length ≤ 4097) (h1 : c.ins.length ≤ s'.ki) (h2 : c.outs.length ≤ s'.ko) (h3 : c.bads.length ≤ s'.kb) (h4 : c.invs.length ≤ s'.kc) (h5 : c.lats.length ≤ s'.kl) (h6 : c.names.length ≤ s'.kn) (l : List Tri) (hl : l.Sublist (runM c.ands).st) (hq : l.length ≤ q) : CFits { swapM c with ands := l } (plH s' A q) := by
  have hF := (run_fit c.ands hf.ands c.ands.length (Nat.le_refl _)).f
  have hS := run_st_fit c.ands hf.ands c.ands.length (Nat.le_refl _)
  have hL := run_len c.ands c.ands.length
  rw [List.take_length] at hF hS hL
  have hl2 := hl.length_le
  have mp : ∀ {l : List Int}, (∀ x ∈ l, I64 x) → ∀ x ∈ l.map (ofM (runM c.ands).F), I64 x := fun h x hx => by
    obtain ⟨y, hy, rfl⟩ := List.mem_map.1 hx
    exact of_fit hF (h y hy)
  refine ⟨hf.max, hf.ins, mp hf.outs, mp hf.bads, mp hf.invs, fun x hx => ?_, fun x hx => hS x (hl.subset hx), hf.names, hf.li, ?_, ?_, ?_, ?_, ?_, hf.ln, h1, ?_, ?_, ?_, ?_, hq, h6⟩
  · obtain ⟨y, hy, rfl⟩ := List.mem_map.1 hx
    have := hf.lats y hy
    exact ⟨this.1, of_fit hF this.2.1, this.2.2⟩
  · show (c.outs.map _).length * 8 ≤ _; rw [List.length_map]; exact hf.lo
  · show (c.bads.map _).length * 8 ≤ _; rw [List.length_map]; exact hf.lb
  · show (c.invs.map _).length * 8 ≤ _; rw [List.length_map]; exact hf.lc
  · show (c.lats.map _).length * 24 ≤ _; rw [List.length_map]; exact hf.ll
  · show l.length * 24 ≤ _; omega
  · show (c.outs.map _).length ≤ _; rw [List.length_map]; exact h2
  · show (c.bads.map _).length ≤ _; rw [List.length_map]; exact h3
  · show (c.invs.map _).length ≤ _; rw [List.length_map]; exact h4
  · show (c.lats.map _).length ≤ _; rw [List.length_map]; exact h5
theorem put_mid {w w' : World} {B g q : Nat} {e : TypeId} {l : List Tri} {cur : Array Value} (h : OwnC w B e 3 (.slice (some ⟨g, 0, none⟩) l.length q) (tris l)) (i : Nat) (hi : i < l.length) (x : Int) (hg : w.heap[g]? = some (.cells cur e (0, 0))) (hs : l.length * 3 ≤ cur.size)
    (hg' : w'.heap[g]? = some (.cells (cur.setIfInBounds (i * 3 + 1) (.int .i64 x)) e (0, 0))) :
    OwnC w' B e 3 (.slice (some ⟨g, 0, none⟩) l.length q) (tris (l.set i ⟨l[i].a, x, l[i].c⟩)) := by
  obtain ⟨b, o, hA2, -, c0, c1, c2⟩ := LRow.tri (own_lrow h (by decide) (tris_len _)).1 (k := i) hi
  simp only [Option.some.injEq, Addr.mk.injEq, and_true] at hA2
  obtain ⟨rfl, rfl⟩ := hA2
  rw [Nat.zero_add, Lib.cell_of_heap hg] at c0 c2
  refine put_tri h i hi _ hg hs ?_
  rw [hg']
  congr 2
  apply Array.ext_getElem?
  intro k
  simp only [Array.getElem?_setIfInBounds, Array.size_setIfInBounds]
  by_cases h2 : i * 3 + 2 = k
  · subst h2
    rw [if_neg (by omega), if_pos rfl, if_pos (by omega)]
    exact c2
  · rw [if_neg h2]
    by_cases h1 : i * 3 + 1 = k
    · rw [if_pos h1, if_pos h1]
    · rw [if_neg h1, if_neg h1]
      by_cases h0 : i * 3 = k
      · subst h0
        rw [if_pos rfl, if_pos (by omega)]
        exact c0
      · rw [if_neg h0]
theorem nams_lenH (l : List Nam) : ∀ y ∈ nams l, y.length = 3 := fun y hy => by obtain ⟨x, _, rfl⟩ := List.mem_map.1 hy; rfl
theorem nams_lengthH (l : List Nam) : (nams l).length = l.length := by unfold nams; rw [List.length_map]
theorem swap_lies {N gd C p m1 m2 n q : Nat} {A : Option Addr} {W w : World} {c : Cir} {s : Places} (H : StH N gd C p m1 m2 n (.slice A (runM c.ands).st.length q) (runM c.ands) W c s (c.outs.map (ofM (runM c.ands).F)) (c.bads.map (ofM (runM c.ands).F)) (c.invs.map (ofM (runM c.ands).F)) (c.lats.map (latH (ofM (runM c.ands).F))) w) :
    CLies w w.heap.size (swapM c) (plH s A q) :=
  ⟨(own_lrow H.i (by decide) (ints_len _)).1, (own_lrow H.l (by decide) (tris_len _)).1, (own_lrow H.o (by decide) (ints_len _)).1, (own_lrow H.d (by decide) (ints_len _)).1, (own_lrow H.v (by decide) (ints_len _)).1, (own_lrow H.hs.st (by decide) (tris_len _)).1, (own_lrow H.nm (by decide) (nams_lenH _)).1⟩
theorem stH_caps {N gd C p m1 m2 n : Nat} {va : Value} {h : Hs} {W w : World} {c : Cir} {s : Places} {f : Int → Int} {g : Tri → Tri} (H : StH N gd C p m1 m2 n va h W c s (c.outs.map f) (c.bads.map f) (c.invs.map f) (c.lats.map g) w) : c.ins.length ≤ s.ki ∧ c.outs.length ≤ s.ko ∧ c.bads.length ≤ s.kb ∧ c.invs.length ≤ s.kc ∧ c.lats.length ≤ s.kl ∧ c.names.length ≤ s.kn := by
  have h1 := (own_lrow H.i (by decide) (ints_len _)).2
  have h2 := (own_lrow H.o (by decide) (ints_len _)).2
  have h3 := (own_lrow H.d (by decide) (ints_len _)).2
  have h4 := (own_lrow H.v (by decide) (ints_len _)).2
  have h5 := (own_lrow H.l (by decide) (tris_len _)).2
  have h6 := (own_lrow H.nm (by decide) (nams_lenH _)).2
  rw [ints_length] at h1 h2 h3 h4
  rw [tris_length] at h5
  rw [nams_lengthH] at h6
  rw [List.length_map] at h2 h3 h4 h5
  exact ⟨h1, h2, h3, h4, h5, h6⟩
theorem op_index_lat_at (a : Act) (w : World) (b o n q k : Nat) (t s : Nat) (h : a.tmps.getD t undef = .slice (some ⟨b, o, none⟩) n q) (h2 : a.tmps.getD s undef = .int .i64 (k : Int)) (hk : k < n) (oo : Oper) (ho : oo.op = .indexAddr 23 (.tmp t) (.tmp s)) : (execOp a.eval oo).run Try.prog w = .ok (.value (.pointer (some ⟨b, o + k * 3, none⟩))) w := by
  have h' : a.tmps[t]?.getD undef = .slice (some ⟨b, o, none⟩) n q := by simpa using h
  have h2' : a.tmps[s]?.getD undef = .int .i64 (k : Int) := by simpa using h2
  unfold execOp
  rw [ho]
  have h0 : (0 : Int) ≤ k := by omega
  have h1 : (k : Int) < n := by omega
  go_simp
theorem op_field_lat1 (a : Act) (w : World) (b o : Nat) (t : Nat) (h : a.tmps.getD t undef = .pointer (some ⟨b, o, none⟩)) (oo : Oper) (ho : oo.op = .fieldAddr 39 (.tmp t) 1) : (execOp a.eval oo).run Try.prog w = .ok (.value (.pointer (some ⟨b, o + 1, none⟩))) w := by
  have h' : a.tmps[t]?.getD undef = .pointer (some ⟨b, o, none⟩) := by simpa using h
  unfold execOp
  rw [ho]
  go_simp
theorem op_store_int_set (a : Act) (w : World) (g k : Nat) (u : Value) (x : Int) (t s : Nat) (h1 : a.tmps.getD t undef = .pointer (some ⟨g, k, none⟩)) (h2 : a.tmps.getD s undef = .int .i64 x) (hc : w.cell? ⟨g, k, none⟩ = some u) (hz : w.frozen? ⟨g, k, none⟩ = false) (oo : Oper) (ho : oo.op = .store 3 (.tmp t) (.tmp s)) : (execOp a.eval oo).run Try.prog w = .ok .skip (w.setCell ⟨g, k, none⟩ (.int .i64 x)) := by
  have h1' : a.tmps[t]?.getD undef = .pointer (some ⟨g, k, none⟩) := by simpa using h1
  have h2' : a.tmps[s]?.getD undef = .int .i64 x := by simpa using h2
  unfold execOp
  rw [ho]
  go_simp
theorem op_field_api_Circuit_2 (a : Act) (w : World) (b : Nat) (t : Nat) (h : a.tmps.getD t undef = .pointer (some ⟨b, 0, none⟩)) (oo : Oper) (ho : oo.op = .fieldAddr 27 (.tmp t) 2) : (execOp a.eval oo).run Try.prog w = .ok (.value (.pointer (some ⟨b, 2, none⟩))) w := by
  have h' : a.tmps[t]?.getD undef = .pointer (some ⟨b, 0, none⟩) := by simpa using h
  unfold execOp
  rw [ho]
  go_simp
theorem op_load_Lapi_Latch (a : Act) (w : World) (A : Addr) (t : Nat) (v : Value) (h : a.tmps.getD t undef = .pointer (some A)) (hc : w.cell? A = some v) (oo : Oper) (ho : oo.op = .load 23 (.tmp t)) : (execOp a.eval oo).run Try.prog w = .ok (.value v) w := by
  have h' : a.tmps[t]?.getD undef = .pointer (some A) := by simpa using h
  unfold execOp
  rw [ho]
  go_simp
theorem op_field_api_Latch_1 (a : Act) (w : World) (b : Nat) (t : Nat) (h : a.tmps.getD t undef = .pointer (some ⟨b, 0, none⟩)) (oo : Oper) (ho : oo.op = .fieldAddr 39 (.tmp t) 1) : (execOp a.eval oo).run Try.prog w = .ok (.value (.pointer (some ⟨b, 1, none⟩))) w := by
  have h' : a.tmps[t]?.getD undef = .pointer (some ⟨b, 0, none⟩) := by simpa using h
  unfold execOp
  rw [ho]
  go_simp
/-- what operation j of the region leaves -/
def hlatR (p gd gl gt n q j : Nat) (y z : Int) : Nat → (Nat → Value) → World → Prop
  | 0, f, _ => f 63 = .pointer (some ⟨gd, 2, none⟩)
  | 1, f, _ => f 64 = .slice (some ⟨gl, 0, none⟩) n q
  | 2, f, _ => f 65 = .int .i64 (j : Int)
  | 3, f, _ => f 66 = .pointer (some ⟨p, 0, none⟩)
  | 4, f, _ => f 67 = .pointer (some ⟨gt, 1, none⟩)
  | 5, f, _ => f 68 = .int .i64 y
  | 6, f, _ => f 69 = .int .i64 z
  | 7, f, _ => f 70 = .pointer (some ⟨gl, j * 3, none⟩)
  | 8, f, _ => f 71 = .pointer (some ⟨gl, j * 3 + 1, none⟩)
  | 9, _, _ => True
  | _, _, _ => True
def hlatM : Nat → List Nat
  | 0 => [63]
  | 1 => [64]
  | 2 => [65]
  | 3 => [66]
  | 4 => [67]
  | 5 => [68]
  | 6 => [69]
  | 7 => [70]
  | 8 => [71]
  | 9 => []
  | _ => []
theorem hlat_stab {p gd gl gt n q j : Nat} {y z : Int} (jj : Nat) {f f' : Nat → Value} {w w' : World}  (hf : ∀ t ∈ hlatM jj, f' t = f t) (h : hlatR p gd gl gt n q j y z jj f w) : hlatR p gd gl gt n q j y z jj f' w' := by
  match jj, hf, h with
  | 0, hf, h => exact (hf 63 (by decide)).trans h
  | 1, hf, h => exact (hf 64 (by decide)).trans h
  | 2, hf, h => exact (hf 65 (by decide)).trans h
  | 3, hf, h => exact (hf 66 (by decide)).trans h
  | 4, hf, h => exact (hf 67 (by decide)).trans h
  | 5, hf, h => exact (hf 68 (by decide)).trans h
  | 6, hf, h => exact (hf 69 (by decide)).trans h
  | 7, hf, h => exact (hf 70 (by decide)).trans h
  | 8, hf, h => exact (hf 71 (by decide)).trans h
  | 9, _, _ => trivial
  | _ + 10, _, _ => trivial

set_option maxHeartbeats 32000000 in
set_option maxRecDepth 100000 in
open Classical in
theorem hash_yes (c : Cir) (s : Places) (w : World) (h : CLies w w.heap.size c s) (hf : CFits c s) (hc : chk c = true) (hnm : ∀ x ∈ c.names, x.kind.size ≤ 281474976710656 ∧ x.text.size ≤ 281474976710656) :
    Calls Try.prog 10 #[cirV c s] w fun e w' => (∃ s', e = .returned (.tuple #[cirV (hashM c) s', .int .i64 0]) ∧ CLies w' w'.heap.size (hashM c) s' ∧ CFits (hashM c) s') ∧ Below w.heap.size w w' := by
  have hr : refOk c = true := by rw [← chk_same]; exact hc
  have RK := Lib.hid hr
  have HZ := Lib.hid (ref_sizes hr)
  obtain ⟨WA, hWA⟩ : ∃ x, w.alloc (.cells #[.int .i64 c.max, .slice s.ai c.ins.length s.ki, .slice s.al c.lats.length s.kl, .slice s.ao c.outs.length s.ko, .slice s.ab c.bads.length s.kb, .slice s.ac c.invs.length s.kc, .slice s.aa c.ands.length s.ka, .slice s.an c.names.length s.kn] 27) = x := ⟨_, rfl⟩
  obtain ⟨WB, hWB⟩ : ∃ x, WA.alloc (.cells #[.int .i64 0, .slice none 0 0, .slice none 0 0, .slice none 0 0, .slice none 0 0, .slice none 0 0, .slice none 0 0, .slice none 0 0] 27) = x := ⟨_, rfl⟩
  have sA : WA.heap.size = w.heap.size + 1 := by rw [← hWA]; simp
  have bA : Below w.heap.size w WA := by rw [← hWA]; exact (Below.refl _ _).alloc (Nat.le_refl _) _
  have hA : WA.heap[w.heap.size]? = some (.cells (cirC c s) 27 (0, 0)) := by rw [← hWA]; exact Array.getElem?_push_size
  have bB : Below (w.heap.size + 1) WA WB := by rw [← hWB]; exact (Below.refl _ _).alloc (by omega) _
  have hB : WB.heap[(w.heap.size + 1)]? = some (.cells #[.int .i64 0, .slice none 0 0, .slice none 0 0, .slice none 0 0, .slice none 0 0, .slice none 0 0, .slice none 0 0, .slice none 0 0] 27 (0, 0)) := by rw [← hWB, ← sA]; exact Array.getElem?_push_size
  have sB : WB.heap.size = w.heap.size + 2 := by rw [← hWB]; simp [sA]
  have GB : Hid (WB.heap[w.heap.size]? = some (.cells (cirC c s) 27 (0, 0))) := (bB.block _ (by omega)).trans hA
  obtain ⟨e0, e1, e2, e3, e4, e5, e6, e7⟩ := cells8 GB.out
  have BB : Hid (Below w.heap.size w WB) := bA.trans (bB.mono (by omega))
  have CK := Lib.hid (check_any c s WB ((h.below BB.out).more (by omega)) hf)
  have HB := Lib.hid hB
  have SB := Lib.hid sB
  have SZ : Hid (True) := trivial
  rw [chkV_yes c hc] at CK
  have H := Lib.hid h
  have HF := Lib.hid hf
  have HNM := Lib.hid hnm
  clear h hf hc hA hB bA bB hr hnm
  unfold cirV at CK ⊢
  rw [show cirC c s = #[.int .i64 c.max, .slice s.ai c.ins.length s.ki, .slice s.al c.lats.length s.kl, .slice s.ao c.outs.length s.ko, .slice s.ab c.bads.length s.kb, .slice s.ac c.invs.length s.kc, .slice s.aa c.ands.length s.ka, .slice s.an c.names.length s.kn] from rfl] at CK ⊢
  go_enter Try.func10, Try.ntmps10
  go_wp2_with fail
  refine CK.out.mono ?_
  rintro e w1 ⟨rfl, hb⟩
  clear e0 e1 e2 e3 e4 e5 e6 e7 hWA hWB sA sB CK
  have G1 : Hid (w1.heap[w.heap.size]? = some (.cells (cirC c s) 27 (0, 0))) := (hb.block _ (by rw [SB.out]; omega)).trans GB.out
  have R1 : Hid (w1.heap[(w.heap.size + 1)]? = some (.cells #[.int .i64 0, .slice none 0 0, .slice none 0 0, .slice none 0 0, .slice none 0 0, .slice none 0 0, .slice none 0 0, .slice none 0 0] 27 (0, 0))) := (hb.block _ (by rw [SB.out]; omega)).trans HB.out
  have B1 : Hid (Below w.heap.size w w1) := BB.out.trans (hb.mono (by rw [SB.out]; omega))
  have S1 : Hid ((w.heap.size + 1) < w1.heap.size) := by have := hb.size; rw [SB.out] at this; exact this
  clear hb BB GB HB SB
  -- the copy
  obtain ⟨e0, e1, e2, e3, e4, e5, e6, e7⟩ := cells8 G1.out
  have CP := Lib.hid (copy_any c s w1 ((H.out.below B1.out).more (by have := S1.out; omega)) HF.out HNM.out)
  unfold cirV cirC at CP
  go_wp2_with fail
  refine CP.out.mono ?_
  rintro e w3 ⟨⟨s', rfl, hown, hap⟩, hb⟩
  clear e0 e1 e2 e3 e4 e5 e6 e7 CP
  have AP := Lib.hid hap
  have OWN := Lib.hid hown
  have S3 : Hid (w1.heap.size ≤ w3.heap.size) := hb.size
  have B3 : Hid (Below w1.heap.size w1 w3) := hb
  clear hown hap hb
  obtain ⟨W4, hW4⟩ : ∃ x, w3.alloc (.cells #[.int .i64 0, .slice none 0 0, .slice none 0 0, .slice none 0 0, .slice none 0 0, .slice none 0 0, .slice none 0 0, .slice none 0 0] 27) = x := ⟨_, rfl⟩
  have b4 : Below w3.heap.size w3 W4 := by rw [← hW4]; exact (Below.refl _ _).alloc (Nat.le_refl _) _
  have gq : W4.heap[w3.heap.size]? = some (.cells #[.int .i64 0, .slice none 0 0, .slice none 0 0, .slice none 0 0, .slice none 0 0, .slice none 0 0, .slice none 0 0, .slice none 0 0] 27 (0, 0)) := by rw [← hW4]; exact Array.getElem?_push_size
  obtain ⟨q1, q2, q3, q4, q5, q6, q7, Xq, qv0, qv1, qv2, qv3, qv4, qv5, qv6, qv7, ⟨qh1, qa0, qb0⟩, ⟨qh2, qa1, qb1⟩, ⟨qh3, qa2, qb2⟩, ⟨qh4, qa3, qb3⟩, ⟨qh5, qa4, qb4⟩, ⟨qh6, qa5, qb5⟩, ⟨qh7, qa6, qb6⟩, ⟨qh8, qa7, qb7⟩, E8q, FCq⟩ := Cw.store8 gq rfl (.int .i64 c.max) (.slice s'.ai c.ins.length s'.ki) (.slice s'.al c.lats.length s'.kl) (.slice s'.ao c.outs.length s'.ko) (.slice s'.ab c.bads.length s'.kb) (.slice s'.ac c.invs.length s'.kc) (.slice s'.aa c.ands.length s'.ka) (.slice s'.an c.names.length s'.kn)
  have b5 : Below w3.heap.size w3 Xq := FCq.below b4 (Nat.le_refl _)
  have HGD : Hid (w3.heap.size = w3.heap.size) := rfl
  have SX : Hid (w3.heap.size < Xq.heap.size) := (Array.getElem?_eq_some_iff.1 E8q).1
  have EX : Hid (Xq.heap[w3.heap.size]? = some (.cells (cirC c s') 27 (0, 0))) := E8q
  have BX : Hid (Below w1.heap.size w1 Xq) := B3.out.trans (b5.mono (by have := S3.out; omega))
  have BX3 : Hid (Below w3.heap.size w3 Xq) := b5
  have KX : Hid (Xq.heap[w.heap.size]? = some (.cells (cirC c s) 27 (0, 0))) := (BX.out.block _ (by have := S1.out; omega)).trans G1.out
  clear b4 gq b5 E8q FCq G1
  -- what the ands come to
  obtain ⟨e0, e1, e2, e3, e4, e5, e6, e7⟩ := cells8 KX.out
  have BWX : Hid (Below w.heap.size w Xq) := B1.out.trans (BX.out.mono B1.out.size)
  have HSG := Lib.hid (hashing_any c s Xq ((H.out.below BWX.out).more BWX.out.size) HF.out (by have := HZ.out; omega))
  unfold cirV cirC at HSG
  go_wp2_with fail
  refine HSG.out.mono ?_
  rintro e w5 ⟨⟨p, m1, m2, v, rfl, hH⟩, hb⟩
  clear e0 e1 e2 e3 e4 e5 e6 e7 HSG hW4
  clear qh1 qa0 qb0 qh2 qa1 qb1 qh3 qa2 qb2 qh4 qa3 qb3 qh5 qa4 qb4 qh6 qa5 qb5 qh7 qa6 qb6 qh8 qa7 qb7
  obtain ⟨Av, qv, rfl, -, hqv, -⟩ := hH.st.row (by decide) (tris_len _)
  rw [tris_length] at hqv hH
  obtain ⟨C, hC⟩ : ∃ x, Xq.heap.size = x := ⟨_, rfl⟩
  have SXC : Hid (w3.heap.size < C) := by rw [← hC]; exact SX.out
  have S5 : Hid (C ≤ w5.heap.size) := by rw [← hC]; exact hb.size
  rw [hC] at hH
  have x5 : w5.heap[w3.heap.size]? = some (.cells (cirC c s') 27 (0, 0)) := (hb.block _ SX.out).trans EX.out
  obtain ⟨c0, c1, c2⟩ := hH.cells
  obtain ⟨W6, u6, ⟨hS6, p6, t6⟩, E6, F6⟩ := step_set w5 _ 6 (.slice Av (runM c.ands).st.length qv) x5 (show 6 < 8 by decide)
  have X6 : W6.heap[w3.heap.size]? = some (.cells (boxH c s' (.slice Av (runM c.ands).st.length qv)) 27 (0, 0)) := E6
  obtain ⟨W7, hW7⟩ : ∃ x, W6.alloc (.cells (lstH c s') 22) = x := ⟨_, rfl⟩
  have b7 : Below W6.heap.size W6 W7 := by rw [← hW7]; exact (Below.refl _ _).alloc (Nat.le_refl _) _
  have h56 : Below C w5 W6 → False ∨ True := fun _ => .inr trivial
  have HS6 : HsAt W6 C p m1 m2 (.slice Av (runM c.ands).st.length qv) (runM c.ands) c.ands.length := hH.above (fun k hk _ => F6.b k (by have := SXC.out; omega))
  have HS7 := HS6.below b7
  have kX6 : ∀ k, k < w3.heap.size → W6.heap[k]? = w3.heap[k]? := fun k hk => (F6.b k (by have := HGD.out; omega)).trans ((hb.block k (by have := BX3.out.size; omega)).trans (BX3.out.block k hk))
  have BN6 : Below w1.heap.size w1 W6 := F6.below (BX.out.trans (hb.mono BX.out.size)) (by have := S3.out; have := HGD.out; omega)
  have hz6 : w3.heap.size ≤ W6.heap.size := by rw [F6.z]; have := S5.out; have := SXC.out; have := HGD.out; omega
  have kp : ∀ {e m v xs}, OwnC w3 w1.heap.size e m v xs → OwnC W7 w1.heap.size e m v xs := fun ho => (ho.keep_at fun g _ hg => kX6 g (ho.block_lt g hg).2).keep (b7)
  have hlt : ∀ {e : TypeId} {m n q : Nat} {A : Option Addr} {xs : List (List Value)}, OwnC w3 w1.heap.size e m (.slice A n q) xs → ∀ k, A.map Addr.block = some k → k < C := fun ho k hk => by
    obtain ⟨cur, hcur⟩ := own_typed ho k hk
    have := lt_of_block hcur
    have := SXC.out; have := HGD.out
    omega
  obtain ⟨ff, hff⟩ : ∃ x, x = ofM (runM c.ands).F := ⟨_, rfl⟩
  have FFE := Lib.hid hff
  clear hff
  have O0 : Hid (StL w1.heap.size w3.heap.size W6.heap.size C p m1 m2 c.ands.length (.slice Av (runM c.ands).st.length qv) (runM c.ands) w1 c s' ff 0 W7) := by
    have o := OWN.out
    refine ⟨⟨kp o.ins, kp o.outs, kp o.bads, kp o.invs, kp o.lats, kp o.names, (b7.block _ (lt_of_block X6)).trans X6, HS7, BN6.trans (b7.mono BN6.size), ?_, by have := S3.out; have := HGD.out; omega, hlt o.outs, hlt o.bads, hlt o.invs, hlt o.lats⟩, ?_⟩
    · have := b7.size; have := BN6.size; omega
    · rw [← hW7]; exact Array.getElem?_push_size
  have RR : Hid (∀ x, Below w1.heap.size w1 x → x.heap[(w.heap.size + 1)]? = some (.cells #[.int .i64 0, .slice none 0 0, .slice none 0 0, .slice none 0 0, .slice none 0 0, .slice none 0 0, .slice none 0 0, .slice none 0 0] 27 (0, 0))) := fun x hx => (hx.block _ S1.out).trans R1.out
  have RF : Hid (FitH (runM c.ands)) := by have := run_fit c.ands HF.out.ands c.ands.length (Nat.le_refl _); rw [List.take_length] at this; exact this
  have RL : Hid ((runM c.ands).st.length ≤ c.ands.length ∧ (runM c.ands).st.length ≤ qv) := by have := run_len c.ands c.ands.length; rw [List.take_length] at this; exact ⟨this, hqv⟩
  have f3 : W6.cell? ⟨w3.heap.size, 3, none⟩ = some (.slice s'.ao c.outs.length s'.ko) := by rw [Lib.cell_of_heap X6]; rfl
  have f4 : W6.cell? ⟨w3.heap.size, 4, none⟩ = some (.slice s'.ab c.bads.length s'.kb) := by rw [Lib.cell_of_heap X6]; rfl
  have f5 : W6.cell? ⟨w3.heap.size, 5, none⟩ = some (.slice s'.ac c.invs.length s'.kc) := by rw [Lib.cell_of_heap X6]; rfl
  have EO : Hid (∀ args w, (callFunc 34 args).run Try.prog w = .ok (.enter 34 args) w) := enters_of Try.func34 (by kernel_rfl) rfl
  unfold lstH at hW7
  clear hH hb x5 E6 F6 X6 b7 h56 HS6 HS7 kX6 BN6 hz6 hqv OWN KX EX BX BX3 BWX R1 HNM hC
  generalize hsn : (runM c.ands).st.length = sn at *
  have HSN := Lib.hid hsn
  clear hsn c0 c1
  go_wp2
  clear hS6 p6 t6 hW7 f3 f4 f5 c2 kp hlt
  go_loopw [36] (fun i wr => ∃ j : Nat, j ≤ 3 ∧ i = .int .i64 j ∧ StL w1.heap.size w3.heap.size W6.heap.size C p m1 m2 c.ands.length (.slice Av sn qv) (runM c.ands) w1 c s' ff j wr) (fun i _ => 3 - (intOf i).toNat)
  case atStart => exact ⟨0, by omega, rfl, O0.out⟩
  case round =>
    clear O0
    obtain ⟨j, hj, rfl, hol⟩ := hrel
    obtain ⟨wo, rfl⟩ : ∃ x, x = wr := ⟨_, rfl⟩
    have OJ := Lib.hid hol
    clear hol
    by_cases hlt : j < 3
    · obtain ⟨A, q, xs, hcell, hown, hlit, hlen, hbel, hnext⟩ := pickH _ _ _ _ _ _ _ _ _ _ _ _ _ _ _ wo hlt OJ.out HF.out ⟨HZ.out.2.2.1, HZ.out.2.2.2.1, HZ.out.2.2.2.2.1⟩ AP.out
      have hcl : wo.cell? ⟨W6.heap.size, j, none⟩ = some (.slice A xs.length q) := by rw [Lib.cell_of_heap OJ.out.2]; exact hcell
      have OW0 := Lib.hid hown
      have LI := Lib.hid hlit
      have NX := Lib.hid hnext
      have BE := Lib.hid hbel
      clear hcell hown hlit hnext hbel
      have hb4 : decide ((j : Int) < 3) = true := decide_eq_true (by omega)
      go_wp2
      clear hcl
      go_loopw [42] (fun i wr => ∃ k : Nat, k ≤ xs.length ∧ i = .int .i64 k ∧ OwnC wr w1.heap.size 3 1 (.slice A xs.length q) (ints (upto ff xs k)) ∧ Save (A.map Addr.block) wo wr) (fun i _ => xs.length - (intOf i).toNat)
      case atStart => exact ⟨0, Nat.zero_le _, rfl, by rw [upto_zero]; exact OW0.out, Save.of (Below.refl _ _)⟩
      case round =>
        obtain ⟨k, hk, rfl, how, hsv⟩ := hrel
        have SV := Lib.hid hsv
        have OW := Lib.hid how
        clear hsv how
        by_cases hlt2 : k < xs.length
        · obtain ⟨g, cur, hA, -, hNg, hg, hsz⟩ := own_block OW.out (by rw [ints_length, upto_len]; omega)
          rw [ints_length, upto_len, Nat.mul_one] at hsz
          obtain ⟨b, o, hA2, -, hc⟩ := LRow.int (own_lrow OW.out (by decide) (ints_len _)).1 (k := k) (by rw [upto_len]; exact hlt2)
          rw [hA] at hA2
          simp only [Option.some.injEq, Addr.mk.injEq, and_true] at hA2
          obtain ⟨rfl, rfl⟩ := hA2
          rw [upto_at ff xs k hlt2, Nat.zero_add] at hc
          have HU := Lib.hid (upto_set ff xs k hlt2)
          have HSW := hs_save OJ.out.1.hs BE.out SV.out
          have RC : Hid (Calls Try.prog 34 #[.pointer (some ⟨p, 0, none⟩), .int .i64 xs[k]] wr fun e w' => e = .returned (.int .i64 (ff xs[k])) ∧ wr = w') := by
            rw [FFE.out]
            exact of_any p m1 c.ands.length (runM c.ands).F xs[k] wr HSW.cells.1 HSW.f (LI.out _ (List.getElem_mem _)) RF.out.f
          have HG := Lib.hid hg
          have HL : Hid (k < (upto ff xs k).length) := by unfold Hid; rw [upto_len]; exact hlt2
          have HKC : Hid (k < cur.size) := by unfold Hid; omega
          have HUL : Hid ((upto ff xs k).length = xs.length) := upto_len _ _ _
          clear hNg hg hsz HSW
          subst hA
          generalize xs[k] = x at *
          obtain ⟨Z, u, ⟨hS, pZ, tZ⟩, EZ, FZ⟩ := step_set wr cur k (.int .i64 (ff x)) HG.out HKC.out
          have OZ : Hid (OwnC Z w1.heap.size 3 1 (.slice (some ⟨g, 0, none⟩) xs.length q) (ints (upto ff xs (k + 1)))) := by
            have h1 := OW.out
            rw [← HUL.out] at h1
            have h2 := put_int h1 k HL.out (ff x) HG.out EZ
            rw [HUL.out, HU.out] at h2
            exact h2
          have SZZ : Hid (Save (some g) wo Z) := SV.out.trans (save_but FZ)
          clear EZ FZ HG HKC HU HL
          go_wp2_with fail
          refine RC.out.mono ?_
          rintro e wm ⟨rfl, rfl⟩
          clear RC
          go_wp2
          go_roundw
          case rel => exact ⟨k + 1, by omega, by go_num, OZ.out, SZZ.out⟩
          case measure => simp [intOf]; omega
        · obtain rfl : k = xs.length := by omega
          have ON : Hid (StL w1.heap.size w3.heap.size W6.heap.size C p m1 m2 c.ands.length (.slice Av sn qv) (runM c.ands) w1 c s' ff (j + 1) wr) := NX.out wr (by rw [← upto_all]; exact OW.out) SV.out
          clear NX OW SV OW0 LI
          go_wp2
          go_roundw
          case rel => exact ⟨j + 1, by omega, by go_num, ON.out⟩
          case measure => simp [intOf]; omega
    · obtain rfl : j = 3 := by omega
      rw [show (((3 : Nat) : Int)) = (3 : Int) from rfl]
      have OR0 : Hid (StH w1.heap.size w3.heap.size C p m1 m2 c.ands.length (.slice Av sn qv) (runM c.ands) w1 c s' (c.outs.map ff) (c.bads.map ff) (c.invs.map ff) (upto (latH ff) c.lats 0) wo) := by
        unfold Hid; rw [upto_zero]; exact OJ.out.1
      clear OJ
      have d2 : wo.cell? ⟨w3.heap.size, 2, none⟩ = some (.slice s'.al c.lats.length s'.kl) := by rw [Lib.cell_of_heap OR0.out.x]; rfl
      go_wp2
      clear d2
      go_loopw [58] (fun i wr => ∃ j : Nat, j ≤ c.lats.length ∧ i = .int .i64 j ∧ StH w1.heap.size w3.heap.size C p m1 m2 c.ands.length (.slice Av sn qv) (runM c.ands) w1 c s' (c.outs.map ff) (c.bads.map ff) (c.invs.map ff) (upto (latH ff) c.lats j) wr) (fun i _ => c.lats.length - (intOf i).toNat)
      case atStart => exact ⟨0, Nat.zero_le _, rfl, OR0.out⟩
      case round =>
        clear OR0
        obtain ⟨j, hj, rfl, hor⟩ := hrel
        have OR := Lib.hid hor
        clear hor
        by_cases hlt : j < c.lats.length
        · obtain ⟨gl', cur, hA, -, hNg, hg, hsz⟩ := own_block OR.out.l (by rw [tris_length, upto_len]; omega)
          rw [tris_length, upto_len] at hsz
          obtain ⟨b, o, hA2, -, c0, c1, c2⟩ := LRow.tri (own_lrow OR.out.l (by decide) (tris_len _)).1 (k := j) (by rw [upto_len]; exact hlt)
          rw [hA] at hA2
          simp only [Option.some.injEq, Addr.mk.injEq, and_true] at hA2
          obtain ⟨rfl, rfl⟩ := hA2
          rw [upto_at (latH ff) c.lats j hlt, Nat.zero_add] at c0 c1 c2
          have HU := Lib.hid (upto_set (latH ff) c.lats j hlt)
          have HUA := Lib.hid (upto_at (latH ff) c.lats j hlt)
          have HLT := Lib.hid (HF.out.lats c.lats[j] (List.getElem_mem _))
          have zl : c.lats.length ≤ 64 := HZ.out.2.1
          have HJ := Lib.hid hlt
          have HL : Hid (j < (upto (latH ff) c.lats j).length) := by unfold Hid; rw [upto_len]; exact hlt
          have HUL : Hid ((upto (latH ff) c.lats j).length = c.lats.length) := upto_len _ _ _
          have HCS : Hid (j * 3 + 2 < cur.size) := by unfold Hid; omega
          have HSZ := Lib.hid hsz
          have HG := Lib.hid hg
          have HAA := Lib.hid hA
          clear hNg hg hsz
          rw [hA]
          clear hA
          generalize c.lats[j] = t at *
          obtain ⟨wt, hwt⟩ : ∃ x, wr.alloc (.cells #[.int .i64 t.a, .int .i64 t.b, .int .i64 t.c] 39) = x := ⟨_, rfl⟩
          have bt : Below wr.heap.size wr wt := by rw [← hwt]; exact (Below.refl _ _).alloc (Nat.le_refl _) _
          have btd : Below wr.heap.size wr wt.drew := bt.drew
          have ORT : StH w1.heap.size w3.heap.size C p m1 m2 c.ands.length (.slice Av sn qv) (runM c.ands) w1 c s' (c.outs.map ff) (c.bads.map ff) (c.invs.map ff) (upto (latH ff) c.lats j) wt.drew := OR.out.below btd
          have KT : wt.heap[wr.heap.size]? = some (.cells #[.int .i64 t.a, .int .i64 t.b, .int .i64 t.c] 39 (0, 0)) := by rw [← hwt]; exact Array.getElem?_push_size
          have KTd : wt.drew.heap[wr.heap.size]? = some (.cells #[.int .i64 t.a, .int .i64 t.b, .int .i64 t.c] 39 (0, 0)) := KT
          have KB : Hid (wt.drew.cell? ⟨wr.heap.size, 1, none⟩ = some (.int .i64 t.b)) := by unfold Hid; rw [Lib.cell_of_heap KTd]; rfl
          have KD : Hid (wt.drew.cell? ⟨w3.heap.size, 2, none⟩ = some (.slice (some ⟨gl', 0, none⟩) c.lats.length s'.kl)) := by unfold Hid; rw [Lib.cell_of_heap ORT.x, ← HAA.out]; rfl
          have GL : wt.drew.heap[gl']? = some (.cells cur 39 (0, 0)) := (btd.block _ (lt_of_block HG.out)).trans HG.out
          have OF : Hid (Calls Try.prog 34 #[.pointer (some ⟨p, 0, none⟩), .int .i64 t.b] wt.drew fun e w' => e = .returned (.int .i64 (ff t.b)) ∧ wt.drew = w') := by
            rw [FFE.out]
            exact of_any p m1 c.ands.length (runM c.ands).F _ wt.drew ORT.hs.cells.1 ORT.hs.f HLT.out.2.1 RF.out.f
          obtain ⟨WZ, u, ⟨hWZ, pZ, tZ⟩, EZ, FZ⟩ := step_set wt.drew cur (j * 3 + 1) (.int .i64 (ff t.b)) GL (by have := HCS.out; omega)
          have HWZ := Lib.hid hWZ
          have ZC := Lib.hid pZ
          have ZF := Lib.hid tZ
          have OZ : Hid (StH w1.heap.size w3.heap.size C p m1 m2 c.ands.length (.slice Av sn qv) (runM c.ands) w1 c s' (c.outs.map ff) (c.bads.map ff) (c.invs.map ff) (upto (latH ff) c.lats (j + 1)) WZ) := by
            have sv : Save (s'.al.map Addr.block) wt.drew WZ := by rw [HAA.out]; exact save_but FZ
            refine ORT.latsTo sv ?_
            have h1 := ORT.l
            rw [HAA.out, ← HUL.out] at h1
            have h2 := put_mid h1 j HL.out (ff t.b) GL (by rw [HUL.out]; exact HSZ.out) EZ
            rw [HUA.out] at h2
            have h2 : OwnC WZ w1.heap.size 39 3 (.slice (some ⟨gl', 0, none⟩) (upto (latH ff) c.lats j).length s'.kl) (tris ((upto (latH ff) c.lats j).set j (latH ff t))) := h2
            rw [HU.out, HUL.out, ← HAA.out] at h2
            exact h2
          clear bt btd ORT KT KTd GL hWZ pZ tZ EZ FZ HU HUA HLT HL HUL HCS HSZ HG HAA
          go_wp2
          clear hwt c0 c1 c2
          refine wp_region_valsE (by kernel_rfl) (by kernel_rfl) hlatM (by kernel_rfl) (by kernel_rfl)
            (Sole 9 wt.drew WZ) (hlatR p (w3.heap.size) gl' (wr.heap.size) c.lats.length s'.kl j t.b (ff t.b)) (Sole.start _ _ _) (fun jj f f' w w' hb hf h => hlat_stab jj  hf h) ?_ ?_
          · intro i oo d a' w' ho hd hun hdf hok hDE K hK hK0
            match i, ho, hd, hDE, hK, hK0, hun with
            | 0, ho, hd, hDE, hK, hK0, hun =>
              have e := (congrArg Oper.op (Option.some.inj ho)).symm
              obtain rfl := Option.some.inj ho
              exact wp_val (op_field_api_Circuit_2 a' w' _ 5 (hun 5 (by kernel_rfl)) _ e) (hK _ _ (Below.refl _ _) (hok.read (by decide)) (fun f h1 _ => h1 _ rfl))
            | 1, ho, hd, hDE, hK, hK0, hun =>
              have e := (congrArg Oper.op (Option.some.inj ho)).symm
              obtain rfl := Option.some.inj ho
              exact wp_val (op_load_Lapi_Latch a' w' _ 63 _ (hDE 0 (by kernel_rfl)).2 (by rw [hok.c0 (hd 9 (by kernel_rfl))]; exact KD.out) _ e) (hK _ _ (Below.refl _ _) (hok.read (by decide)) (fun f h1 _ => h1 _ rfl))
            | 2, ho, hd, hDE, hK, hK0, hun =>
              have e := (congrArg Oper.op (Option.some.inj ho)).symm
              obtain rfl := Option.some.inj ho
              exact wp_val (op_move a' w' 11 _ e) (hK _ _ (Below.refl _ _) (hok.read (by decide)) (fun f h1 _ => (h1 _ rfl).trans (hun 11 (by kernel_rfl))))
            | 3, ho, hd, hDE, hK, hK0, hun =>
              have e := (congrArg Oper.op (Option.some.inj ho)).symm
              obtain rfl := Option.some.inj ho
              exact wp_val (op_move a' w' 6 _ e) (hK _ _ (Below.refl _ _) (hok.read (by decide)) (fun f h1 _ => (h1 _ rfl).trans (hun 6 (by kernel_rfl))))
            | 4, ho, hd, hDE, hK, hK0, hun =>
              have e := (congrArg Oper.op (Option.some.inj ho)).symm
              obtain rfl := Option.some.inj ho
              exact wp_val (op_field_api_Latch_1 a' w' _ 12 (hun 12 (by kernel_rfl)) _ e) (hK _ _ (Below.refl _ _) (hok.read (by decide)) (fun f h1 _ => h1 _ rfl))
            | 5, ho, hd, hDE, hK, hK0, hun =>
              have e := (congrArg Oper.op (Option.some.inj ho)).symm
              obtain rfl := Option.some.inj ho
              exact wp_val (op_load_int a' w' _ 67 _ (hDE 4 (by kernel_rfl)).2 (by rw [hok.c0 (hd 9 (by kernel_rfl))]; exact KB.out) _ e) (hK _ _ (Below.refl _ _) (hok.read (by decide)) (fun f h1 _ => h1 _ rfl))
            | 6, ho, hd, hDE, hK, hK0, hun =>
              have e := (congrArg Oper.op (Option.some.inj ho)).symm
              obtain rfl := Option.some.inj ho
              refine wp_enter (op_call2s a' w' _ 66 68 _ _ EO.out _ e) ?_
              rw [show a'.tmps.getD 66 undef = .pointer (some ⟨p, 0, none⟩) from (hDE 3 (by kernel_rfl)).2, show a'.tmps.getD 68 undef = .int .i64 t.b from (hDE 5 (by kernel_rfl)).2, hok.c0 (hd 9 (by kernel_rfl))]
              refine (OF.out).mono ?_
              rintro e w'' ⟨rfl, rfl⟩
              exact .inl ⟨_, rfl, hK0 _ _ (by have h := hok.read (i := 6) (by decide); rw [hok.c0 (hd 9 (by kernel_rfl))] at h; exact h) (fun f h1 _ => h1 _ rfl) (fun j f hj hf hq => hlat_stab j hf hq)⟩
            | 7, ho, hd, hDE, hK, hK0, hun =>
              have e := (congrArg Oper.op (Option.some.inj ho)).symm
              obtain rfl := Option.some.inj ho
              have q := op_index_lat_at a' w' gl' 0 c.lats.length s'.kl j 64 65 (hDE 1 (by kernel_rfl)).2 (hDE 2 (by kernel_rfl)).2 HJ.out _ e
              rw [Nat.zero_add] at q
              exact wp_val q (hK _ _ (Below.refl _ _) (hok.read (by decide)) (fun f h1 _ => h1 _ rfl))
            | 8, ho, hd, hDE, hK, hK0, hun =>
              have e := (congrArg Oper.op (Option.some.inj ho)).symm
              obtain rfl := Option.some.inj ho
              exact wp_val (op_field_lat1 a' w' _ _ 70 (hDE 7 (by kernel_rfl)).2 _ e) (hK _ _ (Below.refl _ _) (hok.read (by decide)) (fun f h1 _ => h1 _ rfl))
            | 9, ho, hd, hDE, hK, hK0, hun =>
              have e := (congrArg Oper.op (Option.some.inj ho)).symm
              obtain rfl := Option.some.inj ho
              rw [hok.c0 (hd 9 (by kernel_rfl))]
              have hr := op_store_int_set a' wt.drew _ _ _ _ 71 69 (hDE 8 (by kernel_rfl)).2 (hDE 6 (by kernel_rfl)).2 ZC.out ZF.out _ e
              rw [HWZ.out] at hr
              exact wp_skip' hr (hK0 _ _ (Sole.did _ _ _ _) (fun f h1 h2 => trivial) (fun j f hj hf hq => hlat_stab j hf hq))
            | i + 10, ho, _, _, _, _, _ => exact absurd ho (by simp)
          · intro a' w7 hsz hdf hkt hok hR
            have HF3 := frame_sets [63, 64, 65, 66, 67, 68, 69, 70, 71] (by kernel_rfl) hsz hkt
            obtain ⟨d, hok, hall⟩ := hok
            have hw := hok.c1 (hall 9 (by decide))
            subst hw
            obtain ⟨tm, df⟩ := a'
            obtain rfl : df = _ := hdf
            simp only [List.foldl_cons, List.foldl_nil] at HF3
            clear hkt hR hsz
            generalize tm.getD 63 undef = y63 at HF3
            generalize tm.getD 64 undef = y64 at HF3
            generalize tm.getD 65 undef = y65 at HF3
            generalize tm.getD 66 undef = y66 at HF3
            generalize tm.getD 67 undef = y67 at HF3
            generalize tm.getD 68 undef = y68 at HF3
            generalize tm.getD 69 undef = y69 at HF3
            generalize tm.getD 70 undef = y70 at HF3
            generalize tm.getD 71 undef = y71 at HF3
            simp only [List.setIfInBounds_toArray, List.set_cons_succ, List.set_cons_zero] at HF3
            subst HF3
            clear hok hall KB KD OF ZC ZF HWZ OR
            go_wp2
            go_roundw
            case rel => exact ⟨j + 1, by omega, by go_num, OZ.out⟩
            case measure => simp [intOf]; omega
        · obtain rfl : j = c.lats.length := by omega
          rw [upto_all] at OR
          have hff := FFE.out
          clear FFE
          subst hff
          have hsn := HSN.out
          clear HSN
          subst hsn
          have CAP := stH_caps OR.out
          have NEED := Lib.hid (needed_any (swapM c) (plH s' Av qv) wr (swap_lies OR.out) (swap_fits HF.out HZ.out.2.2.2.2.2 CAP.1 CAP.2.1 CAP.2.2.1 CAP.2.2.2.1 CAP.2.2.2.2.1 CAP.2.2.2.2.2 (runM c.ands).st (List.Sublist.refl _) RL.out.2) (by
            have h := HZ.out
            have h2 := RL.out
            unfold swapM
            simp only [List.length_map]
            exact ⟨h.2.2.1, h.2.2.2.1, h.2.2.2.2.1, h.2.1, by omega⟩))
          have CAPH := Lib.hid CAP
          clear CAP
          unfold cirV at NEED
          rw [boxH_swap] at NEED
          unfold boxH at NEED
          obtain ⟨d0, d1, d2, d3, d4, d5, d6, d7⟩ := cells8 (c := swapM c) (s := plH s' Av qv) (w := wr) (g := w3.heap.size) (by rw [boxH_swap]; exact OR.out.x)
          simp only [swapM, plH, List.length_map] at d0 d1 d2 d3 d4 d5 d6 d7
          go_wp2_with fail
          refine NEED.out.mono ?_
          rintro e w8 ⟨⟨v8, rfl, hv⟩, hb8⟩
          clear NEED d0 d1 d2 d3 d4 d5 d6 d7
          obtain ⟨A9, q9, rfl, -, hq9, -⟩ := hv.row (by decide) (tris_len _)
          rw [tris_length] at hq9 hv ⊢
          have H8 : StH w1.heap.size w3.heap.size C p m1 m2 c.ands.length (.slice Av (runM c.ands).st.length qv) (runM c.ands) w1 c s' (c.outs.map (ofM (runM c.ands).F)) (c.bads.map (ofM (runM c.ands).F)) (c.invs.map (ofM (runM c.ands).F)) (c.lats.map (latH (ofM (runM c.ands).F))) w8 := OR.out.below hb8
          have z8 : w1.heap.size ≤ wr.heap.size := OR.out.z
          have FIT := Lib.hid (swap_fits (A := A9) HF.out HZ.out.2.2.2.2.2 CAPH.out.1 CAPH.out.2.1 CAPH.out.2.2.1 CAPH.out.2.2.2.1 CAPH.out.2.2.2.2.1 CAPH.out.2.2.2.2.2 (hashM c).ands (by unfold hashM; exact those_sub _ _) hq9)
          have hv : OwnC w8 wr.heap.size 43 3 (.slice A9 (hashM c).ands.length q9) (tris (hashM c).ands) := hv
          have hn : (hashM c).ands.length = (those (Hangs (swapM c).ands (toldL (swapM c))) (swapM c).ands).length := rfl
          rw [← hn] at *
          clear hn
          generalize hna : (hashM c).ands.length = na at *
          have HNA := Lib.hid hna
          clear hna
          obtain ⟨W9, u9, ⟨hS9, p9, t9⟩, E9, F9⟩ := step_set w8 _ 6 (.slice A9 na q9) H8.x (show 6 < 8 by decide)
          have X9 : W9.heap[w3.heap.size]? = some (.cells (boxH c s' (.slice A9 na q9)) 27 (0, 0)) := E9
          obtain ⟨d0, d1, d2, d3, d4, d5, d6, d7⟩ := cells8 (c := hashM c) (s := plH s' A9 q9) (w := W9) (g := w3.heap.size) (by rw [boxH_hash, HNA.out]; exact X9)
          have b9 : Below w1.heap.size w1 W9 := F9.below H8.b (by have := S3.out; omega)
          rw [HNA.out] at d6
          simp only [hashM, swapM, plH, List.length_map] at d0 d1 d2 d3 d4 d5 d6 d7
          have g9 := RR.out W9 b9
          obtain ⟨z1, z2, z3, z4, z5, z6, z7, Xz, zv0, zv1, zv2, zv3, zv4, zv5, zv6, zv7, ⟨zh1, za0, zb0⟩, ⟨zh2, za1, zb1⟩, ⟨zh3, za2, zb2⟩, ⟨zh4, za3, zb3⟩, ⟨zh5, za4, zb4⟩, ⟨zh6, za5, zb5⟩, ⟨zh7, za6, zb6⟩, ⟨zh8, za7, zb7⟩, E8z, FCz⟩ := Cw.store8 g9 rfl (.int .i64 c.max) (.slice s'.ai c.ins.length s'.ki) (.slice s'.al c.lats.length s'.kl) (.slice s'.ao c.outs.length s'.ko) (.slice s'.ab c.bads.length s'.kb) (.slice s'.ac c.invs.length s'.kc) (.slice A9 na q9) (.slice s'.an c.names.length s'.kn)
          have kp : ∀ {N : Nat} {e : TypeId} {m n q : Nat} {A : Option Addr} {xs : List (List Value)}, 0 < m → (∀ y ∈ xs, y.length = m) → w1.heap.size ≤ N → e ≠ 27 → OwnC w8 N e m (.slice A n q) xs → LRow Xz Xz.heap.size m A xs := fun hm hx hN he h =>
            (own_lrow ((own_save h (save_but F9) (other_type h H8.x he)).keep_at fun k hk _ => FCz.b k (by have := S1.out; omega)) hm hx).1
          have BZ : Hid (Below w.heap.size w Xz) := FCz.below (B1.out.trans (b9.mono B1.out.size)) (by omega)
          have LI : Hid (CLies Xz Xz.heap.size (hashM c) (plH s' A9 q9)) :=
            ⟨kp (by decide) (ints_len _) (Nat.le_refl _) (by decide) H8.i, kp (by decide) (tris_len _) (Nat.le_refl _) (by decide) H8.l, kp (by decide) (ints_len _) (Nat.le_refl _) (by decide) H8.o, kp (by decide) (ints_len _) (Nat.le_refl _) (by decide) H8.d, kp (by decide) (ints_len _) (Nat.le_refl _) (by decide) H8.v, kp (by decide) (tris_len _) z8 (by decide) hv, kp (by decide) (nams_lenH _) (Nat.le_refl _) (by decide) H8.nm⟩
          have HBX : Hid (cirC (hashM c) (plH s' A9 q9) = #[.int .i64 c.max, .slice s'.ai c.ins.length s'.ki, .slice s'.al c.lats.length s'.kl, .slice s'.ao c.outs.length s'.ko, .slice s'.ab c.bads.length s'.kb, .slice s'.ac c.invs.length s'.kc, .slice A9 na q9, .slice s'.an c.names.length s'.kn]) := by unfold Hid; rw [boxH_hash, HNA.out]; rfl
          obtain ⟨r0, r1, r2, r3, r4, r5, r6, r7⟩ := cells8 (c := hashM c) (s := plH s' A9 q9) (w := Xz) (g := (w.heap.size + 1)) (by rw [HBX.out]; exact E8z)
          rw [HNA.out] at r6
          simp only [hashM, swapM, plH, List.length_map] at r0 r1 r2 r3 r4 r5 r6 r7
          clear H8 X9 b9 E9 F9 kp g9 E8z FCz hv hq9 z8 OR hb8 HNA
          go_wp2
          (try simp only [Exit.inBlock, Exit.then])
          have hres : ∀ tmps : Array Value, tmps.getD 2 undef = .pointer (some ⟨w.heap.size + 1, 0, none⟩) → tmps.getD 3 undef = .int .i64 0 → (results Try.f10 tmps).run Try.prog Xz = .ok (.tuple #[.agg #[.int .i64 c.max, .slice s'.ai c.ins.length s'.ki, .slice s'.al c.lats.length s'.kl, .slice s'.ao c.outs.length s'.ko, .slice s'.ab c.bads.length s'.kb, .slice s'.ac c.invs.length s'.kc, .slice A9 na q9, .slice s'.an c.names.length s'.kn], .int .i64 0]) Xz := fun tmps ht ht3 => by
            simp only [results, show Try.f10.results = #[ResultVar.cell 2 27, ResultVar.slot 3] from rfl]
            have ht' : tmps[2]?.getD undef = .pointer (some ⟨w.heap.size + 1, 0, none⟩) := by simpa using ht
            have ht3' : tmps[3]?.getD undef = .int .i64 0 := by simpa using ht3
            go_simp
          refine bodyPost_ret (hres _ rfl rfl) rfl ?_
          exact ⟨⟨plH s' A9 q9, by rw [HBX.out], LI.out, FIT.out⟩, BZ.out⟩
end Go.Proofs.Ytpaneggajjgdlaa.Str
