/- CircuitCopies for whatever argument the form lets in: the walk, behind the argument's opening; condition: the form's own reach. -/
import Derived.Test.YtefhhldfelmnkaaCopy
import Derived.Test.YtefhhldfelmnkaaSame
import Derived.Test.YtefhhldfelmnkaaSpoil
import Derived.Test.YtefhhldfelmnkaaAlive
import Derived.Test.YtefhhldfelmnkaaLawK
import Derived.Test.YtefhhldfelmnkaaOpenN
namespace Go.Proofs.Ytefhhldfelmnkaa.Cw
open Go.ChangeShapes Go.WideShapes Go.ChangeAt Go.RowKit Go.Maps Go.Deep Circ

theorem own_lrow {w : World} {base : Nat} {e : TypeId} {m : Nat} {A : Option Addr} {n q : Nat} {xs : List (List Value)} (h : OwnC w base e m (.slice A n q) xs) (hm : 0 < m) (hx : ∀ y ∈ xs, y.length = m) : LRow w w.heap.size m A xs ∧ xs.length ≤ q := by
  obtain ⟨A', q', hv, hr, hq, _⟩ := h.row hm hx
  injection hv with h1 h2 h3
  subst h1; subst h3
  exact ⟨hr, hq⟩
theorem Owned.lies {w : World} {B : Nat} {c : Cir} {s : Places} (h : Owned w B c s) : CLies w w.heap.size c s :=
  ⟨(own_lrow h.ins (by decide) (ints_len _)).1, (own_lrow h.lats (by decide) (tris_len _)).1, (own_lrow h.outs (by decide) (ints_len _)).1, (own_lrow h.bads (by decide) (ints_len _)).1, (own_lrow h.invs (by decide) (ints_len _)).1, (own_lrow h.ands (by decide) (tris_len _)).1, (own_lrow h.names (by decide) (nams_len _)).1⟩
theorem Owned.fits {w : World} {B : Nat} {c : Cir} {s s' : Places} (h : Owned w B c s') (hf : CFits c s) : CFits c s' :=
  ⟨hf.max, hf.ins, hf.outs, hf.bads, hf.invs, hf.lats, hf.ands, hf.names, hf.li, hf.lo, hf.lb, hf.lc, hf.ll, hf.la, hf.ln,
   by simpa [ints] using (own_lrow h.ins (by decide) (ints_len _)).2, by simpa [ints] using (own_lrow h.outs (by decide) (ints_len _)).2, by simpa [ints] using (own_lrow h.bads (by decide) (ints_len _)).2, by simpa [ints] using (own_lrow h.invs (by decide) (ints_len _)).2, by simpa [tris] using (own_lrow h.lats (by decide) (tris_len _)).2, by simpa [tris] using (own_lrow h.ands (by decide) (tris_len _)).2, by simpa [nams] using (own_lrow h.names (by decide) (nams_len _)).2⟩
theorem Owned.keep_at {w w' : World} {B : Nat} {c : Cir} {s : Places} (h : Owned w B c s) (hb : ∀ k, B ≤ k → k < w.heap.size → w'.heap[k]? = w.heap[k]?) : Owned w' B c s := by
  have kp : ∀ {e m v xs}, OwnC w B e m v xs → OwnC w' B e m v xs := fun h => h.keep_at fun g hg hv => hb g hg (h.block_lt g hv).2
  exact ⟨kp h.ins, kp h.lats, kp h.outs, kp h.bads, kp h.invs, kp h.ands, kp h.names⟩
theorem own_wri {w : World} {B : Nat} {e : TypeId} {m : Nat} {A : Option Addr} {n q : Nat} {xs : List (List Value)} (h : OwnC w B e m (.slice A n q) xs) (hx : xs.length = n) (hy : ∀ y ∈ xs, y.length = m) : Wri w B w.heap.size m A n := by
  obtain ⟨h0, h⟩ := h
  rcases h with ⟨hv, h0⟩ | ⟨g, cap, cur, hv, hb, hh, hn, hm, hs, ht⟩
  · left; rw [← hx]; exact h0
  · injection hv with h1 h2 h3
    subst h1
    refine .inr ⟨g, 0, e, cur, rfl, hb, (Array.getElem?_eq_some_iff.1 hh).1, hh, ?_⟩
    have hl := congrArg List.length ht
    have hf : xs.flatten.length = xs.length * m := flatten_len m xs hy
    rw [List.length_take, hf] at hl
    rw [← hx]
    have : xs.length * m ≤ cur.toList.length := by omega
    simpa using this
theorem Owned.later {w w' : World} {B : Nat} {c : Cir} {s : Places} (h : Owned w B c s) (hb : Below w.heap.size w w') : Owned w' B c s := h.keep_at fun k _ hk => hb.block k hk

theorem Wri.keep {w w' : World} {base hi m : Nat} {A : Option Addr} {n : Nat} (h : Wri w base hi m A n) (hb : ∀ k, k < hi → w'.heap[k]? = w.heap[k]?) : Wri w' base hi m A n := by
  rcases h with h | ⟨g, o, e, cur, hA, h1, h2, h3, h4⟩
  · exact .inl h
  · exact .inr ⟨g, o, e, cur, hA, h1, h2, (hb g h2).trans h3, h4⟩
theorem cells8 {w : World} {g : Nat} {c : Cir} {s : Places} (h : w.heap[g]? = some (.cells (cirC c s) 27 (0, 0))) : w.cell? ⟨g, 0, none⟩ = some (.int .i64 c.max) ∧ w.cell? ⟨g, 1, none⟩ = some (.slice s.ai c.ins.length s.ki) ∧ w.cell? ⟨g, 2, none⟩ = some (.slice s.al c.lats.length s.kl) ∧ w.cell? ⟨g, 3, none⟩ = some (.slice s.ao c.outs.length s.ko) ∧ w.cell? ⟨g, 4, none⟩ = some (.slice s.ab c.bads.length s.kb) ∧ w.cell? ⟨g, 5, none⟩ = some (.slice s.ac c.invs.length s.kc) ∧ w.cell? ⟨g, 6, none⟩ = some (.slice s.aa c.ands.length s.ka) ∧ w.cell? ⟨g, 7, none⟩ = some (.slice s.an c.names.length s.kn) := by
  have e : ∀ i, w.cell? ⟨g, i, none⟩ = (cirC c s)[i]? := fun i => by simp [World.cell?, h]
  exact ⟨e 0, e 1, e 2, e 3, e 4, e 5, e 6, e 7⟩
set_option maxHeartbeats 4000000 in
set_option maxRecDepth 100000 in
theorem copies_walk (c : Cir) (s : Places) (w : World) (h : CLies w w.heap.size c s) (hf : CFits c s) (hn : ∀ x ∈ c.names, x.kind.size ≤ 281474976710656 ∧ x.text.size ≤ 281474976710656) :
    Calls Try.prog 3 #[cirV c s] w fun e w' => e = .returned (.bool true) ∧ Below w.heap.size w w' := by
  have HB1 : Hid (Below w.heap.size w (w.alloc (.cells (cirC c s) 27))) := (Below.refl _ _).alloc (Nat.le_refl _) _
  have HS1 : Hid ((w.alloc (.cells (cirC c s) 27)).heap.size = w.heap.size + 1) := by unfold Hid; simp
  have H := Lib.hid h
  have HF := Lib.hid hf
  have HN := Lib.hid hn
  have BX := Lib.hid (Box.made w c s)
  clear h hf hn
  unfold cirV
  rw [show cirC c s = #[.int .i64 c.max, .slice s.ai c.ins.length s.ki, .slice s.al c.lats.length s.kl, .slice s.ao c.outs.length s.ko, .slice s.ab c.bads.length s.kb, .slice s.ac c.invs.length s.kc, .slice s.aa c.ands.length s.ka, .slice s.an c.names.length s.kn] from rfl] at HB1 HS1 BX ⊢
  go_enter Try.func3, Try.ntmps3
  go_wp2_with fail
  refine (alive_any _).mono ?_
  rintro e w1 ⟨rfl, hba⟩
  have B1 : Hid (Below (w.heap.size + 1) (w.alloc (.cells #[.int .i64 c.max, .slice s.ai c.ins.length s.ki, .slice s.al c.lats.length s.kl, .slice s.ao c.outs.length s.ko, .slice s.ab c.bads.length s.kb, .slice s.ac c.invs.length s.kc, .slice s.aa c.ands.length s.ka, .slice s.an c.names.length s.kn] 27)) w1) := hba.mono (by simp)
  have Z1 : Hid (w.heap.size + 1 ≤ w1.heap.size) := by have := B1.out.size; rw [HS1.out] at this; exact this
  have W1 : Hid (Below w.heap.size w w1) := HB1.out.trans (B1.out.mono (by omega))
  obtain ⟨e0, e1, e2, e3, e4, e5, e6, e7⟩ := (BX.out.keep B1.out (Nat.lt_succ_self _)).cells
  clear hba
  have D1 := Lib.hid (own_any c s w1 ((H.out.below W1.out).more (by have := W1.out.size; omega)) HF.out)
  unfold cirV at D1
  rw [show cirC c s = #[.int .i64 c.max, .slice s.ai c.ins.length s.ki, .slice s.al c.lats.length s.kl, .slice s.ao c.outs.length s.ko, .slice s.ab c.bads.length s.kb, .slice s.ac c.invs.length s.kc, .slice s.aa c.ands.length s.ka, .slice s.an c.names.length s.kn] from rfl] at D1
  go_wp2_with fail
  refine D1.out.mono ?_
  rintro e w2 ⟨⟨s1, rfl, ho1⟩, hb2⟩
  have O1 := Lib.hid ho1
  have B2 := Lib.hid hb2
  have F1 := Lib.hid (ho1.fits HF.out)
  clear ho1 hb2 D1 e0 e1 e2 e3 e4 e5 e6 e7
  unfold cirC
  obtain ⟨W3, hW3⟩ : ∃ x, x = w2.alloc (.cells (cirC c s1) 27) := ⟨_, rfl⟩
  have Z3 : Hid (W3.heap.size = w2.heap.size + 1) := by unfold Hid; rw [hW3]; simp
  have B3 : Hid (Below w2.heap.size w2 W3) := by unfold Hid; rw [hW3]; exact (Below.refl _ _).alloc (Nat.le_refl _) _
  have X3 : Hid (W3.heap[w2.heap.size]? = some (.cells (cirC c s1) 27 (0, 0))) := by unfold Hid; rw [hW3]; exact Array.getElem?_push_size
  unfold cirC at hW3
  obtain ⟨G3, hG3⟩ : ∃ x, x = w2.heap.size := ⟨_, rfl⟩
  have Y3 := Lib.hid hG3
  have D3 := Lib.hid (copy_any c s1 W3 (O1.out.later B3.out).lies F1.out HN.out)
  unfold cirV cirC at D3
  go_wp2_with fail
  rw [← hW3, ← hG3]
  clear hW3 hG3
  refine D3.out.mono ?_
  rintro e w4 ⟨⟨s2, rfl, ho2⟩, hb4⟩
  have O2 := Lib.hid ho2
  have B4 := Lib.hid hb4
  clear ho2 hb4 D3
  obtain ⟨W5, hW5⟩ : ∃ x, x = w4.alloc (.cells (cirC c s2) 27) := ⟨_, rfl⟩
  have Z5 : Hid (W5.heap.size = w4.heap.size + 1) := by unfold Hid; rw [hW5]; simp
  have B5 : Hid (Below w4.heap.size w4 W5) := by unfold Hid; rw [hW5]; exact (Below.refl _ _).alloc (Nat.le_refl _) _
  have X5 : Hid (W5.heap[w4.heap.size]? = some (.cells (cirC c s2) 27 (0, 0))) := by unfold Hid; rw [hW5]; exact Array.getElem?_push_size
  unfold cirC at hW5
  have hW5' := hW5.symm
  clear hW5
  obtain ⟨G5, hG5⟩ : ∃ x, x = w4.heap.size := ⟨_, rfl⟩
  have Y5 := Lib.hid hG5
  clear hG5
  have Q : Hid (w.heap.size + 1 ≤ w1.heap.size ∧ w1.heap.size ≤ w2.heap.size ∧ w2.heap.size < W3.heap.size ∧ W3.heap.size ≤ w4.heap.size ∧ w4.heap.size < W5.heap.size ∧ G3 = w2.heap.size ∧ G5 = w4.heap.size) :=
    ⟨Z1.out, B2.out.size, by rw [Z3.out]; omega, B4.out.size, by rw [Z5.out]; omega, Y3.out, Y5.out⟩
  have T25 : Hid (∀ k, k < w2.heap.size → W5.heap[k]? = w2.heap[k]?) := fun k hk => by
    have q := Q.out
    rw [B5.out.block k (by omega), B4.out.block k (by omega), B3.out.block k hk]
  have X35 : Hid (W5.heap[G3]? = some (.cells (cirC c s1) 27 (0, 0))) := by
    have q := Q.out
    unfold Hid
    rw [B5.out.block G3 (by omega), B4.out.block G3 (by omega), Y3.out]; exact X3.out
  obtain ⟨e0, e1, e2, e3, e4, e5, e6, e7⟩ := cells8 X35.out
  have SP := Lib.hid (spoil_any c s1 (w1.heap.size + 2) w2.heap.size W5 (by have q := Q.out; have := (O1.out.names); have := Z3.out; have := Z5.out; omega) (by have q := Q.out; omega) F1.out
    ((own_wri O1.out.ins (by simp [ints]) (ints_len _)).keep T25.out) ((own_wri O1.out.lats (by simp [tris]) (tris_len _)).keep T25.out) ((own_wri O1.out.outs (by simp [ints]) (ints_len _)).keep T25.out) ((own_wri O1.out.bads (by simp [ints]) (ints_len _)).keep T25.out) ((own_wri O1.out.invs (by simp [ints]) (ints_len _)).keep T25.out) ((own_wri O1.out.ands (by simp [tris]) (tris_len _)).keep T25.out) ((own_wri O1.out.names (by simp [nams]) (nams_len _)).keep T25.out))
  unfold cirV cirC at SP
  go_wp2_with fail
  rw [← show G5 = w4.heap.size from Y5.out]
  clear hW5'
  refine SP.out.mono ?_
  rintro e w6 ⟨rfl, hb6, hk6⟩
  have B6 := Lib.hid hb6
  have K6 := Lib.hid hk6
  clear hb6 hk6 SP e0 e1 e2 e3 e4 e5 e6 e7
  have W6 : Hid (Below w.heap.size w w6) := by
    have q := Q.out
    exact W1.out.trans ((B2.out.mono (by omega)).trans ((B3.out.mono (by omega)).trans ((B4.out.mono (by omega)).trans ((B5.out.mono (by omega)).trans (B6.out.mono (by omega))))))
  have N6 : Hid (W5.heap.size ≤ w6.heap.size) := B6.out.size
  have L6 : Hid (CLies w6 w6.heap.size c s) := (H.out.below W6.out).more W6.out.size
  have O6 : Hid (Owned w6 W3.heap.size c s2) := (O2.out.later B5.out).keep_at fun k hk hk' => K6.out k (by have q := Q.out; omega) hk'
  have X16 : Hid (w6.heap[w.heap.size]? = some (.cells (cirC c s) 27 (0, 0))) := by
    have q := Q.out
    have x1 : w1.heap[w.heap.size]? = some (.cells (cirC c s) 27 (0, 0)) := (B1.out.block _ (by omega)).trans Array.getElem?_push_size
    unfold Hid
    rw [B6.out.block _ (by omega), B5.out.block _ (by omega), B4.out.block _ (by omega), B3.out.block _ (by omega), B2.out.block _ (by omega)]; exact x1
  have X56 : Hid (w6.heap[G5]? = some (.cells (cirC c s2) 27 (0, 0))) := by
    have q := Q.out
    unfold Hid
    rw [K6.out G5 (by omega) (by omega), Y5.out]; exact X5.out
  obtain ⟨e0, e1, e2, e3, e4, e5, e6, e7⟩ := cells8 X16.out
  obtain ⟨f0, f1, f2, f3, f4, f5, f6, f7⟩ := cells8 X56.out
  have R6 := Lib.hid (refsame_any c s s2 w6 L6.out O6.out.lies HF.out)
  unfold cirV cirC at R6
  go_wp2_with fail
  refine R6.out.mono ?_
  rintro e w7 ⟨rfl, hb7⟩
  have B7 := Lib.hid hb7
  clear hb7 R6 e0 e1 e2 e3 e4 e5 e6 e7 f0 f1 f2 f3 f4 f5 f6 f7
  have X17 : Hid (w7.heap[w.heap.size]? = some (.cells (cirC c s) 27 (0, 0))) := by
    have q := Q.out
    have n := N6.out
    exact (B7.out.block _ (by omega)).trans X16.out
  have X57 : Hid (w7.heap[G5]? = some (.cells (cirC c s2) 27 (0, 0))) := by
    have q := Q.out
    have n := N6.out
    exact (B7.out.block _ (by omega)).trans X56.out
  obtain ⟨e0, e1, e2, e3, e4, e5, e6, e7⟩ := cells8 X17.out
  obtain ⟨f0, f1, f2, f3, f4, f5, f6, f7⟩ := cells8 X57.out
  have R7 := Lib.hid (same_any c s s2 w7 ((L6.out.below B7.out).more B7.out.size) (O6.out.later B7.out).lies HF.out)
  unfold cirV cirC at R7
  go_wp2_with fail
  refine R7.out.mono ?_
  rintro e w8 ⟨rfl, hb8⟩
  have B8 := Lib.hid hb8
  clear hb8 R7 e0 e1 e2 e3 e4 e5 e6 e7 f0 f1 f2 f3 f4 f5 f6 f7
  go_wp2
  go_ret
  exact ⟨rfl, W6.out.trans ((B7.out.mono W6.out.size).trans (B8.out.mono (Nat.le_trans W6.out.size B7.out.size)))⟩
set_option maxRecDepth 100000 in
theorem copies_law {H : Type} {enc : TypeId × Value → H} (W : World) (v : Value) (d : DataW H) (p : List MemPlace) {r : Reach} {b0 : Nat} (hv : Value.okWide Try.prog W r b0 27 v) (h : DataW.Trod enc Try.prog W 0 (fun _ => true) true 27 v d p)
    {ts : List TypeId} {ds : List (DataW H)} (hsz : (DataW.weightsEach Try.prog (27 :: ts) (d :: ds)).all (· ≤ reachBytes) = true) :
    Calls Try.prog 3 #[v] W fun e W' => e = .returned (.bool true) ∧ Below W.heap.size W W' := by
  obtain ⟨c, s, rfl, hl, hf, hn⟩ := open_circ_n hv h (first_weights hsz)
  exact copies_walk c s W hl hf hn
end Go.Proofs.Ytefhhldfelmnkaa.Cw
