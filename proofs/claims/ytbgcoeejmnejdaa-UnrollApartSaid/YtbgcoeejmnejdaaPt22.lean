/- The walk of circuit.Copy: a circuit in memory of its own; condition: each name's texts take at most 2^48 bytes. -/
import Derived.Test.YtbgcoeejmnejdaaPt21
import Derived.Test.YtbgcoeejmnejdaaPt13
import Derived.Test.YtbgcoeejmnejdaaPt12
namespace Go.Proofs.Ytbgcoeejmnejdaa.Cpy
open Go.ChangeShapes Go.WideShapes Go.ChangeAt Go.RowKit Go.Maps Circ Cw

/-- lists of their own lie in blocks apart -/
def Sep (u v : Value) : Prop := ∀ g, u.ownBlock = some g → v.ownBlock ≠ some g
/-- the four lists of numbers lie in blocks apart -/
structure Apart (s : Places) : Prop where
  io : s.ai.map Addr.block = s.ao.map Addr.block → s.ai = none
  ib : s.ai.map Addr.block = s.ab.map Addr.block → s.ai = none
  ic : s.ai.map Addr.block = s.ac.map Addr.block → s.ai = none
  ob : s.ao.map Addr.block = s.ab.map Addr.block → s.ao = none
  oc : s.ao.map Addr.block = s.ac.map Addr.block → s.ao = none
  bc : s.ab.map Addr.block = s.ac.map Addr.block → s.ab = none
def four : List Nat := [10, 16, 19, 22]
theorem four_mem {t : Nat} (h : t ∈ four) : t = 10 ∨ t = 16 ∨ t = 19 ∨ t = 22 := by unfold four at h; simpa using h
structure Parts (f : Nat → Value) (w : World) : Prop where
  lt : ∀ t ∈ four, ∀ g, (f t).ownBlock = some g → g < w.heap.size
  ne : ∀ t ∈ four, ∀ u ∈ four, t ≠ u → Sep (f t) (f u)
theorem parts_start (f : Nat → Value) (w : World) (h : ∀ t ∈ four, (f t).ownBlock = none) : Parts f w := by
  refine ⟨fun t ht g hg => ?_, fun t ht u _ _ g hg => ?_⟩
  · rw [h t ht] at hg; exact absurd hg (by simp)
  · rw [h t ht] at hg; exact absurd hg (by simp)
theorem Parts.keep {f f' : Nat → Value} {w w' : World} (h : Parts f w) (hs : w.heap.size ≤ w'.heap.size) (hf : ∀ t ∈ four, f' t = f t) : Parts f' w' :=
  ⟨fun t ht g hg => by rw [hf t ht] at hg; exact Nat.lt_of_lt_of_le (h.lt t ht g hg) hs, fun t ht u hu hne => by rw [hf t ht, hf u hu]; exact h.ne t ht u hu hne⟩
theorem Parts.more {f f' : Nat → Value} {w w' : World} {s : Nat} {v : Value} (h : Parts f w) (hs : w.heap.size ≤ w'.heap.size) (hv : f' s = v) (hb : ∀ g, v.ownBlock = some g → w.heap.size ≤ g ∧ g < w'.heap.size) (hf : ∀ t ∈ four, t ≠ s → f' t = f t) : Parts f' w' := by
  refine ⟨fun t ht g hg => ?_, fun t ht u hu hne g hg => ?_⟩
  · by_cases e : t = s
    · subst e; rw [hv] at hg; exact (hb g hg).2
    · rw [hf t ht e] at hg; exact Nat.lt_of_lt_of_le (h.lt t ht g hg) hs
  · by_cases e : t = s
    · subst e
      rw [hv] at hg
      rw [hf u hu (Ne.symm hne)]
      intro hu'
      have h1 := h.lt u hu g hu'
      have h2 := (hb g hg).1
      omega
    · rw [hf t ht e] at hg
      by_cases e2 : u = s
      · subst e2
        rw [hv]
        intro hu'
        have h1 := h.lt t ht g hg
        have h2 := (hb g hu').1
        omega
      · rw [hf u hu e2]; exact h.ne t ht u hu hne g hg
theorem sep_none {A A' : Option Addr} {n n' q q' : Nat} (h : Sep (.slice A n q) (.slice A' n' q')) (he : A.map Addr.block = A'.map Addr.block) : A = none := by
  cases A with
  | none => rfl
  | some a =>
    exfalso
    cases A' with
    | none => cases he
    | some a' =>
      simp only [Option.map_some, Option.some.injEq] at he
      exact h a.block rfl (by rw [he]; rfl)
theorem Parts.apart {f : Nat → Value} {w : World} {A1 A2 A3 A4 A5 A6 A7 : Option Addr} {n1 n3 n4 n5 q1 q2 q3 q4 q5 q6 q7 : Nat} (h : Parts f w) (h10 : f 10 = .slice A1 n1 q1) (h16 : f 16 = .slice A3 n3 q3) (h19 : f 19 = .slice A4 n4 q4) (h22 : f 22 = .slice A5 n5 q5) : Apart ⟨A1, A2, A3, A4, A5, A6, A7, q1, q2, q3, q4, q5, q6, q7⟩ := by
  have s := h.ne
  have i1 := s 10 (by decide) 16 (by decide) (by decide)
  have i2 := s 10 (by decide) 19 (by decide) (by decide)
  have i3 := s 10 (by decide) 22 (by decide) (by decide)
  have i4 := s 16 (by decide) 19 (by decide) (by decide)
  have i5 := s 16 (by decide) 22 (by decide) (by decide)
  have i6 := s 19 (by decide) 22 (by decide) (by decide)
  rw [h10, h16] at i1
  rw [h10, h19] at i2
  rw [h10, h22] at i3
  rw [h16, h19] at i4
  rw [h16, h22] at i5
  rw [h19, h22] at i6
  exact ⟨sep_none i1, sep_none i2, sep_none i3, sep_none i4, sep_none i5, sep_none i6⟩

set_option maxHeartbeats 4000000 in
set_option maxRecDepth 100000 in
theorem copy_any (c : Cir) (s : Places) (w : World) (h : CLies w w.heap.size c s) (hf : CFits c s) (hn : ∀ x ∈ c.names, x.kind.size ≤ 281474976710656 ∧ x.text.size ≤ 281474976710656) :
    Calls Try.prog 45 #[cirV c s] w fun e w' => (∃ s', e = .returned (cirV c s') ∧ Owned w' w.heap.size c s' ∧ Apart s') ∧ Below w.heap.size w w' := by
  have H := Lib.hid h
  have HF := Lib.hid hf
  have E22 : Hid (∀ args w, (callFunc 92 args).run Try.prog w = .ok (.enter 92 args) w) := enters_of Try.func92 (by kernel_rfl) rfl
  have E23 : Hid (∀ args w, (callFunc 93 args).run Try.prog w = .ok (.enter 93 args) w) := enters_of Try.func93 (by kernel_rfl) rfl
  have E24 : Hid (∀ args w, (callFunc 94 args).run Try.prog w = .ok (.enter 94 args) w) := enters_of Try.func94 (by kernel_rfl) rfl
  have E25 : Hid (∀ args w, (callFunc 95 args).run Try.prog w = .ok (.enter 95 args) w) := enters_of Try.func95 (by kernel_rfl) rfl
  have HN := Lib.hid hn
  have E26 : Hid (∀ args w, (callFunc 96 args).run Try.prog w = .ok (.enter 96 args) w) := enters_of Try.func96 (by kernel_rfl) rfl
  clear h hf hn
  unfold cirV
  rw [show cirC c s = #[.int .i64 c.max, .slice s.ai c.ins.length s.ki, .slice s.al c.lats.length s.kl, .slice s.ao c.outs.length s.ko, .slice s.ab c.bads.length s.kb, .slice s.ac c.invs.length s.kc, .slice s.aa c.ands.length s.ka, .slice s.an c.names.length s.kn] from rfl]
  go_enter Try.func45, Try.ntmps45
  go_wp2
  obtain ⟨W1, hW⟩ : ∃ x, x = ((w.alloc (.cells (cirC c s) 27)).alloc (.cells #[.int .i64 0, .slice none 0 0, .slice none 0 0, .slice none 0 0, .slice none 0 0, .slice none 0 0, .slice none 0 0, .slice none 0 0] 27)) := ⟨_, rfl⟩
  have HB : Hid (Below w.heap.size w W1) := by
    unfold Hid; rw [hW]; exact ((Below.refl _ _).alloc (Nat.le_refl _) _).alloc (by simp) _
  have HZ : Hid (W1.heap.size = w.heap.size + 2) := by unfold Hid; rw [hW]; simp
  have hw0 : W1.heap[w.heap.size]? = some (.cells (cirC c s) 27 (0, 0)) := by
    rw [hW, Below.heap_alloc _ _ _ (by simp)]; exact Array.getElem?_push_size
  have hw1 : ∃ z, z.size = 8 ∧ W1.heap[w.heap.size + 1]? = some (.cells z 27 (0, 0)) := by
    refine ⟨#[.int .i64 0, .slice none 0 0, .slice none 0 0, .slice none 0 0, .slice none 0 0, .slice none 0 0, .slice none 0 0, .slice none 0 0], rfl, ?_⟩
    rw [hW, show w.heap.size + 1 = (w.alloc (.cells (cirC c s) 27)).heap.size by simp]; exact Array.getElem?_push_size
  unfold cirC at hW
  rw [← hW]
  clear hW
  refine wp_region_valsO (by kernel_rfl) (by kernel_rfl) copyM (by kernel_rfl) (by kernel_rfl) (fun f w' => Below W1.heap.size W1 w' ∧ Parts f w') (copyR w.heap.size W1.heap.size c s) ⟨(Below.refl _ _).drew, parts_start _ _ (fun t ht => by rcases four_mem ht with rfl | rfl | rfl | rfl <;> rfl)⟩ ?_ (fun j f f' w w' hb hf h => copy_stab j hb hf h) ?_ ?_
  · intro j f w' hj
    have hj' : 26 ≤ j := hj
    unfold copyR
    split <;> first | trivial | omega
  · intro i o a' w' ho hk hokp hD K hK hK0
    obtain ⟨hok, hparts⟩ := hokp
    have hKn : (∀ t ∈ four, o.dst ≠ some t) → ∀ v w'', Below w'.heap.size w' w'' → Below W1.heap.size W1 w'' → (∀ f : Nat → Value, (∀ t, o.dst = some t → f t = v) → (∀ t, o.dst ≠ some t → f t = vals a' t) → copyR w.heap.size W1.heap.size c s i f w'') → K (a'.put o.dst v) w'' :=
      fun hno v w'' hb hbw hR => hK v w'' hb (fun f h1 h2 => ⟨hbw, hparts.keep hb.size fun t ht => h2 t (hno t ht)⟩) hR
    have hp : a'.tmps.getD 1 undef = .pointer (some ⟨w.heap.size, 0, none⟩) := hk.t 1 (by decide)
    have hc : ∀ k, w'.cell? ⟨w.heap.size, k, none⟩ = (cirC c s)[k]? := fun k => by
      rw [hok.cell (by have := HZ.out; show w.heap.size < _; omega)]
      simp [World.cell?, hw0]
    match i, ho, hD with
    | 0, ho, hD =>
      obtain rfl := Option.some.inj ho
      exact wp_val (op_field a' w' w.heap.size 0 1 (by decide) hp _ rfl) (hKn (by decide) _ _ (Below.refl _ _) hok (fun f h1 _ => h1 _ rfl))
    | 1, ho, hD =>
      obtain rfl := Option.some.inj ho
      exact wp_val (op_load a' w' _ 6 3 _ (hD 0 (by kernel_rfl)) (hc 0) _ (by decide) rfl) (hKn (by decide) _ _ (Below.refl _ _) hok (fun f h1 _ => h1 _ rfl))
    | 2, ho, hD =>
      obtain rfl := Option.some.inj ho
      exact wp_val (op_field a' w' w.heap.size 1 1 (by decide) hp _ rfl) (hKn (by decide) _ _ (Below.refl _ _) hok (fun f h1 _ => h1 _ rfl))
    | 3, ho, hD =>
      obtain rfl := Option.some.inj ho
      exact wp_val (op_load a' w' _ 8 22 _ (hD 2 (by kernel_rfl)) (hc 1) _ (by decide) rfl) (hKn (by decide) _ _ (Below.refl _ _) hok (fun f h1 _ => h1 _ rfl))
    | 4, ho, hD =>
      obtain rfl := Option.some.inj ho
      refine wp_enter (op_call a' w' 92 9 22 E22.out _ rfl) ?_
      rw [show a'.tmps.getD 9 undef = .slice s.ai c.ins.length s.ki from hD 3 (by kernel_rfl)]
      refine (clone22_any c.ins s.ai s.ki w' ((H.out.ins.below (HB.out.trans (hok.mono (by have := HZ.out; omega)))).more (by have := hok.size; have := HZ.out; omega)) HF.out.li).mono ?_
      rintro e w'' ⟨⟨v, rfl, ho⟩, hb⟩
      exact ⟨v, rfl, hK _ _ hb (fun f h1 h2 => ⟨hok.trans (hb.mono hok.size), hparts.more (s := 10) hb.size (h1 10 rfl) (fun g hg => ho.block_lt g hg) (fun t ht hne => h2 t (by simpa using Ne.symm hne))⟩) (fun f h1 _ => by show Cl w'' _ _ _ _ (f 10); rw [h1 10 rfl]; exact ho.base hok.size)⟩
    | 5, ho, hD =>
      obtain rfl := Option.some.inj ho
      exact wp_val (op_field a' w' w.heap.size 2 1 (by decide) hp _ rfl) (hKn (by decide) _ _ (Below.refl _ _) hok (fun f h1 _ => h1 _ rfl))
    | 6, ho, hD =>
      obtain rfl := Option.some.inj ho
      exact wp_val (op_load a' w' _ 11 23 _ (hD 5 (by kernel_rfl)) (hc 2) _ (by decide) rfl) (hKn (by decide) _ _ (Below.refl _ _) hok (fun f h1 _ => h1 _ rfl))
    | 7, ho, hD =>
      obtain rfl := Option.some.inj ho
      refine wp_enter (op_call a' w' 93 12 23 E23.out _ rfl) ?_
      rw [show a'.tmps.getD 12 undef = .slice s.al c.lats.length s.kl from hD 6 (by kernel_rfl)]
      refine (clone23_any c.lats s.al s.kl w' ((H.out.lats.below (HB.out.trans (hok.mono (by have := HZ.out; omega)))).more (by have := hok.size; have := HZ.out; omega)) HF.out.ll).mono ?_
      rintro e w'' ⟨⟨v, rfl, ho⟩, hb⟩
      exact ⟨v, rfl, hKn (by decide) _ _ hb (hok.trans (hb.mono hok.size)) (fun f h1 _ => by show Cl w'' _ _ _ _ (f 13); rw [h1 13 rfl]; exact ho.base hok.size)⟩
    | 8, ho, hD =>
      obtain rfl := Option.some.inj ho
      exact wp_val (op_field a' w' w.heap.size 3 1 (by decide) hp _ rfl) (hKn (by decide) _ _ (Below.refl _ _) hok (fun f h1 _ => h1 _ rfl))
    | 9, ho, hD =>
      obtain rfl := Option.some.inj ho
      exact wp_val (op_load a' w' _ 14 22 _ (hD 8 (by kernel_rfl)) (hc 3) _ (by decide) rfl) (hKn (by decide) _ _ (Below.refl _ _) hok (fun f h1 _ => h1 _ rfl))
    | 10, ho, hD =>
      obtain rfl := Option.some.inj ho
      refine wp_enter (op_call a' w' 92 15 22 E22.out _ rfl) ?_
      rw [show a'.tmps.getD 15 undef = .slice s.ao c.outs.length s.ko from hD 9 (by kernel_rfl)]
      refine (clone22_any c.outs s.ao s.ko w' ((H.out.outs.below (HB.out.trans (hok.mono (by have := HZ.out; omega)))).more (by have := hok.size; have := HZ.out; omega)) HF.out.lo).mono ?_
      rintro e w'' ⟨⟨v, rfl, ho⟩, hb⟩
      exact ⟨v, rfl, hK _ _ hb (fun f h1 h2 => ⟨hok.trans (hb.mono hok.size), hparts.more (s := 16) hb.size (h1 16 rfl) (fun g hg => ho.block_lt g hg) (fun t ht hne => h2 t (by simpa using Ne.symm hne))⟩) (fun f h1 _ => by show Cl w'' _ _ _ _ (f 16); rw [h1 16 rfl]; exact ho.base hok.size)⟩
    | 11, ho, hD =>
      obtain rfl := Option.some.inj ho
      exact wp_val (op_field a' w' w.heap.size 4 1 (by decide) hp _ rfl) (hKn (by decide) _ _ (Below.refl _ _) hok (fun f h1 _ => h1 _ rfl))
    | 12, ho, hD =>
      obtain rfl := Option.some.inj ho
      exact wp_val (op_load a' w' _ 17 22 _ (hD 11 (by kernel_rfl)) (hc 4) _ (by decide) rfl) (hKn (by decide) _ _ (Below.refl _ _) hok (fun f h1 _ => h1 _ rfl))
    | 13, ho, hD =>
      obtain rfl := Option.some.inj ho
      refine wp_enter (op_call a' w' 92 18 22 E22.out _ rfl) ?_
      rw [show a'.tmps.getD 18 undef = .slice s.ab c.bads.length s.kb from hD 12 (by kernel_rfl)]
      refine (clone22_any c.bads s.ab s.kb w' ((H.out.bads.below (HB.out.trans (hok.mono (by have := HZ.out; omega)))).more (by have := hok.size; have := HZ.out; omega)) HF.out.lb).mono ?_
      rintro e w'' ⟨⟨v, rfl, ho⟩, hb⟩
      exact ⟨v, rfl, hK _ _ hb (fun f h1 h2 => ⟨hok.trans (hb.mono hok.size), hparts.more (s := 19) hb.size (h1 19 rfl) (fun g hg => ho.block_lt g hg) (fun t ht hne => h2 t (by simpa using Ne.symm hne))⟩) (fun f h1 _ => by show Cl w'' _ _ _ _ (f 19); rw [h1 19 rfl]; exact ho.base hok.size)⟩
    | 14, ho, hD =>
      obtain rfl := Option.some.inj ho
      exact wp_val (op_field a' w' w.heap.size 5 1 (by decide) hp _ rfl) (hKn (by decide) _ _ (Below.refl _ _) hok (fun f h1 _ => h1 _ rfl))
    | 15, ho, hD =>
      obtain rfl := Option.some.inj ho
      exact wp_val (op_load a' w' _ 20 22 _ (hD 14 (by kernel_rfl)) (hc 5) _ (by decide) rfl) (hKn (by decide) _ _ (Below.refl _ _) hok (fun f h1 _ => h1 _ rfl))
    | 16, ho, hD =>
      obtain rfl := Option.some.inj ho
      refine wp_enter (op_call a' w' 92 21 22 E22.out _ rfl) ?_
      rw [show a'.tmps.getD 21 undef = .slice s.ac c.invs.length s.kc from hD 15 (by kernel_rfl)]
      refine (clone22_any c.invs s.ac s.kc w' ((H.out.invs.below (HB.out.trans (hok.mono (by have := HZ.out; omega)))).more (by have := hok.size; have := HZ.out; omega)) HF.out.lc).mono ?_
      rintro e w'' ⟨⟨v, rfl, ho⟩, hb⟩
      exact ⟨v, rfl, hK _ _ hb (fun f h1 h2 => ⟨hok.trans (hb.mono hok.size), hparts.more (s := 22) hb.size (h1 22 rfl) (fun g hg => ho.block_lt g hg) (fun t ht hne => h2 t (by simpa using Ne.symm hne))⟩) (fun f h1 _ => by show Cl w'' _ _ _ _ (f 22); rw [h1 22 rfl]; exact ho.base hok.size)⟩
    | 17, ho, hD =>
      obtain rfl := Option.some.inj ho
      exact wp_val (op_field a' w' w.heap.size 6 1 (by decide) hp _ rfl) (hKn (by decide) _ _ (Below.refl _ _) hok (fun f h1 _ => h1 _ rfl))
    | 18, ho, hD =>
      obtain rfl := Option.some.inj ho
      exact wp_val (op_load a' w' _ 23 24 _ (hD 17 (by kernel_rfl)) (hc 6) _ (by decide) rfl) (hKn (by decide) _ _ (Below.refl _ _) hok (fun f h1 _ => h1 _ rfl))
    | 19, ho, hD =>
      obtain rfl := Option.some.inj ho
      refine wp_enter (op_call a' w' 94 24 24 E24.out _ rfl) ?_
      rw [show a'.tmps.getD 24 undef = .slice s.aa c.ands.length s.ka from hD 18 (by kernel_rfl)]
      refine (clone24_any c.ands s.aa s.ka w' ((H.out.ands.below (HB.out.trans (hok.mono (by have := HZ.out; omega)))).more (by have := hok.size; have := HZ.out; omega)) HF.out.la).mono ?_
      rintro e w'' ⟨⟨v, rfl, ho⟩, hb⟩
      exact ⟨v, rfl, hKn (by decide) _ _ hb (hok.trans (hb.mono hok.size)) (fun f h1 _ => by show Cl w'' _ _ _ _ (f 25); rw [h1 25 rfl]; exact ho.base hok.size)⟩
    | 20, ho, hD =>
      obtain rfl := Option.some.inj ho
      exact wp_val (op_field a' w' w.heap.size 7 1 (by decide) hp _ rfl) (hKn (by decide) _ _ (Below.refl _ _) hok (fun f h1 _ => h1 _ rfl))
    | 21, ho, hD =>
      obtain rfl := Option.some.inj ho
      exact wp_val (op_load a' w' _ 26 25 _ (hD 20 (by kernel_rfl)) (hc 7) _ (by decide) rfl) (hKn (by decide) _ _ (Below.refl _ _) hok (fun f h1 _ => h1 _ rfl))
    | 22, ho, hD =>
      obtain rfl := Option.some.inj ho
      refine wp_enter (op_call a' w' 95 27 25 E25.out _ rfl) ?_
      rw [show a'.tmps.getD 27 undef = .slice s.an c.names.length s.kn from hD 21 (by kernel_rfl)]
      refine (clone25_any c.names s.an s.kn w' ((H.out.names.below (HB.out.trans (hok.mono (by have := HZ.out; omega)))).more (by have := hok.size; have := HZ.out; omega)) HF.out.ln).mono ?_
      rintro e w'' ⟨⟨v, rfl, ho⟩, hb⟩
      exact ⟨v, rfl, hKn (by decide) _ _ hb (hok.trans (hb.mono hok.size)) (fun f h1 _ => by show Cl w'' _ _ _ _ (f 28); rw [h1 28 rfl]; exact ho.base hok.size)⟩
    | 23, ho, hD =>
      obtain rfl := Option.some.inj ho
      have h7 : a'.tmps.getD 7 undef = _ := hD 1 (by kernel_rfl)
      obtain ⟨A1, q1, h10, -⟩ := OwnC.row (hD 4 (by kernel_rfl)) (by decide) (ints_len c.ins)
      rw [ints_length] at h10
      obtain ⟨A2, q2, h13, -⟩ := OwnC.row (hD 7 (by kernel_rfl)) (by decide) (tris_len c.lats)
      rw [tris_length] at h13
      obtain ⟨A3, q3, h16, -⟩ := OwnC.row (hD 10 (by kernel_rfl)) (by decide) (ints_len c.outs)
      rw [ints_length] at h16
      obtain ⟨A4, q4, h19, -⟩ := OwnC.row (hD 13 (by kernel_rfl)) (by decide) (ints_len c.bads)
      rw [ints_length] at h19
      obtain ⟨A5, q5, h22, -⟩ := OwnC.row (hD 16 (by kernel_rfl)) (by decide) (ints_len c.invs)
      rw [ints_length] at h22
      obtain ⟨A6, q6, h25, -⟩ := OwnC.row (hD 19 (by kernel_rfl)) (by decide) (tris_len c.ands)
      rw [tris_length] at h25
      obtain ⟨A7, q7, h28, -⟩ := OwnC.row (hD 22 (by kernel_rfl)) (by decide) (nams_len c.names)
      rw [nams_length] at h28
      refine wp_val (op_build a' w' _ _ _ _ _ _ _ _ _ _ _ _ _ _ _ _ _ _ _ _ _ _ h7 h10 h13 h16 h19 h22 h25 h28 _ rfl) (hKn (by decide) _ _ (Below.refl _ _) hok (fun f h1 h2 => ?_))
      show f 29 = .agg #[f 7, f 10, f 13, f 16, f 19, f 22, f 25, f 28] ∧ _
      rw [h1 29 rfl, h2 7 (by decide), h2 10 (by decide), h2 13 (by decide), h2 16 (by decide), h2 19 (by decide), h2 22 (by decide), h2 25 (by decide), h2 28 (by decide), show vals a' 7 = _ from h7, h10, h13, h16, h19, h22, h25, h28]
      exact ⟨rfl, ⟨_, rfl⟩, ⟨_, _, _, rfl⟩, ⟨_, _, _, rfl⟩, ⟨_, _, _, rfl⟩, ⟨_, _, _, rfl⟩, ⟨_, _, _, rfl⟩, ⟨_, _, _, rfl⟩, ⟨_, _, _, rfl⟩⟩
    | 24, ho, hD =>
      obtain rfl := Option.some.inj ho
      refine wp_val (op_alloc a' w' _ rfl) (hKn (by decide) _ _ ((Below.refl _ _).alloc (Nat.le_refl _) _) (hok.alloc hok.size _) (fun f h1 _ => ?_))
      exact ⟨w'.heap.size, _, h1 3 rfl, hok.size, Array.getElem?_push_size, rfl⟩
    | 25, ho, hD =>
      have e : o.op = .store 27 (.tmp 3) (.tmp 29) := (congrArg Oper.op (Option.some.inj ho)).symm
      obtain rfl := Option.some.inj ho
      obtain ⟨g, z, h3, hg1, hg2, hz⟩ : Fr _ _ _ := hD 24 (by kernel_rfl)
      obtain ⟨h29, ⟨m, h7⟩, ⟨A1, n1, q1, h10⟩, ⟨A2, n2, q2, h13⟩, ⟨A3, n3, q3, h16⟩, ⟨A4, n4, q4, h19⟩, ⟨A5, n5, q5, h22⟩, ⟨A6, n6, q6, h25⟩, ⟨A7, n7, q7, h28⟩⟩ : Bl (vals a') := hD 23 (by kernel_rfl)
      rw [h7, h10, h13, h16, h19, h22, h25, h28] at h29
      obtain ⟨w'', hr, hh, hbut⟩ := op_store a' w' g z hg2 hz m A1 A2 A3 A4 A5 A6 A7 n1 n2 n3 n4 n5 n6 n7 q1 q2 q3 q4 q5 q6 q7 h3 h29 _ e
      exact wp_skip hr (hK0 w'' rfl ⟨But.below hok hbut hg1, hparts.keep (Nat.le_of_eq hbut.z.symm) fun _ _ => rfl⟩ ⟨g, _, h3, hg1, hh, h29⟩ (fun j hj hq => copy_stab25 j hg2 hh rfl hbut hj hq))
    | i + 26, ho, _ => exact absurd ho (by simp)
  · intro a' w2 hk hokp hR
    obtain ⟨hok, hparts⟩ := hokp
    obtain ⟨g, z, h3, hg1, hg2, hg3⟩ : Fi _ _ _ _ := hR 25 (by decide)
    obtain ⟨h29, -⟩ : Bl (vals a') := hR 23 (by decide)
    have h7 : vals a' 7 = _ := hR 1 (by decide)
    obtain ⟨A1, q1, h10, l4, m4, n4⟩ := OwnC.row (hR 4 (by decide)) (by decide) (ints_len c.ins)
    rw [ints_length] at h10 m4
    obtain ⟨A2, q2, h13, l7, m7, n7⟩ := OwnC.row (hR 7 (by decide)) (by decide) (tris_len c.lats)
    rw [tris_length] at h13 m7
    obtain ⟨A3, q3, h16, l10, m10, n10⟩ := OwnC.row (hR 10 (by decide)) (by decide) (ints_len c.outs)
    rw [ints_length] at h16 m10
    obtain ⟨A4, q4, h19, l13, m13, n13⟩ := OwnC.row (hR 13 (by decide)) (by decide) (ints_len c.bads)
    rw [ints_length] at h19 m13
    obtain ⟨A5, q5, h22, l16, m16, n16⟩ := OwnC.row (hR 16 (by decide)) (by decide) (ints_len c.invs)
    rw [ints_length] at h22 m16
    obtain ⟨A6, q6, h25, l19, m19, n19⟩ := OwnC.row (hR 19 (by decide)) (by decide) (tris_len c.ands)
    rw [tris_length] at h25 m19
    obtain ⟨A7, q7, h28, l22, m22, n22⟩ := OwnC.row (hR 22 (by decide)) (by decide) (nams_len c.names)
    rw [nams_length] at h28 m22
    rw [h29, h7, h10, h13, h16, h19, h22, h25, h28] at hg3
    injection hg3 with hg3
    subst hg3
    have LI : Hid (CLies w2 w2.heap.size c ⟨A1, A2, A3, A4, A5, A6, A7, q1, q2, q3, q4, q5, q6, q7⟩) := ⟨l4, l7, l10, l13, l16, l19, l22⟩
    have hv3 : vals a' 3 = .pointer (some ⟨g, 0, none⟩) := h3
    have OI : Hid (Owned w2 W1.heap.size c ⟨A1, A2, A3, A4, A5, A6, A7, q1, q2, q3, q4, q5, q6, q7⟩) :=
      ⟨h10 ▸ hR 4 (by decide), h13 ▸ hR 7 (by decide), h16 ▸ hR 10 (by decide), h19 ▸ hR 13 (by decide), h22 ▸ hR 16 (by decide), h25 ▸ hR 19 (by decide), h28 ▸ hR 22 (by decide)⟩
    have APT : Hid (Apart ⟨A1, A2, A3, A4, A5, A6, A7, q1, q2, q3, q4, q5, q6, q7⟩) := hparts.apart h10 h16 h19 h22
    have H25 := Lib.hid m22
    clear hparts
    have BLK : Hid (∀ b', (Value.slice A7 c.names.length q7).ownBlock = some b' → ∃ cur, w2.heap[b']? = some (.cells cur 84 (0, 0))) := fun b' hb' => OwnC.type (hR 22 (by decide)) (by rw [h28]; exact hb')
    have G2 := Lib.hid hg2
    have HG1 := Lib.hid hg1
    have HOK := Lib.hid hok
    have w1z := hw1
    clear h29 h7 h10 h13 h16 h19 h22 h25 h28 l4 l7 l10 l13 l16 l19 l22 m4 m7 m10 m13 m16 m19 m22 n4 n7 n10 n13 n16 n19 hR hok hg1 h3 hw0 E22 E23 E24 E25
    obtain ⟨tm, df⟩ := a'
    obtain rfl : df = [] := hk.d
    have hs : tm.size = 56 := hk.n
    have k2 : tm.getD 2 undef = .pointer (some ⟨w.heap.size + 1, 0, none⟩) := hk.t 2 (by decide)
    have hl : tm = #[tm.getD 0 undef, tm.getD 1 undef, tm.getD 2 undef, tm.getD 3 undef, tm.getD 4 undef, tm.getD 5 undef, tm.getD 6 undef, tm.getD 7 undef, tm.getD 8 undef, tm.getD 9 undef, tm.getD 10 undef, tm.getD 11 undef, tm.getD 12 undef, tm.getD 13 undef, tm.getD 14 undef, tm.getD 15 undef, tm.getD 16 undef, tm.getD 17 undef, tm.getD 18 undef, tm.getD 19 undef, tm.getD 20 undef, tm.getD 21 undef, tm.getD 22 undef, tm.getD 23 undef, tm.getD 24 undef, tm.getD 25 undef, tm.getD 26 undef, tm.getD 27 undef, tm.getD 28 undef, tm.getD 29 undef, tm.getD 30 undef, tm.getD 31 undef, tm.getD 32 undef, tm.getD 33 undef, tm.getD 34 undef, tm.getD 35 undef, tm.getD 36 undef, tm.getD 37 undef, tm.getD 38 undef, tm.getD 39 undef, tm.getD 40 undef, tm.getD 41 undef, tm.getD 42 undef, tm.getD 43 undef, tm.getD 44 undef, tm.getD 45 undef, tm.getD 46 undef, tm.getD 47 undef, tm.getD 48 undef, tm.getD 49 undef, tm.getD 50 undef, tm.getD 51 undef, tm.getD 52 undef, tm.getD 53 undef, tm.getD 54 undef, tm.getD 55 undef] := (lit_tm tm 56 hs).trans rfl
    rw [k2] at hl
    generalize tm.getD 0 undef = x0 at hl
    generalize tm.getD 1 undef = x1 at hl
    rw [show tm.getD 3 undef = _ from hv3] at hl
    generalize tm.getD 4 undef = x4 at hl
    generalize tm.getD 5 undef = x5 at hl
    generalize tm.getD 6 undef = x6 at hl
    generalize tm.getD 7 undef = x7 at hl
    generalize tm.getD 8 undef = x8 at hl
    generalize tm.getD 9 undef = x9 at hl
    generalize tm.getD 10 undef = x10 at hl
    generalize tm.getD 11 undef = x11 at hl
    generalize tm.getD 12 undef = x12 at hl
    generalize tm.getD 13 undef = x13 at hl
    generalize tm.getD 14 undef = x14 at hl
    generalize tm.getD 15 undef = x15 at hl
    generalize tm.getD 16 undef = x16 at hl
    generalize tm.getD 17 undef = x17 at hl
    generalize tm.getD 18 undef = x18 at hl
    generalize tm.getD 19 undef = x19 at hl
    generalize tm.getD 20 undef = x20 at hl
    generalize tm.getD 21 undef = x21 at hl
    generalize tm.getD 22 undef = x22 at hl
    generalize tm.getD 23 undef = x23 at hl
    generalize tm.getD 24 undef = x24 at hl
    generalize tm.getD 25 undef = x25 at hl
    generalize tm.getD 26 undef = x26 at hl
    generalize tm.getD 27 undef = x27 at hl
    generalize tm.getD 28 undef = x28 at hl
    generalize tm.getD 29 undef = x29 at hl
    generalize tm.getD 30 undef = x30 at hl
    generalize tm.getD 31 undef = x31 at hl
    generalize tm.getD 32 undef = x32 at hl
    generalize tm.getD 33 undef = x33 at hl
    generalize tm.getD 34 undef = x34 at hl
    generalize tm.getD 35 undef = x35 at hl
    generalize tm.getD 36 undef = x36 at hl
    generalize tm.getD 37 undef = x37 at hl
    generalize tm.getD 38 undef = x38 at hl
    generalize tm.getD 39 undef = x39 at hl
    generalize tm.getD 40 undef = x40 at hl
    generalize tm.getD 41 undef = x41 at hl
    generalize tm.getD 42 undef = x42 at hl
    generalize tm.getD 43 undef = x43 at hl
    generalize tm.getD 44 undef = x44 at hl
    generalize tm.getD 45 undef = x45 at hl
    generalize tm.getD 46 undef = x46 at hl
    generalize tm.getD 47 undef = x47 at hl
    generalize tm.getD 48 undef = x48 at hl
    generalize tm.getD 49 undef = x49 at hl
    generalize tm.getD 50 undef = x50 at hl
    generalize tm.getD 51 undef = x51 at hl
    generalize tm.getD 52 undef = x52 at hl
    generalize tm.getD 53 undef = x53 at hl
    generalize tm.getD 54 undef = x54 at hl
    generalize tm.getD 55 undef = x55 at hl
    clear k2 hs hk
    subst hl
    clear hv3
    have LN : Hid (LRow w2 w2.heap.size 3 A7 (nams c.names)) := LI.out.names
    have ln := HF.out.ln
    have c7 : w2.cell? ⟨g, 7, none⟩ = some (.slice A7 c.names.length q7) := by simp [World.cell?, hg2]
    have HGZ0 : Hid (g < w2.heap.size) := (Array.getElem?_eq_some_iff.1 G2.out).1
    clear hg2
    simp only [Exit.then]
    go_wp2
    go_loopw [33] (fun i wr => ∃ k : Nat, k ≤ c.names.length ∧ i = .int .i64 k ∧ Below w2.heap.size w2 wr) (fun i _ => c.names.length - (intOf i).toNat)
    case atStart => exact ⟨0, Nat.zero_le _, rfl, Below.refl _ _⟩
    case round =>
      obtain ⟨k, hk, rfl, hb⟩ := hrel
      have HBR := Lib.hid hb
      clear c7
      by_cases hlt : k < c.names.length
      · obtain ⟨b, o, hA7, hbb, c0, c1, c2⟩ := (LN.out.below HBR.out).nam hlt
        subst hA7
        obtain ⟨hs1, hs2⟩ := HN.out c.names[k] (List.getElem_mem _)
        obtain ⟨cur, hcur⟩ := BLK.out b rfl
        have hfz : ∀ w', Below w2.heap.size w2 w' → ∀ i, w'.frozen? ⟨b, i, none⟩ = false := fun w' hw i => by
          simp [World.frozen?, hw.block b hbb, hcur]
        have HFZ := Lib.hid hfz
        have c7 : wr.cell? ⟨g, 7, none⟩ = some (.slice (some ⟨b, o, none⟩) c.names.length q7) := by
          have := (Array.getElem?_eq_some_iff.1 G2.out).1
          simp [World.cell?, HBR.out.block g this, G2.out]
        have HGZ : Hid (g < w2.heap.size) := (Array.getElem?_eq_some_iff.1 G2.out).1
        have HBZ := Lib.hid hbb
        generalize c.names[k].kind = kd at *
        generalize c.names[k].num = nu at *
        generalize c.names[k].text = tx at *
        have K1 := Lib.hid hs1
        have K2 := Lib.hid hs2
        have C0 := Lib.hid c0
        have C2 := Lib.hid c2
        clear hs1 hs2 hfz hb hcur hbb
        go_wp2
        obtain ⟨Wq, hWq⟩ : ∃ x, x = wr.alloc (.cells #[.string kd, .int .i64 nu, .string tx] 84) := ⟨_, rfl⟩
        have HQ : Hid (Below wr.heap.size wr Wq) := by
          unfold Hid; rw [hWq]; exact (Below.refl _ _).alloc (Nat.le_refl _) _
        have HQZ : Hid (Wq.heap.size = wr.heap.size + 1) := by unfold Hid; rw [hWq]; simp
        have HQX : Hid (Wq.heap[wr.heap.size]? = some (.cells #[.string kd, .int .i64 nu, .string tx] 84 (0, 0))) := by unfold Hid; rw [hWq]; exact Array.getElem?_push_size
        rw [← hWq]
        clear hWq
        have HQ2 : Hid (Below w2.heap.size w2 Wq) := HBR.out.trans (HQ.out.mono HBR.out.size)
        obtain ⟨X, hX⟩ : ∃ X, X = wr.heap.size := ⟨_, rfl⟩
        rw [← hX]
        rw [← hX] at HQZ HQX
        have F7 : Hid (∀ w', Below Wq.heap.size Wq w' → w'.cell? ⟨g, 7, none⟩ = some (.slice (some ⟨b, o, none⟩) c.names.length q7)) := fun w' hw => by
          have hgz := HGZ.out
          have hz := HQ2.out.size
          simp [World.cell?, hw.block g (by omega), HQ2.out.block g hgz, G2.out]
        have FX : Hid (∀ w', Below Wq.heap.size Wq w' → w'.heap[X]? = some (.cells #[.string kd, .int .i64 nu, .string tx] 84 (0, 0))) := fun w' hw => (hw.block X (by rw [HQZ.out]; omega)).trans HQX.out
        have FN : Hid (∀ w', Below Wq.heap.size Wq w' → w'.cell? ⟨b, o + k * 3, none⟩ = some (.string kd) ∧ w'.cell? ⟨b, o + k * 3 + 2, none⟩ = some (.string tx) ∧ ∀ i, w'.frozen? ⟨b, i, none⟩ = false) := fun w' hw => by
          have hz := HBZ.out
          have h1 := HBR.out.size
          have h2 := HQ.out.size
          refine ⟨?_, ?_, HFZ.out w' (HQ2.out.trans (hw.mono HQ2.out.size))⟩
          · rw [hw.cell (by show b < _; omega), HQ.out.cell (by show b < _; omega)]; exact C0.out
          · rw [hw.cell (by show b < _; omega), HQ.out.cell (by show b < _; omega)]; exact C2.out
        clear c0 c1 c2 c7 hX
        refine wp_region_vals (by kernel_rfl) (by kernel_rfl) (fun j => if j < 8 then [38 + j] else []) (by kernel_rfl) (by kernel_rfl) (fun w' => Below Wq.heap.size Wq w') (nameR g b o c.names.length q7 k X 38 0 (o + k * 3) kd) (Below.refl _ _).drew ?_ (fun j f f' w w' _ hf h => name_stab _ _ _ _ _ _ _ _ _ _ _ j hf h) ?_ ?_
        · intro j f w' hj
          have hj' : 9 ≤ j := hj
          unfold nameR
          split <;> first | trivial | omega
        · intro i oo a' w' ho hk hok hD K hK hK0
          have p3 : a'.tmps.getD 3 undef = .pointer (some ⟨g, 0, none⟩) := hk.t 3 (by decide)
          have p4 : a'.tmps.getD 4 undef = .int .i64 k := hk.t 4 (by decide)
          have p5 : a'.tmps.getD 5 undef = .pointer (some ⟨X, 0, none⟩) := hk.t 5 (by decide)
          match i, ho, hD with
          | 0, ho, hD =>
            have e := (congrArg Oper.op (Option.some.inj ho)).symm
            obtain rfl := Option.some.inj ho
            exact wp_val (op_field a' w' g 7 3 (by decide) p3 _ e) (hK _ _ (Below.refl _ _) hok (fun f h1 _ => h1 _ rfl))
          | 1, ho, hD =>
            have e := (congrArg Oper.op (Option.some.inj ho)).symm
            obtain rfl := Option.some.inj ho
            exact wp_val (op_load a' w' _ 38 25 _ (hD 0 (by kernel_rfl)) (F7.out w' hok) _ (by decide) e) (hK _ _ (Below.refl _ _) hok (fun f h1 _ => h1 _ rfl))
          | 2, ho, hD =>
            have e := (congrArg Oper.op (Option.some.inj ho)).symm
            obtain rfl := Option.some.inj ho
            exact wp_val (op_move a' w' 4 _ e) (hK _ _ (Below.refl _ _) hok (fun f h1 _ => (h1 _ rfl).trans p4))
          | 3, ho, hD =>
            have e := (congrArg Oper.op (Option.some.inj ho)).symm
            obtain rfl := Option.some.inj ho
            exact wp_val (op_field45 a' w' X 0 0 5 (by decide) p5 _ e) (hK _ _ (Below.refl _ _) hok (fun f h1 _ => (h1 _ rfl).trans (by simp)))
          | 4, ho, hD =>
            have e := (congrArg Oper.op (Option.some.inj ho)).symm
            obtain rfl := Option.some.inj ho
            exact wp_val (op_load a' w' _ 41 9 (.string kd) (hD 3 (by kernel_rfl)) (by simp [World.cell?, FX.out w' hok]) _ (by decide) e) (hK _ _ (Below.refl _ _) hok (fun f h1 _ => h1 _ rfl))
          | 5, ho, hD =>
            have e := (congrArg Oper.op (Option.some.inj ho)).symm
            obtain rfl := Option.some.inj ho
            refine wp_enter (op_call a' w' 96 42 9 E26.out _ e) ?_
            rw [show a'.tmps.getD 42 undef = .string kd from hD 4 (by kernel_rfl)]
            refine (strclone_any kd w' K1.out).mono ?_
            rintro e w'' ⟨rfl, hb⟩
            exact ⟨_, rfl, hK _ _ hb (hok.trans (hb.mono hok.size)) (fun f h1 _ => h1 _ rfl)⟩
          | 6, ho, hD =>
            have e := (congrArg Oper.op (Option.some.inj ho)).symm
            obtain rfl := Option.some.inj ho
            exact wp_val (op_index a' w' b o c.names.length q7 k 39 40 (hD 1 (by kernel_rfl)) (hD 2 (by kernel_rfl)) hlt _ e) (hK _ _ (Below.refl _ _) hok (fun f h1 _ => h1 _ rfl))
          | 7, ho, hD =>
            have e := (congrArg Oper.op (Option.some.inj ho)).symm
            obtain rfl := Option.some.inj ho
            exact wp_val (op_field45 a' w' b (o + k * 3) 0 44 (by decide) (hD 6 (by kernel_rfl)) _ e) (hK _ _ (Below.refl _ _) hok (fun f h1 _ => h1 _ rfl))
          | 8, ho, hD =>
            have e := (congrArg Oper.op (Option.some.inj ho)).symm
            obtain rfl := Option.some.inj ho
            have hc := (FN.out w' hok).1
            exact wp_skip (op_put a' w' ⟨b, o + k * 3, none⟩ kd 45 43 (hD 7 (by kernel_rfl)) (hD 5 (by kernel_rfl)) hc ((FN.out w' hok).2.2 _) _ e) (hK0 _ rfl (again_below hok hc) trivial (fun j _ hq => name_world _ _ _ _ _ _ _ _ _ _ _ j hq))
          | i + 9, ho, _ => exact absurd ho (by simp)
        · intro a' w5 hk hok _
          obtain ⟨tm, df⟩ := a'
          obtain rfl : df = [] := hk.d
          have hs : tm.size = 56 := hk.n
          have k0 : tm.getD 0 undef = x0 := hk.t 0 (by decide)
          have k1 : tm.getD 1 undef = x1 := hk.t 1 (by decide)
          have k2 : tm.getD 2 undef = .pointer (some ⟨w.heap.size + 1, 0, none⟩) := hk.t 2 (by decide)
          have k3 : tm.getD 3 undef = .pointer (some ⟨g, 0, none⟩) := hk.t 3 (by decide)
          have k4 : tm.getD 4 undef = .int .i64 k := hk.t 4 (by decide)
          have k5 : tm.getD 5 undef = .pointer (some ⟨X, 0, none⟩) := hk.t 5 (by decide)
          have k6 : tm.getD 6 undef = x6 := hk.t 6 (by decide)
          have k7 : tm.getD 7 undef = x7 := hk.t 7 (by decide)
          have k8 : tm.getD 8 undef = x8 := hk.t 8 (by decide)
          have k9 : tm.getD 9 undef = x9 := hk.t 9 (by decide)
          have k10 : tm.getD 10 undef = x10 := hk.t 10 (by decide)
          have k11 : tm.getD 11 undef = x11 := hk.t 11 (by decide)
          have k12 : tm.getD 12 undef = x12 := hk.t 12 (by decide)
          have k13 : tm.getD 13 undef = x13 := hk.t 13 (by decide)
          have k14 : tm.getD 14 undef = x14 := hk.t 14 (by decide)
          have k15 : tm.getD 15 undef = x15 := hk.t 15 (by decide)
          have k16 : tm.getD 16 undef = x16 := hk.t 16 (by decide)
          have k17 : tm.getD 17 undef = x17 := hk.t 17 (by decide)
          have k18 : tm.getD 18 undef = x18 := hk.t 18 (by decide)
          have k19 : tm.getD 19 undef = x19 := hk.t 19 (by decide)
          have k20 : tm.getD 20 undef = x20 := hk.t 20 (by decide)
          have k21 : tm.getD 21 undef = x21 := hk.t 21 (by decide)
          have k22 : tm.getD 22 undef = x22 := hk.t 22 (by decide)
          have k23 : tm.getD 23 undef = x23 := hk.t 23 (by decide)
          have k24 : tm.getD 24 undef = x24 := hk.t 24 (by decide)
          have k25 : tm.getD 25 undef = x25 := hk.t 25 (by decide)
          have k26 : tm.getD 26 undef = x26 := hk.t 26 (by decide)
          have k27 : tm.getD 27 undef = x27 := hk.t 27 (by decide)
          have k28 : tm.getD 28 undef = x28 := hk.t 28 (by decide)
          have k29 : tm.getD 29 undef = x29 := hk.t 29 (by decide)
          have k30 : tm.getD 30 undef = .pointer (some ⟨g, 7, none⟩) := hk.t 30 (by decide)
          have k31 : tm.getD 31 undef = .slice (some ⟨b, o, none⟩) c.names.length q7 := hk.t 31 (by decide)
          have k32 : tm.getD 32 undef = .int .i64 c.names.length := hk.t 32 (by decide)
          have k33 : tm.getD 33 undef = .int .i64 k := hk.t 33 (by decide)
          have hl : tm = #[tm.getD 0 undef, tm.getD 1 undef, tm.getD 2 undef, tm.getD 3 undef, tm.getD 4 undef, tm.getD 5 undef, tm.getD 6 undef, tm.getD 7 undef, tm.getD 8 undef, tm.getD 9 undef, tm.getD 10 undef, tm.getD 11 undef, tm.getD 12 undef, tm.getD 13 undef, tm.getD 14 undef, tm.getD 15 undef, tm.getD 16 undef, tm.getD 17 undef, tm.getD 18 undef, tm.getD 19 undef, tm.getD 20 undef, tm.getD 21 undef, tm.getD 22 undef, tm.getD 23 undef, tm.getD 24 undef, tm.getD 25 undef, tm.getD 26 undef, tm.getD 27 undef, tm.getD 28 undef, tm.getD 29 undef, tm.getD 30 undef, tm.getD 31 undef, tm.getD 32 undef, tm.getD 33 undef, tm.getD 34 undef, tm.getD 35 undef, tm.getD 36 undef, tm.getD 37 undef, tm.getD 38 undef, tm.getD 39 undef, tm.getD 40 undef, tm.getD 41 undef, tm.getD 42 undef, tm.getD 43 undef, tm.getD 44 undef, tm.getD 45 undef, tm.getD 46 undef, tm.getD 47 undef, tm.getD 48 undef, tm.getD 49 undef, tm.getD 50 undef, tm.getD 51 undef, tm.getD 52 undef, tm.getD 53 undef, tm.getD 54 undef, tm.getD 55 undef] := (lit_tm tm 56 hs).trans rfl
          rw [k0, k1, k2, k3, k4, k5, k6, k7, k8, k9, k10, k11, k12, k13, k14, k15, k16, k17, k18, k19, k20, k21, k22, k23, k24, k25, k26, k27, k28, k29, k30, k31, k32, k33] at hl
          generalize tm.getD 34 undef = y34 at hl
          generalize tm.getD 35 undef = y35 at hl
          generalize tm.getD 36 undef = y36 at hl
          generalize tm.getD 37 undef = y37 at hl
          generalize tm.getD 38 undef = y38 at hl
          generalize tm.getD 39 undef = y39 at hl
          generalize tm.getD 40 undef = y40 at hl
          generalize tm.getD 41 undef = y41 at hl
          generalize tm.getD 42 undef = y42 at hl
          generalize tm.getD 43 undef = y43 at hl
          generalize tm.getD 44 undef = y44 at hl
          generalize tm.getD 45 undef = y45 at hl
          generalize tm.getD 46 undef = y46 at hl
          generalize tm.getD 47 undef = y47 at hl
          generalize tm.getD 48 undef = y48 at hl
          generalize tm.getD 49 undef = y49 at hl
          generalize tm.getD 50 undef = y50 at hl
          generalize tm.getD 51 undef = y51 at hl
          generalize tm.getD 52 undef = y52 at hl
          generalize tm.getD 53 undef = y53 at hl
          generalize tm.getD 54 undef = y54 at hl
          rw [show tm.getD 55 undef = x55 from hk.t 55 (by decide)] at hl
          clear k0 k1 k2 k3 k4 k5 k6 k7 k8 k9 k10 k11 k12 k13 k14 k15 k16 k17 k18 k19 k20 k21 k22 k23 k24 k25 k26 k27 k28 k29 k30 k31 k32 k33 hs hk
          subst hl
          simp only [Exit.then]
          have HOK5 := Lib.hid hok
          clear hok
          go_wp2
          refine wp_region_vals (by kernel_rfl) (by kernel_rfl) (fun j => if j < 8 then [46 + j] else []) (by kernel_rfl) (by kernel_rfl) (fun w' => Below Wq.heap.size Wq w') (nameR g b o c.names.length q7 k X 46 2 (o + k * 3 + 2) tx) HOK5.out.drew ?_ (fun j f f' w w' _ hf h => name_stab _ _ _ _ _ _ _ _ _ _ _ j hf h) ?_ ?_
          · intro j f w' hj
            have hj' : 9 ≤ j := hj
            unfold nameR
            split <;> first | trivial | omega
          · intro i oo a' w' ho hk hok hD K hK hK0
            have p3 : a'.tmps.getD 3 undef = .pointer (some ⟨g, 0, none⟩) := hk.t 3 (by decide)
            have p4 : a'.tmps.getD 4 undef = .int .i64 k := hk.t 4 (by decide)
            have p5 : a'.tmps.getD 5 undef = .pointer (some ⟨X, 0, none⟩) := hk.t 5 (by decide)
            match i, ho, hD with
            | 0, ho, hD =>
              have e := (congrArg Oper.op (Option.some.inj ho)).symm
              obtain rfl := Option.some.inj ho
              exact wp_val (op_field a' w' g 7 3 (by decide) p3 _ e) (hK _ _ (Below.refl _ _) hok (fun f h1 _ => h1 _ rfl))
            | 1, ho, hD =>
              have e := (congrArg Oper.op (Option.some.inj ho)).symm
              obtain rfl := Option.some.inj ho
              exact wp_val (op_load a' w' _ 46 25 _ (hD 0 (by kernel_rfl)) (F7.out w' hok) _ (by decide) e) (hK _ _ (Below.refl _ _) hok (fun f h1 _ => h1 _ rfl))
            | 2, ho, hD =>
              have e := (congrArg Oper.op (Option.some.inj ho)).symm
              obtain rfl := Option.some.inj ho
              exact wp_val (op_move a' w' 4 _ e) (hK _ _ (Below.refl _ _) hok (fun f h1 _ => (h1 _ rfl).trans p4))
            | 3, ho, hD =>
              have e := (congrArg Oper.op (Option.some.inj ho)).symm
              obtain rfl := Option.some.inj ho
              exact wp_val (op_field45 a' w' X 0 2 5 (by decide) p5 _ e) (hK _ _ (Below.refl _ _) hok (fun f h1 _ => (h1 _ rfl).trans (by simp)))
            | 4, ho, hD =>
              have e := (congrArg Oper.op (Option.some.inj ho)).symm
              obtain rfl := Option.some.inj ho
              exact wp_val (op_load a' w' _ 49 9 (.string tx) (hD 3 (by kernel_rfl)) (by simp [World.cell?, FX.out w' hok]) _ (by decide) e) (hK _ _ (Below.refl _ _) hok (fun f h1 _ => h1 _ rfl))
            | 5, ho, hD =>
              have e := (congrArg Oper.op (Option.some.inj ho)).symm
              obtain rfl := Option.some.inj ho
              refine wp_enter (op_call a' w' 96 50 9 E26.out _ e) ?_
              rw [show a'.tmps.getD 50 undef = .string tx from hD 4 (by kernel_rfl)]
              refine (strclone_any tx w' K2.out).mono ?_
              rintro e w'' ⟨rfl, hb⟩
              exact ⟨_, rfl, hK _ _ hb (hok.trans (hb.mono hok.size)) (fun f h1 _ => h1 _ rfl)⟩
            | 6, ho, hD =>
              have e := (congrArg Oper.op (Option.some.inj ho)).symm
              obtain rfl := Option.some.inj ho
              exact wp_val (op_index a' w' b o c.names.length q7 k 47 48 (hD 1 (by kernel_rfl)) (hD 2 (by kernel_rfl)) hlt _ e) (hK _ _ (Below.refl _ _) hok (fun f h1 _ => h1 _ rfl))
            | 7, ho, hD =>
              have e := (congrArg Oper.op (Option.some.inj ho)).symm
              obtain rfl := Option.some.inj ho
              exact wp_val (op_field45 a' w' b (o + k * 3) 2 52 (by decide) (hD 6 (by kernel_rfl)) _ e) (hK _ _ (Below.refl _ _) hok (fun f h1 _ => h1 _ rfl))
            | 8, ho, hD =>
              have e := (congrArg Oper.op (Option.some.inj ho)).symm
              obtain rfl := Option.some.inj ho
              have hc := (FN.out w' hok).2.1
              exact wp_skip (op_put a' w' ⟨b, o + k * 3 + 2, none⟩ tx 53 51 (hD 7 (by kernel_rfl)) (hD 5 (by kernel_rfl)) hc ((FN.out w' hok).2.2 _) _ e) (hK0 _ rfl (again_below hok hc) trivial (fun j _ hq => name_world _ _ _ _ _ _ _ _ _ _ _ j hq))
            | i + 9, ho, _ => exact absurd ho (by simp)
          · intro a' w6 hk hok _
            obtain ⟨tm, df⟩ := a'
            obtain rfl : df = [] := hk.d
            have hs : tm.size = 56 := hk.n
            have k0 : tm.getD 0 undef = x0 := hk.t 0 (by decide)
            have k1 : tm.getD 1 undef = x1 := hk.t 1 (by decide)
            have k2 : tm.getD 2 undef = .pointer (some ⟨w.heap.size + 1, 0, none⟩) := hk.t 2 (by decide)
            have k3 : tm.getD 3 undef = .pointer (some ⟨g, 0, none⟩) := hk.t 3 (by decide)
            have k4 : tm.getD 4 undef = .int .i64 k := hk.t 4 (by decide)
            have k5 : tm.getD 5 undef = .pointer (some ⟨X, 0, none⟩) := hk.t 5 (by decide)
            have k6 : tm.getD 6 undef = x6 := hk.t 6 (by decide)
            have k7 : tm.getD 7 undef = x7 := hk.t 7 (by decide)
            have k8 : tm.getD 8 undef = x8 := hk.t 8 (by decide)
            have k9 : tm.getD 9 undef = x9 := hk.t 9 (by decide)
            have k10 : tm.getD 10 undef = x10 := hk.t 10 (by decide)
            have k11 : tm.getD 11 undef = x11 := hk.t 11 (by decide)
            have k12 : tm.getD 12 undef = x12 := hk.t 12 (by decide)
            have k13 : tm.getD 13 undef = x13 := hk.t 13 (by decide)
            have k14 : tm.getD 14 undef = x14 := hk.t 14 (by decide)
            have k15 : tm.getD 15 undef = x15 := hk.t 15 (by decide)
            have k16 : tm.getD 16 undef = x16 := hk.t 16 (by decide)
            have k17 : tm.getD 17 undef = x17 := hk.t 17 (by decide)
            have k18 : tm.getD 18 undef = x18 := hk.t 18 (by decide)
            have k19 : tm.getD 19 undef = x19 := hk.t 19 (by decide)
            have k20 : tm.getD 20 undef = x20 := hk.t 20 (by decide)
            have k21 : tm.getD 21 undef = x21 := hk.t 21 (by decide)
            have k22 : tm.getD 22 undef = x22 := hk.t 22 (by decide)
            have k23 : tm.getD 23 undef = x23 := hk.t 23 (by decide)
            have k24 : tm.getD 24 undef = x24 := hk.t 24 (by decide)
            have k25 : tm.getD 25 undef = x25 := hk.t 25 (by decide)
            have k26 : tm.getD 26 undef = x26 := hk.t 26 (by decide)
            have k27 : tm.getD 27 undef = x27 := hk.t 27 (by decide)
            have k28 : tm.getD 28 undef = x28 := hk.t 28 (by decide)
            have k29 : tm.getD 29 undef = x29 := hk.t 29 (by decide)
            have k30 : tm.getD 30 undef = .pointer (some ⟨g, 7, none⟩) := hk.t 30 (by decide)
            have k31 : tm.getD 31 undef = .slice (some ⟨b, o, none⟩) c.names.length q7 := hk.t 31 (by decide)
            have k32 : tm.getD 32 undef = .int .i64 c.names.length := hk.t 32 (by decide)
            have k33 : tm.getD 33 undef = .int .i64 k := hk.t 33 (by decide)
            have hl : tm = #[tm.getD 0 undef, tm.getD 1 undef, tm.getD 2 undef, tm.getD 3 undef, tm.getD 4 undef, tm.getD 5 undef, tm.getD 6 undef, tm.getD 7 undef, tm.getD 8 undef, tm.getD 9 undef, tm.getD 10 undef, tm.getD 11 undef, tm.getD 12 undef, tm.getD 13 undef, tm.getD 14 undef, tm.getD 15 undef, tm.getD 16 undef, tm.getD 17 undef, tm.getD 18 undef, tm.getD 19 undef, tm.getD 20 undef, tm.getD 21 undef, tm.getD 22 undef, tm.getD 23 undef, tm.getD 24 undef, tm.getD 25 undef, tm.getD 26 undef, tm.getD 27 undef, tm.getD 28 undef, tm.getD 29 undef, tm.getD 30 undef, tm.getD 31 undef, tm.getD 32 undef, tm.getD 33 undef, tm.getD 34 undef, tm.getD 35 undef, tm.getD 36 undef, tm.getD 37 undef, tm.getD 38 undef, tm.getD 39 undef, tm.getD 40 undef, tm.getD 41 undef, tm.getD 42 undef, tm.getD 43 undef, tm.getD 44 undef, tm.getD 45 undef, tm.getD 46 undef, tm.getD 47 undef, tm.getD 48 undef, tm.getD 49 undef, tm.getD 50 undef, tm.getD 51 undef, tm.getD 52 undef, tm.getD 53 undef, tm.getD 54 undef, tm.getD 55 undef] := (lit_tm tm 56 hs).trans rfl
            rw [k0, k1, k2, k3, k4, k5, k6, k7, k8, k9, k10, k11, k12, k13, k14, k15, k16, k17, k18, k19, k20, k21, k22, k23, k24, k25, k26, k27, k28, k29, k30, k31, k32, k33] at hl
            generalize tm.getD 34 undef = y34 at hl
            generalize tm.getD 35 undef = y35 at hl
            generalize tm.getD 36 undef = y36 at hl
            generalize tm.getD 37 undef = y37 at hl
            generalize tm.getD 38 undef = y38 at hl
            generalize tm.getD 39 undef = y39 at hl
            generalize tm.getD 40 undef = y40 at hl
            generalize tm.getD 41 undef = y41 at hl
            generalize tm.getD 42 undef = y42 at hl
            generalize tm.getD 43 undef = y43 at hl
            generalize tm.getD 44 undef = y44 at hl
            generalize tm.getD 45 undef = y45 at hl
            generalize tm.getD 46 undef = y46 at hl
            generalize tm.getD 47 undef = y47 at hl
            generalize tm.getD 48 undef = y48 at hl
            generalize tm.getD 49 undef = y49 at hl
            generalize tm.getD 50 undef = y50 at hl
            generalize tm.getD 51 undef = y51 at hl
            generalize tm.getD 52 undef = y52 at hl
            generalize tm.getD 53 undef = y53 at hl
            generalize tm.getD 54 undef = y54 at hl
            rw [show tm.getD 55 undef = x55 from hk.t 55 (by decide)] at hl
            clear k0 k1 k2 k3 k4 k5 k6 k7 k8 k9 k10 k11 k12 k13 k14 k15 k16 k17 k18 k19 k20 k21 k22 k23 k24 k25 k26 k27 k28 k29 k30 k31 k32 k33 hs hk
            subst hl
            have HOK6 := Lib.hid hok
            clear hok
            go_wp2
            go_roundw
            case rel => exact ⟨k + 1, by omega, by go_num, HQ2.out.trans (HOK6.out.mono HQ2.out.size)⟩
            case measure => simp [intOf]; omega
      · obtain rfl : k = c.names.length := by omega
        have hgz := HGZ0.out
        have hG : wr.heap[g]? = some (.cells #[.int .i64 c.max, .slice A1 c.ins.length q1, .slice A2 c.lats.length q2, .slice A3 c.outs.length q3, .slice A4 c.bads.length q4, .slice A5 c.invs.length q5, .slice A6 c.ands.length q6, .slice A7 c.names.length q7] 27 (0, 0)) := (HBR.out.block g hgz).trans G2.out
        have hz2 := HOK.out.size
        have hz1 := HZ.out
        obtain ⟨z, hz8, hz⟩ := w1z
        have hW : wr.heap[w.heap.size + 1]? = some (.cells z 27 (0, 0)) := (HBR.out.block _ (by omega)).trans ((HOK.out.block _ (by omega)).trans hz)
        obtain ⟨Z1, Z2, Z3, Z4, Z5, Z6, Z7, Z8, u0, u1, u2, u3, u4, u5, u6, u7, ⟨s0, p0, t0⟩, ⟨s1, p1, t1⟩, ⟨s2, p2, t2⟩, ⟨s3, p3, t3⟩, ⟨s4, p4, t4⟩, ⟨s5, p5, t5⟩, ⟨s6, p6, t6⟩, ⟨s7, p7, t7⟩, hE, hbut⟩ := store8 hW hz8 (.int .i64 c.max) (.slice A1 c.ins.length q1) (.slice A2 c.lats.length q2) (.slice A3 c.outs.length q3) (.slice A4 c.bads.length q4) (.slice A5 c.invs.length q5) (.slice A6 c.ands.length q6) (.slice A7 c.names.length q7)
        have g0 : wr.cell? ⟨g, 0, none⟩ = some (.int .i64 c.max) := by simp [World.cell?, hG]
        have g1 : wr.cell? ⟨g, 1, none⟩ = some (.slice A1 c.ins.length q1) := by simp [World.cell?, hG]
        have g2 : wr.cell? ⟨g, 2, none⟩ = some (.slice A2 c.lats.length q2) := by simp [World.cell?, hG]
        have g3 : wr.cell? ⟨g, 3, none⟩ = some (.slice A3 c.outs.length q3) := by simp [World.cell?, hG]
        have g4 : wr.cell? ⟨g, 4, none⟩ = some (.slice A4 c.bads.length q4) := by simp [World.cell?, hG]
        have g5 : wr.cell? ⟨g, 5, none⟩ = some (.slice A5 c.invs.length q5) := by simp [World.cell?, hG]
        have g6 : wr.cell? ⟨g, 6, none⟩ = some (.slice A6 c.ands.length q6) := by simp [World.cell?, hG]
        have g7 : wr.cell? ⟨g, 7, none⟩ = some (.slice A7 c.names.length q7) := by simp [World.cell?, hG]
        have BW : Hid (Below w.heap.size w Z8) := by
          have h1 := HBR.out.mono (show w.heap.size ≤ w2.heap.size by omega)
          have h2 := HOK.out.mono (show w.heap.size ≤ W1.heap.size by omega)
          exact But.below (HB.out.trans (h2.trans h1)) hbut (by omega)
        have NE : Hid (g ≠ w.heap.size + 1) := by have := HG1.out; unfold Hid; omega
        have KP : ∀ {e m v xs}, OwnC w2 W1.heap.size e m v xs → OwnC Z8 w.heap.size e m v xs := fun h =>
          ((h.keep HBR.out).keep_at fun k hk _ => hbut.b k (by omega)).base (by omega)
        have LZ : Hid (Owned Z8 w.heap.size c ⟨A1, A2, A3, A4, A5, A6, A7, q1, q2, q3, q4, q5, q6, q7⟩) :=
          ⟨KP OI.out.ins, KP OI.out.lats, KP OI.out.outs, KP OI.out.bads, KP OI.out.invs, KP OI.out.ands, KP OI.out.names⟩
        clear KP
        have EE := Lib.hid hE
        have r0 : Z8.cell? ⟨w.heap.size + 1, 0, none⟩ = some (.int .i64 c.max) := by simp [World.cell?, hE]
        have r1 : Z8.cell? ⟨w.heap.size + 1, 1, none⟩ = some (.slice A1 c.ins.length q1) := by simp [World.cell?, hE]
        have r2 : Z8.cell? ⟨w.heap.size + 1, 2, none⟩ = some (.slice A2 c.lats.length q2) := by simp [World.cell?, hE]
        have r3 : Z8.cell? ⟨w.heap.size + 1, 3, none⟩ = some (.slice A3 c.outs.length q3) := by simp [World.cell?, hE]
        have r4 : Z8.cell? ⟨w.heap.size + 1, 4, none⟩ = some (.slice A4 c.bads.length q4) := by simp [World.cell?, hE]
        have r5 : Z8.cell? ⟨w.heap.size + 1, 5, none⟩ = some (.slice A5 c.invs.length q5) := by simp [World.cell?, hE]
        have r6 : Z8.cell? ⟨w.heap.size + 1, 6, none⟩ = some (.slice A6 c.ands.length q6) := by simp [World.cell?, hE]
        have r7 : Z8.cell? ⟨w.heap.size + 1, 7, none⟩ = some (.slice A7 c.names.length q7) := by simp [World.cell?, hE]
        clear hgz hG hz2 hz1 hz8 hz hW hE hbut hb hlt hk
        go_wp2
        (try simp only [Exit.inBlock, Exit.then])
        have hres : ∀ tmps : Array Value, tmps.getD 2 undef = .pointer (some ⟨w.heap.size + 1, 0, none⟩) → (results Try.f45 tmps).run Try.prog Z8 = .ok (cirV c ⟨A1, A2, A3, A4, A5, A6, A7, q1, q2, q3, q4, q5, q6, q7⟩) Z8 := fun tmps ht => by
          simp only [results, show Try.f45.results = #[ResultVar.cell 2 27] from rfl]
          have ht' : tmps[2]?.getD undef = .pointer (some ⟨w.heap.size + 1, 0, none⟩) := by simpa using ht
          go_simp
          rfl
        refine bodyPost_ret (hres _ rfl) rfl ?_
        exact ⟨⟨_, rfl, LZ.out, APT.out⟩, BW.out⟩
end Go.Proofs.Ytbgcoeejmnejdaa.Cpy
