/- What the laws of layer 4 call, in the forms that they want; conditions: the table of powers of ten is as it is laid, the cell of bytealg.MaxLen holds a number. -/
import Derived.Test.YtckdlbfndmmjjaaGreatDoorAagParseW
import Derived.Test.YtckdlbfndmmjjaaGreatDoorAagPrint2
import Derived.Test.YtckdlbfndmmjjaaGreatDoorSameR
import Derived.Test.YtckdlbfndmmjjaaGreatDoorOpenN
import Derived.Test.YtckdlbfndmmjjaaGreatDoorFrame
namespace Go.Proofs.YtckdlbfndmmjjaaGreatDoor.Aag
open Go.ChangeShapes Go.WideShapes Go.ChangeAt Go.RowKit Go.Maps Dig Circ Cw

theorem num_any (x : Int) (w : World) : Calls Tryz.prog 8 #[.int .i64 x] w fun e w' => e = .returned (.int .i64 x) ∧ w = w' := by
  go_enter Tryz.func8, Tryz.ntmps8
  go_wp2
  go_ret
  exact ⟨rfl, rfl⟩
theorem print_any2 (c : Cir) (s : Places) (w : World) (h : CLies w w.heap.size c s) (hf : CFits c s) (htab : Tab w) :
    Calls Tryz.prog 7 #[cirV c s] w fun e w' => e = .returned (if chk c = true then .tuple #[sv (textL c), .int .i64 0] else .tuple #[.string ⟨#[]⟩, .int .i64 9]) ∧ Below w.heap.size w w' := by
  cases hc : chk c
  · exact (print_no c s w h hf hc).mono fun e w' ⟨he, hb⟩ => ⟨by rw [he]; rfl, hb⟩
  · exact (print_yes c s w h hf hc htab).mono fun e w' ⟨he, hb⟩ => ⟨by rw [he]; rfl, hb⟩
theorem nil_text : textL nilC = [97, 97, 103, 32, 48, 32, 48, 32, 48, 32, 48, 32, 48, 32, 48, 32, 48, 10] := by
  have h0 : Lib.itoa 0 = [48] := by unfold Lib.itoa; rw [if_neg (by decide)]; exact dec_zero
  simp [textL, linesOf, headL, nilC, nums, nlL, joinL, h0]
theorem nil_chk : chk nilC = true := by decide
theorem alive_any (w : World) (htab : Tab w) : Calls Tryz.prog 6 #[] w fun e w' => e = .returned (.bool true) ∧ Below w.heap.size w w' := by
  have PR := Lib.hid (print_yes nilC nilP w (nil_lies _ _) nil_fits nil_chk htab)
  rw [nil_text] at PR
  unfold sv cirV at PR
  rw [show cirC nilC nilP = #[.int .i64 0, .slice none 0 0, .slice none 0 0, .slice none 0 0, .slice none 0 0, .slice none 0 0, .slice none 0 0, .slice none 0 0] from rfl] at PR
  clear htab
  go_enter Tryz.func6, Tryz.ntmps6
  go_wp2_with fail
  refine PR.out.mono ?_
  rintro e w1 ⟨rfl, hb⟩
  go_wp2_with (go_at_call 8; refine (num_any _ _).mono ?_; rintro e w' ⟨rfl, rfl⟩)
  go_ret
  exact ⟨rfl, hb⟩
theorem parseM_code {s : List UInt8} {b : Nat × Int} (h : parseM chk s = .error b) : (b.2 == 0) = false := by
  have hr : ∀ {α : Type} {L : List (List UInt8)} {wh a : Nat} {f : List UInt8 → Option α} {b : Nat × Int}, readAt L wh f a = .error b → b.2 = 8 ∨ b.2 = 33 := by
    intro α L wh a f b h
    unfold readAt at h
    split at h
    · cases h; exact .inl rfl
    · split at h
      · cases h
      · cases h; exact .inr rfl
  have hm : ∀ {α : Type} {L : List (List UInt8)} {wh : Nat} {f : List UInt8 → Option α} {b : Nat × Int} (n a : Nat) (acc : List α), manyGo L wh f n a acc = .error b → b.2 = 8 ∨ b.2 = 33 := by
    intro α L wh f b n
    induction n with
    | zero => intro a acc h; cases h
    | succ n ih =>
      intro a acc h
      rw [manyGo] at h
      cases hq : readAt L wh f a with
      | error e => rw [hq] at h; cases h; exact hr hq
      | ok x => rw [hq] at h; exact ih _ _ h
  have hn : ∀ {L : List (List UInt8)} {wh : Nat} {b : Nat × Int} (n a : Nat) (acc : List Nam), namesGo L wh n a acc = .error b → b.2 = 8 ∨ b.2 = 33 := by
    intro L wh b n
    induction n with
    | zero => intro a acc h; cases h
    | succ n ih =>
      intro a acc h
      rw [namesGo] at h
      split at h
      · cases h; exact .inl rfl
      · split at h
        · cases h
        · split at h
          · cases h; exact .inr rfl
          · exact ih _ _ h
  have hb : ∀ {α β : Type} {x : Got α} {f : α → Got β} {b : Nat × Int}, bindG x f = .error b → x = .error b ∨ ∃ a, x = .ok a ∧ f a = .error b := by
    intro α β x f b h
    cases x with
    | error e => cases h; exact .inl rfl
    | ok a => exact .inr ⟨a, rfl, h⟩
  have hc : ∀ {L : List (List UInt8)} {wh : Nat} {b : Nat × Int}, circM L wh = .error b → b.2 = 8 ∨ b.2 = 33 := by
    intro L wh b h
    rw [circM_k] at h
    rcases hb h with h | ⟨ns, -, h⟩
    · exact hr h
    rcases hb h with h | ⟨_, -, h⟩
    · exact hm _ _ _ h
    rcases hb h with h | ⟨_, -, h⟩
    · exact hm _ _ _ h
    rcases hb h with h | ⟨_, -, h⟩
    · exact hm _ _ _ h
    rcases hb h with h | ⟨_, -, h⟩
    · exact hm _ _ _ h
    rcases hb h with h | ⟨_, -, h⟩
    · exact hm _ _ _ h
    rcases hb h with h | ⟨_, -, h⟩
    · exact hm _ _ _ h
    rcases hb h with h | ⟨_, -, h⟩
    · exact hn _ _ _ h
    · cases h
  have : b.2 = 5 ∨ b.2 = 8 ∨ b.2 = 33 ∨ b.2 = 9 := by
    unfold parseM at h
    split at h
    · cases h; exact .inl rfl
    · rcases hb h with h | ⟨r, -, h⟩
      · exact .inr ((hc h).imp id .inl)
      · split at h
        · cases h
        · cases h; exact .inr (.inr (.inr rfl))
  rcases this with h | h | h | h <;> rw [h] <;> rfl
/-- what stays while a law runs that has boxed its circuit -/
structure Law (w : World) (c : Cir) (s : Places) (x : World) : Prop where
  bel : Below w.heap.size w x
  box : x.heap[w.heap.size]? = some (.cells (cirC c s) 27 (0, 0))
theorem Law.start (w : World) (c : Cir) (s : Places) : Law w c s (w.alloc (.cells (cirC c s) 27)) := ⟨(Below.refl _ _).alloc (Nat.le_refl _) _, Array.getElem?_push_size⟩
theorem Law.step {w : World} {c : Cir} {s : Places} {x y : World} (h : Law w c s x) (hb : Below x.heap.size x y) : Law w c s y := ⟨h.bel.trans (hb.mono h.bel.size), (hb.block _ (lt_of_block h.box)).trans h.box⟩
theorem Law.lies {w : World} {c : Cir} {s : Places} {x : World} (h : Law w c s x) (hl : CLies w w.heap.size c s) : CLies x x.heap.size c s := (hl.below h.bel).more h.bel.size
theorem Law.tab {w : World} {c : Cir} {s : Places} {x : World} (h : Law w c s x) (ht : Tab w) : Tab x := Tab.later ht h.bel
theorem Law.max {w : World} {c : Cir} {s : Places} {x : World} (h : Law w c s x) (hm : MaxCell w) : MaxCell x := hm.below hm.lt h.bel
theorem parse_back (s : List UInt8) (d : Cir) (n : Nat) (w : World) (hm : MaxCell w) (h : parseM chk s = .ok (d, n)) : Calls Tryz.prog 9 #[sv s] w fun e w' => ∃ P, e = .returned (.tuple #[cirV d P, .int .i64 n, .int .i64 0]) ∧ CLies w' w'.heap.size d P ∧ CFits d P ∧ Below w.heap.size w w' :=
  (parse_any s w hm).mono fun e w' ⟨hb, c, P, m, t, he, hl, hf, hq⟩ => by
    rw [h] at hq
    obtain ⟨rfl, rfl, rfl⟩ := hq
    exact ⟨P, he, hl, hf, hb⟩
theorem parse_not (s : List UInt8) (b : Nat × Int) (w : World) (hm : MaxCell w) (h : parseM chk s = .error b) : Calls Tryz.prog 9 #[sv s] w fun e w' => e = .returned (.tuple #[cirV nilC nilP, .int .i64 b.1, .int .i64 b.2]) ∧ Below w.heap.size w w' :=
  (parse_any s w hm).mono fun e w' ⟨hb, c, P, m, t, he, hl, hf, hq⟩ => by
    rw [h] at hq
    obtain ⟨rfl, rfl, rfl, rfl⟩ := hq
    exact ⟨he, hb⟩
theorem ext_list (u r : List UInt8) : ((⟨(u ++ r).toArray⟩ : ByteArray).extract 0 u.length).toList = u := by
  have h : (⟨(u ++ r).toArray⟩ : ByteArray).extract 0 u.length = ⟨u.toArray⟩ := ByteArray.ext (by rw [ByteArray.data_extract]; simp)
  rw [h]
  simp
theorem bytes_eq (a : ByteArray) (l : List UInt8) (h : a.data.toList = l) : a = ⟨l.toArray⟩ := by
  cases a with
  | mk d => simp only at h; rw [← h]
theorem text_short (c : Cir) {s : Places} (hf : CFits c s) (hfi : Fine c) (ht : ∀ x ∈ c.names, x.text.data.toList.length ≤ 32) (z : c.ins.length ≤ 64 ∧ c.lats.length ≤ 64 ∧ c.outs.length ≤ 64 ∧ c.bads.length ≤ 64 ∧ c.invs.length ≤ 64 ∧ c.ands.length ≤ 4097 ∧ c.names.length ≤ 320) : (textL c).length ≤ 1000000 := by
  obtain ⟨z1, z2, z3, z4, z5, z6, z7⟩ := z
  have hI : ∀ x ∈ headNs c, I64 x := by
    have h0 := hf.max
    intro x hx
    unfold headNs at hx
    simp only [List.mem_cons, List.not_mem_nil, or_false] at hx
    rcases hx with rfl | rfl | rfl | rfl | rfl | rfl | rfl
    · exact h0
    all_goals (constructor <;> omega)
  have l1 := head_short c hI
  have l2 := le_lits l1 hf.ins
  have l3 := lats_short c.lats hf.lats
  have l4 := nl_lits c.outs hf.outs
  have l5 := nl_lits c.bads hf.bads
  have l6 := nl_lits c.invs hf.invs
  have l7 := ands_short c.ands hf.ands
  have l8 := names_short c.names hfi.names ht z7
  have e : textL c = (headL c ++ [10] ++ nlL (c.ins.map litL)) ++ (nlL (c.lats.map latL) ++ (nlL (c.outs.map litL) ++ (nlL (c.bads.map litL) ++ (nlL (c.invs.map litL) ++ (nlL (c.ands.map andL) ++ nlL (c.names.map namL)))))) := by
    unfold textL linesOf
    rw [show headL c :: (c.ins.map litL ++ (c.lats.map latL ++ (c.outs.map litL ++ (c.bads.map litL ++ (c.invs.map litL ++ (c.ands.map andL ++ c.names.map namL)))))) = [headL c] ++ (c.ins.map litL ++ (c.lats.map latL ++ (c.outs.map litL ++ (c.bads.map litL ++ (c.invs.map litL ++ (c.ands.map andL ++ c.names.map namL)))))) from rfl]
    have e1 : nlL [headL c] = headL c ++ [10] := by simp [nlL]
    simp only [nl_append, e1, List.append_assoc]
  rw [e]
  simp only [List.length_append] at l1 l2 ⊢
  omega
end Go.Proofs.YtckdlbfndmmjjaaGreatDoor.Aag
