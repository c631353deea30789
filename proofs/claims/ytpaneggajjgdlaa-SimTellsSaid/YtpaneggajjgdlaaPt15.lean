/- Sorting a list of a call's own, and what is written down while what literals hang on is sought; no condition. The walk of circuit's Cone; no condition. The walk of strash.needed; no condition but that there is not too much. The walks of slices.Clone over a circuit's lists; no condition. A region that draws its order, by what holds behind each of its operations whatever came before it; no condition. A region that draws its order, by what each operation's own slot holds behind it; no condition. -/
import Derived.Test.YtpaneggajjgdlaaPt14
import Derived.Test.YtpaneggajjgdlaaPt00
import Derived.Test.YtpaneggajjgdlaaPt13
import Derived.Test.YtpaneggajjgdlaaPt10
import Derived.Test.YtpaneggajjgdlaaPt09
import Derived.Lib.SliceRun
import Derived.Test.YtpaneggajjgdlaaPt08
namespace Go.Proofs.Ytpaneggajjgdlaa.Cw
open Go.ChangeShapes Go.WideShapes Go.ChangeAt Go.RowKit Go.Maps Circ

theorem OwnI.mono {w : World} {base C : Nat} {v : Value} {xs : List Int} (h : OwnI w base v xs) (hC : C ≤ base) : OwnI w C v xs := by
  obtain ⟨h0, h⟩ := h
  refine ⟨h0, ?_⟩
  rcases h with h | ⟨g, cap, cur, hv, hg, r⟩
  · exact .inl h
  · exact .inr ⟨g, cap, cur, hv, by omega, r⟩

/-- what is written down behind k of the literals -/
def Got (ands : List Tri) (l : List Int) (k : Nat) (T : List Int) : Prop := T.Nodup ∧ (∀ u ∈ T, Hangs ands l u) ∧ ∀ x ∈ l.take k, cnt x / 2 = 0 ∨ cnt x / 2 ∈ T
def inn (T : List Int) (x : Int) : Prop := cnt x / 2 = 0 ∨ cnt x / 2 ∈ T
theorem inn_put (T : List Int) (x y : Int) (h : inn T y) : inn (put T x) y := by
  rcases h with h | h
  · exact .inl h
  · exact .inr ((mem_put T x _).2 (.inl h))
theorem inn_self (T : List Int) (x : Int) : inn (put T x) x := by
  by_cases h : cnt x / 2 = 0
  · exact .inl h
  · exact .inr ((mem_put T x _).2 (.inr ⟨rfl, h⟩))
theorem Got.zero (ands : List Tri) (l : List Int) : Got ands l 0 [] := ⟨List.nodup_nil, by simp, by simp⟩
theorem Got.put {ands : List Tri} {l : List Int} {k : Nat} {T : List Int} (h : Got ands l k T) (x : Int) (hx : cnt x / 2 ≠ 0 → Hangs ands l (cnt x / 2)) : Got ands l k (put T x) := by
  refine ⟨put_nodup T x h.1, fun u hu => ?_, fun y hy => inn_put T x y (h.2.2 y hy)⟩
  rcases (mem_put T x u).1 hu with h1 | ⟨rfl, h2⟩
  · exact h.2.1 u h1
  · exact hx h2
theorem Got.step {ands : List Tri} {l : List Int} {k : Nat} {T : List Int} (h : Got ands l k T) (hk : k < l.length) : Got ands l (k + 1) (Cw.put T l[k]) := by
  have h1 := h.put l[k] (fun h0 => .start _ (List.getElem_mem _) h0)
  refine ⟨h1.1, h1.2.1, fun y hy => ?_⟩
  rw [List.take_succ_eq_append_getElem hk, List.mem_append, List.mem_singleton] at hy
  rcases hy with hy | rfl
  · exact h1.2.2 y hy
  · exact inn_self T _
theorem Got.len {ands : List Tri} {l : List Int} {k : Nat} {T : List Int} (h : Got ands l k T) : T.length ≤ l.length + 2 * ands.length := hangs_len h.1 h.2.1
/-- the first j of them have been gone through -/
def Clo (ands : List Tri) (j : Nat) (T : List Int) : Prop := ∀ (i : Nat) (h : i < T.length), i < j → ∀ t, andOf ands T[i] = some t → inn T t.b ∧ inn T t.c
theorem Clo.zero (ands : List Tri) (T : List Int) : Clo ands 0 T := fun _ _ h => by omega
theorem Clo.put {ands : List Tri} {j : Nat} {T : List Int} (h : Clo ands j T) (hj : j ≤ T.length) (x : Int) : Clo ands j (Cw.put T x) := fun i hi hij t ht => by
  obtain ⟨_, e⟩ := put_get T x i (by omega)
  rw [e] at ht
  obtain ⟨a, b⟩ := h i (by omega) hij t ht
  exact ⟨inn_put T x _ a, inn_put T x _ b⟩
theorem Clo.skip {ands : List Tri} {j : Nat} {T : List Int} (h : Clo ands j T) (hj : j < T.length) (hn : andOf ands T[j] = none) : Clo ands (j + 1) T := fun i hi hij t ht => by
  by_cases e : i = j
  · subst e; rw [hn] at ht; cases ht
  · exact h i hi (by omega) t ht
theorem Clo.more {ands : List Tri} {j : Nat} {T : List Int} (h : Clo ands j T) (hj : j < T.length) (t : Tri) (hn : andOf ands T[j] = some t) : Clo ands (j + 1) (Cw.put (Cw.put T t.b) t.c) := fun i hi hij t' ht => by
  have h2 := (h.put (by omega) t.b).put (by have := put_len T t.b; omega) t.c
  by_cases e : i = j
  · subst e
    obtain ⟨h3, e1⟩ := put_get T t.b i hj
    obtain ⟨_, e2⟩ := put_get (Cw.put T t.b) t.c i h3
    rw [e2, e1, hn] at ht
    obtain rfl := Option.some.inj ht
    exact ⟨inn_put _ _ _ (inn_self T _), inn_self _ _⟩
  · exact h2 i hi (by omega) t' ht
theorem Clo.done {ands : List Tri} {l T : List Int} (h : Clo ands T.length T) (g : Got ands l l.length T) (u : Int) : u ∈ T ↔ Hangs ands l u := by
  refine ⟨g.2.1 u, fun hu => ?_⟩
  have key : ∀ v ∈ T, ∀ t, andOf ands v = some t → inn T t.b ∧ inn T t.c := fun v hv t ht => by
    obtain ⟨i, hi, rfl⟩ := List.getElem_of_mem hv
    exact h i hi hi t ht
  induction hu with
  | start x hx h0 =>
    rcases g.2.2 x (by rwa [List.take_of_length_le (Nat.le_refl _)]) with h1 | h1
    · exact absurd h1 h0
    · exact h1
  | left v t _ ht h0 ih =>
    rcases (key v ih t ht).1 with h1 | h1
    · exact absurd h1 h0
    · exact h1
  | right v t _ ht h0 ih =>
    rcases (key v ih t ht).2 with h1 | h1
    · exact absurd h1 h0
    · exact h1
end Go.Proofs.Ytpaneggajjgdlaa.Cw
namespace Go.Proofs.Ytpaneggajjgdlaa.Cw
open Go.ChangeShapes Go.WideShapes Go.ChangeAt Go.RowKit Go.Maps Circ

end Go.Proofs.Ytpaneggajjgdlaa.Cw
namespace Go.Proofs.Ytpaneggajjgdlaa.Str
open Go.ChangeShapes Go.WideShapes Go.ChangeAt Go.RowKit Go.Maps Circ Cw

end Go.Proofs.Ytpaneggajjgdlaa.Str
namespace Go.Proofs.Ytpaneggajjgdlaa.Cw
open Go.ChangeShapes Go.WideShapes Go.ChangeAt Go.RowKit Go.Maps Circ

theorem own_empty (w : World) (base : Nat) (e : TypeId) (m : Nat) (hb : base ≤ w.heap.size) : OwnC (w.alloc (.cells #[] e)) base e m (.slice (some ⟨w.heap.size, 0, none⟩) 0 0) [] :=
  ⟨by simp, .inr ⟨w.heap.size, 0, #[], rfl, hb, Array.getElem?_push_size, Nat.le_refl _, by decide, by simp, by simp⟩⟩
theorem ints_len (l : List Int) : ∀ y ∈ ints l, y.length = 1 := fun y hy => by obtain ⟨x, _, rfl⟩ := List.mem_map.1 hy; rfl
theorem tris_len (l : List Tri) : ∀ y ∈ tris l, y.length = 3 := fun y hy => by obtain ⟨x, _, rfl⟩ := List.mem_map.1 hy; rfl
theorem nams_len (l : List Nam) : ∀ y ∈ nams l, y.length = 3 := fun y hy => by obtain ⟨x, _, rfl⟩ := List.mem_map.1 hy; rfl
theorem ints_one (l : List Int) : ∀ y ∈ ints l, ∀ u ∈ y, u.oneCell' = true := fun y hy u hu => by
  obtain ⟨x, _, rfl⟩ := List.mem_map.1 hy
  simp at hu; subst hu; rfl
theorem tris_one (l : List Tri) : ∀ y ∈ tris l, ∀ u ∈ y, u.oneCell' = true := fun y hy u hu => by
  obtain ⟨x, _, rfl⟩ := List.mem_map.1 hy
  simp [Tri.cells] at hu; rcases hu with rfl | rfl | rfl <;> rfl
theorem nams_one (l : List Nam) : ∀ y ∈ nams l, ∀ u ∈ y, u.oneCell' = true := fun y hy u hu => by
  obtain ⟨x, _, rfl⟩ := List.mem_map.1 hy
  simp [Nam.cells] at hu; rcases hu with rfl | rfl | rfl <;> rfl
theorem ints_length (l : List Int) : (ints l).length = l.length := by simp [ints]
theorem tris_length (l : List Tri) : (tris l).length = l.length := by simp [tris]
theorem nams_length (l : List Nam) : (nams l).length = l.length := by simp [nams]
theorem infoI : (Try.prog.info? 3).map (fun i => (i.zero, i.size, i.bytes)) = some (some (.int .i64 0), 1, 8) := by kernel_rfl
theorem infoL : (Try.prog.info? 39).map (fun i => (i.zero, i.size, i.bytes)) = some (some (.agg #[.int .i64 0, .int .i64 0, .int .i64 0]), 3, 24) := by kernel_rfl
theorem infoA : (Try.prog.info? 43).map (fun i => (i.zero, i.size, i.bytes)) = some (some (.agg #[.int .i64 0, .int .i64 0, .int .i64 0]), 3, 24) := by kernel_rfl
theorem infoN : (Try.prog.info? 73).map (fun i => (i.zero, i.size, i.bytes)) = some (some (.agg #[.string ⟨#[]⟩, .int .i64 0, .string ⟨#[]⟩]), 3, 40) := by kernel_rfl

set_option maxRecDepth 100000 in
set_option maxHeartbeats 1000000 in
theorem clone22_any (l : List Int) (A : Option Addr) (q : Nat) (w : World) (hr : LRow w w.heap.size 1 A (ints l)) (hl : l.length * 8 ≤ 140737488355328) :
    Calls Try.prog 68 #[.slice A l.length q] w fun e w' => (∃ v, e = .returned v ∧ OwnC w' w.heap.size 3 1 v (ints l)) ∧ Below w.heap.size w w' := by
  have qT : ∀ (w : World) (a : Option Addr) (n c n' c' : Nat), (binOp .eql 22 (.slice a n c) (.slice none n' c')).run Try.prog w = .ok (.bool a.isNone) w := fun w a n c n' c' => Lib.run_eql_slice_nil w _ _ a n c n' c' Try.underlying22
  rcases A with _ | ad
  · have h0 : l = [] := by
      rcases hr with h | ⟨b, o, h, _⟩
      · simpa [ints] using h
      · cases h
    subst h0
    go_enter Try.func68, Try.ntmps68
    go_wp2
    go_ret
    exact ⟨⟨_, rfl, OwnC.nil _ _ _ _⟩, Below.refl _ _⟩
  · have hb1 : Below w.heap.size w (w.alloc (.cells #[] 3)) := (Below.refl _ _).alloc (Nat.le_refl _) _
    have HO := Lib.hid (own_empty w w.heap.size 3 1 (Nat.le_refl _))
    have HR := Lib.hid (hr.below hb1)
    have HB := Lib.hid hb1
    have HL : Hid ((ints l).length * 8 ≤ 140737488355328) := by unfold Hid; rw [ints_length]; exact hl
    clear hr hb1
    go_enter Try.func68, Try.ntmps68
    go_wp2_with (at_builtin; refine wpList_fill _ rfl (.tmp 5) (.tmp 6) 22 rfl 3 1 8 _ Try.underlying22 infoI rfl (by decide) w.heap.size w.heap.size _ HO.out w.heap.size (ints l) rfl rfl (some ad) l.length q (ints_length l).symm rfl HR.out (ints_len l) (ints_one l) HL.out HB.out.size (by have := HL.out; omega) ?_)
    intro v' w' hown hg hloc
    have hb2 : Below w.heap.size w w' := HB.out.trans ⟨hg.os, hg.tape, hg.output, hg.size, fun k hk => hg.block k (by have := HB.out.size; omega) (fun e => by simp [Value.ownBlock] at e; omega)⟩
    have HOW := Lib.hid hown
    have HB2 := Lib.hid hb2
    clear hown hg hloc hb2
    go_wp2
    go_ret
    exact ⟨⟨_, rfl, HOW.out⟩, HB2.out⟩

set_option maxRecDepth 100000 in
set_option maxHeartbeats 1000000 in
theorem clone23_any (l : List Tri) (A : Option Addr) (q : Nat) (w : World) (hr : LRow w w.heap.size 3 A (tris l)) (hl : l.length * 24 ≤ 140737488355328) :
    Calls Try.prog 69 #[.slice A l.length q] w fun e w' => (∃ v, e = .returned v ∧ OwnC w' w.heap.size 39 3 v (tris l)) ∧ Below w.heap.size w w' := by
  have qT : ∀ (w : World) (a : Option Addr) (n c n' c' : Nat), (binOp .eql 23 (.slice a n c) (.slice none n' c')).run Try.prog w = .ok (.bool a.isNone) w := fun w a n c n' c' => Lib.run_eql_slice_nil w _ _ a n c n' c' Try.underlying23
  rcases A with _ | ad
  · have h0 : l = [] := by
      rcases hr with h | ⟨b, o, h, _⟩
      · simpa [tris] using h
      · cases h
    subst h0
    go_enter Try.func69, Try.ntmps69
    go_wp2
    go_ret
    exact ⟨⟨_, rfl, OwnC.nil _ _ _ _⟩, Below.refl _ _⟩
  · have hb1 : Below w.heap.size w (w.alloc (.cells #[] 39)) := (Below.refl _ _).alloc (Nat.le_refl _) _
    have HO := Lib.hid (own_empty w w.heap.size 39 3 (Nat.le_refl _))
    have HR := Lib.hid (hr.below hb1)
    have HB := Lib.hid hb1
    have HL : Hid ((tris l).length * 24 ≤ 140737488355328) := by unfold Hid; rw [tris_length]; exact hl
    clear hr hb1
    go_enter Try.func69, Try.ntmps69
    go_wp2_with (at_builtin; refine wpList_fill _ rfl (.tmp 5) (.tmp 6) 23 rfl 39 3 24 _ Try.underlying23 infoL rfl (by decide) w.heap.size w.heap.size _ HO.out w.heap.size (tris l) rfl rfl (some ad) l.length q (tris_length l).symm rfl HR.out (tris_len l) (tris_one l) HL.out HB.out.size (by have := HL.out; omega) ?_)
    intro v' w' hown hg hloc
    have hb2 : Below w.heap.size w w' := HB.out.trans ⟨hg.os, hg.tape, hg.output, hg.size, fun k hk => hg.block k (by have := HB.out.size; omega) (fun e => by simp [Value.ownBlock] at e; omega)⟩
    have HOW := Lib.hid hown
    have HB2 := Lib.hid hb2
    clear hown hg hloc hb2
    go_wp2
    go_ret
    exact ⟨⟨_, rfl, HOW.out⟩, HB2.out⟩

set_option maxRecDepth 100000 in
set_option maxHeartbeats 1000000 in
theorem clone24_any (l : List Tri) (A : Option Addr) (q : Nat) (w : World) (hr : LRow w w.heap.size 3 A (tris l)) (hl : l.length * 24 ≤ 140737488355328) :
    Calls Try.prog 70 #[.slice A l.length q] w fun e w' => (∃ v, e = .returned v ∧ OwnC w' w.heap.size 43 3 v (tris l)) ∧ Below w.heap.size w w' := by
  have qT : ∀ (w : World) (a : Option Addr) (n c n' c' : Nat), (binOp .eql 24 (.slice a n c) (.slice none n' c')).run Try.prog w = .ok (.bool a.isNone) w := fun w a n c n' c' => Lib.run_eql_slice_nil w _ _ a n c n' c' Try.underlying24
  rcases A with _ | ad
  · have h0 : l = [] := by
      rcases hr with h | ⟨b, o, h, _⟩
      · simpa [tris] using h
      · cases h
    subst h0
    go_enter Try.func70, Try.ntmps70
    go_wp2
    go_ret
    exact ⟨⟨_, rfl, OwnC.nil _ _ _ _⟩, Below.refl _ _⟩
  · have hb1 : Below w.heap.size w (w.alloc (.cells #[] 43)) := (Below.refl _ _).alloc (Nat.le_refl _) _
    have HO := Lib.hid (own_empty w w.heap.size 43 3 (Nat.le_refl _))
    have HR := Lib.hid (hr.below hb1)
    have HB := Lib.hid hb1
    have HL : Hid ((tris l).length * 24 ≤ 140737488355328) := by unfold Hid; rw [tris_length]; exact hl
    clear hr hb1
    go_enter Try.func70, Try.ntmps70
    go_wp2_with (at_builtin; refine wpList_fill _ rfl (.tmp 5) (.tmp 6) 24 rfl 43 3 24 _ Try.underlying24 infoA rfl (by decide) w.heap.size w.heap.size _ HO.out w.heap.size (tris l) rfl rfl (some ad) l.length q (tris_length l).symm rfl HR.out (tris_len l) (tris_one l) HL.out HB.out.size (by have := HL.out; omega) ?_)
    intro v' w' hown hg hloc
    have hb2 : Below w.heap.size w w' := HB.out.trans ⟨hg.os, hg.tape, hg.output, hg.size, fun k hk => hg.block k (by have := HB.out.size; omega) (fun e => by simp [Value.ownBlock] at e; omega)⟩
    have HOW := Lib.hid hown
    have HB2 := Lib.hid hb2
    clear hown hg hloc hb2
    go_wp2
    go_ret
    exact ⟨⟨_, rfl, HOW.out⟩, HB2.out⟩

set_option maxRecDepth 100000 in
set_option maxHeartbeats 1000000 in
theorem clone25_any (l : List Nam) (A : Option Addr) (q : Nat) (w : World) (hr : LRow w w.heap.size 3 A (nams l)) (hl : l.length * 40 ≤ 140737488355328) :
    Calls Try.prog 71 #[.slice A l.length q] w fun e w' => (∃ v, e = .returned v ∧ OwnC w' w.heap.size 73 3 v (nams l)) ∧ Below w.heap.size w w' := by
  have qT : ∀ (w : World) (a : Option Addr) (n c n' c' : Nat), (binOp .eql 25 (.slice a n c) (.slice none n' c')).run Try.prog w = .ok (.bool a.isNone) w := fun w a n c n' c' => Lib.run_eql_slice_nil w _ _ a n c n' c' Try.underlying25
  rcases A with _ | ad
  · have h0 : l = [] := by
      rcases hr with h | ⟨b, o, h, _⟩
      · simpa [nams] using h
      · cases h
    subst h0
    go_enter Try.func71, Try.ntmps71
    go_wp2
    go_ret
    exact ⟨⟨_, rfl, OwnC.nil _ _ _ _⟩, Below.refl _ _⟩
  · have hb1 : Below w.heap.size w (w.alloc (.cells #[] 73)) := (Below.refl _ _).alloc (Nat.le_refl _) _
    have HO := Lib.hid (own_empty w w.heap.size 73 3 (Nat.le_refl _))
    have HR := Lib.hid (hr.below hb1)
    have HB := Lib.hid hb1
    have HL : Hid ((nams l).length * 40 ≤ 140737488355328) := by unfold Hid; rw [nams_length]; exact hl
    clear hr hb1
    go_enter Try.func71, Try.ntmps71
    go_wp2_with (at_builtin; refine wpList_fill _ rfl (.tmp 5) (.tmp 6) 25 rfl 73 3 40 _ Try.underlying25 infoN rfl (by decide) w.heap.size w.heap.size _ HO.out w.heap.size (nams l) rfl rfl (some ad) l.length q (nams_length l).symm rfl HR.out (nams_len l) (nams_one l) HL.out HB.out.size (by have := HL.out; omega) ?_)
    intro v' w' hown hg hloc
    have hb2 : Below w.heap.size w w' := HB.out.trans ⟨hg.os, hg.tape, hg.output, hg.size, fun k hk => hg.block k (by have := HB.out.size; omega) (fun e => by simp [Value.ownBlock] at e; omega)⟩
    have HOW := Lib.hid hown
    have HB2 := Lib.hid hb2
    clear hown hg hloc hb2
    go_wp2
    go_ret
    exact ⟨⟨_, rfl, HOW.out⟩, HB2.out⟩
end Go.Proofs.Ytpaneggajjgdlaa.Cw
namespace Go.Proofs.Ytpaneggajjgdlaa.Cpy
open Go.ChangeShapes Go.WideShapes Go.ChangeAt Go.RowKit Circ Cw

theorem open_set : ∀ (l : List Bool) (i : Nat), l[i]? = some false → ((l.set i true).filter (· == false)).length + 1 = (l.filter (· == false)).length
  | [], i, h => by simp at h
  | b :: l, 0, h => by
    have hb : b = false := by simpa using h
    subst hb
    simp
  | b :: l, i + 1, h => by
    have h' : l[i]? = some false := by simpa using h
    have ih := open_set l i h'
    cases b <;> simp [List.set_cons_succ] at ih ⊢ <;> omega

theorem ready_open {md : Region.Mode} {ops : Array Oper} {listed : Array Bool} {i : Nat} (hi : i ∈ Region.ready md ops listed) : listed.toList[i]? = some false ∧ i < ops.size ∧ (∀ o, ops[i]? = some o → ∀ e ∈ o.after, Region.binds md e = true → listed.getD e.on false = true) := by
  unfold Region.ready at hi
  rw [List.mem_filter, List.mem_range] at hi
  obtain ⟨h1, h2⟩ := hi
  simp only [Bool.and_eq_true, Bool.not_eq_true'] at h2
  obtain ⟨h2, h3⟩ := h2
  refine ⟨?_, h1, fun o ho e he hb => ?_⟩
  · rw [Array.getElem?_toList]
    rw [Array.getD_eq_getD_getElem?] at h2
    cases hq : listed[i]? with
    | none => rw [hq] at h2; simp at h2
    | some b => rw [hq] at h2; simp at h2; rw [h2]
  · rw [ho] at h3
    simp only [Option.map_some, Option.getD_some, Array.all_eq_true_iff_forall_mem] at h3
    have := h3 e he
    simpa [hb] using this

theorem wpAny_inv {P : Program} {md : Region.Mode} {ops : Array Oper} {Q : Exit → Act → World → Prop} (Inv : Array Bool → Act → World → Prop)
    (hstep : ∀ listed a w i, Inv listed a w → i ∈ Region.ready md ops listed → wpOp P ops Q i (Inv (listed.setIfInBounds i true)) a w)
    (hend : ∀ listed a w, Inv listed a w → Region.ready md ops listed = [] → Q .normal a w) :
    ∀ fuel listed a w, Inv listed a w → (listed.toList.filter (· == false)).length ≤ fuel → wpAny P md ops Q fuel listed a w
  | 0, listed, a, w, h, hf => by
    by_cases hr : Region.ready md ops listed = []
    · exact ⟨hr, hend _ _ _ h hr⟩
    · obtain ⟨i, hi⟩ := List.exists_mem_of_ne_nil _ hr
      have h1 := (ready_open hi).1
      have : false ∈ listed.toList.filter (· == false) := List.mem_filter.2 ⟨List.mem_of_getElem? h1, rfl⟩
      have := List.length_pos_of_mem this
      omega
  | fuel + 1, listed, a, w, h, hf => by
    refine ⟨fun hr => hend _ _ _ h hr, fun i hi => ?_⟩
    refine wpOp_mono (fun a' w' h' => wpAny_inv Inv hstep hend fuel _ a' w' h' ?_) (hstep _ _ _ _ h hi)
    have := open_set listed.toList i (ready_open hi).1
    rw [Array.toList_setIfInBounds]
    omega

/-- A region that draws its order: what holds of the operations that are done, whichever they are, is kept by each one that may come next. -/
theorem wp_region_inv {P : Program} {id : Nat} {ops : Array Oper} {Q : Exit → Act → World → Prop} {a : Act} {w : World} (hm : P.follows .mixedOrders = true) (Inv : Array Bool → Act → World → Prop)
    (h0 : Inv (Array.replicate ops.size false) a w.drew)
    (hstep : ∀ listed a w i, Inv listed a w → i ∈ Region.ready .any ops listed → wpOp P ops Q i (Inv (listed.setIfInBounds i true)) a w)
    (hend : ∀ listed a w, Inv listed a w → Region.ready .any ops listed = [] → Q .normal a w) : (Code.region id ops true).wp P Q a w :=
  wp_region_any hm (wpAny_inv Inv hstep hend _ _ _ _ h0 (by simp))
end Go.Proofs.Ytpaneggajjgdlaa.Cpy
namespace Go.Proofs.Ytpaneggajjgdlaa.Cpy
open Go.ChangeShapes Go.WideShapes Go.ChangeAt Go.RowKit Circ Cw

/-- a' is a but for the slots of the region's operations -/
structure Kept (ops : Array Oper) (a a' : Act) : Prop where
  d : a'.defers = a.defers
  n : a'.tmps.size = a.tmps.size
  t : ∀ t, (∀ o ∈ ops, o.dst ≠ some t) → a'.tmps.getD t undef = a.tmps.getD t undef
def upward (ops : Array Oper) : Bool := (List.range ops.size).all fun i => match ops[i]? with
  | some o => o.after.all (fun e => decide (e.on < i)) && o.guard.isNone
  | none => true

theorem put_slot {o : Oper} {a : Act} (v : Value) {t : Tmp} (h : o.dst = some t) (ht : t < a.tmps.size) : (a.put o.dst v).tmps.getD t undef = v := by
  rw [h]; simp [Act.put, ht]
theorem put_other {o : Oper} {a : Act} (v : Value) {t : Tmp} (h : o.dst ≠ some t) : (a.put o.dst v).tmps.getD t undef = a.tmps.getD t undef := by
  cases hd : o.dst with
  | none => rfl
  | some s =>
    have : s ≠ t := fun e => h (by rw [hd, e])
    simp [Act.put, this]
theorem Kept.put {ops : Array Oper} {a a' : Act} (h : Kept ops a a') {o : Oper} (ho : o ∈ ops) (v : Value) : Kept ops a (a'.put o.dst v) := by
  refine ⟨?_, ?_, fun t ht => (put_other v (ht o ho)).trans (h.t t ht)⟩
  · cases hd : o.dst <;> simp [Act.put, h.d]
  · cases hd : o.dst <;> simp [Act.put, h.n]

theorem all_listed {md : Region.Mode} {ops : Array Oper} {listed : Array Bool} (hu : upward ops = true) (hs : listed.size = ops.size) (hr : Region.ready md ops listed = []) : ∀ j, j < ops.size → listed[j]? = some true := by
  intro j
  induction j using Nat.strongRecOn with
  | _ j ih =>
    intro hj
    obtain ⟨o, ho⟩ : ∃ o, ops[j]? = some o := ⟨ops[j], by simp [hj]⟩
    cases hl : listed[j]? with
    | none => rw [Array.getElem?_eq_none_iff] at hl; omega
    | some b =>
      cases b with
      | true => rfl
      | false =>
        exfalso
        have : j ∈ Region.ready md ops listed := by
          unfold Region.ready
          rw [List.mem_filter, List.mem_range]
          refine ⟨hj, ?_⟩
          rw [Array.getD_eq_getD_getElem?, hl, ho]
          simp only [Option.getD_some, Bool.not_false, Option.map_some, Bool.true_and, Array.all_eq_true_iff_forall_mem]
          intro e he
          have h1 := List.all_eq_true.1 hu j (List.mem_range.2 hj)
          rw [ho] at h1
          simp only [Bool.and_eq_true, Array.all_eq_true_iff_forall_mem, decide_eq_true_eq] at h1
          have h2 := h1.1 e he
          have h3 := ih e.on h2 (by omega)
          rw [Array.getD_eq_getD_getElem?, h3]
          simp
        rw [hr] at this
        cases this

theorem wp_region_rel {P : Program} {id : Nat} {ops : Array Oper} {Q : Exit → Act → World → Prop} {a : Act} {w : World} (hm : P.follows .mixedOrders = true) (hu : upward ops = true)
    (Ok : World → Prop) (R : Nat → Act → World → Prop) (h0 : Ok w.drew)
    (hstep : ∀ (i : Nat) (o : Oper) (a' : Act) (w' : World), ops[i]? = some o → Kept ops a a' → Ok w' → (∀ e ∈ o.after, Region.binds .any e = true → R e.on a' w') →
      o.wp P a' w' (fun a'' w'' => ∃ v, a'' = a'.put o.dst v ∧ Ok w'' ∧ R i a'' w'' ∧ ∀ j, j ≠ i → (∀ oj : Oper, ops[j]? = some oj → ∀ e ∈ oj.after, Region.binds .any e = true → e.on ≠ i) → R j a' w' → R j a'' w'') Q)
    (hend : ∀ (a' : Act) (w' : World), Kept ops a a' → Ok w' → (∀ j, j < ops.size → R j a' w') → Q .normal a' w') : (Code.region id ops true).wp P Q a w := by
  refine wp_region_inv hm (fun listed a' w' => listed.size = ops.size ∧ Kept ops a a' ∧ Ok w' ∧ (∀ j : Nat, listed[j]? = some true → R j a' w') ∧ ∀ (j : Nat) (oj : Oper), ops[j]? = some oj → listed[j]? = some true → ∀ e ∈ oj.after, Region.binds .any e = true → listed[e.on]? = some true) ?_ ?_ ?_
  · refine ⟨by simp, ⟨rfl, rfl, fun _ _ => rfl⟩, h0, fun j hj => ?_, fun j oj _ hj => ?_⟩ <;> simp [Array.getElem?_replicate] at hj
  · rintro listed a' w' i ⟨hs, hk, hok, hR, hC⟩ hi
    obtain ⟨hl, hio, hd⟩ := ready_open hi
    have hl' : listed[i]? = some false := by rw [← Array.getElem?_toList]; exact hl
    obtain ⟨o, ho⟩ : ∃ o, ops[i]? = some o := ⟨ops[i], by simp [hio]⟩
    have hmem : o ∈ ops := Array.mem_of_getElem? ho
    have hg : o.guard.isNone = true := by
      have h1 := List.all_eq_true.1 hu i (List.mem_range.2 hio)
      rw [ho] at h1
      simp only [Bool.and_eq_true] at h1
      exact h1.2
    have hw : Region.wanted o (yielded ops a'.tmps) = true := by
      unfold Region.wanted
      cases hgg : o.guard with
      | none => rfl
      | some x => rw [hgg] at hg; cases hg
    have hdep : ∀ e ∈ o.after, Region.binds .any e = true → listed[e.on]? = some true := fun e he hb => by
      have h2 := hd o ho e he hb
      rw [Array.getD_eq_getD_getElem?] at h2
      cases hq : listed[e.on]? with
      | none => rw [hq] at h2; simp at h2
      | some b => rw [hq] at h2; simp at h2; rw [h2]
    unfold wpOp
    rw [ho]
    simp only [hw, if_true]
    refine .inl (Oper.wp_mono ?_ (hstep i o a' w' ho hk hok fun e he hb => hR e.on (hdep e he hb)))
    rintro a'' w'' ⟨v, rfl, hok', hRi, hst⟩
    have hback : ∀ j, j ≠ i → (listed.setIfInBounds i true)[j]? = some true → listed[j]? = some true := fun j hji hj => by
      rw [Array.getElem?_setIfInBounds, if_neg (Ne.symm hji)] at hj
      exact hj
    have hfwd : ∀ j : Nat, listed[j]? = some true → (listed.setIfInBounds i true)[j]? = some true := fun j hj => by
      have : i ≠ j := by rintro rfl; rw [hl'] at hj; cases hj
      rw [Array.getElem?_setIfInBounds, if_neg this]; exact hj
    refine ⟨by simpa using hs, hk.put hmem v, hok', fun j hj => ?_, fun j oj hoj hj e he hb => ?_⟩
    · by_cases hji : j = i
      · subst hji; exact hRi
      · have hj' := hback j hji hj
        exact hst j hji (fun oj hoj e he hb hei => by
          have := hC j oj hoj hj' e he hb
          rw [hei, hl'] at this; cases this) (hR j hj')
    · by_cases hji : j = i
      · subst hji
        rw [ho] at hoj
        obtain rfl := Option.some.inj hoj
        exact hfwd _ (hdep e he hb)
      · exact hfwd _ (hC j oj hoj (hback j hji hj) e he hb)
  · rintro listed a' w' ⟨hs, hk, hok, hR, -⟩ hr
    exact hend a' w' hk hok fun j hj => hR j (all_listed hu hs hr j hj)
theorem wp_region_relO {P : Program} {id : Nat} {ops : Array Oper} {Q : Exit → Act → World → Prop} {a : Act} {w : World} (hm : P.follows .mixedOrders = true) (hu : upward ops = true)
    (Ok : Act → World → Prop) (R : Nat → Act → World → Prop) (h0 : Ok a w.drew)
    (hstep : ∀ (i : Nat) (o : Oper) (a' : Act) (w' : World), ops[i]? = some o → Kept ops a a' → Ok a' w' → (∀ e ∈ o.after, Region.binds .any e = true → R e.on a' w') →
      o.wp P a' w' (fun a'' w'' => ∃ v, a'' = a'.put o.dst v ∧ Ok a'' w'' ∧ R i a'' w'' ∧ ∀ j, j ≠ i → (∀ oj : Oper, ops[j]? = some oj → ∀ e ∈ oj.after, Region.binds .any e = true → e.on ≠ i) → R j a' w' → R j a'' w'') Q)
    (hend : ∀ (a' : Act) (w' : World), Kept ops a a' → Ok a' w' → (∀ j, j < ops.size → R j a' w') → Q .normal a' w') : (Code.region id ops true).wp P Q a w := by
  refine wp_region_inv hm (fun listed a' w' => listed.size = ops.size ∧ Kept ops a a' ∧ Ok a' w' ∧ (∀ j : Nat, listed[j]? = some true → R j a' w') ∧ ∀ (j : Nat) (oj : Oper), ops[j]? = some oj → listed[j]? = some true → ∀ e ∈ oj.after, Region.binds .any e = true → listed[e.on]? = some true) ?_ ?_ ?_
  · refine ⟨by simp, ⟨rfl, rfl, fun _ _ => rfl⟩, h0, fun j hj => ?_, fun j oj _ hj => ?_⟩ <;> simp [Array.getElem?_replicate] at hj
  · rintro listed a' w' i ⟨hs, hk, hok, hR, hC⟩ hi
    obtain ⟨hl, hio, hd⟩ := ready_open hi
    have hl' : listed[i]? = some false := by rw [← Array.getElem?_toList]; exact hl
    obtain ⟨o, ho⟩ : ∃ o, ops[i]? = some o := ⟨ops[i], by simp [hio]⟩
    have hmem : o ∈ ops := Array.mem_of_getElem? ho
    have hg : o.guard.isNone = true := by
      have h1 := List.all_eq_true.1 hu i (List.mem_range.2 hio)
      rw [ho] at h1
      simp only [Bool.and_eq_true] at h1
      exact h1.2
    have hw : Region.wanted o (yielded ops a'.tmps) = true := by
      unfold Region.wanted
      cases hgg : o.guard with
      | none => rfl
      | some x => rw [hgg] at hg; cases hg
    have hdep : ∀ e ∈ o.after, Region.binds .any e = true → listed[e.on]? = some true := fun e he hb => by
      have h2 := hd o ho e he hb
      rw [Array.getD_eq_getD_getElem?] at h2
      cases hq : listed[e.on]? with
      | none => rw [hq] at h2; simp at h2
      | some b => rw [hq] at h2; simp at h2; rw [h2]
    unfold wpOp
    rw [ho]
    simp only [hw, if_true]
    refine .inl (Oper.wp_mono ?_ (hstep i o a' w' ho hk hok fun e he hb => hR e.on (hdep e he hb)))
    rintro a'' w'' ⟨v, rfl, hok', hRi, hst⟩
    have hback : ∀ j, j ≠ i → (listed.setIfInBounds i true)[j]? = some true → listed[j]? = some true := fun j hji hj => by
      rw [Array.getElem?_setIfInBounds, if_neg (Ne.symm hji)] at hj
      exact hj
    have hfwd : ∀ j : Nat, listed[j]? = some true → (listed.setIfInBounds i true)[j]? = some true := fun j hj => by
      have : i ≠ j := by rintro rfl; rw [hl'] at hj; cases hj
      rw [Array.getElem?_setIfInBounds, if_neg this]; exact hj
    refine ⟨by simpa using hs, hk.put hmem v, hok', fun j hj => ?_, fun j oj hoj hj e he hb => ?_⟩
    · by_cases hji : j = i
      · subst hji; exact hRi
      · have hj' := hback j hji hj
        exact hst j hji (fun oj hoj e he hb hei => by
          have := hC j oj hoj hj' e he hb
          rw [hei, hl'] at this; cases this) (hR j hj')
    · by_cases hji : j = i
      · subst hji
        rw [ho] at hoj
        obtain rfl := Option.some.inj hoj
        exact hfwd _ (hdep e he hb)
      · exact hfwd _ (hC j oj hoj (hback j hji hj) e he hb)
  · rintro listed a' w' ⟨hs, hk, hok, hR, -⟩ hr
    exact hend a' w' hk hok fun j hj => hR j (all_listed hu hs hr j hj)
end Go.Proofs.Ytpaneggajjgdlaa.Cpy
