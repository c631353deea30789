/- Lists of a call's own whose elements are written over, one by one; literals that are named lie within bounds; no condition. Circuits come back from their octets, and octets from their circuits, on plain lists; no program is named here, no condition. The walks of aig's writing of lines and of numbers in groups, into the bytes.Buffer that the writer embeds; conditions: sizes as stated. -/
import Derived.Test.YtopjddmgejfalaaDoorPk12
import Derived.Test.YtopjddmgejfalaaDoorPk15
import Derived.Test.YtopjddmgejfalaaDoorPk07
import Derived.Test.YtopjddmgejfalaaDoorPk11
import Derived.Lib.BufferAt
import Derived.Shelf.Bytes.WriteStringAt
import Derived.Shelf.Bytes.WriteByteAt
namespace Go.Proofs.YtopjddmgejfalaaDoor.Aig
open Go.ChangeShapes Go.WideShapes Go.ChangeAt Go.RowKit Dig Circ Cw Aag

theorem put_row {w w' : World} {B : Nat} {e : TypeId} {m g q : Nat} {xs : List (List Value)} {cur cur' : Array Value} (h : OwnC w B e m (.slice (some ⟨g, 0, none⟩) xs.length q) xs) (hm : 0 < m) (hx : ∀ y ∈ xs, y.length = m) (i : Nat) (hi : i < xs.length) (ys : List Value) (hy : ys.length = m)
    (hg : w.heap[g]? = some (.cells cur e (0, 0))) (hg' : w'.heap[g]? = some (.cells cur' e (0, 0))) (hsz : cur'.size = cur.size) (hk : ∀ k, k < cur.size → cur'[k]? = if k / m = i then ys[k % m]? else cur[k]?) :
    OwnC w' B e m (.slice (some ⟨g, 0, none⟩) xs.length q) (xs.set i ys) := by
  have hx' : ∀ y ∈ xs.set i ys, y.length = m := fun y hy' => by
    rcases List.mem_or_eq_of_mem_set hy' with h1 | h1
    · exact hx y h1
    · rw [h1]; exact hy
  obtain ⟨h0, h⟩ := h
  rcases h with ⟨hv, _⟩ | ⟨g1, cap, c1, hv, hb, hh, hn, hc, hs, ht⟩
  · simp at hv
  · simp only [Value.slice.injEq, Option.some.injEq, Addr.mk.injEq, and_true, true_and] at hv
    obtain ⟨rfl, rfl⟩ := hv
    rw [hh] at hg
    simp only [Option.some.injEq, Obj.cells.injEq, and_true] at hg
    subst hg
    have hle : xs.length * m ≤ q * m := Nat.mul_le_mul_right _ hn
    refine ⟨by rw [flatten_len m _ hx'], .inr ⟨g, q, cur', by rw [List.length_set], hb, hg', by rw [List.length_set]; exact hn, hc, by rw [hsz]; exact hs, ?_⟩⟩
    apply List.ext_getElem?
    intro k
    rw [List.getElem?_take, List.length_set]
    by_cases hkl : k < xs.length * m
    · rw [if_pos hkl, flatten_at m hm _ hx', Array.getElem?_toList, hk k (by omega)]
      have hkm : k / m < xs.length := Nat.div_lt_of_lt_mul (by rw [Nat.mul_comm]; exact hkl)
      by_cases hki : k / m = i
      · rw [if_pos hki, hki, List.getElem?_set_self hi]; rfl
      · rw [if_neg hki, List.getElem?_set_ne (Ne.symm hki), ← flatten_at m hm xs hx, ← ht, List.getElem?_take, if_pos hkl, Array.getElem?_toList]
    · rw [if_neg hkl, List.getElem?_eq_none]
      rw [flatten_len m _ hx', List.length_set]; omega
theorem own_block {w : World} {B : Nat} {e : TypeId} {m n q : Nat} {A : Option Addr} {xs : List (List Value)} (h : OwnC w B e m (.slice A n q) xs) (hn : 0 < xs.length) : ∃ g cur, A = some ⟨g, 0, none⟩ ∧ n = xs.length ∧ B ≤ g ∧ w.heap[g]? = some (.cells cur e (0, 0)) ∧ xs.length * m ≤ cur.size := by
  obtain ⟨h0, h⟩ := h
  rcases h with ⟨_, hz⟩ | ⟨g, cap, cur, hv, hb, hh, hn', _, hs, _⟩
  · omega
  · simp only [Value.slice.injEq] at hv
    obtain ⟨rfl, rfl, rfl⟩ := hv
    exact ⟨g, cur, rfl, rfl, hb, hh, by rw [hs]; exact Nat.mul_le_mul_right _ hn'⟩
theorem ints_set (l : List Int) (i : Nat) (x : Int) : (ints l).set i [.int .i64 x] = ints (l.set i x) := by unfold ints; rw [List.map_set]
theorem tris_set (l : List Tri) (i : Nat) (x : Tri) : (tris l).set i x.cells = tris (l.set i x) := by unfold tris; rw [List.map_set]
/-- one number of a list of numbers is written over -/
theorem put_int {w w' : World} {B g q : Nat} {l : List Int} {cur : Array Value} (h : OwnC w B 3 1 (.slice (some ⟨g, 0, none⟩) l.length q) (ints l)) (i : Nat) (hi : i < l.length) (x : Int) (hg : w.heap[g]? = some (.cells cur 3 (0, 0))) (hg' : w'.heap[g]? = some (.cells (cur.setIfInBounds i (.int .i64 x)) 3 (0, 0))) :
    OwnC w' B 3 1 (.slice (some ⟨g, 0, none⟩) l.length q) (ints (l.set i x)) := by
  have hl := ints_length l
  rw [← ints_set]
  rw [← hl] at h ⊢
  refine put_row h (by decide) (ints_len l) i (by rw [hl]; exact hi) [.int .i64 x] rfl hg hg' (by simp) (fun k hk => ?_)
  rw [Array.getElem?_setIfInBounds, Nat.div_one, Nat.mod_one]
  by_cases hik : i = k
  · rw [if_pos hik, if_pos hik.symm, if_pos (by omega)]; rfl
  · rw [if_neg hik, if_neg (Ne.symm hik)]
/-- one triple of a list of triples is written over -/
theorem put_tri {w w' : World} {B g q : Nat} {e : TypeId} {l : List Tri} {cur : Array Value} (h : OwnC w B e 3 (.slice (some ⟨g, 0, none⟩) l.length q) (tris l)) (i : Nat) (hi : i < l.length) (t : Tri) (hg : w.heap[g]? = some (.cells cur e (0, 0))) (hs : l.length * 3 ≤ cur.size)
    (hg' : w'.heap[g]? = some (.cells (((cur.setIfInBounds (i * 3) (.int .i64 t.a)).setIfInBounds (i * 3 + 1) (.int .i64 t.b)).setIfInBounds (i * 3 + 2) (.int .i64 t.c)) e (0, 0))) :
    OwnC w' B e 3 (.slice (some ⟨g, 0, none⟩) l.length q) (tris (l.set i t)) := by
  have hl := tris_length l
  rw [← tris_set]
  rw [← hl] at h ⊢
  refine put_row h (by decide) (tris_len l) i (by rw [hl]; exact hi) t.cells rfl hg hg' (by simp) (fun k hk => ?_)
  have h3 : i * 3 + 2 < cur.size := by omega
  rw [Array.getElem?_setIfInBounds, Array.getElem?_setIfInBounds, Array.getElem?_setIfInBounds]
  simp only [Array.size_setIfInBounds]
  by_cases h2 : i * 3 + 2 = k
  · rw [if_pos h2, if_pos h3, if_pos (by omega), show k % 3 = 2 by omega]; rfl
  rw [if_neg h2]
  by_cases h1 : i * 3 + 1 = k
  · rw [if_pos h1, if_pos (by omega), if_pos (by omega), show k % 3 = 1 by omega]; rfl
  rw [if_neg h1]
  by_cases h0 : i * 3 = k
  · rw [if_pos h0, if_pos (by omega), if_pos (by omega), show k % 3 = 0 by omega]; rfl
  rw [if_neg h0, if_neg (by omega)]

theorem own_lrow {w : World} {B : Nat} {e : TypeId} {m : Nat} {A : Option Addr} {n q : Nat} {xs : List (List Value)} (h : OwnC w B e m (.slice A n q) xs) (hm : 0 < m) (hx : ∀ y ∈ xs, y.length = m) : LRow w w.heap.size m A xs ∧ xs.length ≤ q := by
  obtain ⟨A', q', hv, hr, hq, _⟩ := h.row hm hx
  injection hv with h1 h2 h3
  subst h1; subst h3
  exact ⟨hr, hq⟩
theorem Owned.lies {w : World} {B : Nat} {c : Cir} {s : Places} (h : Owned w B c s) : CLies w w.heap.size c s :=
  ⟨(own_lrow h.ins (by decide) (ints_len _)).1, (own_lrow h.lats (by decide) (tris_len _)).1, (own_lrow h.outs (by decide) (ints_len _)).1, (own_lrow h.bads (by decide) (ints_len _)).1, (own_lrow h.invs (by decide) (ints_len _)).1, (own_lrow h.ands (by decide) (tris_len _)).1, (own_lrow h.names (by decide) (nams_len _)).1⟩
theorem Owned.caps {w : World} {B : Nat} {c : Cir} {s : Places} (h : Owned w B c s) : c.ins.length ≤ s.ki ∧ c.outs.length ≤ s.ko ∧ c.bads.length ≤ s.kb ∧ c.invs.length ≤ s.kc ∧ c.lats.length ≤ s.kl ∧ c.ands.length ≤ s.ka ∧ c.names.length ≤ s.kn :=
  ⟨by simpa [ints] using (own_lrow h.ins (by decide) (ints_len _)).2, by simpa [ints] using (own_lrow h.outs (by decide) (ints_len _)).2, by simpa [ints] using (own_lrow h.bads (by decide) (ints_len _)).2, by simpa [ints] using (own_lrow h.invs (by decide) (ints_len _)).2, by simpa [tris] using (own_lrow h.lats (by decide) (tris_len _)).2, by simpa [tris] using (own_lrow h.ands (by decide) (tris_len _)).2, by simpa [nams] using (own_lrow h.names (by decide) (nams_len _)).2⟩
theorem Owned.kept {w w' : World} {B : Nat} {c : Cir} {s : Places} (h : Owned w B c s) (hb : ∀ k, B ≤ k → k < w.heap.size → w'.heap[k]? = w.heap[k]?) : Owned w' B c s := by
  have kp : ∀ {e m v xs}, OwnC w B e m v xs → OwnC w' B e m v xs := fun h => h.keep_at fun g hg hv => hb g hg (h.block_lt g hv).2
  exact ⟨kp h.ins, kp h.lats, kp h.outs, kp h.bads, kp h.invs, kp h.ands, kp h.names⟩

/- literals that a circuit that may be names -/
def Lits (c : Cir) (x : Int) : Prop := 0 ≤ x ∧ x ≤ 2 * c.max + 1
theorem known_lit {c : Cir} (h : refOk c = true) {x : Int} (hx : knownL c x = true) : Lits c x := by
  obtain ⟨_, hg⟩ := good_all c.max (own c) [] (ref_parts h).2.2.2.1
  obtain ⟨h0, h1⟩ := known_cases h x hx
  have hm := own_count h
  refine ⟨h0, ?_⟩
  rcases h1 with ⟨h1, _⟩ | ⟨k, hk, h1, _⟩
  · omega
  · have := hg _ (List.getElem_mem hk); omega
theorem own_lit {c : Cir} (h : refOk c = true) {x : Int} (hx : x ∈ own c) : Lits c x := by
  obtain ⟨_, hg⟩ := good_all c.max (own c) [] (ref_parts h).2.2.2.1
  have := hg x hx
  exact ⟨by omega, by omega⟩
structure AllLits (c : Cir) : Prop where
  ins : ∀ x ∈ c.ins, Lits c x
  outs : ∀ x ∈ c.outs, Lits c x
  bads : ∀ x ∈ c.bads, Lits c x
  invs : ∀ x ∈ c.invs, Lits c x
  lats : ∀ t ∈ c.lats, Lits c t.a ∧ Lits c t.b ∧ Lits c t.c
  ands : ∀ t ∈ c.ands, Lits c t.a ∧ Lits c t.b ∧ Lits c t.c
  max : 0 ≤ c.max ∧ c.max ≤ 2048
theorem all_lits {c : Cir} (h : refOk c = true) : AllLits c := by
  obtain ⟨hh, hl, ha, hg, ho, hb, hi⟩ := ref_parts h
  have hm := own_count h
  have hmax : 0 ≤ c.max ∧ c.max ≤ 2048 := by
    unfold refHead at hh
    simp only [Bool.and_eq_true, Bool.not_eq_true', decide_eq_false_iff_not] at hh
    omega
  have lk : ∀ l : List Int, allKnown c l = true → ∀ x ∈ l, Lits c x := fun l hl x hx => by
    unfold allKnown at hl
    simp only [Bool.and_eq_true, List.all_eq_true] at hl
    exact known_lit h (hl.1 x hx)
  refine ⟨fun x hx => own_lit h (by unfold own; simp [hx]), lk _ ho, lk _ hb, lk _ hi, fun t ht => ?_, fun t ht => ?_, hmax⟩
  · have h1 := List.all_eq_true.1 hl t ht
    unfold latR at h1
    simp only [Bool.and_eq_true, Bool.or_eq_true, decide_eq_true_eq] at h1
    have oa : Lits c t.a := own_lit h (by unfold own; simp only [List.mem_append, List.mem_map]; exact .inr (.inl ⟨t, ht, rfl⟩))
    refine ⟨oa, known_lit h h1.2, ?_⟩
    rcases h1.1 with (e | e) | e <;> rw [e]
    · exact ⟨by omega, by omega⟩
    · exact ⟨by omega, by omega⟩
    · exact oa
  · obtain ⟨k, hk, rfl⟩ := List.getElem_of_mem ht
    obtain ⟨_, _, b3, b4⟩ := and_at h k hk
    exact ⟨own_lit h (by unfold own; simp only [List.mem_append, List.mem_map]; exact .inr (.inr ⟨_, ht, rfl⟩)), known_lit h b3, known_lit h b4⟩
theorem numAt_bd : ∀ (R : List Int) (v : Int), 0 ≤ numAt R v ∧ numAt R v ≤ R.length
  | [], _ => by simp [numAt]
  | x :: R, v => by
    have := numAt_bd R v
    rw [numAt, List.length_cons]
    split <;> omega
theorem ren_bd {c : Cir} (h : refOk c = true) (x : Int) (hx : 0 ≤ x) : 0 ≤ ren c x ∧ ren c x ≤ 4097 := by
  have h1 := numAt_bd (own c).reverse (cnt x / 2)
  rw [List.length_reverse] at h1
  have h2 := own_count h
  unfold ren renV
  rw [cnt_pos x hx] at *
  omega
/-- the renumbering's closure, called on a literal within bounds -/
theorem ren_call (c : Cir) (h : refOk c = true) (B gl gn nb : Nat) (x : Int) (w : World) (hn : Num B gl gn nb c.max.toNat (own c).reverse w) (hx : Lits c x) :
    Calls Tryd.prog 48 #[.int .i64 x, .pointer (some ⟨gn, 0, none⟩)] w fun e w' => e = .returned (.int .i64 (ren c x)) ∧ Below w.heap.size w w' := by
  obtain ⟨x0, x1⟩ := hx
  have hm := (all_lits h).max
  have hc : cnt x = x := cnt_pos x x0
  have h1 := numAt_bd (own c).reverse (((x / 2).toNat : Nat) : Int)
  rw [List.length_reverse] at h1
  have h2 := own_count h
  exact renum_any B gl gn nb c.max.toNat (x / 2).toNat x (own c).reverse w hn (by rw [hc]; omega) (by omega) (by omega) ⟨h1.1, by omega⟩
end Go.Proofs.YtopjddmgejfalaaDoor.Aig
namespace Go.Proofs.YtopjddmgejfalaaDoor.Aig
open Go.Lib Dig Circ Cw Aag

/- the names, to the end -/
/-- what octets need to be read: numbers and names within bounds, own literals in order -/
structure Fine5 (c : Cir) : Prop where
  f : Fine c
  m : c.max ≤ 2048
  n : c.max = c.ins.length + c.lats.length + c.ands.length
  i : c.ins = evens c.ins.length
  l : ∀ (j : Nat) t, c.lats[j]? = some t → t.a = lit (c.ins.length + j)
  a : ∀ (j : Nat) t, c.ands[j]? = some t → t.a = lit (c.ins.length + c.lats.length + j)
  d : ∀ t ∈ c.ands, (0 ≤ t.a - t.b ∧ t.a - t.b < 16384) ∧ (0 ≤ t.b - t.c ∧ t.b - t.c < 16384)

def headN (c : Cir) : List Int := [c.max, c.ins.length, c.lats.length, c.outs.length, c.ands.length, c.bads.length, c.invs.length]
end Go.Proofs.YtopjddmgejfalaaDoor.Aig
namespace Go.Proofs.YtopjddmgejfalaaDoor.Aig
open Go.ChangeShapes Go.WideShapes Go.ChangeAt Go.RowKit Dig Circ Cw Aag

/-- the writer in block b has gathered l -/
def WS (B b : Nat) (l : List UInt8) (w : World) : Prop := LibA.IsBuffer 60 (fun _ => none) 5 B b 0 (Lib.byteCells l) w
theorem WS.below {B b : Nat} {l : List UInt8} {w w' : World} (h : WS B b l w) (hb : Below w.heap.size w w') : WS B b l w' := by
  obtain ⟨h1, v, lr, h2, h3, h4⟩ := h
  exact ⟨h1, v, lr, h2.of_heap (hb.block b h2.lt), ownsRow_below h3 hb, h4⟩
theorem WS.block {B b : Nat} {l : List UInt8} {w : World} (h : WS B b l w) : ∃ c, w.heap[b]? = some (.cells c 60 (0, 0)) := by
  obtain ⟨_, v, lr, ⟨cs, h, _⟩, _⟩ := h
  exact ⟨cs, h⟩
theorem kept_of {b : Nat} {w w' : World} (h : Lib.OthersKept 5 (some b) w w') : Bldw.KeptT b w w' := fun k hk hb hc => by
  obtain ⟨o, ho⟩ : ∃ o, w.heap[k]? = some o := ⟨w.heap[k], Array.getElem?_eq_getElem hk⟩
  rw [ho]
  exact h k o ho (by simpa using hb) (fun c fz e => hc c fz (by rw [ho, e]))
theorem WS.write {B b : Nat} {l m : List UInt8} {w : World} (h : WS B b l w) (hlen : l.length + m.length ≤ 140737488355328) (hBw : B ≤ w.heap.size) :
    Calls Tryd.prog 59 #[.pointer (some ⟨b, 0, none⟩), sv m] w fun e w' => e = .returned (.tuple #[.int .i64 m.length, .nilIface]) ∧ (WS B b (l ++ m) w' ∧ Below B w w' ∧ Bldw.KeptT b w w') :=
  (Tryd.Buffer_WriteString_at 60 (fun _ => none) B b 0 (Lib.byteCells l) ⟨m.toArray⟩ w h hBw (Lib.byteCells_one l) (by rw [Lib.byteCells_length]; exact hlen)).mono fun e w' ⟨he, hb, hbe, hk⟩ => ⟨he, by unfold WS; rw [Lib.byteCells_append]; exact hb, hbe, kept_of hk⟩
theorem WS.byte {B b : Nat} {l : List UInt8} {w : World} (c : UInt8) (h : WS B b l w) (hlen : l.length + 1 ≤ 140737488355328) (hBw : B ≤ w.heap.size) :
    Calls Tryd.prog 61 #[.pointer (some ⟨b, 0, none⟩), .int .u8 c.toNat] w fun e w' => e = .returned .nilIface ∧ (WS B b (l ++ [c]) w' ∧ Below B w w' ∧ Bldw.KeptT b w w') :=
  (Tryd.Buffer_WriteByte_at 60 (fun _ => none) B b 0 (Lib.byteCells l) c.toNat w h hBw (Lib.byteCells_one l) (by rw [Lib.byteCells_length]; exact hlen)).mono fun e w' ⟨he, hb, hbe, hk⟩ => ⟨he, by unfold WS; rw [Lib.byteCells_append]; exact hb, hbe, kept_of hk⟩
theorem WS.fresh (w : World) : WS w.heap.size w.heap.size [] (w.alloc (.cells #[.slice none 0 0, .int .i64 0, .int .i8 0] 60)) :=
  LibA.zero_isBuffer (Nat.le_refl _) (LibA.three_whole (heap_alloc_new _ _))
theorem op_field_wr (a : Act) (w : World) (b : Nat) (t : Nat) (h : a.tmps.getD t undef = .pointer (some ⟨b, 0, none⟩)) (oo : Oper) (ho : oo.op = .fieldAddr 60 (.tmp t) 0) : (execOp a.eval oo).run Tryd.prog w = .ok (.value (.pointer (some ⟨b, 0, none⟩))) w := by
  have h' : a.tmps[t]?.getD undef = .pointer (some ⟨b, 0, none⟩) := by simpa using h
  unfold execOp
  rw [ho]
  go_simp
def lineR (B b : Nat) (v : Value) (l J : List UInt8) : Nat → (Nat → Value) → World → Prop
  | 0, f, _ => f 4 = .pointer (some ⟨b, 0, none⟩)
  | 1, f, _ => f 5 = .pointer (some ⟨b, 0, none⟩)
  | 2, f, _ => f 6 = .pointer (some ⟨b, 0, none⟩)
  | 3, f, _ => f 7 = v
  | 4, f, _ => f 8 = sv J
  | 5, _, w => WS B b (l ++ J) w
  | _, _, _ => True
def lineM (j : Nat) : List Nat := if j < 5 then [4 + j] else []
theorem line_stab {B b : Nat} {v : Value} {l J : List UInt8} (j : Nat) {f f' : Nat → Value} {w w' : World} (hb : j = 5 → Below w.heap.size w w') (hf : ∀ t ∈ lineM j, f' t = f t) (h : lineR B b v l J j f w) : lineR B b v l J j f' w' := by
  match j, hb, hf, h with
  | 0, _, hf, h => exact (hf 4 (by decide)).trans h
  | 1, _, hf, h => exact (hf 5 (by decide)).trans h
  | 2, _, hf, h => exact (hf 6 (by decide)).trans h
  | 3, _, hf, h => exact (hf 7 (by decide)).trans h
  | 4, _, hf, h => exact (hf 8 (by decide)).trans h
  | 5, hb, _, h => exact WS.below h (hb rfl)
  | _ + 6, _, _, _ => trivial
set_option maxHeartbeats 2000000 in
set_option maxRecDepth 100000 in
theorem wline_any (B b : Nat) (v : Value) (L : List (List UInt8)) (l : List UInt8) (w : World) (h : WS B b l w) (hB : B ≤ w.heap.size) (hv : ReadsTexts v L w) (hs : L.flatten.length + L.length ≤ 4194304) (hl : l.length ≤ 70368744177664) :
    Calls Tryd.prog 26 #[.pointer (some ⟨b, 0, none⟩), v] w fun e w' => e = .returned (.tuple #[]) ∧ WS B b (l ++ (joinL L ++ [10])) w' ∧ Below B w w' ∧ Bldw.KeptT b w w' := by
  have H := Lib.hid h
  have HV := Lib.hid hv
  have hj := join_size L
  have E33 : Hid (∀ args w, (callFunc 60 args).run Tryd.prog w = .ok (.enter 60 args) w) := enters_of Tryd.func60 (by kernel_rfl) rfl
  have E32 : Hid (∀ args w, (callFunc 59 args).run Tryd.prog w = .ok (.enter 59 args) w) := enters_of Tryd.func59 (by kernel_rfl) rfl
  clear h hv
  go_enter Tryd.func26, Tryd.ntmps26
  go_wp2
  refine wp_region_vals (by kernel_rfl) (by kernel_rfl) lineM (by kernel_rfl) (by kernel_rfl)
    (fun d w' => (d 5 = false → Below w.heap.size w w') ∧ Below B w w' ∧ Bldw.KeptT b w w') (lineR B b v l (joinL L)) ⟨fun _ => (Below.refl _ _).drew, (Below.refl _ _).drew, fun _ _ _ _ => rfl⟩ (fun j f f' w w' hb hf h => line_stab j (fun _ => hb) hf h) ?_ ?_
  · intro i oo d a' w' ho hd hun hok hD K hK hK0
    have okq : i ≠ 5 → ((fun j => decide (j = i) || d j) 5 = false → Below w.heap.size w w') ∧ Below B w w' ∧ Bldw.KeptT b w w' := fun hne =>
      ⟨fun h => hok.1 (by simp only [Bool.or_eq_false_iff] at h; exact h.2), hok.2⟩
    match i, ho, hd, hD, hK, hK0, hun, okq with
    | 0, ho, hd, hD, hK, hK0, hun, okq =>
      have e := (congrArg Oper.op (Option.some.inj ho)).symm
      obtain rfl := Option.some.inj ho
      exact wp_val (op_move a' w' 0 _ e) (hK _ _ (Below.refl _ _) (okq (by decide)) (fun f h1 _ => (h1 _ rfl).trans (hun 0 (by kernel_rfl))))
    | 1, ho, hd, hD, hK, hK0, hun, okq =>
      have e := (congrArg Oper.op (Option.some.inj ho)).symm
      obtain rfl := Option.some.inj ho
      exact wp_val (op_nil a' w' _ 4 (hD 0 (by kernel_rfl)) _ e) (hK _ _ (Below.refl _ _) (okq (by decide)) (fun f h1 _ => h1 _ rfl))
    | 2, ho, hd, hD, hK, hK0, hun, okq =>
      have e := (congrArg Oper.op (Option.some.inj ho)).symm
      obtain rfl := Option.some.inj ho
      exact wp_val (op_field_wr a' w' b 5 (hD 1 (by kernel_rfl)) _ e) (hK _ _ (Below.refl _ _) (okq (by decide)) (fun f h1 _ => h1 _ rfl))
    | 3, ho, hd, hD, hK, hK0, hun, okq =>
      have e := (congrArg Oper.op (Option.some.inj ho)).symm
      obtain rfl := Option.some.inj ho
      exact wp_val (op_move a' w' 1 _ e) (hK _ _ (Below.refl _ _) (okq (by decide)) (fun f h1 _ => (h1 _ rfl).trans (hun 1 (by kernel_rfl))))
    | 4, ho, hd, hD, hK, hK0, hun, okq =>
      have e := (congrArg Oper.op (Option.some.inj ho)).symm
      obtain rfl := Option.some.inj ho
      have q := okq (by decide)
      refine wp_enter (op_call1 a' w' _ 7 _ E33.out _ e) ?_
      rw [show a'.tmps.getD 7 undef = v from hD 3 (by kernel_rfl)]
      have h5 := hd 5 (by kernel_rfl)
      refine (join_any v L w' (HV.out.below (hok.1 h5)) hs).mono ?_
      rintro e w'' ⟨rfl, hb⟩
      have hbw : Below w.heap.size w w'' := (hok.1 h5).trans (hb.mono (hok.1 h5).size)
      exact .inl ⟨_, rfl, hK _ _ hb ⟨fun _ => hbw, hbw.mono hB, Bldw.KeptT.of hbw⟩ (fun f h1 _ => h1 _ rfl)⟩
    | 5, ho, hd, hD, hK, hK0, hun, okq =>
      have e := (congrArg Oper.op (Option.some.inj ho)).symm
      obtain rfl := Option.some.inj ho
      refine wp_enter (op_call2 a' w' _ 6 8 _ _ E32.out _ e) ?_
      rw [show a'.tmps.getD 6 undef = _ from hD 2 (by kernel_rfl), show a'.tmps.getD 8 undef = _ from hD 4 (by kernel_rfl)]
      have hb := hok.1 (hd 5 (by kernel_rfl))
      refine ((H.out.below hb).write (by omega) (Nat.le_trans hB hb.size)).mono ?_
      rintro e w'' ⟨rfl, hws, hbe, hkt⟩
      exact .inl ⟨_, rfl, hK0 _ _ ⟨fun h => by simp at h, hok.2.1.trans hbe, hok.2.2.trans hok.2.1.size hkt⟩ (fun f _ _ => hws) (fun j f hj hf hq => line_stab j (fun e => absurd e hj) hf hq)⟩
    | i + 6, ho, _, _, _, _, _, _ => exact absurd ho (by simp)
  · intro a' w3 hsz hdf hkt hok hR
    obtain ⟨tm, df⟩ := a'
    obtain rfl : df = [] := hdf
    have hs14 : tm.size = 14 := hsz
    obtain ⟨d, hok⟩ := hok
    have k0 : tm.getD 0 undef = .pointer (some ⟨b, 0, none⟩) := hkt 0 (by decide)
    have k1 : tm.getD 1 undef = v := hkt 1 (by decide)
    have hws : WS B b (l ++ joinL L) w3 := hR 5 (by decide)
    have hl14 : tm = #[tm.getD 0 undef, tm.getD 1 undef, tm.getD 2 undef, tm.getD 3 undef, tm.getD 4 undef, tm.getD 5 undef, tm.getD 6 undef, tm.getD 7 undef, tm.getD 8 undef, tm.getD 9 undef, tm.getD 10 undef, tm.getD 11 undef, tm.getD 12 undef, tm.getD 13 undef] := (lit_tm tm 14 hs14).trans rfl
    rw [k0, k1] at hl14
    generalize tm.getD 2 undef = y2 at hl14
    generalize tm.getD 3 undef = y3 at hl14
    generalize tm.getD 4 undef = y4 at hl14
    generalize tm.getD 5 undef = y5 at hl14
    generalize tm.getD 6 undef = y6 at hl14
    generalize tm.getD 7 undef = y7 at hl14
    generalize tm.getD 8 undef = y8 at hl14
    generalize tm.getD 9 undef = y9 at hl14
    generalize tm.getD 10 undef = y10 at hl14
    generalize tm.getD 11 undef = y11 at hl14
    generalize tm.getD 12 undef = y12 at hl14
    generalize tm.getD 13 undef = y13 at hl14
    clear k0 k1 hs14 hkt hR hsz
    subst hl14
    have WN := Lib.hid (hws.byte 10 (by simp; omega) (Nat.le_trans hB hok.2.1.size))
    rw [show (((10 : UInt8).toNat : Nat) : Int) = 10 from rfl] at WN
    have HBB := Lib.hid hok.2.1
    have HKK := Lib.hid hok.2.2
    clear hws hok
    go_wp2_with fail
    refine WN.out.mono ?_
    rintro e w4 ⟨rfl, hws4, hb4, hk4⟩
    have HW4 := Lib.hid hws4
    have HB4 := Lib.hid (HBB.out.trans hb4)
    have HK4 := Lib.hid (HKK.out.trans HBB.out.size hk4)
    clear hws4 hb4 hk4
    go_wp2
    go_end0
    exact ⟨rfl, by rw [← List.append_assoc]; exact HW4.out, HB4.out, HK4.out⟩


/-- a number, in its groups -/
theorem grp_len (n : Nat) : ∀ m, n ≤ m → (grp n).length ≤ n + 1 := by
  intro m
  induction m generalizing n with
  | zero => intro h; obtain rfl : n = 0 := (by omega); rw [grp_small 0 (by omega)]; simp
  | succ m ih =>
    intro h
    by_cases hn : n < 128
    · rw [grp_small n hn]; simp
    · rw [grp_great n hn, List.length_cons]
      have := ih (n / 128) (by omega)
      omega
set_option maxHeartbeats 2000000 in
set_option maxRecDepth 100000 in
theorem wnumber_any (B b n : Nat) (l : List UInt8) (w : World) (h : WS B b l w) (hB : B ≤ w.heap.size) (hn : n ≤ 65536) (hl : l.length ≤ 70368744177664) :
    Calls Tryd.prog 28 #[.pointer (some ⟨b, 0, none⟩), .int .i64 n] w fun e w' => e = .returned (.tuple #[]) ∧ WS B b (l ++ grp n) w' ∧ Below B w w' ∧ Bldw.KeptT b w w' := by
  have H := Lib.hid h
  have HG := Lib.hid (grp_len n n (Nat.le_refl _))
  clear h
  go_enter Tryd.func28, Tryd.ntmps28
  go_wp2
  go_loopw [1] (fun x wr => ∃ (m : Nat) (g : List UInt8), x = .int .i64 m ∧ m ≤ n ∧ g ++ grp m = grp n ∧ WS B b (l ++ g) wr ∧ Below B w wr ∧ Bldw.KeptT b w wr) (fun x _ => (intOf x).toNat)
  case atStart => exact ⟨n, [], rfl, Nat.le_refl _, rfl, by rw [List.append_nil]; exact H.out, Below.refl _ _, fun _ _ _ _ => rfl⟩
  case round =>
    obtain ⟨m, g, rfl, hm, hg, hws, hb, hk⟩ := hrel
    have HW := Lib.hid hws
    have HB := Lib.hid hb
    have HK := Lib.hid hk
    have HGL : Hid (g.length ≤ 65537) := by
      have h1 := congrArg List.length hg
      rw [List.length_append] at h1
      have h2 := HG.out
      unfold Hid; omega
    have HGE := Lib.hid hg
    clear hws hb hk hg
    by_cases hlt : m < 128
    · have WN := Lib.hid (HW.out.byte (UInt8.ofNat m) (by rw [List.length_append]; have := HGL.out; omega) (Nat.le_trans hB HB.out.size))
      have e : ((UInt8.ofNat m).toNat : Int) = (m : Int) := by rw [UInt8.toNat_ofNat']; omega
      rw [e] at WN
      have HS : Hid (grp m = [UInt8.ofNat m]) := grp_small m hlt
      clear e
      go_wp2_with fail
      refine WN.out.mono ?_
      rintro e w4 ⟨rfl, hws4, hb4, hk4⟩
      have HW4 := Lib.hid hws4
      have HB4 := Lib.hid (HB.out.trans hb4)
      have HK4 := Lib.hid (HK.out.trans HB.out.size hk4)
      clear hws4 hb4 hk4
      go_wp2
      go_end0
      exact ⟨rfl, by rw [← HGE.out, HS.out, ← List.append_assoc]; exact HW4.out, HB4.out, HK4.out⟩
    · have WN := Lib.hid (HW.out.byte (UInt8.ofNat (128 + m % 128)) (by rw [List.length_append]; have := HGL.out; omega) (Nat.le_trans hB HB.out.size))
      have e : ((UInt8.ofNat (128 + m % 128)).toNat : Int) = 128 + (m : Int) % 128 := by rw [UInt8.toNat_ofNat']; omega
      rw [e] at WN
      have HS : Hid (grp m = UInt8.ofNat (128 + m % 128) :: grp (m / 128)) := grp_great m hlt
      clear e
      go_wp2_with fail
      refine WN.out.mono ?_
      rintro e w4 ⟨rfl, hws4, hb4, hk4⟩
      have HW4 := Lib.hid hws4
      have HB4 := Lib.hid (HB.out.trans hb4)
      have HK4 := Lib.hid (HK.out.trans HB.out.size hk4)
      clear hws4 hb4 hk4
      go_wp2
      go_roundw
      case rel => exact ⟨m / 128, g ++ [UInt8.ofNat (128 + m % 128)], by go_num, by omega, by rw [← HGE.out, HS.out]; simp, by rw [← List.append_assoc]; exact HW4.out, HB4.out, HK4.out⟩
      case measure => simp [intOf]; omega
end Go.Proofs.YtopjddmgejfalaaDoor.Aig
