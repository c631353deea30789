/- A trail's mathematics over the landed trail's rows: a cell for each variable, an order, levels that never fall; no program is named here; no condition. The law's own at (layer 15); an append of whose list it is told where it lies; condition: the list lies in memory. TrailNobody from what it asks of a trail that nobody made. #[.pointer none]: the struct's zero cells, as the program lays it. -/
import Derived.Test.YtomkdegajhijjaaPt04
import Derived.BigQuiet
namespace Go.Proofs.Ytomkdegajhijjaa.Tra
open Circ Cla

def zeroT : Tri := ⟨0, 0, 0⟩
def getT (C : List Tri) (i : Nat) : Tri := C.getD i zeroT
theorem getT_get {C : List Tri} {i : Nat} (hi : i < C.length) : getT C i = C[i] := by unfold getT; rw [List.getD_eq_getElem?_getD, List.getElem?_eq_getElem hi]; rfl
theorem ext_T {C D : List Tri} (hl : C.length = D.length) (h : ∀ i, i < C.length → getT C i = getT D i) : C = D :=
  List.ext_getElem hl fun i h1 h2 => by
    have := h i h1
    rwa [getT_get h1, getT_get h2] at this
theorem getT_set {C : List Tri} {i : Nat} (hi : i < C.length) (s : Tri) (k : Nat) : getT (C.set i s) k = if k = i then s else getT C k := by
  unfold getT
  rw [List.getD_eq_getElem?_getD, List.getElem?_set]
  by_cases h : i = k
  · subst h
    rw [if_pos rfl, if_pos hi, if_pos rfl]; rfl
  · rw [if_neg h, if_neg (fun e => h e.symm), List.getD_eq_getElem?_getD]
/-- a variable's cell: of one that is not set zeros -/
def cellM (L : List Tri) (v : Int) : Tri := (atM L v).getD zeroT
def cellsM (n : Nat) (L : List Tri) : List Tri := (List.range n).map fun i : Nat => cellM L ((i : Int) + 1)
theorem cells_len (n : Nat) (L : List Tri) : (cellsM n L).length = n := by unfold cellsM; simp
theorem cells_get {n i : Nat} (L : List Tri) (hi : i < n) : getT (cellsM n L) i = cellM L ((i : Int) + 1) := by
  rw [getT_get (by rw [cells_len]; exact hi)]
  unfold cellsM
  simp
/-- what is set: of variables that there are, each once, by levels that never fall -/
structure Good (n : Nat) (L : List Tri) : Prop where
  r : ∀ s ∈ L, 1 ≤ absW s.a ∧ absW s.a ≤ (n : Int) ∧ s.fits ∧ 0 ≤ s.b
  u : L.Pairwise fun a b => absW a.a ≠ absW b.a
  m : L.Pairwise fun a b => a.b ≤ b.b
theorem Good.nil (n : Nat) : Good n [] := ⟨fun _ h => (List.not_mem_nil h).elim, .nil, .nil⟩
theorem at_none {L : List Tri} {v : Int} : atM L v = none ↔ ∀ s ∈ L, absW s.a ≠ v := by
  unfold atM
  rw [List.find?_eq_none]
  simp
theorem at_mem {L : List Tri} {v : Int} {s : Tri} (h : atM L v = some s) : s ∈ L ∧ absW s.a = v := by
  unfold atM at h
  exact ⟨List.mem_of_find?_eq_some h, by simpa using List.find?_some h⟩
theorem at_app (L M : List Tri) (v : Int) : atM (L ++ M) v = (atM L v).or (atM M v) := by unfold atM; rw [List.find?_append]
theorem at_one (s : Tri) (v : Int) : atM [s] v = if absW s.a = v then some s else none := by
  unfold atM
  by_cases h : absW s.a = v
  · rw [if_pos h, List.find?_cons_of_pos (by simpa using h)]
  · rw [if_neg h, List.find?_cons_of_neg (by simpa using h)]; rfl
section
variable {n : Nat} {L : List Tri}
theorem Good.at_in (g : Good n L) {s : Tri} (hs : s ∈ L) : atM L (absW s.a) = some s := by
  obtain ⟨A, B, rfl⟩ := List.append_of_mem hs
  have h := List.pairwise_append.1 g.u
  have hn : atM A (absW s.a) = none := at_none.2 fun x hx => h.2.2 x hx s List.mem_cons_self
  rw [at_app, hn, Option.none_or, show s :: B = [s] ++ B from rfl, at_app, at_one, if_pos rfl]; rfl
theorem Good.out (g : Good n L) {v : Int} (h : ¬ (1 ≤ v ∧ v ≤ (n : Int))) : atM L v = none := at_none.2 fun s hs e => by
  have := g.r s hs
  omega
theorem Good.cell_out (g : Good n L) {v : Int} (h : ¬ (1 ≤ v ∧ v ≤ (n : Int))) : cellM L v = zeroT := by unfold cellM; rw [g.out h]; rfl
/-- a cell is of zeros where its variable is not set -/
theorem Good.zero (g : Good n L) (v : Int) : (cellM L v).a = 0 ↔ atM L v = none := by
  unfold cellM
  cases h : atM L v with
  | none => exact ⟨fun _ => rfl, fun _ => rfl⟩
  | some s =>
    obtain ⟨h1, -⟩ := at_mem h
    have h2 := (g.r s h1).1
    refine ⟨fun e => ?_, fun e => by cases e⟩
    exfalso
    have e : s.a = 0 := e
    rw [e] at h2
    exact absurd h2 (by decide)
theorem Good.set (g : Good n L) (v : Int) : decide ((cellM L v).a = 0 ∧ (cellM L v).b = 0 ∧ (cellM L v).c = 0) = (atM L v).isNone := by
  rw [Bool.eq_iff_iff, decide_eq_true_iff, Option.isNone_iff_eq_none]
  constructor
  · exact fun h => (g.zero v).1 h.1
  · intro h
    unfold cellM
    rw [h]
    exact ⟨rfl, rfl, rfl⟩
theorem Good.fits (g : Good n L) (v : Int) : (cellM L v).fits := by
  unfold cellM
  cases h : atM L v with
  | none => exact ⟨⟨by decide, by decide⟩, ⟨by decide, by decide⟩, by decide, by decide⟩
  | some s => exact (g.r s (at_mem h).1).2.2.1
theorem pigeons : ∀ (n : Nat) (l : List Int), l.Nodup → (∀ x ∈ l, 1 ≤ x ∧ x ≤ (n : Int)) → l.length ≤ n
  | 0, l, _, h => by
    rcases l with _ | ⟨x, l⟩
    · exact Nat.le_refl _
    · have := h x List.mem_cons_self
      omega
  | n + 1, l, d, h => by
    by_cases hm : ((n + 1 : Nat) : Int) ∈ l
    · have h1 := List.length_erase_of_mem hm
      have h2 := pigeons n (l.erase ((n + 1 : Nat) : Int)) (d.erase _) fun x hx => by
        have hx2 := (d.mem_erase_iff).1 hx
        have := h x hx2.2
        have := hx2.1
        omega
      omega
    · have := pigeons n l d fun x hx => by
        have h3 := h x hx
        have h4 : x ≠ ((n + 1 : Nat) : Int) := fun e => hm (e ▸ hx)
        omega
      omega
theorem Good.few (g : Good n L) : L.length ≤ n := by
  have := pigeons n (L.map fun s => absW s.a) (by unfold List.Nodup; exact List.pairwise_map.2 g.u) fun x hx => by
    obtain ⟨s, hs, rfl⟩ := List.mem_map.1 hx
    have := g.r s hs
    exact ⟨this.1, this.2.1⟩
  simpa using this
theorem Good.mono (g : Good n L) {k : Nat} (hk : n ≤ k) : Good k L := ⟨fun s hs => by
  have := g.r s hs
  exact ⟨this.1, by omega, this.2.2⟩, g.u, g.m⟩
theorem Good.take (g : Good n L) (m : Nat) : Good n (L.take m) := ⟨fun s hs => g.r s (List.mem_of_mem_take hs), g.u.sublist (List.take_sublist m L), g.m.sublist (List.take_sublist m L)⟩
/-- one more -/
theorem Good.put (g : Good n L) {s : Tri} (h1 : 1 ≤ absW s.a) (h2 : absW s.a ≤ (n : Int)) (hf : s.fits) (h0 : 0 ≤ s.b) (hb : ∀ x ∈ L, x.b ≤ s.b) (hn : atM L (absW s.a) = none) : Good n (L ++ [s]) := by
  refine ⟨fun x hx => ?_, List.pairwise_append.2 ⟨g.u, List.pairwise_singleton _ _, fun x hx y hy => ?_⟩, List.pairwise_append.2 ⟨g.m, List.pairwise_singleton _ _, fun x hx y hy => ?_⟩⟩
  · rcases List.mem_append.1 hx with hx | hx
    · exact g.r x hx
    · obtain rfl := List.mem_singleton.1 hx
      exact ⟨h1, h2, hf, h0⟩
  · obtain rfl := List.mem_singleton.1 hy
    exact at_none.1 hn x hx
  · obtain rfl := List.mem_singleton.1 hy
    exact hb x hx
/-- the cells behind one more -/
theorem cells_put {s : Tri} {v : Nat} (hv : absW s.a = (v : Int) + 1) (h2 : v < n) (hn : atM L (absW s.a) = none) : (cellsM n L).set v s = cellsM n (L ++ [s]) := by
  refine ext_T (by rw [List.length_set, cells_len, cells_len]) fun i hi => ?_
  rw [List.length_set, cells_len] at hi
  rw [getT_set (by rw [cells_len]; exact h2), cells_get _ hi, cells_get _ hi]
  unfold cellM
  rw [at_app, at_one]
  by_cases h : i = v
  · subst h
    rw [if_pos rfl, if_pos hv, ← hv, hn]; rfl
  · rw [if_neg h, if_neg (by omega), Option.or_none]
/-- the cells without the last one -/
theorem cells_pop (g : Good n L) {m v : Nat} (hm : m < L.length) (hv : absW (getT L m).a = (v : Int) + 1) (h2 : v < n) : (cellsM n (L.take (m + 1))).set v zeroT = cellsM n (L.take m) := by
  refine ext_T (by rw [List.length_set, cells_len, cells_len]) fun i hi => ?_
  rw [List.length_set, cells_len] at hi
  have e : L.take (m + 1) = L.take m ++ [L[m]] := List.take_succ_eq_append_getElem hm
  rw [getT_get hm] at hv
  have hn : atM (L.take m) (absW L[m].a) = none := by
    have := (g.take (m + 1)).u
    rw [e] at this
    exact at_none.2 fun x hx => (List.pairwise_append.1 this).2.2 x hx _ List.mem_cons_self
  rw [getT_set (by rw [cells_len]; exact h2), cells_get _ hi, cells_get _ hi, e]
  unfold cellM
  rw [at_app, at_one]
  by_cases h : i = v
  · subst h
    rw [if_pos rfl, ← hv, hn]; rfl
  · rw [if_neg h, if_neg (by omega), Option.or_none]
theorem cells_grow (g : Good n L) (k : Nat) : cellsM (n + k) L = cellsM n L ++ List.replicate k zeroT := by
  refine ext_T (by rw [List.length_append, List.length_replicate, cells_len, cells_len]) fun i hi => ?_
  rw [cells_len] at hi
  rw [cells_get _ hi]
  by_cases h : i < n
  · rw [show getT (cellsM n L ++ List.replicate k zeroT) i = getT (cellsM n L) i by unfold getT; rw [List.getD_eq_getElem?_getD, List.getElem?_append_left (by rw [cells_len]; exact h), ← List.getD_eq_getElem?_getD], cells_get _ h]
  · rw [g.cell_out (by omega), getT_get (by rw [List.length_append, List.length_replicate, cells_len]; omega), List.getElem_append_right (by rw [cells_len]; omega), List.getElem_replicate]
/-- what is not above a level is the front -/
theorem filter_take (g : Good n L) {lv : Int} {k : Nat} (hk : k ≤ L.length) (ha : ∀ i, L.length - k ≤ i → i < L.length → lv < (getT L i).b) (hb : k < L.length → (getT L (L.length - 1 - k)).b ≤ lv) : (L.filter fun s => decide (s.b ≤ lv)) = L.take (L.length - k) := by
  have e := List.take_append_drop (L.length - k) L
  conv => lhs; rw [← e]
  rw [List.filter_append]
  have h1 : ((L.drop (L.length - k)).filter fun s => decide (s.b ≤ lv)) = [] := by
    rw [List.filter_eq_nil_iff]
    intro s hs
    obtain ⟨i, hi, rfl⟩ := List.getElem_of_mem hs
    rw [List.getElem_drop]
    rw [List.length_drop] at hi
    have := ha (L.length - k + i) (by omega) (by omega)
    rw [getT_get (by omega)] at this
    simp; omega
  have h2 : ((L.take (L.length - k)).filter fun s => decide (s.b ≤ lv)) = L.take (L.length - k) := by
    rw [List.filter_eq_self]
    intro s hs
    obtain ⟨i, hi, rfl⟩ := List.getElem_of_mem hs
    rw [List.length_take] at hi
    rw [List.getElem_take]
    have h3 := hb (by omega)
    rw [getT_get (by omega)] at h3
    by_cases hl : i = L.length - 1 - k
    · subst hl; simpa using h3
    · have := List.pairwise_iff_getElem.1 g.m i (L.length - 1 - k) (by omega) (by omega) (by omega)
      simp; omega
  rw [h1, h2, List.append_nil]
end
theorem val_cell {L : List Tri} (l : Int) : valM L l = if (atM L (absW l)).isNone = true then 0 else if (cellM L (absW l)).a = l then 1 else -1 := by
  unfold valM cellM
  cases atM L (absW l) <;> rfl
theorem lev_cell {L : List Tri} (v : Int) : levM L v = if (atM L v).isNone = true then -1 else (cellM L v).b := by
  unfold levM cellM
  cases atM L v <;> rfl
theorem rea_cell {L : List Tri} (v : Int) : reaM L v = (cellM L v).c := by
  unfold reaM cellM
  cases atM L v <;> rfl
end Go.Proofs.Ytomkdegajhijjaa.Tra
namespace Go.Proofs.Ytomkdegajhijjaa.Tra
open Go.ChangeShapes Go.WideShapes Go.ChangeAt Go.RowKit Go.Maps Circ Cw Cla

def setV (o : Option Tri) : Value := match o with
  | some s => .agg #[.int .i64 s.a, .int .i64 s.b, .int .i64 s.c]
  | none => .agg #[.int .i64 0, .int .i64 0, .int .i64 0]
theorem res_at {Z : World} {b : Nat} {x y z : Int} {t : Bool} (h0 : Z.cell? ⟨b, 0, none⟩ = some (.int .i64 x)) (h1 : Z.cell? ⟨b, 1, none⟩ = some (.int .i64 y)) (h2 : Z.cell? ⟨b, 2, none⟩ = some (.int .i64 z)) : ∀ tmps : Array Value, tmps.getD 4 undef = .pointer (some ⟨b, 0, none⟩) → tmps.getD 5 undef = .bool t → (results Try.f9 tmps).run Try.prog Z = .ok (.tuple #[.agg #[.int .i64 x, .int .i64 y, .int .i64 z], .bool t]) Z := fun tmps ht h5 => by
  simp only [results, show Try.f9.results = #[ResultVar.cell 4 31, ResultVar.slot 5] from rfl]
  have ht' : tmps[4]?.getD undef = .pointer (some ⟨b, 0, none⟩) := by simpa using ht
  have h5' : tmps[5]?.getD undef = .bool t := by simpa using h5
  go_simp
theorem at_next (L : List Tri) (k : Nat) (hk : k < L.length) (v : Int) : atM (L.take (k + 1)) v = match atM (L.take k) v with
    | some s => some s
    | none => if absW L[k].a = v then some L[k] else none := by
  unfold atM
  rw [List.take_succ_eq_append_getElem hk, List.find?_append]
  cases h : (L.take k).find? fun s => decide (absW s.a = v) with
  | some s => rfl
  | none =>
    by_cases e : absW L[k].a = v
    · simp [e]
    · simp [e]
theorem at_some {L : List Tri} {k : Nat} (hk : k < L.length) {v : Int} (h : atM (L.take k) v = none) (e : absW L[k].a = v) : atM L v = some L[k] := by
  have h2 := at_next L k hk v
  rw [h, if_pos e] at h2
  have h3 : atM L v = atM (L.take (k + 1) ++ L.drop (k + 1)) v := by rw [List.take_append_drop]
  rw [h3]
  unfold atM at h2 ⊢
  rw [List.find?_append, h2]; rfl
theorem zero3 {w : World} {T : TypeId} : (w.alloc (.cells #[.int .i64 0, .int .i64 0, .int .i64 0] T)).heap[w.heap.size]? = some (.cells #[.int .i64 0, .int .i64 0, .int .i64 0] T (0, 0)) := Array.getElem?_push_size
theorem three {w : World} {g : Nat} {a b c : Value} {T : TypeId} (h : w.heap[g]? = some (.cells #[a, b, c] T (0, 0))) : w.cell? ⟨g, 0, none⟩ = some a ∧ w.cell? ⟨g, 1, none⟩ = some b ∧ w.cell? ⟨g, 2, none⟩ = some c := by
  have hx := Lib.cell_of_heap h
  exact ⟨hx 0, hx 1, hx 2⟩
set_option maxHeartbeats 8000000 in
set_option maxRecDepth 100000 in
theorem at_any (L : List Tri) (A : Option Addr) (q : Nat) (v : Int) (w : World) (hL : LRow w w.heap.size 3 A (tris L)) (hf : ∀ t ∈ L, t.fits) (hn : L.length ≤ 9223372036854775807) :
    Calls Try.prog 9 #[.slice A L.length q, .int .i64 v] w fun e w' => e = .returned (.tuple #[setV (atM L v), .bool (atM L v).isSome]) ∧ Below w.heap.size w w' := by
  have HL := Lib.hid (fun x (hx : Below w.heap.size w x) => hL.below hx)
  have HF := Lib.hid hf
  have Z0 := zero3 (w := w) (T := 31)
  obtain ⟨W0, hW0⟩ : ∃ x, w.alloc (.cells #[.int .i64 0, .int .i64 0, .int .i64 0] 31) = x := ⟨_, rfl⟩
  rw [hW0] at Z0
  have b0 : Hid (Below w.heap.size w W0) := by unfold Hid; rw [← hW0]; exact (Below.refl _ _).alloc (Nat.le_refl _) _
  have GZ := Lib.hid Z0
  clear hL hf Z0
  go_enter Try.func9, Try.ntmps9
  go_wp2
  go_loopw [6] (fun i wr => ∃ k : Nat, k ≤ L.length ∧ i = .int .i64 k ∧ atM (L.take k) v = none ∧ wr.heap[w.heap.size]? = some (.cells #[.int .i64 0, .int .i64 0, .int .i64 0] 31 (0, 0)) ∧ Below w.heap.size w wr) (fun i _ => L.length - (intOf i).toNat)
  case atStart => exact ⟨0, Nat.zero_le _, rfl, rfl, GZ.out, b0.out⟩
  case round =>
    clear GZ b0 hW0
    obtain ⟨k, hk, rfl, hn0, hz, hb⟩ := hrel
    have HN0 := Lib.hid hn0
    have HZ := Lib.hid hz
    have HB := Lib.hid hb
    clear hn0 hz hb
    by_cases hlt : k < L.length
    · obtain ⟨b, o, rfl, -, c0, c1, c2⟩ := LRow.tri (HL.out wr HB.out) hlt
      have FT := Lib.hid (HF.out _ (List.getElem_mem hlt))
      have AB := Lib.hid (abs_any L[k].a wr FT.out.1)
      have k1 : (k : Int) < (L.length : Int) := by omega
      by_cases he : absW L[k].a = v
      · have HS := Lib.hid (at_some hlt HN0.out he)
        have heb : (absW L[k].a == v) = true := beq_iff_eq.2 he
        clear he HN0
        generalize absW L[k].a = y at *
        generalize hq : L[k] = t at *
        clear hq
        obtain ⟨Z1, Z2, Z3, u0, u1, u2, ⟨h1, p1, q1⟩, ⟨h2, p2, q2⟩, ⟨h3, p3, q3⟩, GE, BE⟩ : ∃ Z1 Z2 Z3 u0 u1 u2, (wr.setCell ⟨w.heap.size, 0, none⟩ (.int .i64 t.a) = Z1 ∧ wr.cell? ⟨w.heap.size, 0, none⟩ = some u0 ∧ wr.frozen? ⟨w.heap.size, 0, none⟩ = false) ∧ (Z1.setCell ⟨w.heap.size, 1, none⟩ (.int .i64 t.b) = Z2 ∧ Z1.cell? ⟨w.heap.size, 1, none⟩ = some u1 ∧ Z1.frozen? ⟨w.heap.size, 1, none⟩ = false) ∧ (Z2.setCell ⟨w.heap.size, 2, none⟩ (.int .i64 t.c) = Z3 ∧ Z2.cell? ⟨w.heap.size, 2, none⟩ = some u2 ∧ Z2.frozen? ⟨w.heap.size, 2, none⟩ = false) ∧ Z3.heap[w.heap.size]? = some (.cells #[.int .i64 t.a, .int .i64 t.b, .int .i64 t.c] 31 (0, 0)) ∧ Below w.heap.size w Z3 := by
          obtain ⟨Z1, u0, a1, g1, f1⟩ := step_set wr _ 0 (.int .i64 t.a) HZ.out (by decide)
          obtain ⟨Z2, u1, a2, g2, f2⟩ := step_set Z1 _ 1 (.int .i64 t.b) g1 (by simp)
          obtain ⟨Z3, u2, a3, g3, f3⟩ := step_set Z2 _ 2 (.int .i64 t.c) g2 (by simp)
          exact ⟨Z1, Z2, Z3, u0, u1, u2, a1, a2, a3, g3, f3.below (f2.below (f1.below HB.out (Nat.le_refl _)) (Nat.le_refl _)) (Nat.le_refl _)⟩
        obtain ⟨r0, r1, r2⟩ := three GE
        have RS := Lib.hid (res_at (t := true) r0 r1 r2)
        have BE2 := Lib.hid BE
        clear GE BE r0 r1 r2 HZ HB
        go_wp2_with fail
        refine AB.out.mono ?_
        rintro e w' ⟨rfl, rfl⟩
        go_wp2
        refine bodyPost_ret (RS.out _ rfl rfl) rfl ?_
        exact ⟨by rw [HS.out]; rfl, BE2.out⟩
      · have heb : (absW L[k].a == v) = false := beq_eq_false_iff_ne.2 he
        have HN1 : Hid (atM (L.take (k + 1)) v = none) := by unfold Hid; rw [at_next L k hlt, HN0.out]; exact if_neg he
        clear he HN0
        generalize absW L[k].a = y at *
        generalize hq : L[k] = t at *
        clear hq
        go_wp2_with fail
        refine AB.out.mono ?_
        rintro e w' ⟨rfl, rfl⟩
        go_wp2
        go_roundw
        case rel => exact ⟨k + 1, by omega, by go_num, HN1.out, HZ.out, HB.out⟩
        case measure => simp [intOf]; omega
    · obtain rfl : k = L.length := by omega
      have HE : Hid (atM L v = none) := by have := HN0.out; rwa [List.take_length] at this
      obtain ⟨Z1, Z2, Z3, u0, u1, u2, ⟨h1, p1, q1⟩, ⟨h2, p2, q2⟩, ⟨h3, p3, q3⟩, GE, BE⟩ : ∃ Z1 Z2 Z3 u0 u1 u2, (wr.setCell ⟨w.heap.size, 0, none⟩ (.int .i64 0) = Z1 ∧ wr.cell? ⟨w.heap.size, 0, none⟩ = some u0 ∧ wr.frozen? ⟨w.heap.size, 0, none⟩ = false) ∧ (Z1.setCell ⟨w.heap.size, 1, none⟩ (.int .i64 0) = Z2 ∧ Z1.cell? ⟨w.heap.size, 1, none⟩ = some u1 ∧ Z1.frozen? ⟨w.heap.size, 1, none⟩ = false) ∧ (Z2.setCell ⟨w.heap.size, 2, none⟩ (.int .i64 0) = Z3 ∧ Z2.cell? ⟨w.heap.size, 2, none⟩ = some u2 ∧ Z2.frozen? ⟨w.heap.size, 2, none⟩ = false) ∧ Z3.heap[w.heap.size]? = some (.cells #[.int .i64 0, .int .i64 0, .int .i64 0] 31 (0, 0)) ∧ Below w.heap.size w Z3 := by
        obtain ⟨Z1, u0, a1, g1, f1⟩ := step_set wr _ 0 (.int .i64 0) HZ.out (by decide)
        obtain ⟨Z2, u1, a2, g2, f2⟩ := step_set Z1 _ 1 (.int .i64 0) g1 (by simp)
        obtain ⟨Z3, u2, a3, g3, f3⟩ := step_set Z2 _ 2 (.int .i64 0) g2 (by simp)
        exact ⟨Z1, Z2, Z3, u0, u1, u2, a1, a2, a3, g3, f3.below (f2.below (f1.below HB.out (Nat.le_refl _)) (Nat.le_refl _)) (Nat.le_refl _)⟩
      obtain ⟨r0, r1, r2⟩ := three GE
      have RS := Lib.hid (res_at (t := false) r0 r1 r2)
      have BE2 := Lib.hid BE
      clear GE BE r0 r1 r2 HZ HB HN0
      go_wp2
      refine bodyPost_ret (RS.out _ rfl rfl) rfl ?_
      exact ⟨by rw [HE.out]; rfl, BE2.out⟩
/-- appending one element to a list that the call makes: where it lies then -/
theorem wpList_push5 {ops : Array Oper} {rest : List Oper} {o : Oper} {a : Act} {Q : Exit → Act → World → Prop} (w : World) (hgd : o.guard = none) (s x : Operand) (T : TypeId)
    (ho : o.op = .call { callee := .builtin .append, args := #[s, x], argTypes := #[T, T] })
    (e m bytes : Nat) (z : Value) (hT : Try.prog.underlying T = some (.slice e)) (hi : (Try.prog.info? e).map (fun i => (i.zero, i.size, i.bytes)) = some (some z, m, bytes)) (hzs : z.cells.size = m) (hm : 0 < m)
    (base : Nat) (v : Value) (xs : List (List Value)) (hown : OwnC w base e m v xs) (hs : a.eval s = v) (g : Nat) (c : Nat) (hx : a.eval x = .slice (some ⟨g, 0, none⟩) 1 c) (y : List Value) (hy : ∀ j u, y[j]? = some u → w.cell? ⟨g, j, none⟩ = some u)
    (hlen : y.length = m) (hone : ∀ u ∈ y, u.oneCell' = true) (hbytes : (xs.length + 1) * bytes ≤ 140737488355328) (hmax : xs.length + 1 ≤ 9223372036854775807) (hbase : base ≤ w.heap.size)
    (h : ∀ v' w', OwnC w' base e m v' (xs ++ [y]) → Below base w w' → (∀ k, k < w.heap.size → some k ≠ v.ownBlock → w'.heap[k]? = w.heap[k]?) → (∀ k, v'.ownBlock = some k → v.ownBlock = some k ∨ w.heap.size ≤ k) → wpList Try.prog ops Q rest (a.put o.dst v') w') : wpList Try.prog ops Q (o :: rest) a w := by
  obtain ⟨i0, hi0, hz0, hz1, hz2⟩ := info_parts hi
  obtain ⟨v', w', h1, h2, h3, _, h5⟩ := run_append_own_at (P := Try.prog) w base T o.type e i0 z m bytes hT hi0 hz0 hz1 hz2 hzs hm v xs.length xs.flatten hown ⟨g, 0, none⟩ 1 c y (by rw [Nat.one_mul]; exact hlen) (fun j u hj => by
    have e : (⟨g, 0, none⟩ : Addr).add j = ⟨g, j, none⟩ := by unfold Addr.add; by_cases hz : j = 0 <;> simp [hz]
    rw [e]; exact hy j u hj) hone (by unfold maxLen; omega) hbytes hbase
  refine wpList_plain hgd fun K hK => ?_
  unfold Oper.wp execOp
  simp only [ho, resolve, invoke, builtin, Sem.run_bind, Sem.run_pure, Result.andThen_ok, List.map_toArray, List.map_cons, List.map_nil, hs, hx, h1]
  refine hK _ _ (h v' w' ?_ ?_ ?_ ?_)
  · unfold OwnC
    simpa using h2
  · exact ⟨h3.os, h3.tape, h3.output, h3.size, fun k hk => h3.block k (by omega) (fun e => by have := hown.block_lt k e.symm; omega)⟩
  · exact fun k hk hne => h3.block k hk hne
  · intro k hk
    rcases h5 with h5 | h5
    · exact .inl (h5 ▸ hk)
    · rw [h5] at hk; injection hk with hk; exact .inr (Nat.le_of_eq hk)
end Go.Proofs.Ytomkdegajhijjaa.Tra
namespace Go.Proofs.Ytomkdegajhijjaa.Tra
open Go.ChangeShapes Go.WideShapes Go.ChangeAt Go.RowKit Go.Maps Circ Cw

/-- nobody's trail: none, or a struct of zeros -/
def Nob (w : World) (p : Value) : Prop := p = .pointer none ∨ ∃ g, p = .pointer (some ⟨g, 0, none⟩) ∧ w.heap[g]? = some (.cells #[.pointer none] 43 (0, 0))
theorem Nob.below {w w' : World} {p : Value} (h : Nob w p) (hb : Below w.heap.size w w') : Nob w' p := by
  rcases h with h | ⟨g, h1, h2⟩
  · exact .inl h
  · exact .inr ⟨g, h1, (hb.block g (Array.getElem?_eq_some_iff.1 h2).1).trans h2⟩
/-- what the law asks of it -/
structure Nob15 : Prop where
  grow : ∀ (p : Value) (w : World), Nob w p → Calls Try.prog 13 #[p, .int .i64 3] w fun e w' => e = .returned (.tuple #[]) ∧ Below w.heap.size w w'
  back : ∀ (p : Value) (lv : Int) (w : World), Nob w p → I64 lv → Calls Try.prog 12 #[p, .int .i64 lv] w fun e w' => e = .returned (.tuple #[]) ∧ Below w.heap.size w w'
  put : ∀ (p : Value) (x : Int) (w : World), Nob w p → I64 x → Calls Try.prog 10 #[p, .int .i64 x, .int .i64 1] w fun e w' => e = .returned (.bool false) ∧ Below w.heap.size w w'
  deeper : ∀ (p : Value) (w : World), Nob w p → Calls Try.prog 11 #[p] w fun e w' => e = .returned (.int .i64 0) ∧ Below w.heap.size w w'
  value : ∀ (p : Value) (x : Int) (w : World), Nob w p → I64 x → Calls Try.prog 15 #[p, .int .i64 x] w fun e w' => e = .returned (.int .i64 0) ∧ Below w.heap.size w w'
  level : ∀ (p : Value) (x : Int) (w : World), Nob w p → I64 x → Calls Try.prog 16 #[p, .int .i64 x] w fun e w' => e = .returned (.int .i64 (-1)) ∧ Below w.heap.size w w'
  reason : ∀ (p : Value) (x : Int) (w : World), Nob w p → I64 x → Calls Try.prog 17 #[p, .int .i64 x] w fun e w' => e = .returned (.int .i64 0) ∧ Below w.heap.size w w'
  lits : ∀ (p : Value) (w : World), Nob w p → Calls Try.prog 21 #[p] w fun e w' => (∃ A q, e = .returned (.slice A 0 q)) ∧ Below w.heap.size w w'
  depth : ∀ (p : Value) (w : World), Nob w p → Calls Try.prog 18 #[p] w fun e w' => e = .returned (.int .i64 0) ∧ Below w.heap.size w w'
  len : ∀ (p : Value) (w : World), Nob w p → Calls Try.prog 19 #[p] w fun e w' => e = .returned (.int .i64 0) ∧ Below w.heap.size w w'
  at_ : ∀ (p : Value) (x : Int) (w : World), Nob w p → I64 x → Calls Try.prog 14 #[p, .int .i64 x] w fun e w' => e = .returned (.int .i64 0) ∧ Below w.heap.size w w'
set_option maxHeartbeats 16000000 in
set_option maxRecDepth 100000 in
theorem nobody_walk (P : Nob15) (AL : ∀ w : World, Calls Try.prog 6 #[] w fun e w' => e = .returned (.bool true) ∧ Below w.heap.size w w') (x lv : Int) (w : World) (h64 : I64 x) (h65 : I64 lv) :
    Calls Try.prog 4 #[.int .i64 x, .int .i64 lv] w fun e w' => e = .returned (.bool true) ∧ Below w.heap.size w w' := by
  obtain ⟨W1, hW1⟩ : ∃ y, w.alloc (.cells #[.pointer none] 43) = y := ⟨_, rfl⟩
  have g1 : W1.heap[w.heap.size]? = some (.cells #[.pointer none] 43 (0, 0)) := by rw [← hW1]; exact Array.getElem?_push_size
  have b1 : Below w.heap.size w W1 := by rw [← hW1]; exact (Below.refl _ _).alloc (Nat.le_refl _) _
  obtain ⟨W2, hW2⟩ : ∃ y, W1.alloc (.cells #[.pointer none, .pointer (some ⟨w.heap.size, 0, none⟩)] 24) = y := ⟨_, rfl⟩
  have g2 : W2.heap[W1.heap.size]? = some (.cells #[.pointer none, .pointer (some ⟨w.heap.size, 0, none⟩)] 24 (0, 0)) := by rw [← hW2]; exact Array.getElem?_push_size
  have b2 : Below W1.heap.size W1 W2 := by rw [← hW2]; exact (Below.refl _ _).alloc (Nat.le_refl _) _
  have G1 : Hid (W2.heap[w.heap.size]? = some (.cells #[.pointer none] 43 (0, 0))) := (b2.block _ (Array.getElem?_eq_some_iff.1 g1).1).trans g1
  have G2 := Lib.hid g2
  have B2 : Hid (Below w.heap.size w W2) := b1.trans (b2.mono b1.size)
  have HX := Lib.hid h64
  have HY := Lib.hid h65
  have AV := Lib.hid AL
  clear g1 g2 b1 b2 AL
  go_enter Try.func4, Try.ntmps4
  go_wp2
  clear hW1 hW2
  go_loopw [7] (fun i wr => ∃ k : Nat, k ≤ 2 ∧ i = .int .i64 k ∧ Below W2.heap.size W2 wr) (fun i _ => 2 - (intOf i).toNat)
  case atStart => exact ⟨0, by decide, rfl, Below.refl _ _⟩
  case round =>
    obtain ⟨k, hk, rfl, hb⟩ := hrel
    have BK := Lib.hid hb
    clear hb
    by_cases hk2 : k < 2
    · obtain ⟨p, hp⟩ : ∃ p : Value, (if k = 0 then Value.pointer none else Value.pointer (some ⟨w.heap.size, 0, none⟩)) = p := ⟨_, rfl⟩
      have c2 : wr.cell? ⟨W1.heap.size, k, none⟩ = some p := by
        rw [Lib.cell_of_heap ((BK.out.block _ (Array.getElem?_eq_some_iff.1 G2.out).1).trans G2.out), ← hp]
        match k, hk2 with
        | 0, _ => rfl
        | 1, _ => rfl
      have HN : Hid (Nob W2 p) := by
        unfold Hid Nob
        rw [← hp]
        split
        · exact .inl rfl
        · exact .inr ⟨_, rfl, G1.out⟩
      have hk0 : (0 : Int) ≤ (k : Int) := by omega
      have hk1 : (k : Int) < 2 := by omega
      clear hp
      have N0 := Lib.hid (P.grow p wr (HN.out.below BK.out))
      go_wp2_with fail
      refine N0.out.mono ?_
      rintro e w3 ⟨rfl, hb⟩
      have B3 : Hid (Below W2.heap.size W2 w3) := BK.out.trans (hb.mono BK.out.size)
      clear hb N0 c2
      have N0 := Lib.hid (P.back p lv w3 (HN.out.below B3.out) HY.out)
      go_wp2_with fail
      refine N0.out.mono ?_
      rintro e w4 ⟨rfl, hb⟩
      have B4 : Hid (Below W2.heap.size W2 w4) := B3.out.trans (hb.mono B3.out.size)
      clear hb N0
      have N0 := Lib.hid (P.put p x w4 (HN.out.below B4.out) HX.out)
      go_wp2_with fail
      refine N0.out.mono ?_
      rintro e w5 ⟨rfl, hb⟩
      have B5 : Hid (Below W2.heap.size W2 w5) := B4.out.trans (hb.mono B4.out.size)
      clear hb N0
      have N0 := Lib.hid (P.deeper p w5 (HN.out.below B5.out))
      go_wp2_with fail
      refine N0.out.mono ?_
      rintro e w6 ⟨rfl, hb⟩
      have B6 : Hid (Below W2.heap.size W2 w6) := B5.out.trans (hb.mono B5.out.size)
      clear hb N0
      have N0 := Lib.hid (P.value p x w6 (HN.out.below B6.out) HX.out)
      go_wp2_with fail
      refine N0.out.mono ?_
      rintro e w7 ⟨rfl, hb⟩
      have B7 : Hid (Below W2.heap.size W2 w7) := B6.out.trans (hb.mono B6.out.size)
      clear hb N0
      have N0 := Lib.hid (P.level p x w7 (HN.out.below B7.out) HX.out)
      go_wp2_with fail
      refine N0.out.mono ?_
      rintro e w8 ⟨rfl, hb⟩
      have B8 : Hid (Below W2.heap.size W2 w8) := B7.out.trans (hb.mono B7.out.size)
      clear hb N0
      have N0 := Lib.hid (P.reason p x w8 (HN.out.below B8.out) HX.out)
      go_wp2_with fail
      refine N0.out.mono ?_
      rintro e w9 ⟨rfl, hb⟩
      have B9 : Hid (Below W2.heap.size W2 w9) := B8.out.trans (hb.mono B8.out.size)
      clear hb N0
      have N0 := Lib.hid (P.lits p w9 (HN.out.below B9.out))
      go_wp2_with fail
      refine N0.out.mono ?_
      rintro e w10 ⟨⟨Al, ql, rfl⟩, hb⟩
      have B10 : Hid (Below W2.heap.size W2 w10) := B9.out.trans (hb.mono B9.out.size)
      clear hb N0
      have N0 := Lib.hid (P.depth p w10 (HN.out.below B10.out))
      go_wp2_with fail
      refine N0.out.mono ?_
      rintro e w11 ⟨rfl, hb⟩
      have B11 : Hid (Below W2.heap.size W2 w11) := B10.out.trans (hb.mono B10.out.size)
      clear hb N0
      have N0 := Lib.hid (P.len p w11 (HN.out.below B11.out))
      go_wp2_with fail
      refine N0.out.mono ?_
      rintro e w12 ⟨rfl, hb⟩
      have B12 : Hid (Below W2.heap.size W2 w12) := B11.out.trans (hb.mono B11.out.size)
      clear hb N0
      have N0 := Lib.hid (P.at_ p x w12 (HN.out.below B12.out) HX.out)
      go_wp2_with fail
      refine N0.out.mono ?_
      rintro e w13 ⟨rfl, hb⟩
      have B13 : Hid (Below W2.heap.size W2 w13) := B12.out.trans (hb.mono B12.out.size)
      clear hb N0
      go_wp2
      go_roundw
      case rel => exact ⟨k + 1, by omega, by go_num, B13.out⟩
      case measure => simp [intOf]; omega
    · obtain rfl : k = 2 := by omega
      have AW := Lib.hid (AV.out wr)
      have B3 : Hid (Below w.heap.size w wr) := B2.out.trans (BK.out.mono B2.out.size)
      go_wp2_with fail
      refine AW.out.mono ?_
      rintro e w9 ⟨rfl, hb⟩
      have B9 : Hid (Below w.heap.size w w9) := B3.out.trans (hb.mono B3.out.size)
      clear hb AW
      go_wp2
      go_ret
      exact ⟨rfl, B9.out⟩
end Go.Proofs.Ytomkdegajhijjaa.Tra
