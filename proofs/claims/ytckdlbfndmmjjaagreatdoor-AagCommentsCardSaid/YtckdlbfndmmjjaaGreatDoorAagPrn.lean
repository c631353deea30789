/- The walk of aag's Print of a circuit that may be; condition: the table of powers of ten is as it is laid. -/
import Derived.Test.YtckdlbfndmmjjaaGreatDoorAagNameL
import Derived.Test.YtckdlbfndmmjjaaGreatDoorAagFine
namespace Go.Proofs.YtckdlbfndmmjjaaGreatDoor.Aag
open Go.ChangeShapes Go.WideShapes Go.ChangeAt Go.RowKit Go.Maps Dig Circ Cw

theorem Tab.later {w w' : World} (h : Tab w) (hb : Below w.heap.size w w') : Tab w' := fun w2 hb2 => h w2 (hb.trans (hb2.mono hb.size))
/-- what stays while a text is gathered from block B on: the circuit's box, its lists, the table -/
structure Gath (W : World) (B b : Nat) (c : Cir) (s : Places) (l : List UInt8) (w : World) : Prop where
  ws : WS B b l w
  bel : Below B W w
theorem Gath.step {W : World} {B b : Nat} {c : Cir} {s : Places} {l l' : List UInt8} {w w' : World} (h : Gath W B b c s l w) (hw : WS B b l' w') (hb : Below B w w') : Gath W B b c s l' w' := ⟨hw, h.bel.trans hb⟩

theorem print_no (c : Cir) (s : Places) (w : World) (h : CLies w w.heap.size c s) (hf : CFits c s) (hc : chk c = false) :
    Calls Tryz.prog 7 #[cirV c s] w fun e w' => e = .returned (.tuple #[.string ⟨#[]⟩, .int .i64 9]) ∧ Below w.heap.size w w' := by
  have HB1 : Hid (Below w.heap.size w (w.alloc (.cells (cirC c s) 27))) := (Below.refl _ _).alloc (Nat.le_refl _) _
  have CK := Lib.hid (check_any c s _ ((h.below HB1.out).more (by simp)) hf)
  rw [chkV_no c hc] at CK
  clear h hf hc
  unfold cirV at *
  rw [show cirC c s = #[.int .i64 c.max, .slice s.ai c.ins.length s.ki, .slice s.al c.lats.length s.kl, .slice s.ao c.outs.length s.ko, .slice s.ab c.bads.length s.kb, .slice s.ac c.invs.length s.kc, .slice s.aa c.ands.length s.ka, .slice s.an c.names.length s.kn] from rfl] at CK HB1 ⊢
  go_enter Tryz.func7, Tryz.ntmps7
  go_wp2_with fail
  refine CK.out.mono ?_
  rintro e w1 ⟨rfl, hb⟩
  have HB2 := Lib.hid (HB1.out.trans (hb.mono HB1.out.size))
  clear hb CK
  go_wp2
  go_ret2
  exact ⟨rfl, HB2.out⟩

theorem cells8 {w : World} {g : Nat} {c : Cir} {s : Places} (h : w.heap[g]? = some (.cells (cirC c s) 27 (0, 0))) : w.cell? ⟨g, 0, none⟩ = some (.int .i64 c.max) ∧ w.cell? ⟨g, 1, none⟩ = some (.slice s.ai c.ins.length s.ki) ∧ w.cell? ⟨g, 2, none⟩ = some (.slice s.al c.lats.length s.kl) ∧ w.cell? ⟨g, 3, none⟩ = some (.slice s.ao c.outs.length s.ko) ∧ w.cell? ⟨g, 4, none⟩ = some (.slice s.ab c.bads.length s.kb) ∧ w.cell? ⟨g, 5, none⟩ = some (.slice s.ac c.invs.length s.kc) ∧ w.cell? ⟨g, 6, none⟩ = some (.slice s.aa c.ands.length s.ka) ∧ w.cell? ⟨g, 7, none⟩ = some (.slice s.an c.names.length s.kn) := by
  have e : ∀ i, w.cell? ⟨g, i, none⟩ = (cirC c s)[i]? := fun i => by simp [World.cell?, h]
  exact ⟨e 0, e 1, e 2, e 3, e 4, e 5, e 6, e 7⟩
theorem le_lits {l : List UInt8} {ls : List Int} {n : Nat} (h : l.length ≤ n) (hI : ∀ x ∈ ls, I64 x) : (l ++ nlL (ls.map litL)).length ≤ n + 22 * ls.length := by
  have := nl_lits ls hI
  rw [List.length_append]; omega
theorem lat_short (t : Tri) (h : t.fits) : (latL t ++ [10]).length ≤ 70 := by
  obtain ⟨x, y, z⟩ := t
  have h1 := itoa_short x h.1
  have h2 := itoa_short y h.2.1
  have h3 := itoa_short z h.2.2
  unfold latL
  simp only
  rw [List.length_append]
  split <;> simp [nums, joinL] <;> omega
theorem and_short (t : Tri) (h : t.fits) : (andL t ++ [10]).length ≤ 70 := by
  obtain ⟨x, y, z⟩ := t
  have h1 := itoa_short x h.1
  have h2 := itoa_short y h.2.1
  have h3 := itoa_short z h.2.2
  unfold andL
  rw [List.length_append]
  simp [nums, joinL]
  omega
theorem head_short (c : Cir) (hI : ∀ x ∈ headNs c, I64 x) : (headL c ++ [10]).length ≤ 200 := by
  have h0 := itoa_short c.max (hI _ (by simp [headNs]))
  have h1 := itoa_short c.ins.length (hI _ (by simp [headNs]))
  have h2 := itoa_short c.lats.length (hI _ (by simp [headNs]))
  have h3 := itoa_short c.outs.length (hI _ (by simp [headNs]))
  have h4 := itoa_short c.ands.length (hI _ (by simp [headNs]))
  have h5 := itoa_short c.bads.length (hI _ (by simp [headNs]))
  have h6 := itoa_short c.invs.length (hI _ (by simp [headNs]))
  rw [headL_eq, List.length_append]
  simp [nums, joinL, headNs]
  omega
theorem lats_short (l : List Tri) (h : ∀ t ∈ l, t.fits) : (nlL (l.map latL)).length ≤ 70 * l.length := by
  induction l with
  | nil => simp [nlL]
  | cons t l ih =>
    have h1 := ih fun y hy => h y (List.mem_cons_of_mem _ hy)
    have h2 := lat_short t (h t List.mem_cons_self)
    have e : nlL ((t :: l).map latL) = (latL t ++ [10]) ++ nlL (l.map latL) := by unfold nlL; rfl
    rw [e, List.length_append, List.length_cons]
    omega
theorem ands_short (l : List Tri) (h : ∀ t ∈ l, t.fits) : (nlL (l.map andL)).length ≤ 70 * l.length := by
  induction l with
  | nil => simp [nlL]
  | cons t l ih =>
    have h1 := ih fun y hy => h y (List.mem_cons_of_mem _ hy)
    have h2 := and_short t (h t List.mem_cons_self)
    have e : nlL ((t :: l).map andL) = (andL t ++ [10]) ++ nlL (l.map andL) := by unfold nlL; rfl
    rw [e, List.length_append, List.length_cons]
    omega
end Go.Proofs.YtckdlbfndmmjjaaGreatDoor.Aag
