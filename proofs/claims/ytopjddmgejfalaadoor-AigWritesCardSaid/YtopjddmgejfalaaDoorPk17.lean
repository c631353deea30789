/- The walks of aig's writing of a latch's line and of the header; conditions: the table of powers of ten is as it is laid, sizes as stated. The walk of aag's Print of a circuit that may be; condition: the table of powers of ten is as it is laid. A circuit that may be and is in order is one whose octets can be read; lengths of what is written; no condition. The walk of bytes.Buffer's Bytes, of a buffer that is embedded in aig's writer and holds something; no condition. -/
import Derived.Test.YtopjddmgejfalaaDoorPk16
import Derived.Test.YtopjddmgejfalaaDoorPk11
namespace Go.Proofs.YtopjddmgejfalaaDoor.Aig
open Go.ChangeShapes Go.WideShapes Go.ChangeAt Go.RowKit Dig Circ Cw Aag

set_option maxHeartbeats 4000000 in
set_option maxRecDepth 100000 in
theorem wlatch_any (B b : Nat) (t : Tri) (l : List UInt8) (w : World) (h : WS B b l w) (hB : B ≤ w.heap.size) (ht : t.fits) (htab : Tab w) (hl : l.length ≤ 35184372088832) :
    Calls Tryd.prog 25 #[.pointer (some ⟨b, 0, none⟩), .agg #[.int .i64 t.a, .int .i64 t.b, .int .i64 t.c]] w fun e w' => e = .returned (.tuple #[]) ∧ WS B b (l ++ (lat5 t ++ [10])) w' ∧ Below B w w' := by
  obtain ⟨x, y, z⟩ := t
  obtain ⟨hx, hy, hz⟩ := ht
  obtain ⟨wA, hwA⟩ : ∃ a, w.alloc (.cells #[.int .i64 x, .int .i64 y, .int .i64 z] 41) = a := ⟨_, rfl⟩
  have sA : wA.heap.size = w.heap.size + 1 := by rw [← hwA]; simp
  have bA : Below w.heap.size w wA := by rw [← hwA]; exact (Below.refl _ _).alloc (Nat.le_refl _) _
  have kA : wA.heap[w.heap.size]? = some (.cells #[.int .i64 x, .int .i64 y, .int .i64 z] 41 (0, 0)) := by rw [← hwA]; exact Array.getElem?_push_size
  have c1 : wA.cell? ⟨w.heap.size, 1, none⟩ = some (.int .i64 y) := by rw [Lib.cell_of_heap kA]; rfl
  have HA := Lib.hid bA
  have KA := Lib.hid kA
  have HT := Lib.hid htab
  have H := Lib.hid h
  have PY := Lib.hid (print_any y hy.1 hy.2 wA (HT.out wA HA.out))
  have HY : Hid ((Lib.itoa y).length ≤ 21) := itoa_short y hy
  have HZ : Hid ((Lib.itoa z).length ≤ 21) := itoa_short z hz
  have HZI := Lib.hid hz
  clear h htab hx hy hz bA kA
  unfold lat5
  simp only
  go_enter Tryd.func25, Tryd.ntmps25
  go_wp2_with fail
  refine PY.out.mono ?_
  rintro e w1 ⟨rfl, hb1⟩
  have B1 : Hid (Below w.heap.size w w1) := HA.out.trans (hb1.mono HA.out.size)
  have K1 : Hid (w1.heap[w.heap.size]? = some (.cells #[.int .i64 x, .int .i64 y, .int .i64 z] 41 (0, 0))) := (hb1.block _ (lt_of_block KA.out)).trans KA.out
  clear hb1 PY sA hwA c1
  have O1 := Lib.hid (own_one w1 w1.heap.size 9 (sv (Lib.itoa y)) (Nat.le_refl _))
  have T1 := Lib.hid (one_text w1 (Lib.itoa y))
  obtain ⟨w2, hw2⟩ : ∃ a, w1.alloc (.cells #[sv (Lib.itoa y)] 9) = a := ⟨_, rfl⟩
  have b2 : Below w1.heap.size w1 w2 := by rw [← hw2]; exact (Below.refl _ _).alloc (Nat.le_refl _) _
  have B2 : Hid (Below w.heap.size w w2) := B1.out.trans (b2.mono B1.out.size)
  have kk : w2.heap[w.heap.size]? = some (.cells #[.int .i64 x, .int .i64 y, .int .i64 z] 41 (0, 0)) := (b2.block _ (lt_of_block K1.out)).trans K1.out
  have c2 : w2.cell? ⟨w.heap.size, 2, none⟩ = some (.int .i64 z) := by rw [Lib.cell_of_heap kk]; rfl
  rw [hw2] at O1 T1
  clear b2 kk
  unfold sv at hw2
  by_cases hz' : z = 0
  · subst hz'
    have LN := Lib.hid (wline_any B b (.slice (some ⟨w1.heap.size, 0, none⟩) 1 1) (nums [y]) l w2 (H.out.below B2.out) (Nat.le_trans hB B2.out.size) T1.out (by have := HY.out; simp [nums]; omega) (by omega))
    go_wp2_with fail
    refine LN.out.mono ?_
    rintro e w3 ⟨rfl, hws, hb3, -⟩
    have HW := Lib.hid hws
    have HB3 := Lib.hid ((B2.out.mono hB).trans hb3)
    clear hws hb3
    go_wp2
    go_end0
    exact ⟨rfl, HW.out, HB3.out⟩
  · have hzb : (z == 0) = false := by simpa using hz'
    have PZ := Lib.hid (print_any z HZI.out.1 HZI.out.2 w2 (HT.out w2 B2.out))
    go_wp2_with fail
    refine PZ.out.mono ?_
    rintro e w3 ⟨rfl, hb3⟩
    have B3 : Hid (Below w.heap.size w w3) := B2.out.trans (hb3.mono B2.out.size)
    have al4 : Below w3.heap.size w3 (w3.alloc (.cells #[.string ⟨(Lib.itoa z).toArray⟩] 9)) := (Below.refl _ _).alloc (Nat.le_refl _) _
    have O4 := Lib.hid ((O1.out.keep hb3).keep al4)
    have B4 : Hid (Below w.heap.size w (w3.alloc (.cells #[.string ⟨(Lib.itoa z).toArray⟩] 9))) := B3.out.trans (al4.mono B3.out.size)
    have HC : Hid (∀ (j : Nat) u, [Value.string ⟨(Lib.itoa z).toArray⟩][j]? = some u → (w3.alloc (.cells #[.string ⟨(Lib.itoa z).toArray⟩] 9)).cell? ⟨w3.heap.size, j, none⟩ = some u) := fun j u hu => by
      rw [new_cell]; simpa using hu
    have HONE : Hid (∀ u ∈ [Value.string ⟨(Lib.itoa z).toArray⟩], u.oneCell' = true) := fun u hu => by
      simp only [List.mem_singleton] at hu
      subst hu; rfl
    have HBS : Hid (w1.heap.size ≤ (w3.alloc (.cells #[.string ⟨(Lib.itoa z).toArray⟩] 9)).heap.size) := by
      have h1 := (O1.out.block_lt w1.heap.size rfl).2
      have h2 := hb3.size
      have h3 := al4.size
      unfold Hid; omega
    clear hb3 al4 PZ hw2 c2
    go_wp2_with (at_builtin; refine wpList_push _ rfl (.tmp 12) (.tmp 16) 92 rfl 9 1 16 (.string ⟨#[]⟩) Tryd.underlying92 info9 rfl (by decide) w1.heap.size _ _ O4.out rfl w3.heap.size 1 rfl [.string ⟨(Lib.itoa z).toArray⟩] HC.out rfl HONE.out (by simp) (by simp) HBS.out ?_)
    intro v2 w5 hown hbel _
    have B5 : Hid (Below w.heap.size w w5) := B4.out.trans (hbel.mono B1.out.size)
    have LN := Lib.hid (wline_any B b v2 (nums [y, z]) l w5 (H.out.below B5.out) (Nat.le_trans hB B5.out.size) (svs_texts hown).reads (by have := HY.out; have := HZ.out; simp [nums]; omega) (by omega))
    clear hown hbel
    go_wp2_with fail
    refine LN.out.mono ?_
    rintro e w6 ⟨rfl, hws, hb6, -⟩
    have HW := Lib.hid hws
    have HB6 := Lib.hid ((B5.out.mono hB).trans hb6)
    clear hws hb6
    go_wp2
    go_end0
    exact ⟨rfl, HW.out, HB6.out⟩

theorem head5_eq (c : Cir) : head5 c = joinL ([97, 105, 103] :: nums (headNs c)) := rfl
theorem nums_short (L : List Int) (h : ∀ x ∈ L, (Lib.itoa x).length ≤ 21) : (nums L).flatten.length ≤ 21 * L.length := by
  induction L with
  | nil => simp [nums]
  | cons x L ih =>
    have := ih fun y hy => h y (List.mem_cons_of_mem _ hy)
    have h2 := h x List.mem_cons_self
    have e : (nums (x :: L)).flatten = Lib.itoa x ++ (nums L).flatten := rfl
    rw [e, List.length_append, List.length_cons]
    omega
theorem svs_more (L : List (List UInt8)) (x : List UInt8) (ns : List Int) (j : Nat) (h : j < ns.length) (e : L = x :: nums (ns.take j)) : svs L ++ [[sv (Lib.itoa ns[j])]] = svs (x :: nums (ns.take (j + 1))) := by
  rw [e, svs_snoc, nums_take ns j h]; rfl

set_option maxHeartbeats 4000000 in
set_option maxRecDepth 100000 in
theorem wheader_any (B b : Nat) (c : Cir) (s : Places) (l : List UInt8) (w : World) (h : WS B b l w) (hB : B ≤ w.heap.size) (hf : CFits c s) (htab : Tab w) (hl : l.length ≤ 35184372088832) :
    Calls Tryd.prog 24 #[.pointer (some ⟨b, 0, none⟩), cirV c s] w fun e w' => e = .returned (.tuple #[]) ∧ WS B b (l ++ (head5 c ++ [10])) w' ∧ Below B w w' := by
  have hI : ∀ x ∈ headNs c, I64 x := by
    have h0 := hf.max
    have h1 := hf.li; have h2 := hf.ll; have h3 := hf.lo; have h4 := hf.la; have h5 := hf.lb; have h6 := hf.lc
    intro x hx
    unfold headNs at hx
    simp only [List.mem_cons, List.not_mem_nil, or_false] at hx
    rcases hx with rfl | rfl | rfl | rfl | rfl | rfl | rfl
    · exact h0
    all_goals (constructor <;> omega)
  have HI := Lib.hid hI
  have HT := Lib.hid htab
  have H := Lib.hid h
  obtain ⟨wA, hwA⟩ : ∃ a, w.alloc (.cells #[.int .i64 c.max, .slice s.ai c.ins.length s.ki, .slice s.al c.lats.length s.kl, .slice s.ao c.outs.length s.ko, .slice s.ab c.bads.length s.kb, .slice s.ac c.invs.length s.kc, .slice s.aa c.ands.length s.ka, .slice s.an c.names.length s.kn] 27) = a := ⟨_, rfl⟩
  have sA : wA.heap.size = w.heap.size + 1 := by rw [← hwA]; simp
  have bA : Below w.heap.size w wA := by rw [← hwA]; exact (Below.refl _ _).alloc (Nat.le_refl _) _
  have kA : wA.heap[w.heap.size]? = some (.cells (cirC c s) 27 (0, 0)) := by rw [← hwA]; exact Array.getElem?_push_size
  obtain ⟨wB, hwB⟩ : ∃ a, wA.alloc (.cells #[.string ⟨#[97, 105, 103]⟩] 9) = a := ⟨_, rfl⟩
  have bB : Below wA.heap.size wA wB := by rw [← hwB]; exact (Below.refl _ _).alloc (Nat.le_refl _) _
  have sB : wB.heap.size = w.heap.size + 2 := by rw [← hwB]; simp [sA]
  obtain ⟨ns, hns⟩ : ∃ ns, ns = headNs c := ⟨_, rfl⟩
  obtain ⟨wC, hwC⟩ : ∃ a, wB.alloc (.cells #[.int .i64 c.max, .int .i64 c.ins.length, .int .i64 c.lats.length, .int .i64 c.outs.length, .int .i64 c.ands.length, .int .i64 c.bads.length, .int .i64 c.invs.length] 3) = a := ⟨_, rfl⟩
  have bC : Below wB.heap.size wB wC := by rw [← hwC]; exact (Below.refl _ _).alloc (Nat.le_refl _) _
  have LR : Hid (LRow wC wC.heap.size 1 (some ⟨w.heap.size + 2, 0, none⟩) (ints ns)) := by
    have := ints_row wB (headNs c) #[.int .i64 c.max, .int .i64 c.ins.length, .int .i64 c.lats.length, .int .i64 c.outs.length, .int .i64 c.ands.length, .int .i64 c.bads.length, .int .i64 c.invs.length] 3 rfl
    rw [hwC, sB] at this
    rw [hns]
    exact this.more (by have := bC.size; rw [← hwC]; simp [sB])
  have O0 : Hid (OwnC wC (w.heap.size + 1) 9 1 (.slice (some ⟨w.heap.size + 1, 0, none⟩) 1 1) (svs ([97, 105, 103] :: nums (ns.take 0)))) := by
    have := own_one wA wA.heap.size 9 (sv [97, 105, 103]) (Nat.le_refl _)
    unfold sv at this
    rw [hwB] at this
    have h2 := this.keep bC
    rw [sA] at h2
    exact h2
  have BC : Hid (Below w.heap.size w wC) := bA.trans ((bB.mono bA.size).trans (bC.mono (by omega)))
  obtain ⟨e0, e1, e2, e3, e4, e5, e6, e7⟩ := cells8 ((bB.block _ (by omega)).trans kA)
  have SC : Hid (w.heap.size + 2 ≤ wC.heap.size) := by have := bC.size; unfold Hid; omega
  have QC : Hid (wC.heap[w.heap.size + 2]? = some (.cells #[.int .i64 c.max, .int .i64 c.ins.length, .int .i64 c.lats.length, .int .i64 c.outs.length, .int .i64 c.ands.length, .int .i64 c.bads.length, .int .i64 c.invs.length] 3 (0, 0))) := by unfold Hid; rw [← hwC, ← sB]; exact Array.getElem?_push_size
  have N7 : Hid (ns.length = 7) := by unfold Hid; rw [hns]; rfl
  have NI : Hid (∀ x ∈ ns, I64 x) := by rw [hns]; exact HI.out
  rw [head5_eq, ← hns]
  clear h htab hI hf bA bB bC kA HI hns
  rw [show cirV c s = .agg #[.int .i64 c.max, .slice s.ai c.ins.length s.ki, .slice s.al c.lats.length s.kl, .slice s.ao c.outs.length s.ko, .slice s.ab c.bads.length s.kb, .slice s.ac c.invs.length s.kc, .slice s.aa c.ands.length s.ka, .slice s.an c.names.length s.kn] from rfl]
  go_enter Tryd.func24, Tryd.ntmps24
  go_wp2
  clear hwA sA hwB sB hwC e0 e1 e2 e3 e4 e5 e6 e7
  go_loopw [30, 4] (fun i v wr => ∃ (j : Nat) (vv : Value), j ≤ 7 ∧ i = .int .i64 j ∧ vv = v ∧ OwnC wr (w.heap.size + 1) 9 1 vv (svs ([97, 105, 103] :: nums (ns.take j))) ∧ Below (w.heap.size + 1) wC wr ∧ wr.heap[w.heap.size + 2]? = wC.heap[w.heap.size + 2]?) (fun i _ _ => 7 - (intOf i).toNat)
  case atStart => exact ⟨0, _, Nat.zero_le _, rfl, rfl, O0.out, Below.refl _ _, rfl⟩
  case round =>
    obtain ⟨j, v, hj, rfl, rfl, how, hb, hq⟩ := hrel
    have HO := Lib.hid how
    have HB := Lib.hid hb
    have HQ := Lib.hid hq
    clear how hb hq
    by_cases hlt : j < 7
    · have hlt2 : j < ns.length := by rw [N7.out]; exact hlt
      obtain ⟨g, o, hgo, -, hc⟩ := LR.out.int hlt2
      simp only [Option.some.injEq, Addr.mk.injEq, and_true] at hgo
      obtain ⟨rfl, rfl⟩ := hgo
      rw [Nat.zero_add] at hc
      have hc2 : wr.cell? ⟨w.heap.size + 2, j, none⟩ = wC.cell? ⟨w.heap.size + 2, j, none⟩ := by simp [World.cell?, HQ.out]
      rw [hc] at hc2
      clear hc
      have HX := Lib.hid (svs_more _ [97, 105, 103] ns j hlt2 rfl)
      obtain ⟨i1, i2⟩ := NI.out ns[j] (List.getElem_mem _)
      generalize ns[j] = x at *
      clear hlt2
      have BWR : Hid (Below w.heap.size w wr) := BC.out.trans (HB.out.mono (by omega))
      have PR := Lib.hid (print_any x i1 i2 wr (HT.out wr BWR.out))
      go_wp2_with fail
      refine PR.out.mono ?_
      rintro e w2 ⟨rfl, hb2⟩
      have hal2 : Below w2.heap.size w2 (w2.alloc (.cells #[.string ⟨(Lib.itoa x).toArray⟩] 9)) := (Below.refl _ _).alloc (Nat.le_refl _) _
      have O3 := Lib.hid ((HO.out.keep hb2).keep hal2)
      have hqr : wr.heap[w.heap.size + 2]? = _ := HQ.out.trans QC.out
      have Q3 : Hid ((w2.alloc (.cells #[.string ⟨(Lib.itoa x).toArray⟩] 9)).heap[w.heap.size + 2]? = some (.cells #[.int .i64 c.max, .int .i64 c.ins.length, .int .i64 c.lats.length, .int .i64 c.outs.length, .int .i64 c.ands.length, .int .i64 c.bads.length, .int .i64 c.invs.length] 3 (0, 0))) := by
        have h2 := (hb2.block _ (lt_of_block hqr)).trans hqr
        exact (hal2.block _ (lt_of_block h2)).trans h2
      have B3 : Hid (Below (w.heap.size + 1) wC (w2.alloc (.cells #[.string ⟨(Lib.itoa x).toArray⟩] 9))) := HB.out.trans ((hb2.mono (by have := HB.out.size; have := SC.out; omega)).trans (hal2.mono (by have := HB.out.size; have := SC.out; have := hb2.size; omega)))
      have HC : Hid (∀ (j : Nat) u, [Value.string ⟨(Lib.itoa x).toArray⟩][j]? = some u → (w2.alloc (.cells #[.string ⟨(Lib.itoa x).toArray⟩] 9)).cell? ⟨w2.heap.size, j, none⟩ = some u) := fun j u hu => by
        rw [new_cell]; simpa using hu
      have HONE : Hid (∀ u ∈ [Value.string ⟨(Lib.itoa x).toArray⟩], u.oneCell' = true) := fun u hu => by
        simp only [List.mem_singleton] at hu
        subst hu; rfl
      have HL : Hid ((svs ([97, 105, 103] :: nums (ns.take j))).length ≤ 65537) := by unfold Hid; rw [svs_length]; simp [nums]; omega
      have HBS : Hid (w.heap.size + 1 ≤ (w2.alloc (.cells #[.string ⟨(Lib.itoa x).toArray⟩] 9)).heap.size) := by have := B3.out.size; have := SC.out; unfold Hid; omega
      clear hb2 hal2 PR HO hqr hc2
      go_wp2_with (at_builtin; refine wpList_push _ rfl (.tmp 34) (.tmp 37) 92 rfl 9 1 16 (.string ⟨#[]⟩) Tryd.underlying92 info9 rfl (by decide) (w.heap.size + 1) v _ O3.out rfl w2.heap.size 1 rfl [.string ⟨(Lib.itoa x).toArray⟩] HC.out rfl HONE.out (by have := HL.out; omega) (by have := HL.out; omega) HBS.out ?_)
      intro v2 w3 hown hbel hoth
      have HO4 := Lib.hid hown
      have HB4 : Hid (Below (w.heap.size + 1) wC w3) := B3.out.trans hbel
      have HQ4 : Hid (w3.heap[w.heap.size + 2]? = wC.heap[w.heap.size + 2]?) := by
        unfold Hid
        rw [QC.out, hoth _ (by have := lt_of_block Q3.out; simpa using this) (fun e => by
          obtain ⟨cur, hcur⟩ := own_type O3.out e.symm
          rw [Q3.out] at hcur
          simp at hcur)]
        exact Q3.out
      clear hown hbel hoth O3 Q3
      go_wp2
      go_roundw
      case rel => exact ⟨j + 1, _, by omega, by go_num, rfl, by rw [← HX.out]; exact HO4.out, HB4.out, HQ4.out⟩
      case measure => simp [intOf]; omega
    · obtain rfl : j = 7 := by omega
      rw [show ns.take 7 = ns by rw [← N7.out]; exact List.take_length] at HO
      have BWR : Hid (Below w.heap.size w wr) := BC.out.trans (HB.out.mono (by omega))
      have hsz : (([97, 105, 103] : List UInt8) :: nums ns).flatten.length + (([97, 105, 103] : List UInt8) :: nums ns).length ≤ 4194304 := by
        have h1 := nums_short ns (fun x hx => itoa_short x (NI.out x hx))
        rw [N7.out] at h1
        have h3 : (nums ns).length = 7 := by unfold nums; rw [List.length_map, N7.out]
        simp only [List.flatten_cons, List.length_append, List.length_cons, List.length_nil, h3]
        omega
      have LN := Lib.hid (wline_any B b v ([97, 105, 103] :: nums ns) l wr (H.out.below BWR.out) (Nat.le_trans hB BWR.out.size) (svs_texts HO.out).reads hsz (by omega))
      clear hsz HO
      go_wp2_with fail
      refine LN.out.mono ?_
      rintro e w6 ⟨rfl, hws, hb6, -⟩
      have HW := Lib.hid hws
      have HB6 := Lib.hid ((BWR.out.mono hB).trans hb6)
      clear hws hb6
      go_wp2
      go_end0
      exact ⟨rfl, HW.out, HB6.out⟩
end Go.Proofs.YtopjddmgejfalaaDoor.Aig
namespace Go.Proofs.YtopjddmgejfalaaDoor.Aag
open Go.ChangeShapes Go.WideShapes Go.ChangeAt Go.RowKit Go.Maps Dig Circ Cw

theorem cat_size {x : Nam} (hf : NamFine x) (hi : x.fits) : x.kind.size + (⟨(Lib.itoa x.num).toArray⟩ : ByteArray).size ≤ 140737488355328 := by
  obtain ⟨⟨k, _, hk⟩, _, _⟩ := hf
  have h1 : x.kind.data.toList.length = 1 := by rw [hk]; rfl
  have h2 := itoa_short x.num hi.2.1
  have h3 : x.kind.size = x.kind.data.toList.length := by simp
  have h4 : (⟨(Lib.itoa x.num).toArray⟩ : ByteArray).size = (Lib.itoa x.num).length := by simp [ByteArray.size]
  omega
theorem nam_size {x : Nam} (hf : NamFine x) (hi : x.fits) (ht : x.text.data.toList.length ≤ 32) : ([x.kind.data.toList ++ Lib.itoa x.num, x.text.data.toList] : List (List UInt8)).flatten.length + ([x.kind.data.toList ++ Lib.itoa x.num, x.text.data.toList] : List (List UInt8)).length ≤ 4194304 := by
  obtain ⟨⟨k, _, hk⟩, _, _⟩ := hf
  have h1 : x.kind.data.toList.length = 1 := by rw [hk]; rfl
  have h2 := itoa_short x.num hi.2.1
  simp only [List.flatten_cons, List.flatten_nil, List.length_append, List.length_cons, List.length_nil]
  omega
theorem names_short (l : List Nam) (hf : ∀ x ∈ l, NamFine x) (ht : ∀ x ∈ l, x.text.data.toList.length ≤ 32) (hl : l.length ≤ 320) : (nlL (l.map namL)).length ≤ 100000 := by
  have h : ∀ (l : List Nam), (∀ x ∈ l, NamFine x) → (∀ x ∈ l, x.text.data.toList.length ≤ 32) → (nlL (l.map namL)).length ≤ 70 * l.length := by
    intro l
    induction l with
    | nil => intro _ _; simp [nlL]
    | cons x l ih =>
      intro hf ht
      have h1 := ih (fun y hy => hf y (List.mem_cons_of_mem _ hy)) (fun y hy => ht y (List.mem_cons_of_mem _ hy))
      have h2 := ht x List.mem_cons_self
      obtain ⟨⟨k, _, hk⟩, hn, _⟩ := hf x List.mem_cons_self
      have h3 := itoa_short x.num ⟨by have := hn.1; omega, by have := hn.2; omega⟩
      have e : nlL ((x :: l).map namL) = (namL x ++ [10]) ++ nlL (l.map namL) := by unfold nlL; rfl
      have e2 : (namL x ++ [10]).length ≤ 60 := by
        unfold namL
        have h5 : x.text.data.toList.length = x.text.size := by simp
        rw [hk, List.length_append]
        simp [joinL]
        omega
      rw [e, List.length_append, List.length_cons]
      omega
  have := h l hf ht
  omega
theorem len_more {a b : List UInt8} {n m k : Nat} (h : a.length ≤ n) (h2 : b.length ≤ m) (h3 : n + m ≤ k) : (a ++ b).length ≤ k := by rw [List.length_append]; omega
end Go.Proofs.YtopjddmgejfalaaDoor.Aag
namespace Go.Proofs.YtopjddmgejfalaaDoor.Aig
open Go.RowKit Dig Circ Cw Aag

theorem fine5_of (c : Cir) (hc : chk c = true) (ho : ordB c = true) : Fine5 c := by
  have h : refOk c = true := by rw [← chk_same]; exact hc
  obtain ⟨hf, _⟩ := chk_fine c hc
  have hid := ord_id h ho
  have hm := all_lits h
  unfold ordB at ho
  simp only [Bool.and_eq_true, decide_eq_true_eq, List.all_eq_true] at ho
  obtain ⟨ho, hb, hx⟩ := ho
  have hlen := own_len c
  have hat : ∀ (k : Nat) (hk : k < (own c).length), (own c)[k] = lit k := fun k hk => by
    have : (own c)[k]? = (evens (own c).length)[k]? := by rw [← ho]
    rw [List.getElem?_eq_getElem hk] at this
    simp [evens, hk] at this
    exact this
  refine ⟨hf, hm.max.2, by omega, ?_, fun j t hj => ?_, fun j t hj => ?_, fun t ht => ?_⟩
  · apply List.ext_getElem
    · rw [evens_len]
    · intro k h1 h2
      obtain ⟨h', e⟩ := own_ins c k h1
      rw [← e, hat k h']
      simp [evens]
  · obtain ⟨hk, e⟩ := List.getElem?_eq_some_iff.1 hj
    obtain ⟨h', e2⟩ := own_lats c j hk
    rw [← e, ← e2, hat _ h']
  · obtain ⟨hk, e⟩ := List.getElem?_eq_some_iff.1 hj
    obtain ⟨h', e2⟩ := own_ands c j hk
    rw [← e, ← e2, hat _ h']
  · obtain ⟨k, hk, e⟩ := List.getElem_of_mem ht
    obtain ⟨b1, b2, b3, b4⟩ := and_at h k hk
    rw [e] at b1 b2 b3 b4
    have c1 := hm.ands t ht
    have c2 := hb t ht
    have c3 := hm.max
    unfold Lits at c1
    omega
theorem grp_two (n : Nat) (h : n < 16384) : (grp n).length ≤ 2 := by
  by_cases hn : n < 128
  · rw [grp_small n hn]; simp
  · rw [grp_great n hn, grp_small _ (by omega)]; simp
theorem and5_short (t : Tri) (h1 : 0 ≤ t.a - t.b ∧ t.a - t.b < 16384) (h2 : 0 ≤ t.b - t.c ∧ t.b - t.c < 16384) : (and5 t).length ≤ 4 := by
  have g1 := grp_two (t.a - t.b).toNat (by omega)
  have g2 := grp_two (t.b - t.c).toNat (by omega)
  unfold and5
  rw [List.length_append]; omega
theorem ands5_short (l : List Tri) (h : ∀ t ∈ l, (0 ≤ t.a - t.b ∧ t.a - t.b < 16384) ∧ (0 ≤ t.b - t.c ∧ t.b - t.c < 16384)) : ((l.map and5).flatten).length ≤ 4 * l.length := by
  induction l with
  | nil => simp
  | cons t l ih =>
    have h1 := ih fun y hy => h y (List.mem_cons_of_mem _ hy)
    have h2 := h t List.mem_cons_self
    have h3 := and5_short t h2.1 h2.2
    rw [List.map_cons, List.flatten_cons, List.length_append, List.length_cons]; omega
theorem lat5_short (t : Tri) (h : t.fits) : (lat5 t ++ [10]).length ≤ 70 := by
  obtain ⟨x, y, z⟩ := t
  have h2 := itoa_short y h.2.1
  have h3 := itoa_short z h.2.2
  unfold lat5
  simp only
  rw [List.length_append]
  split <;> simp [nums, joinL] <;> omega
theorem lats5_short (l : List Tri) (h : ∀ t ∈ l, t.fits) : (nlL (l.map lat5)).length ≤ 70 * l.length := by
  induction l with
  | nil => simp [nlL]
  | cons t l ih =>
    have h1 := ih fun y hy => h y (List.mem_cons_of_mem _ hy)
    have h2 := lat5_short t (h t List.mem_cons_self)
    have e : nlL ((t :: l).map lat5) = (lat5 t ++ [10]) ++ nlL (l.map lat5) := by unfold nlL; rfl
    rw [e, List.length_append, List.length_cons]
    omega
theorem head5_short (c : Cir) (hI : ∀ x ∈ headNs c, I64 x) : (head5 c ++ [10]).length ≤ 200 := by
  have h0 := itoa_short c.max (hI _ (by simp [headNs]))
  have h1 := itoa_short c.ins.length (hI _ (by simp [headNs]))
  have h2 := itoa_short c.lats.length (hI _ (by simp [headNs]))
  have h3 := itoa_short c.outs.length (hI _ (by simp [headNs]))
  have h4 := itoa_short c.ands.length (hI _ (by simp [headNs]))
  have h5 := itoa_short c.bads.length (hI _ (by simp [headNs]))
  have h6 := itoa_short c.invs.length (hI _ (by simp [headNs]))
  rw [head5_eq, List.length_append]
  simp [nums, joinL, headNs]
  omega
theorem headNs_i64 (c : Cir) (s : Places) (hf : CFits c s) : ∀ x ∈ headNs c, I64 x := by
  have h0 := hf.max
  have h1 := hf.li; have h2 := hf.ll; have h3 := hf.lo; have h4 := hf.la; have h5 := hf.lb; have h6 := hf.lc
  intro x hx
  unfold headNs at hx
  simp only [List.mem_cons, List.not_mem_nil, or_false] at hx
  rcases hx with rfl | rfl | rfl | rfl | rfl | rfl | rfl
  · exact h0
  all_goals (constructor <;> omega)
/-- the literals that are told, one line each, of the first j lists -/
def told3 (c : Cir) (j : Nat) : List (List Int) := ([c.outs, c.bads, c.invs] : List (List Int)).take j
def parts (c : Cir) (j : Nat) : List UInt8 := nlL ((told3 c j).flatten.map litL)
theorem parts_zero (c : Cir) : parts c 0 = [] := rfl
theorem parts_more (c : Cir) (j : Nat) (xs : List Int) (h : ([c.outs, c.bads, c.invs] : List (List Int))[j]? = some xs) : parts c (j + 1) = parts c j ++ nlL (xs.map litL) := by
  obtain ⟨hj, e⟩ := List.getElem?_eq_some_iff.1 h
  unfold parts told3
  rw [List.take_succ_eq_append_getElem hj, e, List.flatten_append, List.map_append, nl_append]
  simp
theorem parts_all (c : Cir) : parts c 3 = nlL (c.outs.map litL) ++ (nlL (c.bads.map litL) ++ nlL (c.invs.map litL)) := by
  unfold parts told3
  simp [nl_append]
theorem oct_parts (c : Cir) : oct5 c = (head5 c ++ [10]) ++ nlL (c.lats.map lat5) ++ parts c 3 ++ (c.ands.map and5).flatten ++ nlL (c.names.map namL) := by
  unfold oct5 core5 lines5
  rw [parts_all, show nlL (head5 c :: (c.lats.map lat5 ++ (c.outs.map litL ++ (c.bads.map litL ++ c.invs.map litL)))) = (head5 c ++ [10]) ++ nlL (c.lats.map lat5 ++ (c.outs.map litL ++ (c.bads.map litL ++ c.invs.map litL))) by unfold nlL; simp, nl_append, nl_append, nl_append]
  simp only [List.append_assoc]
theorem oct_ne (c : Cir) : oct5 c ≠ [] := by
  rw [oct_parts]
  intro h
  have := congrArg List.length h
  simp at this
end Go.Proofs.YtopjddmgejfalaaDoor.Aig
namespace Go.Proofs.YtopjddmgejfalaaDoor.Aig
open Go.ChangeShapes Go.WideShapes Go.ChangeAt Go.RowKit Dig Circ Cw Aag

theorem lt_of_block' {w : World} {p : Addr} {v : Value} (h : w.cell? p = some v) : p.block < w.heap.size := World.block_lt_of_cell? _ _ h
theorem op_slice_tail (a : Act) (w : World) (g n q : Nat) (t s : Nat) (h : a.tmps.getD t undef = .slice (some ⟨g, 0, none⟩) n q) (h2 : a.tmps.getD s undef = .int .i64 0) (oo : Oper) (ho : oo.op = .slice 36 (.tmp t) (some (.tmp s)) none none) : (execOp a.eval oo).run Tryd.prog w = .ok (.value (.slice (some ⟨g, 0, none⟩) n q)) w := by
  have h' : a.tmps[t]?.getD undef = .slice (some ⟨g, 0, none⟩) n q := by simpa using h
  have h2' : a.tmps[s]?.getD undef = .int .i64 0 := by simpa using h2
  unfold execOp
  rw [ho]
  go_simp
theorem op_field_bytes_Buffer_0 (a : Act) (w : World) (b : Nat) (t : Nat) (h : a.tmps.getD t undef = .pointer (some ⟨b, 0, none⟩)) (oo : Oper) (ho : oo.op = .fieldAddr 58 (.tmp t) 0) : (execOp a.eval oo).run Tryd.prog w = .ok (.value (.pointer (some ⟨b, 0, none⟩))) w := by
  have h' : a.tmps[t]?.getD undef = .pointer (some ⟨b, 0, none⟩) := by simpa using h
  unfold execOp
  rw [ho]
  go_simp
theorem op_load_Luint8 (a : Act) (w : World) (A : Addr) (t : Nat) (v : Value) (h : a.tmps.getD t undef = .pointer (some A)) (hc : w.cell? A = some v) (oo : Oper) (ho : oo.op = .load 36 (.tmp t)) : (execOp a.eval oo).run Tryd.prog w = .ok (.value v) w := by
  have h' : a.tmps[t]?.getD undef = .pointer (some A) := by simpa using h
  unfold execOp
  rw [ho]
  go_simp
theorem op_field_bytes_Buffer_1 (a : Act) (w : World) (b : Nat) (t : Nat) (h : a.tmps.getD t undef = .pointer (some ⟨b, 0, none⟩)) (oo : Oper) (ho : oo.op = .fieldAddr 58 (.tmp t) 1) : (execOp a.eval oo).run Tryd.prog w = .ok (.value (.pointer (some ⟨b, 1, none⟩))) w := by
  have h' : a.tmps[t]?.getD undef = .pointer (some ⟨b, 0, none⟩) := by simpa using h
  unfold execOp
  rw [ho]
  go_simp
/-- what operation j of the region leaves -/
def bytsR (b g n cap : Nat) : Nat → (Nat → Value) → World → Prop
  | 0, f, _ => f 3 = .pointer (some ⟨b, 0, none⟩)
  | 1, f, _ => f 4 = .pointer (some ⟨b, 0, none⟩)
  | 2, f, _ => f 5 = .pointer (some ⟨b, 0, none⟩)
  | 3, f, _ => f 6 = .slice (some ⟨g, 0, none⟩) n cap
  | 4, f, _ => f 7 = .pointer (some ⟨b, 0, none⟩)
  | 5, f, _ => f 8 = .pointer (some ⟨b, 0, none⟩)
  | 6, f, _ => f 9 = .pointer (some ⟨b, 1, none⟩)
  | 7, f, _ => f 10 = .int .i64 0
  | 8, f, _ => f 11 = .slice (some ⟨g, 0, none⟩) n cap
  | 9, f, _ => f 2 = .slice (some ⟨g, 0, none⟩) n cap
  | _, _, _ => True
def bytsM : Nat → List Nat
  | 0 => [3]
  | 1 => [4]
  | 2 => [5]
  | 3 => [6]
  | 4 => [7]
  | 5 => [8]
  | 6 => [9]
  | 7 => [10]
  | 8 => [11]
  | 9 => [2]
  | _ => []
theorem byts_stab {b g n cap : Nat} (jj : Nat) {f f' : Nat → Value} {w w' : World}  (hf : ∀ t ∈ bytsM jj, f' t = f t) (h : bytsR b g n cap jj f w) : bytsR b g n cap jj f' w' := by
  match jj, hf, h with
  | 0, hf, h => exact (hf 3 (by decide)).trans h
  | 1, hf, h => exact (hf 4 (by decide)).trans h
  | 2, hf, h => exact (hf 5 (by decide)).trans h
  | 3, hf, h => exact (hf 6 (by decide)).trans h
  | 4, hf, h => exact (hf 7 (by decide)).trans h
  | 5, hf, h => exact (hf 8 (by decide)).trans h
  | 6, hf, h => exact (hf 9 (by decide)).trans h
  | 7, hf, h => exact (hf 10 (by decide)).trans h
  | 8, hf, h => exact (hf 11 (by decide)).trans h
  | 9, hf, h => exact (hf 2 (by decide)).trans h
  | _ + 10, _, _ => trivial
set_option maxHeartbeats 2000000 in
set_option maxRecDepth 100000 in
theorem bytes_any (B b : Nat) (l : List UInt8) (w : World) (h : WS B b l w) (hl : l ≠ []) :
    Calls Tryd.prog 29 #[.pointer (some ⟨b, 0, none⟩)] w fun e w' => (∃ g cap, e = .returned (.slice (some ⟨g, 0, none⟩) l.length cap) ∧ w'.ownsRow B 5 1 (.slice (some ⟨g, 0, none⟩) l.length cap) l.length (Lib.byteCells l)) ∧ Below w.heap.size w w' := by
  obtain ⟨h1, v, lr, h2, h3, h4⟩ := h
  have hpos : 0 < l.length := List.length_pos_iff.2 hl
  have h30 := h3
  rcases h3.2 with ⟨rfl, hz⟩ | ⟨g, cap, cur, rfl, hbg, hg, hnc, _⟩
  · rw [Lib.byteCells_length] at hz; omega
  rw [Lib.byteCells_length] at hnc h30 h2
  have C0 : Hid (w.cell? ⟨b, 0, none⟩ = some (.slice (some ⟨g, 0, none⟩) l.length cap)) := h2.c0
  have C1 : Hid (w.cell? ⟨b, 1, none⟩ = some (.int .i64 0)) := h2.c1
  have HO := Lib.hid h30
  clear h1 h2 h3 h4 h30 hbg hg hnc
  go_enter Tryd.func29, Tryd.ntmps29
  go_wp2
  refine wp_region_valsD (by kernel_rfl) (by kernel_rfl) bytsM (by kernel_rfl) (by kernel_rfl)
    (fun _ w' => Below w.heap.size w w') (bytsR b g l.length cap) (Below.refl _ _).drew (fun jj f f' w w' hb hf h => byts_stab jj  hf h) ?_ ?_
  · intro i oo d a' w' ho hd hun hdf hok hD K hK hK0
    match i, ho, hd, hD, hK, hK0, hun with
    | 0, ho, hd, hD, hK, hK0, hun =>
      have e := (congrArg Oper.op (Option.some.inj ho)).symm
      obtain rfl := Option.some.inj ho
      exact wp_val (op_move a' w' 0 _ e) (hK _ _ (Below.refl _ _) hok (fun f h1 _ => (h1 _ rfl).trans (hun 0 (by kernel_rfl))))
    | 1, ho, hd, hD, hK, hK0, hun =>
      have e := (congrArg Oper.op (Option.some.inj ho)).symm
      obtain rfl := Option.some.inj ho
      exact wp_val (op_nil a' w' _ 3 (hD 0 (by kernel_rfl)) _ e) (hK _ _ (Below.refl _ _) hok (fun f h1 _ => h1 _ rfl))
    | 2, ho, hd, hD, hK, hK0, hun =>
      have e := (congrArg Oper.op (Option.some.inj ho)).symm
      obtain rfl := Option.some.inj ho
      exact wp_val (op_field_bytes_Buffer_0 a' w' _ 4 (hD 1 (by kernel_rfl)) _ e) (hK _ _ (Below.refl _ _) hok (fun f h1 _ => h1 _ rfl))
    | 3, ho, hd, hD, hK, hK0, hun =>
      have e := (congrArg Oper.op (Option.some.inj ho)).symm
      obtain rfl := Option.some.inj ho
      exact wp_val (op_load_Luint8 a' w' _ 5 _ (hD 2 (by kernel_rfl)) ((hok.cell (lt_of_block' C0.out)).trans C0.out) _ e) (hK _ _ (Below.refl _ _) hok (fun f h1 _ => h1 _ rfl))
    | 4, ho, hd, hD, hK, hK0, hun =>
      have e := (congrArg Oper.op (Option.some.inj ho)).symm
      obtain rfl := Option.some.inj ho
      exact wp_val (op_move a' w' 0 _ e) (hK _ _ (Below.refl _ _) hok (fun f h1 _ => (h1 _ rfl).trans (hun 0 (by kernel_rfl))))
    | 5, ho, hd, hD, hK, hK0, hun =>
      have e := (congrArg Oper.op (Option.some.inj ho)).symm
      obtain rfl := Option.some.inj ho
      exact wp_val (op_nil a' w' _ 7 (hD 4 (by kernel_rfl)) _ e) (hK _ _ (Below.refl _ _) hok (fun f h1 _ => h1 _ rfl))
    | 6, ho, hd, hD, hK, hK0, hun =>
      have e := (congrArg Oper.op (Option.some.inj ho)).symm
      obtain rfl := Option.some.inj ho
      exact wp_val (op_field_bytes_Buffer_1 a' w' _ 8 (hD 5 (by kernel_rfl)) _ e) (hK _ _ (Below.refl _ _) hok (fun f h1 _ => h1 _ rfl))
    | 7, ho, hd, hD, hK, hK0, hun =>
      have e := (congrArg Oper.op (Option.some.inj ho)).symm
      obtain rfl := Option.some.inj ho
      exact wp_val (op_load_int a' w' _ 9 _ (hD 6 (by kernel_rfl)) ((hok.cell (lt_of_block' C1.out)).trans C1.out) _ e) (hK _ _ (Below.refl _ _) hok (fun f h1 _ => h1 _ rfl))
    | 8, ho, hd, hD, hK, hK0, hun =>
      have e := (congrArg Oper.op (Option.some.inj ho)).symm
      obtain rfl := Option.some.inj ho
      exact wp_val (op_slice_tail a' w' g l.length cap 6 10 (hD 3 (by kernel_rfl)) (hD 7 (by kernel_rfl)) _ e) (hK _ _ (Below.refl _ _) hok (fun f h1 _ => h1 _ rfl))
    | 9, ho, hd, hD, hK, hK0, hun =>
      have e := (congrArg Oper.op (Option.some.inj ho)).symm
      obtain rfl := Option.some.inj ho
      exact wp_val (op_assign a' w' 11 _ e) (hK _ _ (Below.refl _ _) hok (fun f h1 _ => (h1 _ rfl).trans (hD 8 (by kernel_rfl))))
    | i + 10, ho, _, _, _, _, _ => exact absurd ho (by simp)
  · intro a' w3 hsz hdf hkt hok hR
    have HF3 := frame_sets [2, 3, 4, 5, 6, 7, 8, 9, 10, 11] (by kernel_rfl) hsz hkt
    obtain ⟨d, hok⟩ := hok
    have h2' : w3 = w3 ∧ vals a' 2 = .slice (some ⟨g, 0, none⟩) l.length cap := ⟨rfl, hR 9 (by decide)⟩
    have h2' := h2'.2
    have HB := Lib.hid hok
    clear hok
    obtain ⟨tm, df⟩ := a'
    obtain rfl : df = _ := hdf
    simp only [List.foldl_cons, List.foldl_nil] at HF3
    clear hkt hR hsz
    replace h2' : tm.getD 2 undef = _ := h2'
    rw [h2'] at HF3
    clear h2'
    generalize tm.getD 3 undef = y3 at HF3
    generalize tm.getD 4 undef = y4 at HF3
    generalize tm.getD 5 undef = y5 at HF3
    generalize tm.getD 6 undef = y6 at HF3
    generalize tm.getD 7 undef = y7 at HF3
    generalize tm.getD 8 undef = y8 at HF3
    generalize tm.getD 9 undef = y9 at HF3
    generalize tm.getD 10 undef = y10 at HF3
    generalize tm.getD 11 undef = y11 at HF3
    simp only [List.setIfInBounds_toArray, List.set_cons_succ, List.set_cons_zero] at HF3
    subst HF3
    go_wp2
    go_ret
    exact ⟨⟨g, cap, rfl, ownsRow_below HO.out HB.out⟩, HB.out⟩
end Go.Proofs.YtopjddmgejfalaaDoor.Aig
