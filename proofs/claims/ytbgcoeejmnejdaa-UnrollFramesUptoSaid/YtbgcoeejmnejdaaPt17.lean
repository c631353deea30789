/- bytes.Repeat of one octet; no condition but that there are not too many. -/
import Derived.Test.YtbgcoeejmnejdaaPt04
import Derived.Test.YtbgcoeejmnejdaaPt15
import Derived.Lib.MakeNoZero
import Derived.Laws.CopyOwn
import Derived.Deep.RegionLaw
namespace Go.Proofs.Ytbgcoeejmnejdaa.Sim
open Go.ChangeShapes Go.WideShapes Go.ChangeAt Go.RowKit Go.Maps Circ Cw

theorem info8 : (Try.prog.info? 5).map (·.size) = some 1 := by kernel_rfl
set_option maxHeartbeats 4000000 in
set_option maxRecDepth 100000 in
theorem repeat_any (n g0 q : Nat) (x : UInt8) (w : World) (h0 : 1 ≤ n) (hn : n ≤ 8192) (hc : w.cell? ⟨g0, 0, none⟩ = some (.int .u8 ((x.toNat : Nat) : Int))) :
    Calls Try.prog 58 #[.slice (some ⟨g0, 0, none⟩) 1 q, .int .i64 (n : Int)] w fun e w' => (∃ g rest, e = .returned (.slice (some ⟨g, 0, none⟩) n n) ∧ w.heap.size ≤ g ∧ w'.heap[g]? = some (.cells (Lib.byteCells (List.replicate n x) ++ rest).toArray 5 (0, 0))) ∧ Below w.heap.size w w' := by
  have M := Lib.hid (TryB.bits_Mul 1 n (by decide) (by omega) w)
  rw [Nat.one_mul, Nat.div_eq_of_lt (by omega), Nat.mod_eq_of_lt (by omega)] at M
  obtain ⟨cs, hrun, hle, hmax⟩ := Lib.run_makeNoZero (P := Try.prog) w #[3] 87 5 Try.underlying87 n (by omega)
  have hext : (callFunc 107 #[.int .i64 (n : Int)]).run Try.prog w = .ok (.value (.slice (some ⟨w.heap.size, 0, none⟩) n cs.size)) (w.drew.drew.alloc (.cells cs 5)) := by
    rw [run_callFunc_extern Try.func107 (by kernel_rfl) (by kernel_rfl) (by kernel_rfl) (e := Extern.BytealgMakeNoZero.makeNoZero #[3] #[87]) (by kernel_rfl), hrun]
    rfl
  obtain ⟨WM, hWM⟩ : ∃ y, w.drew.drew.alloc (.cells cs 5) = y := ⟨_, rfl⟩
  rw [hWM] at hext
  have hb : Below w.heap.size w WM := by rw [← hWM]; exact ((Below.refl _ _).drew.drew).alloc (Nat.le_refl _) _
  have hh : WM.heap[w.heap.size]? = some (.cells cs 5 (0, 0)) := by rw [← hWM]; exact Array.getElem?_push_size
  go_enter Try.func58, Try.ntmps58
  go_wp2_with fail
  refine M.out.mono ?_
  rintro e w' ⟨rfl, rfl⟩
  clear M
  have hnz : (n : Int) ≤ 9223372036854775807 := by omega
  obtain ⟨xv, hxv⟩ : ∃ y, Value.int .u8 ((x.toNat : Nat) : Int) = y := ⟨_, rfl⟩
  have hx1 : xv.oneCell' = true := by rw [← hxv]; rfl
  rw [hxv] at hc
  have hlt := World.block_lt_of_cell? _ _ hc
  have hcM : WM.cell? ⟨g0, 0, none⟩ = some xv := (hb.cell hlt).trans hc
  have hg0 : WM.heap[w'.heap.size]? = some (.cells cs.toList.toArray 5 (0, 0)) := by simpa using hh
  have hcl : cs.toList.length = cs.size := by simp
  have hf1 : 0 + [xv].length ≤ cs.size := by simp; omega
  have hcp := run_copy_row (P := Try.prog) WM 87 87 3 5 w'.heap.size 0 n n ⟨g0, 0, none⟩ 1 q cs 5 [xv] Try.underlying87 info8 hh (Nat.min_eq_left h0).symm (fun j v hv => by
    match j, hv with
    | 0, hv =>
      obtain rfl : xv = v := by simpa using hv
      exact hcM
    | j + 1, hv => simp at hv) hf1 (fun v hv => by rw [List.mem_singleton.1 hv]; exact hx1)
  obtain ⟨w2, hw2⟩ : ∃ y, WM.setRow w'.heap.size (cs.toList.take 0 ++ [xv] ++ cs.toList.drop (0 + [xv].length)).toArray = y := ⟨_, rfl⟩
  rw [hw2] at hcp
  have HG2 : Hid (∃ rest : List Value, w2.heap[w'.heap.size]? = some (.cells (List.replicate 1 xv ++ rest).toArray 5 (0, 0)) ∧ 1 + rest.length = cs.size) := by
    refine ⟨cs.toList.drop 1, ?_, by simp; omega⟩
    rw [← hw2]
    have := setRow_heap WM w'.heap.size cs (cs.toList.take 0 ++ [xv] ++ cs.toList.drop (0 + [xv].length)).toArray 5 (0, 0) hh
    rw [this]
    simp
  have hb2 : Below w'.heap.size w' w2 := by rw [← hw2]; exact below_setRow hb (Nat.le_refl _) _
  go_wp2
  have HB2 := Lib.hid hb2
  clear hb2 hg0 hcM hh hext hrun hWM hb hcp hw2
  go_loopw [10] (fun i wr => ∃ j : Nat, 1 ≤ j ∧ j ≤ n ∧ i = .int .i64 j ∧ (∃ rest : List Value, wr.heap[w'.heap.size]? = some (.cells (List.replicate j xv ++ rest).toArray 5 (0, 0)) ∧ j + rest.length = cs.size) ∧ Below w'.heap.size w' wr) (fun i _ => n - (intOf i).toNat)
  case atStart => exact ⟨1, Nat.le_refl _, h0, rfl, HG2.out, HB2.out⟩
  case round =>
    obtain ⟨j, hj0, hj, rfl, ⟨rest, hgr, hlr⟩, hbr⟩ := hrel
    have HBR := Lib.hid hbr
    clear hbr HG2 HB2
    by_cases hjn : j < n
    · have hmin : min (j : Int) (n : Int) = (j : Int) := by omega
      obtain ⟨k, hk⟩ : ∃ k, min j (n - j) = k := ⟨_, rfl⟩
      have hk1 : 1 ≤ k ∧ k ≤ j ∧ k ≤ n - j := by omega
      have hsz : (List.replicate j xv ++ rest).toArray.size = cs.size := by simp; omega
      have hcp2 := run_copy_row (P := Try.prog) wr.drew 87 87 3 5 w'.heap.size j (n - j) (n - j) ⟨w'.heap.size, 0, none⟩ j n (List.replicate j xv ++ rest).toArray 5 (List.replicate k xv) Try.underlying87 info8 hgr (by rw [List.length_replicate]; exact hk.symm) (fun i v hv => by
        have hi : i < k := by
          have := (List.getElem?_eq_some_iff.1 hv).1
          simpa using this
        have hvx : xv = v := by
          rw [List.getElem?_replicate, if_pos hi] at hv
          exact Option.some.inj hv
        have ea : (⟨w'.heap.size, 0, none⟩ : Addr).add i = ⟨w'.heap.size, i, none⟩ := by unfold Addr.add; by_cases hz : i = 0 <;> simp [hz]
        have hgd : wr.drew.heap[w'.heap.size]? = some (.cells (List.replicate j xv ++ rest).toArray 5 (0, 0)) := hgr
        rw [ea, Lib.cell_of_heap hgd, List.getElem?_toArray, List.getElem?_append_left (by rw [List.length_replicate]; omega), List.getElem?_replicate, if_pos (by omega), hvx]) (by rw [hsz, List.length_replicate]; omega) (fun v hv => by rw [(List.mem_replicate.1 hv).2]; exact hx1)
      obtain ⟨w3, hw3⟩ : ∃ y, wr.drew.setRow w'.heap.size ((List.replicate j xv ++ rest).toArray.toList.take j ++ List.replicate k xv ++ (List.replicate j xv ++ rest).toArray.toList.drop (j + (List.replicate k xv).length)).toArray = y := ⟨_, rfl⟩
      have HG3 : Hid (∃ rest : List Value, w3.heap[w'.heap.size]? = some (.cells (List.replicate (j + k) xv ++ rest).toArray 5 (0, 0)) ∧ j + k + rest.length = cs.size) := by
        refine ⟨rest.drop k, ?_, by simp; omega⟩
        rw [← hw3]
        have e := setRow_heap wr.drew w'.heap.size (List.replicate j xv ++ rest).toArray ((List.replicate j xv ++ rest).toArray.toList.take j ++ List.replicate k xv ++ (List.replicate j xv ++ rest).toArray.toList.drop (j + (List.replicate k xv).length)).toArray 5 (0, 0) hgr
        rw [e]
        congr 3
        rw [← List.replicate_append_replicate]
        simp [List.drop_append]
      have HB3 : Hid (Below w'.heap.size w' w3) := by unfold Hid; rw [← hw3]; exact below_setRow (HBR.out.trans (Below.refl _ _).drew) (Nat.le_refl _) _
      rw [hw3, List.length_replicate] at hcp2
      clear hw3 hgr hsz hk hlr
      go_wp2
      go_region
      clear hcp2
      go_wp2
      go_roundw
      case rel => exact ⟨j + k, by omega, by omega, by go_num, HG3.out, HB3.out⟩
      case measure => simp [intOf]; omega
    · obtain rfl : j = n := by omega
      have HGR := Lib.hid hgr
      clear hgr
      go_wp2
      go_ret
      refine ⟨⟨w'.heap.size, rest, rfl, Nat.le_refl _, ?_⟩, HBR.out⟩
      rw [HGR.out, ← hxv]
      unfold Lib.byteCells
      rw [List.map_replicate]
end Go.Proofs.Ytbgcoeejmnejdaa.Sim
