/- What the laws of layer 10 ask of the program's own functions, and the laws from it: ClauseParts, ClauseSound, ClauseNorm. Arguments that are clauses, opened; the cores of ClauseParts, ClauseSound, ClauseNorm. Condition of the ..U forms: bulk at most 1048576. interlockref10.Check, value, left; condition: lists lie in memory. -/
import Derived.Test.YtbgcoeejmnejdaaPt21
import Derived.Test.YtbgcoeejmnejdaaPt25
import Derived.Test.YtbgcoeejmnejdaaRows
import Derived.Test.YtbgcoeejmnejdaaPt02
namespace Go.Proofs.Ytbgcoeejmnejdaa.Cla
open Go.ChangeShapes Go.WideShapes Go.ChangeAt Go.RowKit Go.Maps Circ Cw

end Go.Proofs.Ytbgcoeejmnejdaa.Cla
namespace Go.Proofs.Ytbgcoeejmnejdaa.Cla
open Go.ChangeShapes Go.WideShapes Go.ChangeAt Go.RowKit Go.Maps Go.Deep Circ Cw
section
variable {H : Type} {enc : TypeId × Value → H} {W : World}
theorem of_weights {ts : List TypeId} {ds : List (DataW H)} (hsz : (DataW.weightsEach Try.prog ts ds).all (· ≤ reachBytes) = true) (j : Nat) {t : TypeId} {d : DataW H} (ht : ts[j]? = some t) (hd : ds[j]? = some d) : ∀ n ∈ DataW.weights Try.prog t d, n ≤ reachBytes := fun n hn => by
  have := List.all_eq_true.1 hsz n (DataW.weights_mem_each (j := j) ht hd n hn)
  simpa using this
theorem bulk_len : ∀ es : List (DataW H), es.length ≤ Rows.uptoBulkAll es
  | [] => Nat.le_refl _
  | x :: r => by
    have h := bulk_len r
    have h1 : 1 ≤ Rows.uptoBulk x := by
      cases x with
      | lit y => cases y <;> simp [Rows.uptoBulk]
      | _ => simp [Rows.uptoBulk]
    simp only [Rows.uptoBulkAll, List.length_cons]
    omega
end
end Go.Proofs.Ytbgcoeejmnejdaa.Cla
namespace Go.Proofs.Ytbgcoeejmnejdaa.For
open Go.ChangeShapes Go.WideShapes Go.ChangeAt Go.RowKit Go.Maps Circ Cw Cla Rep

theorem all_take {α : Type} (l : List α) (p : α → Bool) (k : Nat) (hk : k < l.length) : (l.take (k + 1)).all p = ((l.take k).all p && p l[k]) := by
  rw [List.take_succ_eq_append_getElem hk, List.all_append]; simp
theorem all_not {α : Type} {l : List α} {p : α → Bool} {k : Nat} (hk : k < l.length) (h : p l[k] = false) : l.all p = false := by
  rw [List.all_eq_false]
  exact ⟨l[k], List.getElem_mem hk, by rw [h]; decide⟩
theorem clz_lies {w : World} {B : Nat} {z : Clz} (h : z.Lies w B) : ILies w B z.A z.l := ⟨h.row, h.fits, h.len⟩
set_option maxHeartbeats 16000000 in
set_option maxRecDepth 100000 in
theorem check_any (vars : Int) (l : List Int) (A : Option Addr) (q : Nat) (w : World) (hl : ILies w w.heap.size A l) :
    Calls Try.prog 83 #[.int .i64 vars, .slice A l.length q] w fun e w' => e = .returned (.int .i64 (chk vars l)) ∧ w = w' := by
  have HL := Lib.hid hl
  have hll := hl.len
  clear hl
  unfold chk
  by_cases hbig : 1024 < l.length
  · rw [if_pos hbig]
    have hbz : (1024 : Int) < (l.length : Int) := by omega
    go_enter Try.func83, Try.ntmps83
    go_wp2
    go_ret
    exact ⟨rfl, rfl⟩
  · rw [if_neg hbig]
    obtain ⟨res, hres⟩ : ∃ z : Int, (if l.all (litOk vars) then (0 : Int) else 4) = z := ⟨_, rfl⟩
    have R1 : Hid (l.all (litOk vars) = true → res = 0) := fun h => by rw [← hres, if_pos h]
    have R2 : Hid (l.all (litOk vars) = false → res = 4) := fun h => by rw [← hres, h]; rfl
    rw [hres]
    clear hres
    have hbz : ¬ (1024 : Int) < (l.length : Int) := by omega
    go_enter Try.func83, Try.ntmps83
    go_wp2
    go_loop [5] (fun i => ∃ k : Nat, k ≤ l.length ∧ i = .int .i64 k ∧ (l.take k).all (litOk vars) = true) (fun i => l.length - (intOf i).toNat)
    case atStart => exact ⟨0, Nat.zero_le _, rfl, rfl⟩
    case round =>
      obtain ⟨k, hk, rfl, ha⟩ := hrel
      have HA := Lib.hid ha
      clear ha
      by_cases hlt : k < l.length
      · obtain ⟨b, o, hA, -, hc⟩ := LRow.int HL.out.row hlt
        have hx := HL.out.fits _ (List.getElem_mem hlt)
        have AB := Lib.hid (abs_any l[k] w hx)
        have HT : Hid ((l.take (k + 1)).all (litOk vars) = litOk vars l[k]) := by
          unfold Hid
          rw [List.take_succ_eq_append_getElem hlt, List.all_append, HA.out]; simp
        have HM := Lib.hid (List.getElem_mem hlt)
        have HLI := Lib.hid (lit_iff vars l[k])
        have hkz : (k : Int) < (l.length : Int) := by omega
        have HNO : Hid (litOk vars l[k] = false → l.all (litOk vars) = false) := fun h => by
          rw [List.all_eq_false]; exact ⟨_, HM.out, by rw [h]; decide⟩
        subst hA
        clear hx HM
        generalize litOk vars l[k] = ok at *
        generalize l[k] = x at *
        generalize absW x = y at *
        by_cases h1 : 1 ≤ y
        · have h1n : ¬ y < 1 := by omega
          have hd1 : decide (y < 1) = false := decide_eq_false h1n
          by_cases h2 : y ≤ vars
          · have h2n : ¬ vars < y := by omega
            have hd2 : decide (vars < y) = false := decide_eq_false h2n
            have hok : ok = true := HLI.out.2 ⟨h1, h2⟩
            subst hok
            clear HLI HNO
            go_wp2_with fail
            refine AB.out.mono ?_
            rintro e w' ⟨rfl, rfl⟩
            go_wp2_with fail
            refine AB.out.mono ?_
            rintro e w' ⟨rfl, rfl⟩
            go_wp2
            go_round
            case rel => exact ⟨k + 1, by omega, by go_num, HT.out⟩
            case measure => simp [intOf]; omega
          · have h2n : vars < y := by omega
            have hd2 : decide (vars < y) = true := decide_eq_true h2n
            have HX : Hid (res = 4) := R2.out (HNO.out (by
              cases ok with
              | false => rfl
              | true => exact absurd (HLI.out.1 rfl).2 h2))
            clear HLI HNO HT
            go_wp2_with fail
            refine AB.out.mono ?_
            rintro e w' ⟨rfl, rfl⟩
            go_wp2_with fail
            refine AB.out.mono ?_
            rintro e w' ⟨rfl, rfl⟩
            go_wp2
            go_ret
            exact ⟨by rw [HX.out]; rfl, rfl⟩
        · have h1n : y < 1 := by omega
          have hd1 : decide (y < 1) = true := decide_eq_true h1n
          have HX : Hid (res = 4) := R2.out (HNO.out (by
            cases ok with
            | false => rfl
            | true => exact absurd (HLI.out.1 rfl).1 h1))
          clear HLI HNO HT
          go_wp2_with fail
          refine AB.out.mono ?_
          rintro e w' ⟨rfl, rfl⟩
          go_wp2
          go_ret
          exact ⟨by rw [HX.out]; rfl, rfl⟩
      · obtain rfl : k = l.length := by omega
        have HX : Hid (res = 0) := R1.out (by have h := HA.out; rw [List.take_length] at h; exact h)
        clear HA
        go_wp2
        go_ret
        exact ⟨by rw [HX.out]; rfl, rfl⟩
end Go.Proofs.Ytbgcoeejmnejdaa.For
