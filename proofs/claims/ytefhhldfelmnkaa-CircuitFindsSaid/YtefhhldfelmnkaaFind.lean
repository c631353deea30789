/- circuit.Find, walked: the literal of the first name of a text that names one; no condition. -/
import Derived.Test.YtefhhldfelmnkaaNames
namespace Go.Proofs.Ytefhhldfelmnkaa.Cw
open Go.ChangeShapes Go.WideShapes Go.ChangeAt Go.RowKit Go.Maps Circ

def findV (c : Cir) (t : ByteArray) : List Nam → Option Int
  | [] => none
  | x :: l => if ((x.text.toList == t.toList) && (decide (0 ≤ x.num) && decide (x.num < ((kindLits c x.kind).length : Int)))) = true then some ((kindLits c x.kind).getD x.num.toNat 0) else findV c t l
def foundE (f : Int → Int) (r : Option Int) : Ending := match r with
  | some l => .returned (.tuple #[.int .i64 (f l), .bool true])
  | none => .returned (.tuple #[.int .i64 0, .bool false])
theorem findV_drop (c : Cir) (t : ByteArray) (l : List Nam) (k : Nat) (hk : k < l.length) : findV c t (l.drop k) = if ((l[k].text.toList == t.toList) && (decide (0 ≤ l[k].num) && decide (l[k].num < ((kindLits c l[k].kind).length : Int)))) = true then some ((kindLits c l[k].kind).getD l[k].num.toNat 0) else findV c t (l.drop (k + 1)) := by
  rw [List.drop_eq_getElem_cons hk]; rfl

set_option maxHeartbeats 4000000 in
set_option maxRecDepth 100000 in
theorem find_any (c : Cir) (s : Places) (t : ByteArray) (w : World) (h : CLies w w.heap.size c s) (hf : CFits c s) :
    Calls Try.prog 18 #[cirV c s, .string t] w fun e w' => e = foundE cnt (findV c t c.names) ∧ Below w.heap.size w w' := by
  have ln := hf.ln
  have H := Lib.hid h
  have HB0 : Hid (Below w.heap.size w (w.alloc (.cells (cirC c s) 27))) := (Below.refl _ _).alloc (Nat.le_refl _) _
  have HS1 : Hid ((w.alloc (.cells (cirC c s) 27)).heap.size = w.heap.size + 1) := by unfold Hid; simp
  have PP := Lib.hid (fun x w1 hb => pins_any c s x w1 hb hf)
  clear h hf
  unfold cirV at *
  rw [show cirC c s = #[.int .i64 c.max, .slice s.ai c.ins.length s.ki, .slice s.al c.lats.length s.kl, .slice s.ao c.outs.length s.ko, .slice s.ab c.bads.length s.kb, .slice s.ac c.invs.length s.kc, .slice s.aa c.ands.length s.ka, .slice s.an c.names.length s.kn] from rfl] at PP ⊢
  go_enter Try.func18, Try.ntmps18
  go_wp2
  go_loopw [13] (fun i wr => ∃ k : Nat, k ≤ c.names.length ∧ i = .int .i64 k ∧ findV c t (c.names.drop k) = findV c t c.names ∧ Below (w.heap.size + 1) (w.alloc (.cells (cirC c s) 27)) wr) (fun i _ => c.names.length - (intOf i).toNat)
  case atStart => exact ⟨0, Nat.zero_le _, rfl, rfl, Below.refl _ _⟩
  case round =>
    obtain ⟨k, hk, rfl, hno, hb⟩ := hrel
    have HN := Lib.hid hno; clear hno
    have hbw : Below w.heap.size w wr := HB0.out.trans (hb.mono (by omega))
    have hwz : w.heap.size + 1 ≤ wr.heap.size := by have := hb.size; rw [show (w.alloc (.cells (cirC c s) 27)).heap.size = w.heap.size + 1 from HS1.out] at this; exact this
    by_cases hlt : k < c.names.length
    · obtain ⟨b, o, ha, hbb, hx0, hx1, hx2⟩ := (H.out.names.below hbw).nam hlt
      have HD := Lib.hid (findV_drop c t c.names k hlt)
      have HAn : Hid (s.an = some ⟨b, o, none⟩) := ha
      rw [ha] at PP
      rw [ha]
      clear ha
      generalize c.names[k].kind = x at *
      generalize c.names[k].num = y at *
      generalize c.names[k].text = z at *
      have hb1 := hb.alloc hwz (.cells #[.string x, .int .i64 y, .string z] 45)
      have hz1 : w.heap.size + 1 ≤ (wr.alloc (.cells #[.string x, .int .i64 y, .string z] 45)).heap.size := by simp; omega
      have hlt0 : w.heap.size < wr.heap.size := by omega
      obtain ⟨e0, e1, e2, e3, e4, e5, e6, e7⟩ := ((Box.made w c s).keep hb (Nat.lt_succ_self _)).cells
      rw [HAn.out] at e7
      have P := Lib.hid (PP.out x (wr.alloc (.cells #[.string x, .int .i64 y, .string z] 45)) ((H.out.below (HB0.out.trans (hb1.mono (by omega)))).more (by omega)))
      have HZ1 := Lib.hid hz1
      clear hz1
      cases hq : z.toList == t.toList
      case false =>
        have hq2 : (z.toList != t.toList) = true := by unfold bne; rw [hq]; rfl
        have HQ : Hid (findV c t (c.names.drop (k + 1)) = findV c t c.names) := by unfold Hid; rw [← HN.out, HD.out, hq]; rfl
        go_wp2
        go_roundw
        case rel => exact ⟨k + 1, by omega, by go_num, HQ.out, hb1⟩
        case measure => simp [intOf]; omega
      case true =>
      have hq2 : (z.toList != t.toList) = false := by unfold bne; rw [hq]; rfl
      rw [hq] at HD
      go_wp2_with fail
      refine P.out.mono ?_
      rintro e w2 ⟨kf, cap, rfl, hbp, hkf, hlit⟩
      have hkf' : ∀ args w, (callFunc kf args).run Try.prog w = .ok (.enter kf args) w := hkf
      have HLi := Lib.hid hlit
      clear hlit hkf
      obtain ⟨n0, n1, n2⟩ := nam_cells wr x y z 45 w2 hbp
      have hb2 := hb1.trans (hbp.mono HZ1.out)
      obtain ⟨L, hL⟩ : ∃ L : List Int, L = kindLits c x := ⟨_, rfl⟩
      rw [← hL] at HD HLi
      have hlen : ((kindLits c x).length : Int) = (L.length : Int) := by rw [hL]
      rw [hlen]
      clear hL hlen
      by_cases c1 : 0 ≤ y
      case neg =>
        have HQ : Hid (findV c t (c.names.drop (k + 1)) = findV c t c.names) := by unfold Hid; rw [← HN.out, HD.out, decide_eq_false c1]; simp
        go_wp2
        go_roundw
        case rel => exact ⟨k + 1, by omega, by go_num, HQ.out, hb2⟩
        case measure => simp [intOf]; omega
      case pos =>
      by_cases c2 : y < (L.length : Int)
      case neg =>
        have HQ : Hid (findV c t (c.names.drop (k + 1)) = findV c t c.names) := by unfold Hid; rw [← HN.out, HD.out, decide_eq_false c2]; simp
        go_wp2
        go_roundw
        case rel => exact ⟨k + 1, by omega, by go_num, HQ.out, hb2⟩
        case measure => simp [intOf]; omega
      case pos =>
      obtain ⟨i, rfl⟩ := Int.eq_ofNat_of_zero_le c1
      have hi : i < L.length := by omega
      have HQ : Hid (findV c t c.names = some L[i]) := by
        unfold Hid; rw [← HN.out, HD.out, decide_eq_true c1, decide_eq_true c2, if_pos (show (true && (true && true)) = true from rfl), Int.toNat_natCast, List.getD_eq_getElem?_getD, List.getElem?_eq_getElem hi]; rfl
      have HC := Lib.hid (HLi.out i hi w2 (Below.refl _ _))
      generalize L[i] = l at *
      go_wp2_with fail
      refine HC.out.mono ?_
      rintro e w3 ⟨rfl, rfl⟩
      go_wp2_with (go_at_call 29; refine (ccounted_any _ _).mono ?_; rintro e w' ⟨rfl, rfl⟩)
      go_ret2
      exact ⟨by rw [HQ.out]; rfl, HB0.out.trans (hb2.mono (by omega))⟩
    · obtain rfl : k = c.names.length := by omega
      rw [List.drop_length] at HN
      go_wp2
      go_ret2
      exact ⟨by rw [← HN.out]; rfl, hbw⟩
end Go.Proofs.Ytefhhldfelmnkaa.Cw
