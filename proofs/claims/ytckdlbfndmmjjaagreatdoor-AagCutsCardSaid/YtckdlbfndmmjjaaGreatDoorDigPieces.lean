/- The walks of package digits' texts: pieces, Words, Lines, Join; bounds on sizes as they are stated. -/
import Derived.Test.YtckdlbfndmmjjaaGreatDoorDigWalks
import Derived.Test.YtckdlbfndmmjjaaGreatDoorDigTextPlain
import Derived.OwnWalk
namespace Go.Proofs.YtckdlbfndmmjjaaGreatDoor.Dig
open Go.ChangeShapes Go.WideShapes Go.ChangeAt Go.RowKit

def sv (l : List UInt8) : Value := .string ⟨l.toArray⟩

theorem info9 : (Tryz.prog.info? 9).map (fun i => (i.zero, i.size, i.bytes)) = some (some (.string ⟨#[]⟩), 1, 16) := by kernel_rfl

theorem ownsRow_below {w w' : World} {base : Nat} {e : TypeId} {size : Nat} {v : Value} {n : Nat} {xs : List Value} (h : w.ownsRow base e size v n xs) (hb : Below w.heap.size w w') : w'.ownsRow base e size v n xs := by
  obtain ⟨hl, h0 | ⟨g, cap, cur, hv, hg, hh, r⟩⟩ := h
  · exact ⟨hl, .inl h0⟩
  · exact ⟨hl, .inr ⟨g, cap, cur, hv, hg, by rw [hb.block g (lt_of_block hh)]; exact hh, r⟩⟩

/-- the cell of internal/bytealg.MaxLen -/
def MaxCell (W : World) : Prop := ∃ m, W.cell? ⟨0, 0, none⟩ = some (.int .i64 m)
theorem MaxCell.below {W w : World} {B : Nat} (h : MaxCell W) (hB1 : 0 < B) (hb : Below B W w) : MaxCell w := by
  obtain ⟨m, hm⟩ := h
  exact ⟨m, by rw [hb.cell (p := ⟨0, 0, none⟩) hB1]; exact hm⟩
theorem MaxCell.lt {W : World} (h : MaxCell W) : 0 < W.heap.size := by
  obtain ⟨m, hc⟩ := h
  rcases Nat.lt_or_ge 0 W.heap.size with h | h
  · exact h
  · unfold World.cell? at hc; rw [Array.getElem?_eq_none h] at hc; cases hc

theorem clone_any (s : ByteArray) (w : World) (hs : s.size ≤ 281474976710656) :
    Calls Tryz.prog 57 #[.string s] w fun e w' => e = .returned (.string s) ∧ Below w.heap.size w w' := by
  have hc := fun w => Tryz.stringslite_Clone s w hs
  have HC := Lib.hid hc
  clear hc
  go_enter Tryz.func57, Tryz.ntmps57
  go_wp2_with fail
  refine (HC.out _).mono ?_
  rintro e w1 ⟨rfl, hb⟩
  go_wp2_with fail
  go_ret
  exact ⟨rfl, hb⟩

/-- how a closure answers that wants some pieces -/
def Wants (k : FuncId) (want : List UInt8 → Bool → Bool) : Prop :=
  ∀ (p : ByteArray) (last : Bool) (w : World), Calls Tryz.prog k #[.string p, .bool last] w fun e w' => e = .returned (.bool (want p.data.toList last)) ∧ w = w'

/-- where a loop over pieces stands -/
def PSt (c : UInt8) (want : List UInt8 → Bool → Bool) (s0 : ByteArray) (B : Nat) (W : World) (last : Bool) (r : ByteArray) (v : Value) (w : World) : Prop :=
  ∃ L : List (List UInt8), w.ownsRow B 9 1 v L.length (L.map sv) ∧ Below B W w ∧
    match last with
    | true => L = piecesL c want s0.data.toList
    | false => ∃ done, splitOn c s0.data.toList = done ++ splitOn c r.data.toList ∧ L = done.filter (fun p => want p false) ∧ done.length + r.size ≤ s0.size
def pm (s last : Value) : Nat := match last, s with
  | .bool true, _ => 0
  | _, .string r => r.size + 1
  | _, _ => 0

theorem cut_any (r : ByteArray) (c : UInt8) (w : World) (hs : r.size ≤ 4194304) (hm : MaxCell w) :
    Calls Tryz.prog 56 #[.string r, .string ⟨#[c]⟩] w fun e w' => (∃ p q : ByteArray, ∃ f : Bool, e = .returned (.tuple #[.string p, .string q, .bool f]) ∧ p.size ≤ r.size ∧
      (f = false → p = r ∧ splitOn c r.data.toList = [r.data.toList]) ∧ (f = true → splitOn c r.data.toList = p.data.toList :: splitOn c q.data.toList ∧ q.size + 1 ≤ r.size)) ∧ (∃ n, w' = w.drewN n) := by
  obtain ⟨m, hm⟩ := hm
  refine (Tryz.strings_Cut r ⟨#[c]⟩ m w (by omega) hm).mono ?_
  rintro e w' ⟨rfl, hn⟩
  have hr : r.size = r.data.toList.length := rfl
  refine ⟨?_, hn⟩
  rcases split_cases c r.data.toList with h | ⟨p, q, h1, h2⟩
  · refine ⟨r, ⟨#[]⟩, false, ?_, Nat.le_refl _, fun _ => ⟨rfl, splitOn_none h⟩, fun h => by cases h⟩
    show Ending.returned (Value.tuple #[.string ⟨(Lib.cut r.data.toList [c]).1.toArray⟩, .string ⟨(Lib.cut r.data.toList [c]).2.1.toArray⟩, .bool (Lib.cut r.data.toList [c]).2.2]) = _
    rw [cut_none1 h]
  · refine ⟨⟨p.toArray⟩, ⟨q.toArray⟩, true, ?_, ?_, fun h => (by cases h), fun _ => ⟨?_, ?_⟩⟩
    · show Ending.returned (Value.tuple #[.string ⟨(Lib.cut r.data.toList [c]).1.toArray⟩, .string ⟨(Lib.cut r.data.toList [c]).2.1.toArray⟩, .bool (Lib.cut r.data.toList [c]).2.2]) = _
      rw [h1, cut_some1 h2]
    · show p.length ≤ _
      rw [hr, h1, List.length_append]; omega
    · rw [h1]; exact splitOn_some h2
    · show q.length + 1 ≤ _
      rw [hr, h1, List.length_append, List.length_cons]; omega

theorem pst_next {c : UInt8} {want : List UInt8 → Bool → Bool} {s0 : ByteArray} {B : Nat} {W w : World} {x p q : ByteArray} {f : Bool} {v : Value} {done : List (List UInt8)}
    (hsp : splitOn c s0.data.toList = done ++ splitOn c x.data.toList) (hdl : done.length + x.size ≤ s0.size)
    (h0 : f = false → p = x ∧ splitOn c x.data.toList = [x.data.toList]) (h1 : f = true → splitOn c x.data.toList = p.data.toList :: splitOn c q.data.toList ∧ q.size + 1 ≤ x.size)
    (hown : w.ownsRow B 9 1 v (done.filter (fun p => want p false) ++ (if want p.data.toList (!f) then [p.data.toList] else [])).length ((done.filter (fun p => want p false) ++ (if want p.data.toList (!f) then [p.data.toList] else [])).map sv))
    (hb : Below B W w) : PSt c want s0 B W (!f) q v w := by
  refine ⟨_, hown, hb, ?_⟩
  cases f
  · obtain ⟨rfl, h2⟩ := h0 rfl
    rw [h2] at hsp
    exact (piecesL_of hsp).symm
  · obtain ⟨h2, h3⟩ := h1 rfl
    refine ⟨done ++ [p.data.toList], ?_, ?_, ?_⟩
    · rw [hsp, h2, List.append_assoc]; rfl
    · rw [List.filter_append]
      congr 1
      by_cases hw : want p.data.toList false <;> simp [hw]
    · rw [List.length_append, List.length_singleton]; omega

theorem pm_next {c : UInt8} {p q x : ByteArray} {f : Bool} (h1 : f = true → splitOn c x.data.toList = p.data.toList :: splitOn c q.data.toList ∧ q.size + 1 ≤ x.size) :
    pm (.string q) (.bool !f) < pm (.string x) (.bool false) := by
  cases f
  · show 0 < x.size + 1; omega
  · have := (h1 rfl).2; show q.size + 1 < x.size + 1; omega

set_option maxHeartbeats 1600000 in
theorem pieces_any (s : ByteArray) (c : UInt8) (k : FuncId) (want : List UInt8 → Bool → Bool) (w : World) (hs : s.size ≤ 4194304) (hm : MaxCell w)
    (hk : ∀ args w, (callFunc k args).run Tryz.prog w = .ok (.enter k args) w) (hw : Wants k want) :
    Calls Tryz.prog 35 #[.string s, .string ⟨#[c]⟩, .func (.func k) #[] #[]] w fun e w' =>
      ∃ v, e = .returned v ∧ w'.ownsRow w.heap.size 9 1 v (piecesL c want s.data.toList).length ((piecesL c want s.data.toList).map sv) ∧ Below w.heap.size w w' := by
  obtain ⟨i0, hi, hz0, hz1, hz2⟩ := info_parts info9
  have hmlt := hm.lt
  have HM := Lib.hid hm
  clear hm
  go_enter Tryz.func35, Tryz.ntmps35
  go_wp2
  go_loopw [0, 7, 8] (fun r v last wr => ∃ (b : Bool) (x : ByteArray), r = .string x ∧ last = .bool b ∧ PSt c want s w.heap.size w b x v wr) (fun r _ last _ => pm r last)
  case atStart => exact ⟨false, s, rfl, rfl, [], World.ownsRow_nil _ _ _ _, Below.refl _ _, [], rfl, rfl, by simp⟩
  case round =>
    obtain ⟨b, x, rfl, rfl, L, hown, hbel, hst⟩ := hrel
    cases b
    · obtain ⟨done, hsp, hL, hdl⟩ := hst
      have hmr : MaxCell wr := HM.out.below hmlt hbel
      have hcut := cut_any x c wr (by omega) hmr
      have HC := Lib.hid hcut
      have HS := Lib.hid hsp
      have HL := Lib.hid hL
      have HW := Lib.hid hw
      clear hcut hsp hL hmr
      go_wp2_with fail
      refine HC.out.mono ?_
      rintro e w1 ⟨⟨p, q, f, rfl, hpr, hf0, hf1⟩, n, hn⟩
      have HN := Lib.hid hn
      have H0 := Lib.hid hf0
      have H1 := Lib.hid hf1
      clear hn hf0 hf1
      have hw1 : w1.ownsRow w.heap.size 9 1 u7 L.length (L.map sv) := by rw [HN.out]; exact hown
      have hb1 : Below w.heap.size w w1 := by rw [HN.out]; exact below_drewN hbel n
      go_wp2_with fail
      obtain ⟨wb, hwb⟩ : ∃ wb : Bool, wb = want p.data.toList (!f) := ⟨_, rfl⟩
      have hcall := HW.out p (!f) w1
      rw [← hwb] at hcall
      refine hcall.mono ?_
      rintro e w' ⟨rfl, rfl⟩
      have hLl : L.length ≤ done.length := by rw [HL.out]; exact List.length_filter_le _ _
      have HB := Lib.hid hwb
      clear hcall hwb
      cases wb
      · have R := pst_next (want := want) (v := u7) (w := w1) HS.out hdl H0.out H1.out (by rw [← HB.out, ← HL.out]; simpa using hw1) hb1
        have M := pm_next H1.out
        have HR := Lib.hid R
        have HM2 := Lib.hid M
        clear R M
        go_wp2
        go_roundw
        case rel => exact ⟨_, _, rfl, rfl, HR.out⟩
        case measure => exact HM2.out
      · go_wp2_with fail
        refine (clone_any p w1 (by omega)).mono ?_
        rintro e w2 ⟨rfl, hb2⟩
        have hsz := hb1.size
        have hsz2 := hb2.size
        have hw2 : w2.ownsRow w.heap.size 9 1 u7 L.length (L.map sv) := ownsRow_below hw1 hb2
        go_wp2_with (at_builtin; refine wpList_append_own _ rfl _ _ 53 rfl w.heap.size 9 i0 (.string ⟨#[]⟩) 1 16 Tryz.underlying53 hi hz0 hz1 hz2 rfl (by decide) _ _ _ rfl (hw2.alloc _) ⟨w2.heap.size, 0, none⟩ 1 1 [.string p] rfl rfl ?c1 ?c2 ?c3 ?c4 ?c5 ?_)
        case c1 => exact cell_one_new _ _ _
        case c2 => intro u hu; simp at hu; subst hu; rfl
        case c3 => unfold maxLen; omega
        case c4 => omega
        case c5 => simp; omega
        intro v' w3 hown' hgrow _
        have hb3 : Below w.heap.size w w3 := (((hb1.trans (hb2.mono hsz)).alloc (by omega) _).grown hgrow (by simp; omega) (by
          intro k hk
          obtain ⟨_, h0 | ⟨g, cap, cur, hv, hg, _⟩⟩ := hw2
          · rw [h0.1] at hk; simp [Value.ownBlock] at hk
          · rw [hv] at hk; simp [Value.ownBlock] at hk; omega))
        have R := pst_next (want := want) (v := v') (w := w3) HS.out hdl H0.out H1.out (by rw [← HB.out, ← HL.out]; simpa [sv] using hown') hb3
        have M := pm_next H1.out
        have HR := Lib.hid R
        have HM2 := Lib.hid M
        clear R M hown' hgrow
        go_wp2
        go_roundw
        case rel => exact ⟨_, _, rfl, rfl, HR.out⟩
        case measure => exact HM2.out
    · go_wp2
      go_ret
      refine ⟨_, rfl, ?_, hbel⟩
      rw [← hst]; exact hown
end Go.Proofs.YtckdlbfndmmjjaaGreatDoor.Dig
