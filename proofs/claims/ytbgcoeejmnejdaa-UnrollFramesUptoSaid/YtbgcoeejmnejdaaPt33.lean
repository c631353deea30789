/- What the laws of layer 13 ask of the program's own functions; UnrollFirst from it. UnrollApart, from what it asks of the program; condition: as there. -/
import Derived.Test.YtbgcoeejmnejdaaPt32
import Derived.Test.YtbgcoeejmnejdaaPt21
import Derived.Test.YtbgcoeejmnejdaaPt30
import Derived.Test.YtbgcoeejmnejdaaPt31
import Derived.Test.YtbgcoeejmnejdaaPt02
namespace Go.Proofs.Ytbgcoeejmnejdaa.Unr
open Go.ChangeShapes Go.WideShapes Go.ChangeAt Go.RowKit Go.Maps Circ Cw Str Sim Rep Cla Tse

/-- a question: what is asked of an engine -/
structure Que where
  c : Cir
  asm : List (List Int)
  lem : List (List Int)
  kno : List (List Int)
  bad : Int
  depth : Int
  budget : Int
/-- where its lists lie -/
structure QPlaces where
  s : Places
  La : List Clz
  Ll : List Clz
  Lk : List Clz
  Aa : Option Addr
  Al : Option Addr
  Ak : Option Addr
  qa : Nat
  ql : Nat
  qk : Nat
def queC (q : Que) (t : QPlaces) : Array Value := #[.int .i64 q.c.max, .slice t.s.ai q.c.ins.length t.s.ki, .slice t.s.al q.c.lats.length t.s.kl, .slice t.s.ao q.c.outs.length t.s.ko, .slice t.s.ab q.c.bads.length t.s.kb, .slice t.s.ac q.c.invs.length t.s.kc, .slice t.s.aa q.c.ands.length t.s.ka, .slice t.s.an q.c.names.length t.s.kn,
  .slice t.Aa t.La.length t.qa, .slice t.Al t.Ll.length t.ql, .slice t.Ak t.Lk.length t.qk, .int .i64 q.bad, .int .i64 q.depth, .int .i64 q.budget]
structure QLies (w : World) (B : Nat) (q : Que) (t : QPlaces) : Prop where
  c : CLies w B q.c t.s
  a : ALies w B t.Aa t.La
  l : ALies w B t.Al t.Ll
  k : ALies w B t.Ak t.Lk
  ea : t.La.map Clz.l = q.asm
  el : t.Ll.map Clz.l = q.lem
  ek : t.Lk.map Clz.l = q.kno
theorem QLies.below {w w' : World} {B : Nat} {q : Que} {t : QPlaces} (h : QLies w B q t) (hb : Below B w w') : QLies w' B q t := ⟨h.c.below hb, h.a.below hb, h.l.below hb, h.k.below hb, h.ea, h.el, h.ek⟩
theorem QLies.more {w : World} {B B' : Nat} {q : Que} {t : QPlaces} (h : QLies w B q t) (hB : B ≤ B') : QLies w B' q t := ⟨h.c.more hB, h.a.more hB, h.l.more hB, h.k.more hB, h.ea, h.el, h.ek⟩
def withL (m : Int) (l : List Int) : Bool := l.all fun x => decide (0 ≤ m) && (decide (m ≤ 2048) && (decide (0 ≤ x) && decide (x ≤ 2 * m + 1)))
def clsOk (m : Int) (L : List (List Int)) : Bool := L.all fun l => decide (l.length ≤ 1024) && withL m l
def knOk (n : Int) (L : List (List Int)) : Bool := L.all fun l => For.chk n l == 0
/-- may a question be? -/
def queM (q : Que) : Int :=
  if refOk q.c = false then 9
  else if (decide (q.bad < 0) || (decide ((q.c.bads.length : Int) ≤ q.bad) || (decide (q.depth < 0) || (decide (80 ≤ q.depth) || (decide (q.budget < 0) || decide (1099511627776 < q.budget)))))) = true then 4
  else if (decide (64 < q.asm.length) || (decide (64 < q.lem.length) || decide (256 < q.kno.length))) = true then 3
  else if (clsOk q.c.max q.asm && (clsOk q.c.max q.lem && knOk (q.c.lats.length : Int) q.kno)) = true then 0 else 23
/-- all that the laws ask of the program -/
structure Prog13 (N : Nat) : Prop where
  base : ∀ (c : Cir) (s : Places) (f : Int) (w : World), CLies w w.heap.size c s → CFits c s → I64 f →
    Calls Try.prog 74 #[cirV c s, .int .i64 f] w fun e w' => e = .returned (.int .i64 (baseM c f)) ∧ Below w.heap.size w w'
  first : ∀ (c : Cir) (s : Places) (w : World), CLies w w.heap.size c s → CFits c s →
    Calls Try.prog 42 #[cirV c s] w fun e w' => (∃ K A' q', e = .returned (.slice A' K.length q') ∧ ALies w' w'.heap.size A' K ∧ K.map Clz.l = firstM c) ∧ Below w.heap.size w w'
  apart : ∀ (c : Cir) (s : Places) (x : Int) (w : World), CLies w w.heap.size c s → CFits c s → 0 ≤ x → x ≤ 8192 →
    Calls Try.prog 41 #[cirV c s, .int .i64 0, .int .i64 1, .int .i64 x] w fun e w' => (∃ K A' q', e = .returned (.slice A' K.length q') ∧ ALies w' w'.heap.size A' K ∧ K.map Clz.l = if refOk c = true then apartL c 0 (c.max + 1) x else []) ∧ Below w.heap.size w w'
  frame : ∀ (q : Que) (t : QPlaces) (f : Int) (w : World), QLies w w.heap.size q t → CFits q.c t.s → I64 q.bad → I64 q.depth → I64 q.budget → I64 f → q.asm.length ≤ N → q.lem.length ≤ N → q.kno.length ≤ N → (∀ l ∈ q.asm, l.length ≤ 17592186044416) → (∀ l ∈ q.lem, l.length ≤ 17592186044416) → (∀ l ∈ q.kno, l.length ≤ 17592186044416) →
    Calls Try.prog 35 #[.agg (queC q t), .int .i64 f] w fun e w' => (∃ K A' q', e = .returned (.slice A' K.length q') ∧ ALies w' w'.heap.size A' K ∧ (rightM q.c f = false → K = []) ∧ (rightM q.c f = true → 1 ≤ K.length) ∧ (rightM q.c f = true → queM q = 0 → K.map Clz.l = frameT q.c q.asm q.lem q.kno (f * (q.c.max + 1)))) ∧ Below w.heap.size w w'
def cX : Cir := ⟨3, [], [], [], [], [], [], []⟩
def sX : Places := ⟨none, none, none, none, none, none, none, 0, 0, 0, 0, 0, 0, 0⟩
theorem cX_lies (w : World) (B : Nat) : CLies w B cX sX := ⟨.inl rfl, .inl rfl, .inl rfl, .inl rfl, .inl rfl, .inl rfl, .inl rfl⟩
theorem cX_fits : CFits cX sX := by constructor <;> simp [cX, sX, I64]
theorem cX_base : baseM cX 2 = 8 := by decide +kernel
theorem alive_any {N : Nat} (P : Prog13 N) (w : World) : Calls Try.prog 34 #[] w fun e w' => e = .returned (.bool true) ∧ Below w.heap.size w w' := by
  have L := Lib.hid (P.base cX sX 2 w (cX_lies _ _) cX_fits (by unfold I64; decide))
  rw [cX_base] at L
  unfold cirV at L
  rw [show cirC cX sX = #[.int .i64 3, .slice none 0 0, .slice none 0 0, .slice none 0 0, .slice none 0 0, .slice none 0 0, .slice none 0 0, .slice none 0 0] from rfl] at L
  go_enter Try.func34, Try.ntmps34
  go_wp2_with fail
  refine L.out.mono ?_
  rintro e w' ⟨rfl, hb⟩
  go_wp2
  go_ret
  exact ⟨rfl, hb⟩
theorem clz_lies {w : World} {B : Nat} {z : Clz} (h : z.Lies w B) : ILies w B z.A z.l := ⟨h.row, h.fits, h.len⟩
/-- a row of clauses, each asked for a text: a loop over them -/
theorem all_take {α : Type} (l : List α) (p : α → Bool) (k : Nat) (hk : k < l.length) : (l.take (k + 1)).all p = ((l.take k).all p && p l[k]) := by
  rw [List.take_succ_eq_append_getElem hk, List.all_append]; simp
set_option maxHeartbeats 16000000 in
set_option maxRecDepth 100000 in
theorem first_walk {N : Nat} (P : Prog13 N) (c : Cir) (s : Places) (st inp : ByteArray) (w : World) (h : CLies w w.heap.size c s) (hf : CFits c s) (hs : st.size ≤ 9223372036854775807) (hi : inp.size ≤ 9223372036854775807) :
    Calls Try.prog 11 #[cirV c s, .string st, .string inp] w fun e w' => e = .returned (.bool true) ∧ Below w.heap.size w w' := by
  obtain ⟨WA, hWA⟩ : ∃ x, w.alloc (.cells #[.int .i64 c.max, .slice s.ai c.ins.length s.ki, .slice s.al c.lats.length s.kl, .slice s.ao c.outs.length s.ko, .slice s.ab c.bads.length s.kb, .slice s.ac c.invs.length s.kc, .slice s.aa c.ands.length s.ka, .slice s.an c.names.length s.kn] 27) = x := ⟨_, rfl⟩
  have bA : Hid (Below w.heap.size w WA) := by unfold Hid; rw [← hWA]; exact (Below.refl _ _).alloc (Nat.le_refl _) _
  have GA : Hid (WA.heap[w.heap.size]? = some (.cells (cirC c s) 27 (0, 0))) := by unfold Hid; rw [← hWA]; exact Array.getElem?_push_size
  have GW : Hid (∀ x, Below WA.heap.size WA x → x.heap[w.heap.size]? = some (.cells (cirC c s) 27 (0, 0))) := fun x hx => (hx.block _ (lt_of_block GA.out)).trans GA.out
  have CW : Hid (∀ x, Below WA.heap.size WA x → CLies x x.heap.size c s) := fun x hx => by
    have h1 := bA.out.trans (hx.mono bA.out.size)
    exact (h.below h1).more h1.size
  have HF := Lib.hid hf
  have AL := Lib.hid (alive_any P WA)
  clear h hf
  unfold cirV
  rw [show cirC c s = #[.int .i64 c.max, .slice s.ai c.ins.length s.ki, .slice s.al c.lats.length s.kl, .slice s.ao c.outs.length s.ko, .slice s.ab c.bads.length s.kb, .slice s.ac c.invs.length s.kc, .slice s.aa c.ands.length s.ka, .slice s.an c.names.length s.kn] from rfl]
  go_enter Try.func11, Try.ntmps11
  go_wp2_with fail
  refine AL.out.mono ?_
  rintro e w1 ⟨rfl, hb1⟩
  have B1 := Lib.hid hb1
  clear hb1 AL hWA
  have VA := Lib.hid (refvalues_any c s st inp w1 (CW.out _ B1.out) HF.out hs hi)
  obtain ⟨e0, e1, e2, e3, e4, e5, e6, e7⟩ := cells8 (GW.out _ B1.out)
  unfold cirV at VA
  rw [show cirC c s = #[.int .i64 c.max, .slice s.ai c.ins.length s.ki, .slice s.al c.lats.length s.kl, .slice s.ao c.outs.length s.ko, .slice s.ab c.bads.length s.kb, .slice s.ac c.invs.length s.kc, .slice s.aa c.ands.length s.ka, .slice s.an c.names.length s.kn] from rfl] at VA
  obtain ⟨vv, hvv⟩ : ∃ y : ByteArray, sv (vStr c st inp) = .string y := ⟨_, rfl⟩
  have HVV : Hid (vv.data.toList = vStr c st inp) := by
    unfold Hid
    unfold sv at hvv
    have := Value.string.inj hvv
    rw [← this]
  rw [hvv] at VA
  clear hvv
  obtain ⟨ve, hve⟩ : ∃ y, vErr c st inp = y := ⟨_, rfl⟩
  rw [hve] at VA
  have HVE := Lib.hid hve
  clear hve
  go_wp2_with fail
  refine VA.out.mono ?_
  rintro e w3 ⟨rfl, hb3⟩
  have B3 : Hid (Below WA.heap.size WA w3) := B1.out.trans (hb3.mono B1.out.size)
  clear hb3 VA e0 e1 e2 e3 e4 e5 e6 e7
  have FO := Lib.hid (P.first c s w3 (CW.out _ B3.out) HF.out)
  obtain ⟨e0, e1, e2, e3, e4, e5, e6, e7⟩ := cells8 (GW.out _ B3.out)
  unfold cirV at FO
  rw [show cirC c s = #[.int .i64 c.max, .slice s.ai c.ins.length s.ki, .slice s.al c.lats.length s.kl, .slice s.ao c.outs.length s.ko, .slice s.ab c.bads.length s.kb, .slice s.ac c.invs.length s.kc, .slice s.aa c.ands.length s.ka, .slice s.an c.names.length s.kn] from rfl] at FO
  go_wp2_with fail
  refine FO.out.mono ?_
  rintro e w4 ⟨⟨K, A4, q4, rfl, hK, hKM⟩, hb4⟩
  have HK := Lib.hid hK
  have HKM := Lib.hid hKM
  have B4 : Hid (Below WA.heap.size WA w4) := B3.out.trans (hb4.mono B3.out.size)
  have BF : Hid (Below w.heap.size w w4) := bA.out.trans (B4.out.mono bA.out.size)
  clear hK hKM hb4 FO e0 e1 e2 e3 e4 e5 e6 e7
  have CK := Lib.hid (refcheck_any c s w4 (CW.out _ B4.out) HF.out)
  unfold cirV at CK
  rw [show cirC c s = #[.int .i64 c.max, .slice s.ai c.ins.length s.ki, .slice s.al c.lats.length s.kl, .slice s.ao c.outs.length s.ko, .slice s.ab c.bads.length s.kb, .slice s.ac c.invs.length s.kc, .slice s.aa c.ands.length s.ka, .slice s.an c.names.length s.kn] from rfl] at CK
  obtain ⟨e0, e1, e2, e3, e4, e5, e6, e7⟩ := cells8 (GW.out _ B4.out)
  by_cases hv0 : ve = 0
  · obtain ⟨hr, hbs, hbi⟩ := err_is (HVE.out.trans hv0)
    have HVX : Hid (vv.data.toList = valsM c st inp) := HVV.out.trans (str_ok (HVE.out.trans hv0))
    have HALL : Hid (K.all (fun z => oneM vv z.l) = initM c st) := by
      have h4 := first_iff st inp hr hbs vv HVX.out
      rw [← HKM.out, List.all_map] at h4
      exact h4
    have hvz : vv.size ≤ 9223372036854775807 := by
      have h1 := (vals_small st inp hr).2
      have h2 : vv.size = (valsM c st inp).length := by rw [← HVX.out]; simp
      omega
    have hkl := HK.out.len
    have hvb : (ve != 0) = false := by rw [bne_eq_false_iff_eq]; exact hv0
    clear HVE HKM HVV hbs hbi HVX CK e0 e1 e2 e3 e4 e5 e6 e7 hr
    subst hv0
    go_wp2
    go_loopw [11, 10] (fun i a wr => ∃ k : Nat, k ≤ K.length ∧ i = .int .i64 k ∧ a = .bool ((K.take k).all fun z => oneM vv z.l) ∧ Below w4.heap.size w4 wr) (fun i _ _ => K.length - (intOf i).toNat)
    case atStart => exact ⟨0, Nat.zero_le _, rfl, by simp, Below.refl _ _⟩
    case round =>
      obtain ⟨k, hk, rfl, rfl, hb5⟩ := hrel
      have B5 := Lib.hid hb5
      have BW5 : Hid (Below WA.heap.size WA wr) := B4.out.trans (hb5.mono B4.out.size)
      clear hb5
      by_cases hlm : k < K.length
      · obtain ⟨b, o, hAB, -, hc⟩ := ((HK.out.below B5.out).more B5.out.size).at hlm
        have HZ := Lib.hid (clz_lies (((HK.out.below B5.out).more B5.out.size).each _ (List.getElem_mem hlm)))
        have ON := Lib.hid (one_any vv K[k].l K[k].A K[k].q wr hvz HZ.out)
        have HT : Hid ((K.take (k + 1)).all (fun z => oneM vv z.l) = ((K.take k).all (fun z => oneM vv z.l) && oneM vv K[k].l)) := all_take K _ k hlm
        have m0 : (0 : Int) ≤ (k : Int) := by omega
        have m1 : (k : Int) < (K.length : Int) := by omega
        subst hAB
        generalize K[k] = z at *
        generalize (K.take k).all (fun z => oneM vv z.l) = aa at *
        generalize oneM vv z.l = bb at *
        cases aa with
        | false =>
          go_wp2
          go_roundw
          case rel => exact ⟨k + 1, by omega, by go_num, by rw [HT.out]; rfl, B5.out⟩
          case measure => simp [intOf]; omega
        | true =>
          go_wp2_with fail
          refine ON.out.mono ?_
          rintro e w' ⟨rfl, rfl⟩
          go_wp2
          go_roundw
          case rel => exact ⟨k + 1, by omega, by go_num, by rw [HT.out]; rfl, B5.out⟩
          case measure => simp [intOf]; omega
      · obtain rfl : k = K.length := by omega
        rw [List.take_length, HALL.out]
        have IN := Lib.hid (refinitial_any c s st wr (CW.out _ BW5.out) hs)
        unfold cirV at IN
        rw [show cirC c s = #[.int .i64 c.max, .slice s.ai c.ins.length s.ki, .slice s.al c.lats.length s.kl, .slice s.ao c.outs.length s.ko, .slice s.ab c.bads.length s.kb, .slice s.ac c.invs.length s.kc, .slice s.aa c.ands.length s.ka, .slice s.an c.names.length s.kn] from rfl] at IN
        obtain ⟨e0, e1, e2, e3, e4, e5, e6, e7⟩ := cells8 (GW.out _ BW5.out)
        have HYY : Hid ((initM c st == initM c st) = true) := by unfold Hid; simp
        have hyy := HYY.out
        generalize initM c st = y at *
        clear HALL
        go_wp2_with fail
        refine IN.out.mono ?_
        rintro e w7 ⟨rfl, hb7⟩
        have B7 : Hid (Below w.heap.size w w7) := bA.out.trans ((BW5.out.trans (hb7.mono BW5.out.size)).mono bA.out.size)
        clear hb7 IN e0 e1 e2 e3 e4 e5 e6 e7
        go_wp2
        go_ret
        exact ⟨rfl, B7.out⟩
  · have hvb : (ve != 0) = true := by rw [bne_iff_ne]; exact hv0
    cases hr : refOk c with
    | true =>
      rw [show refV c = 0 from by unfold refV; rw [if_pos hr]] at CK
      clear HVE HKM HVV
      go_wp2_with fail
      refine CK.out.mono ?_
      rintro e w5 ⟨rfl, hb5⟩
      have B5 : Hid (Below w.heap.size w w5) := BF.out.trans (hb5.mono BF.out.size)
      clear hb5 CK e0 e1 e2 e3 e4 e5 e6 e7
      go_wp2
      go_ret
      exact ⟨rfl, B5.out⟩
    | false =>
      have hKn : K = [] := by
        have h1 := HKM.out
        unfold firstM at h1
        rw [if_neg (by rw [hr]; decide)] at h1
        exact List.map_eq_nil_iff.1 h1
      subst hKn
      rw [show refV c = 9 from by unfold refV; rw [if_neg (by rw [hr]; decide)]] at CK
      clear HVE HKM HVV
      go_wp2_with fail
      refine CK.out.mono ?_
      rintro e w5 ⟨rfl, hb5⟩
      have B5 : Hid (Below w.heap.size w w5) := BF.out.trans (hb5.mono BF.out.size)
      clear hb5 CK e0 e1 e2 e3 e4 e5 e6 e7
      go_wp2
      go_ret
      exact ⟨rfl, B5.out⟩
end Go.Proofs.Ytbgcoeejmnejdaa.Unr
namespace Go.Proofs.Ytbgcoeejmnejdaa.Unr
open Go.ChangeShapes Go.WideShapes Go.ChangeAt Go.RowKit Go.Maps Circ Cw Str Sim Rep Cla Tse

/-- at which places two texts are unlike -/
def dL (a b : ByteArray) (k : Nat) : List UInt8 := (List.range k).map fun i => if a.data.toList.getD i 0 = b.data.toList.getD i 0 then 48 else 49
theorem dL_next (a b : ByteArray) (k : Nat) : dL a b (k + 1) = dL a b k ++ [if a.data.toList.getD k 0 = b.data.toList.getD k 0 then 48 else 49] := by
  unfold dL; rw [List.range_succ, List.map_append]; rfl
theorem dL_len (a b : ByteArray) (k : Nat) : (dL a b k).length = k := by unfold dL; simp
theorem dL_at (a b : ByteArray) (n k : Nat) (h : k < n) : (dL a b n)[k]? = some (if a.data.toList.getD k 0 = b.data.toList.getD k 0 then 48 else 49) := by
  unfold dL; rw [List.getElem?_map, List.getElem?_range h]; rfl
theorem zeros_bits (n : Nat) (x : ByteArray) (h : x.data.toList = List.replicate n 48) : bitsM x (n : Int) = true := by
  have hz : x.size = n := by
    have := congrArg List.length h
    simpa using this
  unfold bitsM
  rw [hz, h, decide_eq_true rfl, Bool.true_and, List.all_eq_true]
  intro y hy
  rw [(List.mem_replicate.1 hy).2]; rfl
theorem data_push (x : ByteArray) (y : UInt8) : (x ++ ⟨#[y]⟩ : ByteArray).data.toList = x.data.toList ++ [y] := by
  rw [ByteArray.data_append, Array.toList_append]
theorem data_two (x y : ByteArray) : (x ++ y : ByteArray).data.toList = x.data.toList ++ y.data.toList := by
  rw [ByteArray.data_append, Array.toList_append]
theorem at_getD (a : ByteArray) (k : Nat) (h : k < a.size) : a.data.toList.getD k 0 = a[k]'h := by
  have hl : k < a.data.toList.length := by simpa using h
  rw [List.getD_eq_getElem?_getD, List.getElem?_eq_getElem hl]
  rfl
set_option maxHeartbeats 16000000 in
set_option maxRecDepth 100000 in
theorem apart_walk {N : Nat} (P : Prog13 N) (c : Cir) (s : Places) (a b : ByteArray) (w : World) (h : CLies w w.heap.size c s) (hf : CFits c s) (hs : a.size ≤ 9223372036854775807) (hi : b.size ≤ 9223372036854775807) :
    Calls Try.prog 10 #[cirV c s, .string a, .string b] w fun e w' => e = .returned (.bool true) ∧ Below w.heap.size w w' := by
  obtain ⟨WA, hWA⟩ : ∃ x, w.alloc (.cells #[.int .i64 c.max, .slice s.ai c.ins.length s.ki, .slice s.al c.lats.length s.kl, .slice s.ao c.outs.length s.ko, .slice s.ab c.bads.length s.kb, .slice s.ac c.invs.length s.kc, .slice s.aa c.ands.length s.ka, .slice s.an c.names.length s.kn] 27) = x := ⟨_, rfl⟩
  have bA : Hid (Below w.heap.size w WA) := by unfold Hid; rw [← hWA]; exact (Below.refl _ _).alloc (Nat.le_refl _) _
  have GA : Hid (WA.heap[w.heap.size]? = some (.cells (cirC c s) 27 (0, 0))) := by unfold Hid; rw [← hWA]; exact Array.getElem?_push_size
  have GW : Hid (∀ x, Below WA.heap.size WA x → x.heap[w.heap.size]? = some (.cells (cirC c s) 27 (0, 0))) := fun x hx => (hx.block _ (lt_of_block GA.out)).trans GA.out
  have CW : Hid (∀ x, Below WA.heap.size WA x → CLies x x.heap.size c s) := fun x hx => by
    have h1 := bA.out.trans (hx.mono bA.out.size)
    exact (h.below h1).more h1.size
  have HF := Lib.hid hf
  have hli : c.ins.length * 8 ≤ 140737488355328 := hf.li
  have AL := Lib.hid (alive_any P WA)
  clear h hf
  unfold cirV
  rw [show cirC c s = #[.int .i64 c.max, .slice s.ai c.ins.length s.ki, .slice s.al c.lats.length s.kl, .slice s.ao c.outs.length s.ko, .slice s.ab c.bads.length s.kb, .slice s.ac c.invs.length s.kc, .slice s.aa c.ands.length s.ka, .slice s.an c.names.length s.kn] from rfl]
  go_enter Try.func10, Try.ntmps10
  go_wp2_with fail
  refine AL.out.mono ?_
  rintro e w1 ⟨rfl, hb1⟩
  have B1 := Lib.hid hb1
  clear hb1 AL hWA
  obtain ⟨e0, e1, e2, e3, e4, e5, e6, e7⟩ := cells8 (GW.out _ B1.out)
  go_wp2
  go_loop [8, 7] (fun i x => ∃ (k : Nat) (y : ByteArray), k ≤ c.ins.length ∧ i = .int .i64 k ∧ x = .string y ∧ y.data.toList = List.replicate k 48) (fun i _ => c.ins.length - (intOf i).toNat)
  case atStart => exact ⟨0, _, Nat.zero_le _, rfl, rfl, rfl⟩
  case round =>
    obtain ⟨k, inp, hk, rfl, rfl, hy⟩ := hrel
    have HY := Lib.hid hy
    have hyz : inp.size = k := by
      have := congrArg List.length hy
      simpa using this
    clear hy
    by_cases hlt : k < c.ins.length
    · have hkz : (k : Int) < (c.ins.length : Int) := by omega
      have hyb : inp.size ≤ 140737488355328 := by omega
      have HN : Hid ((inp ++ ⟨#[48]⟩ : ByteArray).data.toList = List.replicate (k + 1) 48) := by
        unfold Hid; rw [data_push, HY.out, List.replicate_succ']
      clear hyz
      go_wp2
      go_round
      case rel => exact ⟨k + 1, _, by omega, by go_num, rfl, HN.out⟩
      case measure => simp [intOf]; omega
    · obtain rfl : k = c.ins.length := by omega
      have hiz : inp.size ≤ 9223372036854775807 := by omega
      have HIB : Hid (bitsM inp (c.ins.length : Int) = true) := zeros_bits _ _ HY.out
      have VA := Lib.hid (refvalues_any c s a inp w1 (CW.out _ B1.out) HF.out hs hiz)
      unfold cirV at VA
      rw [show cirC c s = #[.int .i64 c.max, .slice s.ai c.ins.length s.ki, .slice s.al c.lats.length s.kl, .slice s.ao c.outs.length s.ko, .slice s.ab c.bads.length s.kb, .slice s.ac c.invs.length s.kc, .slice s.aa c.ands.length s.ka, .slice s.an c.names.length s.kn] from rfl] at VA
      obtain ⟨va, hva⟩ : ∃ y : ByteArray, sv (vStr c a inp) = .string y := ⟨_, rfl⟩
      have HVA : Hid (va.data.toList = vStr c a inp) := by
        unfold Hid
        unfold sv at hva
        have := Value.string.inj hva
        rw [← this]
      rw [hva] at VA
      obtain ⟨ea, hea⟩ : ∃ y, vErr c a inp = y := ⟨_, rfl⟩
      rw [hea] at VA
      have HEA := Lib.hid hea
      clear hva hea hyz
      go_wp2_with fail
      refine VA.out.mono ?_
      rintro e w3 ⟨rfl, hb3⟩
      have B3 : Hid (Below WA.heap.size WA w3) := B1.out.trans (hb3.mono B1.out.size)
      clear hb3 VA e0 e1 e2 e3 e4 e5 e6 e7
      have VB := Lib.hid (refvalues_any c s b inp w3 (CW.out _ B3.out) HF.out hi hiz)
      obtain ⟨e0, e1, e2, e3, e4, e5, e6, e7⟩ := cells8 (GW.out _ B3.out)
      unfold cirV at VB
      rw [show cirC c s = #[.int .i64 c.max, .slice s.ai c.ins.length s.ki, .slice s.al c.lats.length s.kl, .slice s.ao c.outs.length s.ko, .slice s.ab c.bads.length s.kb, .slice s.ac c.invs.length s.kc, .slice s.aa c.ands.length s.ka, .slice s.an c.names.length s.kn] from rfl] at VB
      obtain ⟨vb, hvb⟩ : ∃ y : ByteArray, sv (vStr c b inp) = .string y := ⟨_, rfl⟩
      have HVB : Hid (vb.data.toList = vStr c b inp) := by
        unfold Hid
        unfold sv at hvb
        have := Value.string.inj hvb
        rw [← this]
      rw [hvb] at VB
      obtain ⟨eb, heb⟩ : ∃ y, vErr c b inp = y := ⟨_, rfl⟩
      rw [heb] at VB
      have HEB := Lib.hid heb
      clear hvb heb
      go_wp2_with fail
      refine VB.out.mono ?_
      rintro e w4 ⟨rfl, hb4⟩
      have B4 : Hid (Below WA.heap.size WA w4) := B3.out.trans (hb4.mono B3.out.size)
      have BF : Hid (Below w.heap.size w w4) := bA.out.trans (B4.out.mono bA.out.size)
      clear hb4 VB e0 e1 e2 e3 e4 e5 e6 e7
      obtain ⟨e0, e1, e2, e3, e4, e5, e6, e7⟩ := cells8 (GW.out _ B4.out)
      by_cases hboth : ea = 0 ∧ eb = 0
      · obtain ⟨rfl, rfl⟩ := hboth
        obtain ⟨hr, hba, hbi⟩ := err_is HEA.out
        obtain ⟨-, hbb, -⟩ := err_is HEB.out
        have hva2 : va.data.toList = valsM c a inp := HVA.out.trans (str_ok HEA.out)
        have hvb2 : vb.data.toList = valsM c b inp := HVB.out.trans (str_ok HEB.out)
        obtain ⟨ka1, ka2⟩ := vals_small (c := c) a inp hr
        obtain ⟨kb1, kb2⟩ := vals_small (c := c) b inp hr
        have za : va.size = (valsM c a inp).length := by rw [← hva2]; simp
        have zb : vb.size = (valsM c b inp).length := by rw [← hvb2]; simp
        have hsum : ((va.size : Int) + (vb.size : Int)) = 2 * (c.max + 1) := by omega
        have hla : a.size = c.lats.length := by have := (bits_parts hba).1; omega
        have hlb : b.size = c.lats.length := by have := (bits_parts hbb).1; omega
        have hl64 : c.lats.length ≤ 64 := by
          obtain ⟨hh, -⟩ := ref_parts hr
          unfold refHead at hh
          simp only [Bool.and_eq_true, Bool.not_eq_true', decide_eq_false_iff_not] at hh
          omega
        have AP := Lib.hid (P.apart c s (2 * (c.max + 1)) w4 (CW.out _ B4.out) HF.out (by omega) (by omega))
        rw [if_pos hr, ← hsum] at AP
        unfold cirV at AP
        rw [show cirC c s = #[.int .i64 c.max, .slice s.ai c.ins.length s.ki, .slice s.al c.lats.length s.kl, .slice s.ao c.outs.length s.ko, .slice s.ab c.bads.length s.kb, .slice s.ac c.invs.length s.kc, .slice s.aa c.ands.length s.ka, .slice s.an c.names.length s.kn] from rfl] at AP
        have HAP : Hid (∀ sx : ByteArray, sx.data.toList = va.data.toList ++ (vb.data.toList ++ dL a b c.lats.length) → (apartL c 0 (c.max + 1) ((va.size : Int) + (vb.size : Int))).all (oneM sx) = !decide (a = b)) := fun sx hx => by
          rw [hsum]
          rw [hva2, hvb2] at hx
          refine apart_iff a b inp hr hba hbb sx (dL a b c.lats.length) hx (dL_len _ _ _) (fun i hi => dL_at a b _ i hi) ?_
          have := congrArg List.length hx
          rw [List.length_append, List.length_append, dL_len] at this
          have h2 : sx.data.toList.length = sx.size := by simp
          omega
        have HLEN : Hid ((apartL c 0 (c.max + 1) ((va.size : Int) + (vb.size : Int))).length = 2 * c.lats.length + 1) := apart_len _ _ _
        have hvaz : va.size ≤ 2049 := by omega
        have hvbz : vb.size ≤ 2049 := by omega
        generalize apartL c 0 (c.max + 1) ((va.size : Int) + (vb.size : Int)) = AL at *
        clear HEA HEB HVA HVB hva2 hvb2 ka1 ka2 kb1 kb2 za zb hsum hba hbb hbi hr
        have HAB : Hid ((va ++ vb : ByteArray).data.toList = va.data.toList ++ vb.data.toList) := data_two _ _
        have hzz : (va ++ vb : ByteArray).size = va.size + vb.size := by rw [ByteArray.size_append]
        go_wp2_with fail
        refine AP.out.mono ?_
        rintro e w5 ⟨⟨K, A5, q5, rfl, hK, hKM⟩, hb5⟩
        have HK := Lib.hid hK
        have HKM := Lib.hid hKM
        have B5 : Hid (Below WA.heap.size WA w5) := B4.out.trans (hb5.mono B4.out.size)
        clear hK hKM hb5 AP e0 e1 e2 e3 e4 e5 e6 e7
        go_wp2
        go_loopw [15, 13] (fun i x wr => ∃ (k : Nat) (y : ByteArray), k ≤ c.lats.length ∧ i = .int .i64 k ∧ x = .string y ∧ y.data.toList = va.data.toList ++ (vb.data.toList ++ dL a b k) ∧ Below w5.heap.size w5 wr) (fun i _ _ => c.lats.length - (intOf i).toNat)
        case atStart => exact ⟨0, _, Nat.zero_le _, rfl, rfl, by rw [HAB.out]; simp [dL], Below.refl _ _⟩
        case round =>
          obtain ⟨k, sx, hk, rfl, rfl, hy, hb6⟩ := hrel
          have HY := Lib.hid hy
          have B6 := Lib.hid hb6
          have BW6 : Hid (Below WA.heap.size WA wr) := B5.out.trans (hb6.mono B5.out.size)
          have hsxz : sx.size ≤ 8192 := by
            have := congrArg List.length hy
            rw [List.length_append, List.length_append, dL_len] at this
            have h2 : sx.data.toList.length = sx.size := by simp
            have h3 : va.data.toList.length = va.size := by simp
            have h4 : vb.data.toList.length = vb.size := by simp
            omega
          clear hy hb6
          obtain ⟨e0, e1, e2, e3, e4, e5, e6, e7⟩ := cells8 (GW.out _ BW6.out)
          by_cases hlt : k < c.lats.length
          · have hkz : (k : Int) < (c.lats.length : Int) := by omega
            have hka : k < a.size := by omega
            have hkb : k < b.size := by omega
            have k0 : (0 : Int) ≤ (k : Int) := by omega
            have k1 : (k : Int) < (a.size : Int) := by omega
            have k2 : (k : Int) < (b.size : Int) := by omega
            have HN : Hid (dL a b (k + 1) = dL a b k ++ [if a[k]'hka = b[k]'hkb then 48 else 49]) := by
              unfold Hid; rw [dL_next, at_getD a k hka, at_getD b k hkb]
            have P48 : Hid ((sx ++ ⟨#[48]⟩ : ByteArray).data.toList = sx.data.toList ++ [48]) := data_push _ _
            have P49 : Hid ((sx ++ ⟨#[49]⟩ : ByteArray).data.toList = sx.data.toList ++ [49]) := data_push _ _
            by_cases he : a[k]'hka = b[k]'hkb
            · rw [if_pos he] at HN
              have hnb : (((a[k]'hka).toNat : Int) != ((b[k]'hkb).toNat : Int)) = false := by rw [bne_eq_false_iff_eq, he]
              have HE : Hid ((sx ++ ⟨#[48]⟩ : ByteArray).data.toList = va.data.toList ++ (vb.data.toList ++ dL a b (k + 1))) := by
                unfold Hid; rw [P48.out, HY.out, HN.out]; simp
              clear he P48 P49 HN HY
              go_wp2
              refine wp_region_wd (by kernel_rfl) (by kernel_rfl) ?_
              repeat (first | go_big_quiet_skip | (go_big_quiet_want; go_big_quiet_op; go_big_quiet_on))
              refine wpQuiet_nil ?_
              intro w7 hw'
              obtain ⟨⟨_, hb9⟩, hw''⟩ := hw'
              subst hw''
              have B7 : Hid (Below w5.heap.size w5 w7) := B6.out.trans (hb9.mono B6.out.size)
              clear hb9 e0 e1 e2 e3 e4 e5 e6 e7
              go_wp2
              go_roundw
              case rel => exact ⟨k + 1, _, by omega, by go_num, rfl, HE.out, B7.out⟩
              case measure => simp [intOf]; omega
            · rw [if_neg he] at HN
              have hnb : (((a[k]'hka).toNat : Int) != ((b[k]'hkb).toNat : Int)) = true := by
                rw [bne_iff_ne]
                intro h
                exact he (UInt8.toNat_inj.1 (by omega))
              have HE : Hid ((sx ++ ⟨#[49]⟩ : ByteArray).data.toList = va.data.toList ++ (vb.data.toList ++ dL a b (k + 1))) := by
                unfold Hid; rw [P49.out, HY.out, HN.out]; simp
              clear he P48 P49 HN HY
              go_wp2
              refine wp_region_wd (by kernel_rfl) (by kernel_rfl) ?_
              repeat (first | go_big_quiet_skip | (go_big_quiet_want; go_big_quiet_op; go_big_quiet_on))
              refine wpQuiet_nil ?_
              intro w7 hw'
              obtain ⟨⟨_, hb9⟩, hw''⟩ := hw'
              subst hw''
              have B7 : Hid (Below w5.heap.size w5 w7) := B6.out.trans (hb9.mono B6.out.size)
              clear hb9 e0 e1 e2 e3 e4 e5 e6 e7
              go_wp2
              go_roundw
              case rel => exact ⟨k + 1, _, by omega, by go_num, rfl, HE.out, B7.out⟩
              case measure => simp [intOf]; omega
          · obtain rfl : k = c.lats.length := by omega
            obtain ⟨wo, rfl⟩ : ∃ y, y = wr := ⟨_, rfl⟩
            have HALL : Hid (K.all (fun z => oneM sx z.l) = !decide (a = b)) := by
              have h4 := HAP.out sx HY.out
              rw [← HKM.out, List.all_map] at h4
              exact h4
            have hkl := HK.out.len
            have HKL : Hid (K.length = 2 * c.lats.length + 1) := by
              have h4 := HLEN.out
              rw [← HKM.out, List.length_map] at h4
              exact h4
            have hsx2 : sx.size ≤ 9223372036854775807 := by omega
            have HKO := Lib.hid (((HK.out.below B6.out).more B6.out.size))
            clear HAP HLEN HKM HY
            go_wp2
            clear e0 e1 e2 e3 e4 e5 e6 e7
            go_loopw [17, 16] (fun i x wr => ∃ k : Nat, k ≤ K.length ∧ i = .int .i64 k ∧ x = .bool ((K.take k).all fun z => oneM sx z.l) ∧ Below wo.heap.size wo wr) (fun i _ _ => K.length - (intOf i).toNat)
            case atStart => exact ⟨0, Nat.zero_le _, rfl, by simp, Below.refl _ _⟩
            case round =>
              obtain ⟨k, hk, rfl, rfl, hb7⟩ := hrel
              have B7 := Lib.hid hb7
              have BW7 : Hid (Below WA.heap.size WA wr) := BW6.out.trans (hb7.mono BW6.out.size)
              clear hb7
              by_cases hlm : k < K.length
              · obtain ⟨b8, o8, hAB, -, hc⟩ := ((HKO.out.below B7.out).more B7.out.size).at hlm
                have HZ := Lib.hid (clz_lies (((HKO.out.below B7.out).more B7.out.size).each _ (List.getElem_mem hlm)))
                have ON := Lib.hid (one_any sx K[k].l K[k].A K[k].q wr hsx2 HZ.out)
                have HT : Hid ((K.take (k + 1)).all (fun z => oneM sx z.l) = ((K.take k).all (fun z => oneM sx z.l) && oneM sx K[k].l)) := all_take K _ k hlm
                have m0 : (0 : Int) ≤ (k : Int) := by omega
                have m1 : (k : Int) < (K.length : Int) := by omega
                subst hAB
                generalize K[k] = z at *
                generalize (K.take k).all (fun z => oneM sx z.l) = aa at *
                generalize oneM sx z.l = bb at *
                cases aa with
                | false =>
                  go_wp2
                  go_roundw
                  case rel => exact ⟨k + 1, by omega, by go_num, by rw [HT.out]; rfl, B7.out⟩
                  case measure => simp [intOf]; omega
                | true =>
                  go_wp2_with fail
                  refine ON.out.mono ?_
                  rintro e w' ⟨rfl, rfl⟩
                  go_wp2
                  go_roundw
                  case rel => exact ⟨k + 1, by omega, by go_num, by rw [HT.out]; rfl, B7.out⟩
                  case measure => simp [intOf]; omega
              · obtain rfl : k = K.length := by omega
                rw [List.take_length, HALL.out]
                have hz9 : (K.length : Int) = 2 * (c.lats.length : Int) + 1 := by have := HKL.out; omega
                have BW8 : Hid (Below w.heap.size w wr) := bA.out.trans (BW7.out.mono bA.out.size)
                obtain ⟨e0, e1, e2, e3, e4, e5, e6, e7⟩ := cells8 (GW.out _ BW7.out)
                have hbl : ((K.length : Int) == 2 * (c.lats.length : Int) + 1) = true := beq_iff_eq.2 hz9
                clear HALL hz9
                by_cases hab : a = b
                · subst hab
                  go_wp2
                  go_ret
                  exact ⟨by simp, BW8.out⟩
                · have hd : decide (a = b) = false := decide_eq_false hab
                  rw [hd]
                  have hq1 : (a.toList == b.toList) = false := by
                    rw [beq_eq_false_iff_ne]
                    intro h
                    exact hab (by rw [Lib.toList_data, Lib.toList_data] at h; exact ByteArray.ext (Array.toList_inj.1 h))
                  go_wp2
                  go_ret
                  exact ⟨by simp, BW8.out⟩
      · have hor : (ea != 0 || eb != 0) = true := by
          rw [Bool.or_eq_true, bne_iff_ne, bne_iff_ne]
          by_cases h1 : ea = 0
          · right; exact fun h2 => hboth ⟨h1, h2⟩
          · exact .inl h1
        clear HEA HEB HVA HVB hboth
        have CK := Lib.hid (refcheck_any c s w4 (CW.out _ B4.out) HF.out)
        unfold cirV at CK
        rw [show cirC c s = #[.int .i64 c.max, .slice s.ai c.ins.length s.ki, .slice s.al c.lats.length s.kl, .slice s.ao c.outs.length s.ko, .slice s.ab c.bads.length s.kb, .slice s.ac c.invs.length s.kc, .slice s.aa c.ands.length s.ka, .slice s.an c.names.length s.kn] from rfl] at CK
        cases hr : refOk c with
        | true =>
          rw [show refV c = 0 from by unfold refV; rw [if_pos hr]] at CK
          clear hr
          cases hea : (ea != 0) with
          | true =>
            go_wp2_with fail
            refine CK.out.mono ?_
            rintro e w5 ⟨rfl, hb5⟩
            have B5 : Hid (Below w.heap.size w w5) := BF.out.trans (hb5.mono BF.out.size)
            clear hb5 CK e0 e1 e2 e3 e4 e5 e6 e7
            go_wp2
            go_ret
            exact ⟨rfl, B5.out⟩
          | false =>
            have heb : (eb != 0) = true := by rw [hea, Bool.false_or] at hor; exact hor
            go_wp2_with fail
            refine CK.out.mono ?_
            rintro e w5 ⟨rfl, hb5⟩
            have B5 : Hid (Below w.heap.size w w5) := BF.out.trans (hb5.mono BF.out.size)
            clear hb5 CK e0 e1 e2 e3 e4 e5 e6 e7
            go_wp2
            go_ret
            exact ⟨rfl, B5.out⟩
        | false =>
          rw [show refV c = 9 from by unfold refV; rw [if_neg (by rw [hr]; decide)]] at CK
          have AP := Lib.hid (fun x (hx : Below WA.heap.size WA x) => P.apart c s 9 x (CW.out _ hx) HF.out (by decide) (by decide))
          rw [if_neg (by rw [hr]; decide)] at AP
          unfold cirV at AP
          rw [show cirC c s = #[.int .i64 c.max, .slice s.ai c.ins.length s.ki, .slice s.al c.lats.length s.kl, .slice s.ao c.outs.length s.ko, .slice s.ab c.bads.length s.kb, .slice s.ac c.invs.length s.kc, .slice s.aa c.ands.length s.ka, .slice s.an c.names.length s.kn] from rfl] at AP
          clear hr
          have fin : Hid (∀ w5, Below w4.heap.size w4 w5 → Below WA.heap.size WA w5) := fun w5 h5 => B4.out.trans (h5.mono B4.out.size)
          cases hea : (ea != 0) with
          | true =>
            go_wp2_with fail
            refine CK.out.mono ?_
            rintro e w5 ⟨rfl, hb5⟩
            have B5 := Lib.hid (fin.out w5 hb5)
            clear hb5 CK e0 e1 e2 e3 e4 e5 e6 e7
            obtain ⟨e0, e1, e2, e3, e4, e5, e6, e7⟩ := cells8 (GW.out _ B5.out)
            go_wp2_with fail
            refine (AP.out w5 B5.out).mono ?_
            rintro e w6 ⟨⟨K, A6, q6, rfl, hK, hKM⟩, hb6⟩
            obtain rfl : K = [] := List.map_eq_nil_iff.1 hKM
            have B6 : Hid (Below w.heap.size w w6) := bA.out.trans ((B5.out.trans (hb6.mono B5.out.size)).mono bA.out.size)
            clear hb6 hK hKM e0 e1 e2 e3 e4 e5 e6 e7
            go_wp2
            go_ret
            exact ⟨rfl, B6.out⟩
          | false =>
            have heb : (eb != 0) = true := by rw [hea, Bool.false_or] at hor; exact hor
            go_wp2_with fail
            refine CK.out.mono ?_
            rintro e w5 ⟨rfl, hb5⟩
            have B5 := Lib.hid (fin.out w5 hb5)
            clear hb5 CK e0 e1 e2 e3 e4 e5 e6 e7
            obtain ⟨e0, e1, e2, e3, e4, e5, e6, e7⟩ := cells8 (GW.out _ B5.out)
            go_wp2_with fail
            refine (AP.out w5 B5.out).mono ?_
            rintro e w6 ⟨⟨K, A6, q6, rfl, hK, hKM⟩, hb6⟩
            obtain rfl : K = [] := List.map_eq_nil_iff.1 hKM
            have B6 : Hid (Below w.heap.size w w6) := bA.out.trans ((B5.out.trans (hb6.mono B5.out.size)).mono bA.out.size)
            clear hb6 hK hKM e0 e1 e2 e3 e4 e5 e6 e7
            go_wp2
            go_ret
            exact ⟨rfl, B6.out⟩
end Go.Proofs.Ytbgcoeejmnejdaa.Unr
