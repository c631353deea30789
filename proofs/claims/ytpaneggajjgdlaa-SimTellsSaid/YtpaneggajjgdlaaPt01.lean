/- Words for circuits in memory: lists of numbers, of triples, of names; no program is named here. The walks of package lits' functions as circuits use them, and of slices' search for the first number of a kind; no condition. What tells of a literal, and texts of bits, each as it is told; no condition but that there are not too many. -/
import Derived.Below
import Derived.Laws.OwnMore
import Derived.Lib.Hide
import Derived.Test.YtpaneggajjgdlaaChecked
import Derived.WalkKit
import Derived.ProofKit
import Derived.WalkSpells
import Derived.WalkLawsBesides
import Derived.Outline
import Derived.LoopTactic
import Derived.OneCell
import Derived.Deep.QuietTactic
import Derived.BigQuiet
import Derived.Shelf.Abstract
import Derived.Test.YtpaneggajjgdlaaPt00
namespace Go.Proofs.Ytpaneggajjgdlaa.Circ
open Go.RowKit

structure Tri where
  a : Int
  b : Int
  c : Int
structure Nam where
  kind : ByteArray
  num : Int
  text : ByteArray
structure Cir where
  max : Int
  ins : List Int
  lats : List Tri
  outs : List Int
  bads : List Int
  invs : List Int
  ands : List Tri
  names : List Nam

def I64 (x : Int) : Prop := -9223372036854775808 ≤ x ∧ x ≤ 9223372036854775807
def Tri.fits (t : Tri) : Prop := I64 t.a ∧ I64 t.b ∧ I64 t.c
def Nam.fits (t : Nam) : Prop := t.kind.size ≤ 9223372036854775807 ∧ I64 t.num ∧ t.text.size ≤ 9223372036854775807

def Tri.cells (t : Tri) : List Value := [.int .i64 t.a, .int .i64 t.b, .int .i64 t.c]
def Nam.cells (t : Nam) : List Value := [.string t.kind, .int .i64 t.num, .string t.text]

/-- Element number i of a row of elements of m cells each lies at off + i * m. -/
def LRow (w : World) (B m : Nat) (A : Option Addr) (xs : List (List Value)) : Prop :=
  xs = [] ∨ ∃ b o, A = some ⟨b, o, none⟩ ∧ b < B ∧ ∀ (i : Nat) ys, xs[i]? = some ys → ∀ (j : Nat) u, ys[j]? = some u → w.cell? ⟨b, o + (i * m + j), none⟩ = some u

def ints (l : List Int) : List (List Value) := l.map fun x => [.int .i64 x]
def tris (l : List Tri) : List (List Value) := l.map Tri.cells
def nams (l : List Nam) : List (List Value) := l.map Nam.cells

section
variable {w w' : World} {B B' m : Nat} {A : Option Addr} {xs : List (List Value)}
theorem LRow.keep (h : LRow w B m A xs) (hk : ∀ p : Addr, p.block < B → w'.cell? p = w.cell? p) : LRow w' B m A xs := by
  rcases h with h | ⟨b, o, e, hb, hc⟩
  · exact .inl h
  · exact .inr ⟨b, o, e, hb, fun i ys hi j u hj => (hk _ hb).trans (hc i ys hi j u hj)⟩
theorem LRow.more (h : LRow w B m A xs) (hB : B ≤ B') : LRow w B' m A xs := by
  rcases h with h | ⟨b, o, e, hb, hc⟩
  · exact .inl h
  · exact .inr ⟨b, o, e, by omega, hc⟩
theorem LRow.below (h : LRow w B m A xs) (hb : Below B w w') : LRow w' B m A xs := h.keep fun _ hp => hb.cell hp

theorem LRow.int {l : List Int} (h : LRow w B 1 A (ints l)) {k : Nat} (hk : k < l.length) :
    ∃ b o, A = some ⟨b, o, none⟩ ∧ b < B ∧ w.cell? ⟨b, o + k, none⟩ = some (.int .i64 l[k]) := by
  rcases h with h | ⟨b, o, e, hb, hc⟩
  · simp [ints] at h; subst h; simp at hk
  · refine ⟨b, o, e, hb, ?_⟩
    have := hc k [.int .i64 l[k]] (by simp [ints, hk]) 0 _ rfl
    simpa using this
theorem LRow.tri {l : List Tri} (h : LRow w B 3 A (tris l)) {k : Nat} (hk : k < l.length) :
    ∃ b o, A = some ⟨b, o, none⟩ ∧ b < B ∧ w.cell? ⟨b, o + k * 3, none⟩ = some (.int .i64 l[k].a) ∧ w.cell? ⟨b, o + k * 3 + 1, none⟩ = some (.int .i64 l[k].b) ∧ w.cell? ⟨b, o + k * 3 + 2, none⟩ = some (.int .i64 l[k].c) := by
  rcases h with h | ⟨b, o, e, hb, hc⟩
  · simp [tris] at h; subst h; simp at hk
  · refine ⟨b, o, e, hb, ?_, ?_, ?_⟩
    · simpa using hc k l[k].cells (by simp [tris, hk]) 0 _ rfl
    · simpa [Nat.add_assoc] using hc k l[k].cells (by simp [tris, hk]) 1 _ rfl
    · simpa [Nat.add_assoc] using hc k l[k].cells (by simp [tris, hk]) 2 _ rfl
theorem LRow.nam {l : List Nam} (h : LRow w B 3 A (nams l)) {k : Nat} (hk : k < l.length) :
    ∃ b o, A = some ⟨b, o, none⟩ ∧ b < B ∧ w.cell? ⟨b, o + k * 3, none⟩ = some (.string l[k].kind) ∧ w.cell? ⟨b, o + k * 3 + 1, none⟩ = some (.int .i64 l[k].num) ∧ w.cell? ⟨b, o + k * 3 + 2, none⟩ = some (.string l[k].text) := by
  rcases h with h | ⟨b, o, e, hb, hc⟩
  · simp [nams] at h; subst h; simp at hk
  · refine ⟨b, o, e, hb, ?_, ?_, ?_⟩
    · simpa using hc k l[k].cells (by simp [nams, hk]) 0 _ rfl
    · simpa [Nat.add_assoc] using hc k l[k].cells (by simp [nams, hk]) 1 _ rfl
    · simpa [Nat.add_assoc] using hc k l[k].cells (by simp [nams, hk]) 2 _ rfl
end

/-- where a circuit's lists lie, and what they could hold -/
structure Places where
  ai : Option Addr
  al : Option Addr
  ao : Option Addr
  ab : Option Addr
  ac : Option Addr
  aa : Option Addr
  an : Option Addr
  ki : Nat
  kl : Nat
  ko : Nat
  kb : Nat
  kc : Nat
  ka : Nat
  kn : Nat

def cirC (c : Cir) (s : Places) : Array Value := #[.int .i64 c.max, .slice s.ai c.ins.length s.ki, .slice s.al c.lats.length s.kl, .slice s.ao c.outs.length s.ko, .slice s.ab c.bads.length s.kb, .slice s.ac c.invs.length s.kc, .slice s.aa c.ands.length s.ka, .slice s.an c.names.length s.kn]
def cirV (c : Cir) (s : Places) : Value := .agg (cirC c s)

structure CLies (w : World) (B : Nat) (c : Cir) (s : Places) : Prop where
  ins : LRow w B 1 s.ai (ints c.ins)
  lats : LRow w B 3 s.al (tris c.lats)
  outs : LRow w B 1 s.ao (ints c.outs)
  bads : LRow w B 1 s.ab (ints c.bads)
  invs : LRow w B 1 s.ac (ints c.invs)
  ands : LRow w B 3 s.aa (tris c.ands)
  names : LRow w B 3 s.an (nams c.names)

theorem CLies.below {w w' : World} {B : Nat} {c : Cir} {s : Places} (h : CLies w B c s) (hb : Below B w w') : CLies w' B c s :=
  ⟨h.ins.below hb, h.lats.below hb, h.outs.below hb, h.bads.below hb, h.invs.below hb, h.ands.below hb, h.names.below hb⟩
theorem CLies.more {w : World} {B B' : Nat} {c : Cir} {s : Places} (h : CLies w B c s) (hb : B ≤ B') : CLies w B' c s :=
  ⟨h.ins.more hb, h.lats.more hb, h.outs.more hb, h.bads.more hb, h.invs.more hb, h.ands.more hb, h.names.more hb⟩

/-- each number fits; each list takes at most 2^47 bytes -/
structure CFits (c : Cir) (s : Places) : Prop where
  max : I64 c.max
  ins : ∀ x ∈ c.ins, I64 x
  outs : ∀ x ∈ c.outs, I64 x
  bads : ∀ x ∈ c.bads, I64 x
  invs : ∀ x ∈ c.invs, I64 x
  lats : ∀ x ∈ c.lats, x.fits
  ands : ∀ x ∈ c.ands, x.fits
  names : ∀ x ∈ c.names, x.fits
  li : c.ins.length * 8 ≤ 140737488355328
  lo : c.outs.length * 8 ≤ 140737488355328
  lb : c.bads.length * 8 ≤ 140737488355328
  lc : c.invs.length * 8 ≤ 140737488355328
  ll : c.lats.length * 24 ≤ 140737488355328
  la : c.ands.length * 24 ≤ 140737488355328
  ln : c.names.length * 40 ≤ 140737488355328
  ki : c.ins.length ≤ s.ki
  ko : c.outs.length ≤ s.ko
  kb : c.bads.length ≤ s.kb
  kc : c.invs.length ≤ s.kc
  kl : c.lats.length ≤ s.kl
  ka : c.ands.length ≤ s.ka
  kn : c.names.length ≤ s.kn

/-- is a number of the list a literal of variable v? -/
def hasVar (l : List Int) (v : Int) : Bool := l.any fun x => decide (0 ≤ x) && decide (x / 2 = v)
def hasTri (l : List Tri) (v : Int) : Bool := hasVar (l.map Tri.a) v
def kindOf (c : Cir) (v : Int) : ByteArray :=
  if v = 0 then ⟨#[48]⟩ else if hasVar c.ins v = true then ⟨#[105]⟩ else if hasTri c.lats v = true then ⟨#[108]⟩ else if hasTri c.ands v = true then ⟨#[97]⟩ else ⟨#[]⟩

theorem hasVar_take (l : List Int) (v : Int) (k : Nat) (hk : k < l.length) : hasVar (l.take (k + 1)) v = (hasVar (l.take k) v || (decide (0 ≤ l[k]) && decide (l[k] / 2 = v))) := by
  unfold hasVar; rw [List.take_succ_eq_append_getElem hk, List.any_append]; simp
theorem hasTri_take (l : List Tri) (v : Int) (k : Nat) (hk : k < l.length) : hasTri (l.take (k + 1)) v = (hasTri (l.take k) v || (decide (0 ≤ l[k].a) && decide (l[k].a / 2 = v))) := by
  unfold hasTri hasVar; rw [List.take_succ_eq_append_getElem hk, List.map_append, List.any_append]; simp
theorem hasVar_some (l : List Int) (v : Int) (k : Nat) (hk : k < l.length) (h0 : 0 ≤ l[k]) (h1 : l[k] / 2 = v) : hasVar l v = true := by
  unfold hasVar; rw [List.any_eq_true]; exact ⟨l[k], List.getElem_mem _, by simp [h0, h1]⟩
theorem hasTri_some (l : List Tri) (v : Int) (k : Nat) (hk : k < l.length) (h0 : 0 ≤ l[k].a) (h1 : l[k].a / 2 = v) : hasTri l v = true := by
  unfold hasTri; exact hasVar_some _ v k (by simpa using hk) (by simpa using h0) (by simpa using h1)
end Go.Proofs.Ytpaneggajjgdlaa.Circ
namespace Go.Proofs.Ytpaneggajjgdlaa.Cw
open Go.ChangeShapes Go.WideShapes Go.ChangeAt Go.RowKit Circ

theorem ret_int {k : IntKind} {a b : Int} (h : a = b) : Ending.returned (.int k a) = .returned (.int k b) := by rw [h]
theorem ret_bool {a b : Bool} (h : a = b) : Ending.returned (.bool a) = .returned (.bool b) := by rw [h]
theorem ret_str {a b : ByteArray} (h : a = b) : Ending.returned (.string a) = .returned (.string b) := by rw [h]
/-- what a number counts as in the place of a literal -/
def cnt (x : Int) : Int := if x < 0 then 0 else x
theorem cnt_bd (x : Int) (h1 : x ≤ 9223372036854775807) : 0 ≤ cnt x ∧ cnt x ≤ 9223372036854775807 := by unfold cnt; split <;> omega
theorem cnt_pos (x : Int) (h : 0 ≤ x) : cnt x = x := if_neg (by omega)
theorem cnt_neg (x : Int) (h : x < 0) : cnt x = 0 := if_pos h

theorem counted_any (x : Int) (w : World) :
    Calls Try.prog 81 #[.int .i64 x] w fun e w' => e = .returned (.int .i64 (cnt x)) ∧ w = w' := by
  unfold cnt
  by_cases h : x < 0
  · go_enter Try.func81, Try.ntmps81
    go_wp2
    go_ret
    exact ⟨rfl, rfl⟩
  · go_enter Try.func81, Try.ntmps81
    go_wp2
    go_ret
    exact ⟨rfl, rfl⟩
theorem var_any (x : Int) (w : World) (h1 : x ≤ 9223372036854775807) :
    Calls Try.prog 46 #[.int .i64 x] w fun e w' => e = .returned (.int .i64 (cnt x / 2)) ∧ w = w' := by
  obtain ⟨b0, b1⟩ := cnt_bd x h1
  go_enter Try.func46, Try.ntmps46
  go_wp2_with (go_at_call 81; refine (counted_any _ _).mono ?_; rintro e w' ⟨rfl, rfl⟩)
  go_ret
  exact ⟨rfl, rfl⟩

theorem neg_any (x : Int) (w : World) (h1 : x ≤ 9223372036854775807) :
    Calls Try.prog 74 #[.int .i64 x] w fun e w' => e = .returned (.bool (decide (cnt x % 2 = 1))) ∧ w = w' := by
  obtain ⟨b0, b1⟩ := cnt_bd x h1
  go_enter Try.func74, Try.ntmps74
  go_wp2_with (go_at_call 81; refine (counted_any _ _).mono ?_; rintro e w' ⟨rfl, rfl⟩)
  go_ret
  exact ⟨ret_bool (by simp [Bool.beq_eq_decide_eq]), rfl⟩

/-- Make of a variable that a circuit may have -/
theorem make_any (v : Int) (w : World) (h0 : 0 ≤ v) (h1 : v ≤ 2048) :
    Calls Try.prog 118 #[.int .i64 v, .bool true] w fun e w' => e = .returned (.int .i64 (2 * v + 1)) ∧ w = w' := by
  have h : ¬ v < 0 := by omega
  have h' : ¬ 1099511627776 < v := by omega
  go_enter Try.func118, Try.ntmps118
  go_wp2
  go_ret
  exact ⟨rfl, rfl⟩

/-- the greatest literal of variables up to m -/
def great (m : Int) : Int := if m < 0 ∨ 2048 < m then -1 else 2 * m + 1
theorem great_any (m : Int) (w : World) :
    Calls Try.prog 108 #[.int .i64 m] w fun e w' => e = .returned (.int .i64 (great m)) ∧ w = w' := by
  unfold great
  rcases (show m < 0 ∨ (¬ m < 0 ∧ 2048 < m) ∨ (¬ m < 0 ∧ ¬ 2048 < m) from by omega) with h | ⟨h, h'⟩ | ⟨h, h'⟩
  · go_enter Try.func108, Try.ntmps108
    go_wp2
    go_ret
    exact ⟨ret_int (by simp), rfl⟩
  · go_enter Try.func108, Try.ntmps108
    go_wp2
    go_ret
    exact ⟨ret_int (by simp), rfl⟩
  · have M := Lib.hid (fun w => make_any m w (by omega) (by omega))
    go_enter Try.func108, Try.ntmps108
    go_wp2_with (go_at_call 118; refine (M.out _).mono ?_; rintro e w' ⟨rfl, rfl⟩)
    go_ret
    exact ⟨ret_int (by simp), rfl⟩

/-- what a closure answers on one element, whatever was made from block B on -/
def Says (k : FuncId) (cap : Array Value) (B : Nat) (W : World) (x : Value) (b : Bool) : Prop :=
  ∀ w, Below B W w → Calls Try.prog k (#[x] ++ cap) w fun e w' => e = .returned (.bool b) ∧ Below B W w'

theorem any_take {α : Type} (l : List α) (p : α → Bool) (k : Nat) (hk : k < l.length) : (l.take (k + 1)).any p = ((l.take k).any p || p l[k]) := by
  rw [List.take_succ_eq_append_getElem hk, List.any_append]; simp
theorem any_of {α : Type} (l : List α) (p : α → Bool) (k : Nat) (hk : k < l.length) (h : p l[k] = true) : l.any p = true :=
  List.any_eq_true.2 ⟨l[k], List.getElem_mem _, h⟩

def triV (t : Tri) : Value := .agg #[.int .i64 t.a, .int .i64 t.b, .int .i64 t.c]

set_option maxHeartbeats 400000 in
theorem index72_any (k : FuncId) (cap : Array Value) (l : List Int) (A : Option Addr) (c : Nat) (p : Int → Bool) (W : World) (hl : l.length ≤ 9223372036854775807)
    (hk : ∀ args w, (callFunc k args).run Try.prog w = .ok (.enter k args) w) (hr : LRow W W.heap.size 1 A (ints l))
    (hs : ∀ (i : Nat) (h : i < l.length), Says k cap W.heap.size W (.int .i64 l[i]) (p l[i])) :
    Calls Try.prog 87 #[.slice A l.length c, .func (.func k) #[] cap] W fun e w' => (∃ i : Int, e = .returned (.int .i64 i) ∧ -1 ≤ i ∧ i ≤ 9223372036854775807 ∧ decide (0 ≤ i) = l.any p) ∧ Below W.heap.size W w' := by
  go_enter Try.func87, Try.ntmps87
  go_wp2
  go_loopw [8] (fun i wr => ∃ j : Nat, j ≤ l.length ∧ i = .int .i64 j ∧ (l.take j).any p = false ∧ Below W.heap.size W wr) (fun i _ => l.length - (intOf i).toNat)
  case atStart => exact ⟨0, Nat.zero_le _, rfl, by simp, Below.refl _ _⟩
  case round =>
    obtain ⟨j, hj, rfl, hno, hb⟩ := hrel
    have HN := Lib.hid hno; clear hno
    by_cases hlt : j < l.length
    · obtain ⟨b, o, rfl, hbb, hc⟩ := (hr.below hb).int hlt
      have HX := Lib.hid (any_take l p j hlt)
      have HS := Lib.hid (any_of l p j hlt)
      have HE := Lib.hid (hs j hlt)
      clear hs hr
      generalize l[j] = x at *
      generalize hq : p x = q at *
      go_wp2_with fail
      refine (HE.out _ hb).mono ?_
      rintro e w' ⟨rfl, hb'⟩
      cases q
      · go_wp2
        go_roundw
        case rel => exact ⟨j + 1, by omega, by go_num, by rw [HX.out, HN.out]; rfl, hb'⟩
        case measure => simp [intOf]; omega
      · go_wp2
        go_ret
        exact ⟨⟨j, rfl, by omega, by omega, by rw [HS.out (by trivial)]; simp⟩, hb'⟩
    · obtain rfl : j = l.length := by omega
      rw [List.take_of_length_le (Nat.le_refl _)] at HN
      go_wp2
      go_ret
      exact ⟨⟨-1, rfl, by decide, by decide, by rw [HN.out]; rfl⟩, hb⟩

theorem contains52_any (k : FuncId) (cap : Array Value) (l : List Int) (A : Option Addr) (c : Nat) (p : Int → Bool) (W : World) (hl : l.length ≤ 9223372036854775807)
    (hk : ∀ args w, (callFunc k args).run Try.prog w = .ok (.enter k args) w) (hr : LRow W W.heap.size 1 A (ints l))
    (hs : ∀ (i : Nat) (h : i < l.length), Says k cap W.heap.size W (.int .i64 l[i]) (p l[i])) :
    Calls Try.prog 55 #[.slice A l.length c, .func (.func k) #[] cap] W fun e w' => e = .returned (.bool (l.any p)) ∧ Below W.heap.size W w' := by
  have I := Lib.hid (index72_any k cap l A c p W hl hk hr hs)
  clear hs hr
  go_enter Try.func55, Try.ntmps55
  go_wp2_with fail
  refine I.out.mono ?_
  rintro e w' ⟨⟨i, rfl, i0, i1, hi⟩, hb⟩
  have HI := Lib.hid hi; clear hi
  go_wp2
  go_ret
  exact ⟨ret_bool (by rw [← HI.out]), hb⟩
/-- a number that is no literal of a variable up to m -/
def outside (m x : Int) : Bool := decide (x < 0) || decide (great m < x)
theorem check1_any (x m : Int) (g : Nat) (w : World) (hc : w.cell? ⟨g, 0, none⟩ = some (.int .i64 m)) :
    Calls Try.prog 109 #[.int .i64 x, .pointer (some ⟨g, 0, none⟩)] w fun e w' => e = .returned (.bool (decide (x < 0) || decide (m < x))) ∧ w = w' := by
  by_cases h : x < 0
  · go_enter Try.func109, Try.ntmps109
    go_wp2
    go_ret
    exact ⟨ret_bool (by simp; try omega), rfl⟩
  · go_enter Try.func109, Try.ntmps109
    go_wp2
    go_ret
    exact ⟨ret_bool (by simp; try omega), rfl⟩

theorem lcheck_any (m : Int) (l : List Int) (A : Option Addr) (c : Nat) (w : World) (hl : l.length ≤ 9223372036854775807) (hr : LRow w w.heap.size 1 A (ints l)) :
    Calls Try.prog 92 #[.int .i64 m, .slice A l.length c] w fun e w' => e = .returned (.int .i64 (if l.any (outside m) = true then 4 else 0)) ∧ Below w.heap.size w w' := by
  have hmf : ∀ (fn : Fn) (first cap : Array Value) (w : World), (Instr.makeFunc fn first cap).run Try.prog w = .ok (.func fn first cap) w := fun _ _ _ _ => rfl
  have hb0 : Below w.heap.size w (w.alloc (.cells #[.int .i64 (great m)] 3)) := (Below.refl _ _).alloc (Nat.le_refl _) _
  have hsz : (w.alloc (.cells #[.int .i64 (great m)] 3)).heap.size = w.heap.size + 1 := by simp
  have C := contains52_any 109 #[.pointer (some ⟨w.heap.size, 0, none⟩)] l A c (outside m) (w.alloc (.cells #[.int .i64 (great m)] 3)) hl (enters_of Try.func109 (by kernel_rfl) rfl)
    ((hr.below hb0).more (by rw [hsz]; omega)) (fun i h w' hb => (check1_any l[i] (great m) w.heap.size w' (by rw [hb.cell (by rw [hsz]; exact Nat.lt_succ_self _)]; simp)).mono (by rintro e w'' ⟨rfl, rfl⟩; exact ⟨rfl, hb⟩))
  have HC := Lib.hid C
  generalize l.any (outside m) = q at *
  clear C hr
  go_enter Try.func92, Try.ntmps92
  go_wp2_with (go_at_call 108; refine (great_any _ _).mono ?_; rintro e w' ⟨rfl, rfl⟩)
  refine HC.out.mono ?_
  rintro e w' ⟨rfl, hb⟩
  have hbel := hb0.trans (hb.mono (by rw [hsz]; omega))
  cases q
  all_goals
    go_wp2
    go_ret
    exact ⟨rfl, hbel⟩
end Go.Proofs.Ytpaneggajjgdlaa.Cw
namespace Go.Proofs.Ytpaneggajjgdlaa.Sim
open Go.ChangeShapes Go.WideShapes Go.ChangeAt Go.RowKit Go.Maps Circ Cw

def sv (l : List UInt8) : Value := .string ⟨l.toArray⟩

/-- what a closure answers in this world -/
def Tells (k : FuncId) (cap : Array Value) (w : World) (x : Value) (b : Bool) : Prop :=
  Calls Try.prog k (#[x] ++ cap) w fun e w' => e = .returned (.bool b) ∧ Below w.heap.size w w'

theorem holds_any (k : FuncId) (cap : Array Value) (l : Int) (b : Bool) (w : World) (hl : l ≤ 9223372036854775807) (hk : ∀ args w, (callFunc k args).run Try.prog w = .ok (.enter k args) w) (hs : Tells k cap w (.int .i64 (cnt l / 2)) b) :
    Calls Try.prog 48 #[.int .i64 l, .func (.func k) #[] cap] w fun e w' => e = .returned (.bool (b != decide (cnt l % 2 = 1))) ∧ Below w.heap.size w w' := by
  have V := Lib.hid (var_any l w hl)
  have NE := Lib.hid (fun w' => neg_any l w' hl)
  unfold Tells at hs
  go_enter Try.func48, Try.ntmps48
  go_wp2_with fail
  refine V.out.mono ?_
  rintro e w' ⟨rfl, rfl⟩
  go_wp2_with fail
  refine hs.mono ?_
  rintro e w' ⟨rfl, hb⟩
  go_wp2_with fail
  refine (NE.out w').mono ?_
  rintro e w'' ⟨rfl, rfl⟩
  go_wp2
  go_ret
  exact ⟨rfl, hb⟩

def bitB (b : Bool) : UInt8 := if b then 49 else 48
/-- the first n bits, each as p says -/
def bitL (p : Nat → Bool) (n : Nat) : List UInt8 := (List.range n).map fun i => bitB (p i)
theorem bitL_snoc (p : Nat → Bool) (n : Nat) : bitL p (n + 1) = bitL p n ++ [bitB (p n)] := by
  unfold bitL; rw [List.range_succ, List.map_append]; rfl
theorem bitL_len (p : Nat → Bool) (n : Nat) : (bitL p n).length = n := by unfold bitL; simp
theorem byteCells_snoc (l : List UInt8) (x : UInt8) : Lib.byteCells (l ++ [x]) = Lib.byteCells l ++ [.int .u8 (x.toNat : Int)] := by
  unfold Lib.byteCells; simp
theorem byteCells_len (l : List UInt8) : (Lib.byteCells l).length = l.length := by unfold Lib.byteCells; simp
theorem builder_keep {T e : TypeId} {B b : Nat} {bs : List Value} {w w' : World} (h : Lib.IsBuilder T e B b bs w) (hb : Below w.heap.size w w') : Lib.IsBuilder T e B b bs w' := by
  have key : ∀ p, Lib.BuilderAt T e B b p bs w → Lib.BuilderAt T e B b p bs w' := fun p ⟨h1, v, h2, h3, h4⟩ => by
    refine ⟨h1, v, (hb.block b (lt_of_block h2)).trans h2, ?_, h4⟩
    refine ⟨h3.1, ?_⟩
    rcases h3.2 with h5 | ⟨g, cap, cur, q1, q2, q3, q4⟩
    · exact .inl h5
    · exact .inr ⟨g, cap, cur, q1, q2, (hb.block g (lt_of_block q3)).trans q3, q4⟩
  exact h.elim (fun h => .inl (key _ h)) (fun h => .inr (key _ h))
theorem fresh_builder (w : World) : Lib.IsBuilder 112 5 w.heap.size w.heap.size (Lib.byteCells []) (w.alloc (.cells #[.pointer none, .slice none 0 0] 112)) :=
  .inl ⟨Nat.le_refl _, .slice none 0 0, Array.getElem?_push_size, World.ownsRow_nil _ _ _ _, by simp [Value.ownBlock]⟩

set_option maxHeartbeats 2000000 in
set_option maxRecDepth 100000 in
theorem bits_any (n : Nat) (k : FuncId) (cap : Array Value) (p : Nat → Bool) (w : World) (hn : n ≤ 1048576) (hk : ∀ args w, (callFunc k args).run Try.prog w = .ok (.enter k args) w)
    (hs : ∀ W, Below w.heap.size w W → ∀ i : Nat, i < n → Tells k cap W (.int .i64 (i : Int)) (p i)) :
    Calls Try.prog 49 #[.int .i64 (n : Int), .func (.func k) #[] cap] w fun e w' => e = .returned (sv (bitL p n)) ∧ Below w.heap.size w w' := by
  have HS := Lib.hid hs
  clear hs
  obtain ⟨WB, hWB⟩ : ∃ x, w.alloc (.cells #[.pointer none, .slice none 0 0] 112) = x := ⟨_, rfl⟩
  have hb0 : Below w.heap.size w WB := by rw [← hWB]; exact (Below.refl _ _).alloc (Nat.le_refl _) _
  have hB0 : Lib.IsBuilder 112 5 w.heap.size w.heap.size (Lib.byteCells []) WB := by rw [← hWB]; exact fresh_builder w
  go_enter Try.func49, Try.ntmps49
  go_wp2
  clear hWB
  have HB0 := Lib.hid hB0
  clear hB0
  go_loopw [8] (fun i wr => ∃ j : Nat, j ≤ n ∧ i = .int .i64 j ∧ Lib.IsBuilder 112 5 w.heap.size w.heap.size (Lib.byteCells (bitL p j)) wr ∧ Below w.heap.size w wr) (fun i _ => n - (intOf i).toNat)
  case atStart => exact ⟨0, Nat.zero_le _, rfl, HB0.out, hb0⟩
  case round =>
    obtain ⟨j, hj, rfl, hB, hbel⟩ := hrel
    have hsz := hbel.size
    have HBR := Lib.hid hB
    have HBL := Lib.hid hbel
    clear hB hbel
    by_cases hlt : j < n
    · have HT := Lib.hid (HS.out wr HBL.out j hlt)
      have HSN := Lib.hid (bitL_snoc p j)
      unfold Tells at HT
      generalize hq : p j = q at *
      go_wp2_with fail
      refine HT.out.mono ?_
      rintro e w1 ⟨rfl, hb1⟩
      have HB1 := Lib.hid (builder_keep HBR.out hb1)
      have HBE : Hid (Below w.heap.size w w1) := HBL.out.trans (hb1.mono hsz)
      have hsz1 := HBE.out.size
      clear HT hb1
      have hlen : (Lib.byteCells (bitL p j)).length + 1 ≤ 140737488355328 := by rw [byteCells_len, bitL_len]; omega
      cases q
      · have WR := Lib.hid (Bld.write_byte w.heap.size w.heap.size _ 48 w1 HB1.out hlen hsz1)
        clear hlen
        go_wp2_with fail
        refine WR.out.mono ?_
        rintro e w2 ⟨rfl, hb2, hbe2⟩
        have HB2 : Hid (Lib.IsBuilder 112 5 w.heap.size w.heap.size (Lib.byteCells (bitL p (j + 1))) w2) := by
          unfold Hid
          rw [HSN.out, byteCells_snoc]; exact .inr hb2
        have HBF : Hid (Below w.heap.size w w2) := HBE.out.trans hbe2
        clear hb2 hbe2 WR HB1 HBR
        go_wp2
        go_roundw
        case rel => exact ⟨j + 1, by omega, by go_num, HB2.out, HBF.out⟩
        case measure => simp [intOf]; omega
      · have WR := Lib.hid (Bld.write_byte w.heap.size w.heap.size _ 49 w1 HB1.out hlen hsz1)
        clear hlen
        go_wp2_with fail
        refine WR.out.mono ?_
        rintro e w2 ⟨rfl, hb2, hbe2⟩
        have HB2 : Hid (Lib.IsBuilder 112 5 w.heap.size w.heap.size (Lib.byteCells (bitL p (j + 1))) w2) := by
          unfold Hid
          rw [HSN.out, byteCells_snoc]; exact .inr hb2
        have HBF : Hid (Below w.heap.size w w2) := HBE.out.trans hbe2
        clear hb2 hbe2 WR HB1 HBR
        go_wp2
        go_roundw
        case rel => exact ⟨j + 1, by omega, by go_num, HB2.out, HBF.out⟩
        case measure => simp [intOf]; omega
    · obtain rfl : j = n := by omega
      go_wp2_with fail
      refine (Try.Builder_String_any w.heap.size w.heap.size (bitL p j) _ HBR.out hsz).mono ?_
      rintro e w' ⟨rfl, hb⟩
      go_wp2_with fail
      go_ret
      exact ⟨rfl, HBL.out.trans hb⟩
end Go.Proofs.Ytpaneggajjgdlaa.Sim
