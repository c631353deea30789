/- What the laws of layer 13 ask of the program, of the program as it landed; condition: a question's lists have at most 2^20 clauses of at most 2^44 literals. -/
import Derived.Test.YtbgcoeejmnejdaaPt39
import Derived.Test.YtbgcoeejmnejdaaPt40
import Derived.Test.YtbgcoeejmnejdaaPt43
namespace Go.Proofs.Ytbgcoeejmnejdaa.Unr
open Go.ChangeShapes Go.WideShapes Go.ChangeAt Go.RowKit Go.Maps Circ Cw Str Sim Rep Cla Tse

theorem frameK_T {q : Que} {f : Int} (hr : rightM q.c f = true) (hq : queM q = 0) : frameK q.c q.asm q.lem q.kno (f * (q.c.max + 1)) = frameT q.c q.asm q.lem q.kno (f * (q.c.max + 1)) := by
  obtain ⟨hok, h0, h1⟩ := right_parts hr
  obtain ⟨g0, g1⟩ := ahead_fits (max_small hok) (show 0 ≤ f ∧ f ≤ 81 from ⟨h0, by omega⟩)
  unfold frameK frameT
  rw [List.append_assoc]
  have h3 := (que_facts hq).2.2
  have e : (q.kno.map fun l => l.map (latK q.c (f * (q.c.max + 1)))) = q.kno.map fun l => l.map (latT q.c (f * (q.c.max + 1))) := by
    refine List.map_congr_left fun l hl => List.map_congr_left fun k hk => ?_
    obtain ⟨a, b, d⟩ := h3 l hl k hk
    exact latK_lat hok g0 (by omega) a b d
  rw [e]
theorem prog13 : Prog13 1048576 where
  base := fun c s f w h hf h64 => base_any c s f w h hf h64
  first := fun c s w h hf => first_any c s w h hf
  apart := fun c s x w h hf h0 h1 => apart_any c s x w h hf h0 h1
  frame := fun q t f w h hf _ _ _ h64 hna hnl hnk hza hzl hzk => by
    cases hr : rightM q.c f with
    | false =>
      refine (frame_no q t f w h hf h64 hr).mono ?_
      rintro e w' ⟨rfl, hb⟩
      exact ⟨⟨[], none, 0, rfl, ⟨.inl rfl, fun z hz => (List.not_mem_nil hz).elim, by decide⟩, (fun _ => rfl), (fun h => absurd h (by decide)), (fun h => absurd h (by decide))⟩, hb⟩
    | true =>
      refine (frame_yes q t f w h hf h64 hna hnl hnk hza hzl hzk hr).mono ?_
      rintro e w' ⟨⟨K, A', q', rfl, hl, hk⟩, hb⟩
      refine ⟨⟨K, A', q', rfl, hl, (fun h => absurd h (by decide)), (fun _ => ?_), (fun _ hq => hk.trans (frameK_T hr hq))⟩, hb⟩
      rw [← List.length_map (f := Clz.l), hk, frameK_len]
      exact frame_some _ _ _ _ (max_small (right_parts hr).1).1
end Go.Proofs.Ytbgcoeejmnejdaa.Unr
