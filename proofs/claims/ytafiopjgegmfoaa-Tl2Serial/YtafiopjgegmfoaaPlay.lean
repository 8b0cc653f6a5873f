/-
  play: calls on sets.
-/
import Derived.Test.YtafiopjgegmfoaaNew
import Derived.Test.YtafiopjgegmfoaaArgs
namespace Go.Proofs.Ytafiopjgegmfoaa
open Go.RowKit Go.Maps
theorem To.trans {α : Type} {enc : α → Value} {tS tM : TypeId} {w w1 w2 : World} {B g : Nat} {S1 S2 : SS α} {F : Nat → Prop} (h : To enc tS tM w B g S1 F w1) (k : To enc tS tM w1 B g S2 (grow F w w1) w2) : To enc tS tM w B g S2 F w2 := by
  refine ⟨?_, h.2.1.trans k.2.1, h.2.2.trans k.2.2 (fun x hx => hx.imp id (fun h => h.1))⟩
  have s1 := h.2.2.1
  have s2 := k.2.2.1
  refine k.1.wide (fun x hx => ?_) (fun x hx => ?_)
  · rcases hx with hx | hx
    · exact hx.imp id (fun h => ⟨h.1, by omega⟩)
    · exact .inr ⟨by omega, hx.2⟩
  · by_cases hx1 : grow F w w1 x
    · have := h.1.fB x hx1
      omega
    · rcases hx with hx | hx
      · exact absurd (.inl hx) hx1
      · have hb := h.1.Ble
        have : ¬ x < w1.heap.size := fun e => hx1 (.inr ⟨hx.1, e⟩)
        omega
theorem To.alloc {α : Type} {enc : α → Value} {tS tM : TypeId} {w w1 : World} {B g : Nat} {S1 : SS α} {F : Nat → Prop} (h : To enc tS tM w B g S1 F w1) (o : Obj) : To enc tS tM w B g S1 F (w1.alloc o) := by
  have hb := h.1.Ble
  have s1 := h.2.2.1
  refine ⟨?_, h.2.1.alloc hb o, h.2.2.alloc o⟩
  have k := h.1.below ((Below.refl w1.heap.size w1).alloc (Nat.le_refl _) o)
  have e : (w1.alloc o).heap.size = w1.heap.size + 1 := by simp
  refine k.wide (fun x hx => hx.imp id (fun h => ⟨h.1, by omega⟩)) (fun x hx => ?_)
  by_cases hx1 : grow F w w1 x
  · have := h.1.fB x hx1
    omega
  · rcases hx with hx | hx
    · exact absurd (.inl hx) hx1
    · have : ¬ x < w1.heap.size := fun e => hx1 (.inr ⟨hx.1, e⟩)
      omega
def iv : Value → Int
  | .int _ q => q
  | _ => 0
def SS.step (S : SS Int) (b : Bool) (x : Op4) : SS Int :=
  if x.kind = 0 ∨ x.kind = 1 then (S.read x.i x.ver).2 else
  if x.kind = 2 ∨ x.kind = 3 then (S.write x.i x.v).2 else
  if b = false then S else
  if x.kind = 4 then S.mark.2 else
  if x.kind = 5 then S.keep.2 else
  if x.kind = 6 then S.undo.2 else S
def SS.play (S : SS Int) (b : Bool) (xs : List Op4) : SS Int := xs.foldl (fun S x => S.step b x) S
theorem play_take {S : SS Int} {b : Bool} {xs : List Op4} {k : Nat} (h : k < xs.length) : S.play b (xs.take (k + 1)) = (S.play b (xs.take k)).step b xs[k] := by
  unfold SS.play
  rw [List.take_succ_eq_append_getElem h, List.foldl_append]
  rfl
end Go.Proofs.Ytafiopjgegmfoaa
