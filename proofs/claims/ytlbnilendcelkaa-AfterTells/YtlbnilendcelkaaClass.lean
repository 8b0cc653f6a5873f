/-
  A region that draws its order, in a class of worlds of one's own: its operations read alone, its callees may make memory, if they stay in the class: one walk, in the order of the text.
-/
import Derived.BigQuiet
namespace Go.Proofs.Ytlbnilendcelkaa

/-- a world of the class -/
structure Of (C : World → Prop) where
  u : World
  ok : C u

theorem Of.some {C : World → Prop} {w : World} (h : C w) : Nonempty (Of C) := ⟨⟨w, h⟩⟩

theorem wp_region_class {P : Program} (C : World → Prop) {id : Nat} {Q : Exit → Act → World → Prop} {a : Act} {w : World} {l : List Oper} (hm : P.follows .mixedOrders = true) (hB : Region.lexB .any l.toArray = true) (hC : C w.drew)
    (h : wpQuiet P l.toArray (fun w' => ∃ x : Of C, w' = x.u) (fun a' => ∀ w', (∃ x : Of C, w' = x.u) → Q .normal a' w') l a) : (Code.region id l.toArray true).wp P Q a w :=
  wp_region_quiet (C := fun w' => ∃ x : Of C, w' = x.u) hm hB ⟨⟨w.drew, hC⟩, rfl⟩ (by simpa using h)

/-- a callee, in the class -/
theorem Of.call {C : World → Prop} {P : Program} {f : FuncId} {args : Array Value} (x : Of C) {v : Value} {S : World → Prop}
    (h : Calls P f args x.u fun e w' => e = .returned v ∧ S w') (hs : ∀ w', S w' → C w') : Calls P f args x.u fun e w'' => e = .returned v ∧ ∃ y : Of C, w'' = y.u :=
  h.mono fun _ w' ⟨he, hb⟩ => ⟨he, ⟨w', hs w' hb⟩, rfl⟩
end Go.Proofs.Ytlbnilendcelkaa
