/-
  Regions that draw: loads first, then every order of what is left.
-/
import Derived.Test.YtghcmlkgpedkkaaLate
import Derived.Test.YtghcmlkgpedkkaaMem
namespace Go.Proofs.Ytghcmlkgpedkkaa
open Go.RowKit

section
variable {P : Program} {ops : Array Oper} {Q : Exit → Act → World → Prop} {md : Region.Mode} {C : Act → World → Prop} {late : List Nat}
def AllD (P : Program) (md : Region.Mode) (ops : Array Oper) (Q : Exit → Act → World → Prop) (C : Act → World → Prop) (late : List Nat) (fuel : Nat) (listed : Array Bool) (a : Act) (w : World) (rs : List Nat) : Prop :=
  ∀ i ∈ rs, wpOp P ops Q i (fun a' w' => (late.contains i = true ∨ C a' w') ∧ wpAnyD P md ops Q C late fuel (listed.setIfInBounds i true) a' w') a w
theorem AllD.nil {fuel : Nat} {listed : Array Bool} {a : Act} {w : World} : AllD P md ops Q C late fuel listed a w [] := fun _ h => by cases h
theorem AllD.cons {fuel : Nat} {listed : Array Bool} {a : Act} {w : World} {i : Nat} {o : Oper} {rs : List Nat} (ho : ops[i]? = some o)
    (h : ∀ K' : Act → World → Prop, (∀ a w, ((late.contains i = true ∨ C a w) ∧ wpAnyD P md ops Q C late fuel (listed.setIfInBounds i true) a w) → K' a w) → if Region.wanted o (yielded ops a.tmps) = true then Oper.wp P o a w K' Q else K' (a.put o.dst undef) w)
    (hs : AllD P md ops Q C late fuel listed a w rs) : AllD P md ops Q C late fuel listed a w (i :: rs) := fun j hj => by
  rcases List.mem_cons.1 hj with rfl | hj
  · exact wpOp_step ho h
  · exact hs j hj
theorem wpAnyD_ready {rs : List Nat} {fuel : Nat} {listed : Array Bool} {a : Act} {w : World} (hr : Region.ready md ops listed = rs) (hne : rs ≠ [])
    (h : AllD P md ops Q C late fuel listed a w rs) : wpAnyD P md ops Q C late (fuel + 1) listed a w := by
  refine ⟨fun h0 => absurd (hr ▸ h0) hne, fun j hj => ?_⟩
  rw [hr] at hj
  exact h j hj
end

/-- The class: these slots hold these values, these blocks hold these. -/
def SB (ps : List (Nat × Value)) (bs : List (Nat × Array Value × TypeId)) (a : Act) (u : World) : Prop := (∀ p ∈ ps, a.eval (.tmp p.1) = p.2) ∧ ∀ q ∈ bs, Box u q.1 q.2.1 q.2.2
theorem SB.put {ps : List (Nat × Value)} {bs : List (Nat × Array Value × TypeId)} {a : Act} {u : World} (s : Nat) (v : Value) (hs : (ps.all fun p => p.1 != s) = true) : SB ps bs (a.put (some s) v) u ↔ SB ps bs a u := by
  have e : ∀ p ∈ ps, (a.put (some s) v).eval (.tmp p.1) = a.eval (.tmp p.1) := fun p hp => Act.eval_put (fun d hd => by
    have h1 := (List.all_eq_true.1 hs) p hp
    simp at h1 hd
    subst hd
    intro h
    injection h with h
    exact h1 h)
  constructor
  · rintro ⟨h, hb⟩
    exact ⟨fun p hp => (e p hp).symm.trans (h p hp), hb⟩
  · rintro ⟨h, hb⟩
    exact ⟨fun p hp => (e p hp).trans (h p hp), hb⟩
theorem SB.load {ps : List (Nat × Value)} {bs : List (Nat × Array Value × TypeId)} {a : Act} {u : World} (h : SB ps bs a u) {s b j : Nat} {cs : Array Value} {t : TypeId} {v : Value} (hp : (s, Value.pointer (some ⟨b, j, none⟩)) ∈ ps) (hq : (b, cs, t) ∈ bs) (hv : cs[j]? = some v) :
    a.tmps[s]?.getD undef = .pointer (some ⟨b, j, none⟩) ∧ u.cell? ⟨b, j, none⟩ = some v := ⟨by have := h.1 _ hp; simpa [Act.eval] using this, ((h.2 _ hq).cell j).trans hv⟩
end Go.Proofs.Ytghcmlkgpedkkaa
