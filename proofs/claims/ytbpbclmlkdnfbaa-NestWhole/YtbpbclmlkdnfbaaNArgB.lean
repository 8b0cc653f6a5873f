/-
  What the arguments are, as they come in: bools.
-/
import Derived.Test.YtbpbclmlkdnfbaaNRd
import Derived.OpenShut
import Derived.Deep.Grids
namespace Go.Proofs.Ytbpbclmlkdnfbaa
open Go.ChangeShapes Go.WideShapes Go.ChangeAt Go.RowKit Go.Deep
section
variable {H : Type} {enc : TypeId × Value → H} {w : World} {base : Nat} {held : Bool}
theorem open_boolrow {fuel : Nat} {cs : List Value} {x : DataW H × List MemPlace} (h : DataW.trod enc Try.prog w base (fun _ => true) held fuel 52 cs = some x) :
    ∃ (a : Option Addr) (n cap : Nat) (ks : List Bool), cs = [.slice a n cap] ∧ ks.length = n ∧ T.RdBl w a ks ∧ n ≤ cap := by
  rcases open_bools Try.underlying52 Try.underlying4 (by kernel_rfl) h with ⟨rfl, _⟩ | ⟨⟨b, o, sp⟩, l, c, B, rfl, _, hl, _, _, hcell⟩
  · exact ⟨none, 0, 0, [], rfl, rfl, fun h => absurd h (by simp), Nat.le_refl _⟩
  · refine ⟨_, l, c, (List.range l).map B, rfl, by simp, fun hp => ?_, hl⟩
    have h0 := hcell 0 (by simp at hp; omega)
    have hsp : sp = none := by simpa [Addr.add] using World.cell?_spot h0
    subst hsp
    refine ⟨b, o, rfl, fun j hj => ?_⟩
    have hj' : j < l := by simpa using hj
    have h := hcell j (by omega)
    rw [Addr.add_lit] at h
    rw [h]
    simp
end
end Go.Proofs.Ytbpbclmlkdnfbaa
