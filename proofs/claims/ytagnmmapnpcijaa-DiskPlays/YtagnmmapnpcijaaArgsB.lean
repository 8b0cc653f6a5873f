/-
  What the arguments are, as they come in: whole numbers, bools.
-/
import Derived.Test.YtagnmmapnpcijaaArgs
import Derived.Test.YtagnmmapnpcijaaInts
import Derived.Test.YtagnmmapnpcijaaCrash
import Derived.Deep.Grids
namespace Go.Proofs.Ytagnmmapnpcijaa
open Go.ChangeShapes Go.WideShapes Go.ChangeAt Go.RowKit Go.Deep

section
variable {H : Type} {enc : TypeId × Value → H} {w : World} {base : Nat} {held : Bool}

theorem open_introw {fuel : Nat} {cs : List Value} {x : DataW H × List MemPlace} (h : DataW.trod enc Try.prog w base (fun _ => true) held fuel 40 cs = some x) :
    ∃ (a : Option Addr) (n cap : Nat) (zs : List Int), cs = [.slice a n cap] ∧ zs.length = n ∧ RdI w a zs ∧ n ≤ 9223372036854775807 := by
  rcases open_ints Try.underlying40 Try.underlying3 (by kernel_rfl) h with ⟨rfl, _⟩ | ⟨⟨b, o, sp⟩, l, c, zs, rfl, _, hl, hm, hz, _, hcell, hwz⟩
  · exact ⟨none, 0, 0, [], rfl, rfl, fun h => by simp at h, by omega⟩
  · simp only [if_true] at hz
    refine ⟨_, l, c, zs.take l, rfl, by simp; omega, fun hp => ?_, by unfold maxLen at hm; omega⟩
    have h0 := hcell 0 (by simp at hp; omega)
    have hsp : sp = none := by simpa [Addr.add] using World.cell?_spot h0
    subst hsp
    refine ⟨b, o, rfl, fun j hj => ?_⟩
    have hj' : j < zs.length := by simp at hj; omega
    have h := hcell j hj'
    rw [Addr.add_lit] at h
    rw [h]
    simp [List.getD, List.getElem?_eq_getElem hj']

theorem open_boolrow {fuel : Nat} {cs : List Value} {x : DataW H × List MemPlace} (h : DataW.trod enc Try.prog w base (fun _ => true) held fuel 30 cs = some x) :
    ∃ (a : Option Addr) (n cap : Nat) (ks : List Bool), cs = [.slice a n cap] ∧ ks.length = n ∧ RdBl w a ks ∧ n ≤ 9223372036854775807 := by
  rcases open_bools Try.underlying30 Try.underlying4 (by kernel_rfl) h with ⟨rfl, _⟩ | ⟨⟨b, o, sp⟩, l, c, B, rfl, _, hl, hm, _, hcell⟩
  · exact ⟨none, 0, 0, [], rfl, rfl, RdBl.nil _ _, by omega⟩
  · refine ⟨_, l, c, (List.range l).map B, rfl, by simp, fun hp => ?_, by unfold maxLen at hm; omega⟩
    have h0 := hcell 0 (by simp at hp; omega)
    have hsp : sp = none := by simpa [Addr.add] using World.cell?_spot h0
    subst hsp
    refine ⟨b, o, rfl, fun j hj => ?_⟩
    have hj' : j < l := by simpa using hj
    have h := hcell j (by omega)
    rw [Addr.add_lit] at h
    rw [h]
    simp
end
end Go.Proofs.Ytagnmmapnpcijaa
