/-
  What the arguments are, as they come in: bytes.
-/
import Derived.Test.YtagnmmapnpcijaaBytes
import Derived.ProofKit
import Derived.OpenShut
import Derived.ChangeOld
import Derived.Below
import Derived.Deep.Slices
import Derived.Deep.Strs
namespace Go.Proofs.Ytagnmmapnpcijaa
open Go.ChangeShapes Go.WideShapes Go.ChangeAt Go.RowKit Go.Deep

section
variable {H : Type} {enc : TypeId × Value → H} {w : World} {base : Nat} {spare : Nat → Bool} {held : Bool}

theorem open_bytes {fuel : Nat} {cs : List Value} {x : DataW H × List MemPlace} (hs : ∀ b, spare b = true) (h : DataW.trod enc Try.prog w base spare held fuel 27 cs = some x) :
    ∃ (a : Option Addr) (n cap : Nat) (xs : List UInt8), cs = [.slice a n cap] ∧ xs.length = n ∧ Rd w a xs ∧ n ≤ cap ∧ cap ≤ 9223372036854775807 ∧ (a = none → cap = 0) := by
  rcases open_ints Try.underlying27 Try.underlying5 (by kernel_rfl) h with ⟨rfl, _⟩ | ⟨x, l, c, zs, rfl, _, hl, hm, hz, _, hcell, hwz⟩
  · exact ⟨none, 0, 0, [], rfl, rfl, Rd.nil _ _, by omega, by omega, fun _ => rfl⟩
  · rw [hs] at hz
    obtain ⟨xs, hxs, hrd⟩ := bytes_of_ints hl (by simpa using hz) hcell hwz
    exact ⟨some x, l, c, xs, rfl, hxs, hrd, hl, by unfold maxLen at hm; omega, fun h => by simp at h⟩
end
end Go.Proofs.Ytagnmmapnpcijaa
