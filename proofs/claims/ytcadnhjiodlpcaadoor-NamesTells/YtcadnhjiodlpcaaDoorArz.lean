/-
  A list of texts as an argument, with its texts' lengths.
-/
import Derived.Test.YtcadnhjiodlpcaaDoorArg
namespace Go.Proofs.YtcadnhjiodlpcaaDoor
open Go.ChangeShapes Go.WideShapes Go.ChangeAt Go.RowKit Go.Deep
section
variable {H : Type} {enc : TypeId × Value → H} {w : World} {base : Nat} {held : Bool}
theorem open_strz {fuel : Nat} {cs : List Value} {x : DataW H × List MemPlace} (h : DataW.trod enc Tryd.prog w base (fun _ => true) held fuel 23 cs = some x) :
    ∃ (a : Option Addr) (n cap : Nat) (xs : List Tx), cs = [.slice a n cap] ∧ xs.length = n ∧ Ts w a xs ∧ (n ≤ cap ∧ cap ≤ maxLen) ∧ ∀ z ∈ xs, z.length ≤ maxLen := by
  rcases open_strings Tryd.underlying23 Tryd.underlying9 cells9 h with ⟨rfl, _⟩ | ⟨a, len, cap, ss, rfl, hb, hl, hm, hlen, _, hc, hz⟩
  · exact ⟨none, 0, 0, [], rfl, rfl, Ts.nil _ _, ⟨by omega, by simp [maxLen]⟩, by simp⟩
  · have hlm : len ≤ ss.length := by rw [hlen]; split <;> omega
    refine ⟨some a, len, cap, (ss.take len).map (·.data.toList), rfl, by simp; omega, fun hp => ?_, ⟨hl, hm⟩, fun z hzm => ?_⟩
    case refine_2 =>
      obtain ⟨s, hs, rfl⟩ := List.mem_map.1 hzm
      have := hz s (List.mem_of_mem_take hs)
      simpa using this
    have hp' : 0 < len := by simp at hp; omega
    have h0 := hc 0 (by omega)
    obtain ⟨b, o, sp⟩ := a
    have hsp : sp = none := by simpa [Addr.add] using World.cell?_spot h0
    subst hsp
    refine ⟨b, o, rfl, World.block_lt_of_cell? _ _ h0, fun j hj => ?_⟩
    have hj' : j < len := by simp at hj; omega
    have := hc j (by omega)
    rw [Addr.add_lit] at this
    rw [this]
    have e : ss.getD j ByteArray.empty = ss[j]'(by omega) := by simp [show j < ss.length by omega]
    rw [e]
    simp [bs_data]
end
end Go.Proofs.YtcadnhjiodlpcaaDoor
