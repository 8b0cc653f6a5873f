/-
  What the laws' arguments are, as they come in: lists of calls, and their room.
-/
import Derived.Test.YtdlhgamepfcahaaArgs
import Derived.OpenShut
import Derived.Deep.Grids
namespace Go.Proofs.Ytdlhgamepfcahaa
open Go.ChangeShapes Go.WideShapes Go.ChangeAt Go.RowKit Go.Deep

section
variable {H : Type} {enc : TypeId × Value → H} {w : World} {base : Nat} {held : Bool}
theorem open_ops2 {fuel : Nat} {cs : List Value} {x : DataW H × List MemPlace} (h : DataW.trod enc Try.prog w base (fun _ => true) held fuel 22 cs = some x) :
    ∃ (a : Option Addr) (n cap : Nat) (os : List Op4), cs = [.slice a n cap] ∧ os.length = n ∧ RdOps w a os ∧ n ≤ cap ∧ cap ≤ 9223372036854775807 := by
  rcases open_slice Try.underlying22 h with ⟨rfl, _⟩ | ⟨a, len, cap, m, n, D, Pl, rfl, hb, hl, hm, hmm, _, hx⟩
  · exact ⟨none, 0, 0, [], rfl, rfl, (fun h => by simp at h), by omega, by omega⟩
  have hlm : len ≤ m := by rw [hmm]; split <;> omega
  have each : ∀ i, i < len → ∃ o : Op4, w.cell? (a.add (i * 4)) = some (.int .i64 o.kind) ∧ w.cell? (a.add (i * 4 + 1)) = some (.int .i64 o.i) ∧ w.cell? (a.add (i * 4 + 2)) = some (.int .i64 o.v) ∧ w.cell? (a.add (i * 4 + 3)) = some (.int .i64 o.ver) := by
    intro i hi
    obtain ⟨cs', h1, h2⟩ := hx i (by omega)
    rw [cells32] at h1
    obtain ⟨o, rfl⟩ := open_op h2
    obtain ⟨_, hlen, hcell⟩ := World.cells?_some h1
    have e0 := hcell 0 (by omega)
    have e1 := hcell 1 (by omega)
    have e2 := hcell 2 (by omega)
    have e3 := hcell 3 (by omega)
    rw [add_add] at e0 e1 e2 e3
    exact ⟨o, by simpa using e0, by simpa using e1, by simpa using e2, by simpa using e3⟩
  obtain ⟨f, hf⟩ := choose_below ⟨0, 0, 0, 0⟩ each
  refine ⟨some a, len, cap, (List.range len).map f, rfl, by simp, fun hp => ?_, by omega, by unfold maxLen at *; omega⟩
  have hl0 : 0 < len := by simpa using hp
  have h0 := (hf 0 hl0).1
  obtain ⟨b, o, sp⟩ := a
  have hsp : sp = none := by simpa [Addr.add] using World.cell?_spot h0
  subst hsp
  refine ⟨b, o, rfl, fun j hj => ?_⟩
  have hj' : j < len := by simpa using hj
  obtain ⟨g0, g1, g2, g3⟩ := hf j hj'
  rw [Addr.add_lit] at g0 g1 g2 g3
  simp only [List.getElem_map, List.getElem_range]
  exact ⟨g0, by rw [Nat.add_assoc]; exact g1, by rw [Nat.add_assoc]; exact g2, by rw [Nat.add_assoc]; exact g3⟩
end
end Go.Proofs.Ytdlhgamepfcahaa
