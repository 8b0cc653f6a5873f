/-
  What the arguments are, as they come in: pairs of numbers.
-/
import Derived.Test.YtbpbclmlkdnfbaaNArgB
import Derived.Test.YtbpbclmlkdnfbaaNWl
namespace Go.Proofs.Ytbpbclmlkdnfbaa
open Go.ChangeShapes Go.WideShapes Go.ChangeAt Go.RowKit Go.Deep
theorem cells55 : Try.prog.cellsOf 55 = 2 := by kernel_rfl
theorem list2 {α : Type} {l : List α} (h : l.length = 2) : ∃ a b, l = [a, b] := by
  match l, h with
  | [a, b], _ => exact ⟨a, b, rfl⟩
section
variable {H : Type} {enc : TypeId × Value → H} {w : World} {base : Nat} {held : Bool}
theorem open_pair {fuel : Nat} {cs : List Value} {x : DataW H × List MemPlace} (h : DataW.trod enc Try.prog w base (fun _ => true) held fuel 55 cs = some x) :
    ∃ d : Int × Int, cs = [.int .i64 d.1, .int .i64 d.2] := by
  obtain ⟨xs, n, _, _, hl, hlen, hf⟩ := DataW.trod_array Try.underlying55 h
  rw [cells55] at hl
  obtain ⟨v0, v1, rfl⟩ := list2 hl
  obtain ⟨y0, y1, rfl⟩ := list2 hlen
  have g0 := hf 0 (by omega)
  have g1 := hf 1 (by omega)
  simp [cells3] at g0 g1
  obtain ⟨n0, h0, _⟩ := DataW.trod_int Try.underlying3 g0
  obtain ⟨n1, h1, _⟩ := DataW.trod_int Try.underlying3 g1
  simp at h0 h1
  subst h0 h1
  exact ⟨(n0, n1), rfl⟩
theorem open_pairs {fuel : Nat} {cs : List Value} {x : DataW H × List MemPlace} (h : DataW.trod enc Try.prog w base (fun _ => true) held fuel 51 cs = some x) :
    ∃ (a : Option Addr) (n cap : Nat) (ps : List (Int × Int)), cs = [.slice a n cap] ∧ ps.length = n ∧ T.RdP w a ps ∧ n ≤ cap := by
  rcases open_slice Try.underlying51 h with ⟨rfl, _⟩ | ⟨a, len, cap, m, n, D, Pl, rfl, hb, hl, hm, hmm, _, hx⟩
  · exact ⟨none, 0, 0, [], rfl, rfl, fun h => by simp at h, by omega⟩
  have hlm : len ≤ m := by rw [hmm]; split <;> omega
  have each : ∀ i, i < len → ∃ o : Int × Int, w.cell? (a.add (i * 2)) = some (.int .i64 o.1) ∧ w.cell? (a.add (i * 2 + 1)) = some (.int .i64 o.2) := by
    intro i hi
    obtain ⟨cs', h1, h2⟩ := hx i (by omega)
    rw [cells55] at h1
    obtain ⟨o, rfl⟩ := open_pair h2
    obtain ⟨_, hlen, hcell⟩ := World.cells?_some h1
    have e0 := hcell 0 (by omega)
    have e1 := hcell 1 (by omega)
    rw [add_add] at e0 e1
    exact ⟨o, by simpa using e0, by simpa using e1⟩
  obtain ⟨f, hf⟩ := choose_below (0, 0) each
  refine ⟨some a, len, cap, (List.range len).map f, rfl, by simp, fun hp => ?_, hl⟩
  have hl0 : 0 < len := by simpa using hp
  have h0 := (hf 0 hl0).1
  obtain ⟨b, o, sp⟩ := a
  have hsp : sp = none := by simpa [Addr.add] using World.cell?_spot h0
  subst hsp
  refine ⟨b, o, rfl, fun j hj => ?_⟩
  have hj' : j < len := by simpa using hj
  obtain ⟨g0, g1⟩ := hf j hj'
  rw [Addr.add_lit] at g0 g1
  simp only [List.getElem_map, List.getElem_range]
  exact ⟨g0, by rw [Nat.add_assoc]; exact g1⟩
end
end Go.Proofs.Ytbpbclmlkdnfbaa
