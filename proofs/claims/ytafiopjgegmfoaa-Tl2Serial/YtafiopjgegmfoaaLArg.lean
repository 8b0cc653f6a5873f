/-
  What the argument is, as it comes in: calls of four numbers each.
-/
import Derived.Test.YtafiopjgegmfoaaArgs
namespace Go.Proofs.Ytafiopjgegmfoaa
open Go.ChangeShapes Go.WideShapes Go.ChangeAt Go.RowKit Go.Deep
theorem cells67 : Try.prog.cellsOf 50 = 4 := by kernel_rfl
section
variable {H : Type} {enc : TypeId × Value → H} {w : World} {base : Nat} {held : Bool}
theorem open_op {fuel : Nat} {cs : List Value} {x : DataW H × List MemPlace} (h : DataW.trod enc Try.prog w base (fun _ => true) held fuel 50 cs = some x) :
    ∃ d : Op4, cs = [.int .i64 d.kind, .int .i64 d.i, .int .i64 d.v, .int .i64 d.ver] := by
  obtain ⟨xs, n, _, _, hl, hlen, hf⟩ := DataW.trod_struct Try.underlying50 h
  rw [cells67] at hl
  obtain ⟨v0, v1, v2, v3, rfl⟩ := list4 hl
  obtain ⟨y0, y1, y2, y3, rfl⟩ := list4 (show xs.length = 4 from hlen)
  have g0 := hf 0 _ rfl
  have g1 := hf 1 _ rfl
  have g2 := hf 2 _ rfl
  have g3 := hf 3 _ rfl
  simp [cells3] at g0 g1 g2 g3
  obtain ⟨n0, h0, _⟩ := DataW.trod_int Try.underlying3 g0
  obtain ⟨n1, h1, _⟩ := DataW.trod_int Try.underlying3 g1
  obtain ⟨n2, h2, _⟩ := DataW.trod_int Try.underlying3 g2
  obtain ⟨n3, h3, _⟩ := DataW.trod_int Try.underlying3 g3
  simp at h0 h1 h2 h3
  subst h0 h1 h2 h3
  exact ⟨⟨n0, n1, n2, n3⟩, rfl⟩
theorem open_ops {fuel : Nat} {cs : List Value} {x : DataW H × List MemPlace} (h : DataW.trod enc Try.prog w base (fun _ => true) held fuel 22 cs = some x) :
    ∃ (a : Option Addr) (n cap : Nat) (os : List Op4), cs = [.slice a n cap] ∧ os.length = n ∧ RdOps w a os ∧ n ≤ 9223372036854775807 := by
  rcases open_slice Try.underlying22 h with ⟨rfl, _⟩ | ⟨a, len, cap, m, n, D, Pl, rfl, hb, hl, hm, hmm, _, hx⟩
  · exact ⟨none, 0, 0, [], rfl, rfl, fun h => by simp at h, by omega⟩
  have hlm : len ≤ m := by rw [hmm]; split <;> omega
  have each : ∀ i, i < len → ∃ o : Op4, w.cell? (a.add (i * 4)) = some (.int .i64 o.kind) ∧ w.cell? (a.add (i * 4 + 1)) = some (.int .i64 o.i) ∧ w.cell? (a.add (i * 4 + 2)) = some (.int .i64 o.v) ∧ w.cell? (a.add (i * 4 + 3)) = some (.int .i64 o.ver) := by
    intro i hi
    obtain ⟨cs', h1, h2⟩ := hx i (by omega)
    rw [cells67] at h1
    obtain ⟨o, rfl⟩ := open_op h2
    obtain ⟨_, hlen, hcell⟩ := World.cells?_some h1
    have e0 := hcell 0 (by omega)
    have e1 := hcell 1 (by omega)
    have e2 := hcell 2 (by omega)
    have e3 := hcell 3 (by omega)
    rw [add_add] at e0 e1 e2 e3
    exact ⟨o, by simpa using e0, by simpa using e1, by simpa using e2, by simpa using e3⟩
  obtain ⟨f, hf⟩ := choose_below ⟨0, 0, 0, 0⟩ each
  refine ⟨some a, len, cap, (List.range len).map f, rfl, by simp, fun hp => ?_, by unfold maxLen at hm; omega⟩
  have hl0 : 0 < len := by simpa using hp
  have h0 := (hf 0 hl0).1
  obtain ⟨b, o, sp⟩ := a
  have hsp : sp = none := by simpa [Addr.add] using World.cell?_spot h0
  subst hsp
  refine ⟨b, o, rfl, fun j hj => ?_⟩
  have hj' : j < len := by simpa using hj
  obtain ⟨g0, g1, g2, g3⟩ := hf j hj'
  rw [Addr.add_lit] at g0 g1 g2 g3
  simp only [List.getElem_map, List.getElem_range]
  exact ⟨g0, by rw [Nat.add_assoc]; exact g1, by rw [Nat.add_assoc]; exact g2, by rw [Nat.add_assoc]; exact g3⟩
end
end Go.Proofs.Ytafiopjgegmfoaa
