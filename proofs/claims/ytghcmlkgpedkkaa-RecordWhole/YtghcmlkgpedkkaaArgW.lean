/-
  A group, as it comes in, and how many bytes its images are at most.
-/
import Derived.Test.YtghcmlkgpedkkaaArgs
import Derived.Test.YtghcmlkgpedkkaaWhole
import Derived.SizedLaws
namespace Go.Proofs.Ytghcmlkgpedkkaa
open Go.ChangeShapes Go.WideShapes Go.ChangeAt Go.RowKit Go.Deep

theorem bytes38 : Try.prog.bytesOf 38 = 32 := by kernel_rfl
section
variable {H : Type} {enc : TypeId × Value → H} {w : World} {base : Nat} {held : Bool}

theorem imgs_weigh {fuel : Nat} {a : Option Addr} {n cap : Nat} {x : DataW H × List MemPlace} (h : DataW.trod enc Try.prog w base (fun _ => true) held fuel 26 [.slice a n cap] = some x) (hw : ∀ m ∈ x.1.weights Try.prog 26, m ≤ reachBytes) : n * 32 ≤ 140737488355328 := by
  rcases open_slice Try.underlying26 h with ⟨h1, _⟩ | ⟨a', len, cap', m, n', D, Pl, h1, _, _, _, _, rfl, _⟩
  · simp at h1
    omega
  · simp at h1
    obtain ⟨rfl, rfl, rfl⟩ := h1
    have := hw ((n + (m - n)) * 32) (by simp [DataW.weights, Try.underlying26, bytes38])
    unfold reachBytes at this
    omega
theorem group_weigh {fuel : Nat} {e s : Int} {a : Option Addr} {n cap : Nat} {x : DataW H × List MemPlace} (h : DataW.trod enc Try.prog w base (fun _ => true) held fuel 28 [.int .i64 e, .int .i64 s, .slice a n cap] = some x) (hw : ∀ m ∈ x.1.weights Try.prog 28, m ≤ reachBytes) : n * 32 ≤ 140737488355328 := by
  obtain ⟨xs, n', _, rfl, hl, hlen, hf⟩ := DataW.trod_struct Try.underlying28 h
  obtain ⟨y0, y1, y2, rfl⟩ := list3 (show xs.length = 3 from hlen)
  have g2 := hf 2 _ rfl
  simp [cells26] at g2
  refine imgs_weigh g2 (fun m hm => hw m ?_)
  simp only [DataW.weights, Try.underlying28]
  exact DataW.weights_mem_each (j := 2) rfl rfl m hm
theorem open_ints3 {fuel : Nat} {cs : List Value} {x : DataW H × List MemPlace} (h : DataW.trod enc Try.prog w base (fun _ => true) held fuel 50 cs = some x) :
    ∃ (a : Option Addr) (n cap : Nat) (xs : List Int), cs = [.slice a n cap] ∧ xs.length = n ∧ Ints w a xs := by
  rcases open_slice1 Try.underlying50 cells3 h with ⟨rfl, _⟩ | ⟨a, len, cap, m, n, V, D, Pl, rfl, _, hl, _, hmm, _, hx⟩
  · exact ⟨none, 0, 0, [], rfl, rfl, fun h => by simp at h⟩
  have hlm : len ≤ m := by rw [hmm]; split <;> omega
  have each : ∀ i, i < len → ∃ z : Int, w.cell? (a.add i) = some (.int .i64 z) := by
    intro i hi
    obtain ⟨h1, h2⟩ := hx i (by omega)
    obtain ⟨z, h3, _⟩ := DataW.trod_int Try.underlying3 h2
    simp at h3
    rw [h3] at h1
    exact ⟨z, h1⟩
  obtain ⟨f, hf⟩ := choose_below 0 each
  refine ⟨some a, len, cap, (List.range len).map f, rfl, by simp, fun hp => ?_⟩
  have hl0 : 0 < len := by simpa using hp
  obtain ⟨b, o, sp⟩ := a
  have hsp : sp = none := by simpa [Addr.add] using World.cell?_spot (hf 0 hl0)
  subst hsp
  refine ⟨b, o, rfl, fun j hj => ?_⟩
  have := hf j (by simpa using hj)
  rw [Addr.add_lit] at this
  simpa using this
end
end Go.Proofs.Ytghcmlkgpedkkaa
