/-
  Lists of bytes, as they come in, and how long they are at most.
-/
import Derived.Test.YtghcmlkgpedkkaaArgG
namespace Go.Proofs.Ytghcmlkgpedkkaa
open Go.ChangeShapes Go.WideShapes Go.ChangeAt Go.RowKit Go.Deep

section
variable {H : Type} {enc : TypeId × Value → H} {w : World} {base : Nat} {held : Bool}
theorem open_lsts_w {fuel : Nat} {cs : List Value} {x : DataW H × List MemPlace} (h : DataW.trod enc Try.prog w base (fun _ => true) held fuel 22 cs = some x) (hw : ∀ m ∈ x.1.weights Try.prog 22, m ≤ reachBytes) :
    ∃ (a : Option Addr) (n cap : Nat) (ls : List (List UInt8)), cs = [.slice a n cap] ∧ ls.length = n ∧ Lsts w a ls ∧ ∀ x ∈ ls, x.length ≤ 140737488355328 := by
  rcases open_slice Try.underlying22 h with ⟨rfl, _⟩ | ⟨a, len, cap, m, n, D, Pl, rfl, hb, hl, hm, hmm, rfl, hx⟩
  · exact ⟨none, 0, 0, [], rfl, rfl, fun h => by simp at h, fun i hi => by cases hi⟩
  have hlm : len ≤ m := by rw [hmm]; split <;> omega
  have each : ∀ i, i < len → ∃ z : List UInt8, z.length ≤ 140737488355328 ∧ ∃ x c, w.cell? (a.add i) = some (.slice x z.length c) ∧ z.length ≤ c ∧ c ≤ 9223372036854775807 ∧ (x = none → c = 0) ∧ Rd w x z := by
    intro i hi
    obtain ⟨cs', h1, h2⟩ := hx i (by omega)
    rw [cells31, Nat.mul_one] at h1
    obtain ⟨ad, nn, cp, ys, rfl, hy, hr, q1, q2, q3⟩ := open_bytes h2
    subst hy
    have hwt := bytes_weigh h2 (fun k hk => hw k (by
      simp only [DataW.weights, Try.underlying22]
      refine List.mem_cons_of_mem _ (List.mem_append.2 (Or.inl (wsum (j := i) (d := D i) (by simp [hi]) k hk)))))
    obtain ⟨_, hlen, hcell⟩ := World.cells?_some h1
    have e0 := hcell 0 (by omega)
    rw [add_add] at e0
    exact ⟨ys, hwt, ad, cp, by simpa using e0, q1, q2, q3, hr⟩
  obtain ⟨f, hf⟩ := choose_below [] each
  refine ⟨some a, len, cap, (List.range len).map f, rfl, by simp, fun hp => ?_, fun z hz => ?_⟩
  · have hl0 : 0 < len := by simpa using hp
    obtain ⟨_, x0, c0, h0, _⟩ := hf 0 hl0
    obtain ⟨b, o, sp⟩ := a
    have hsp : sp = none := by simpa [Addr.add] using World.cell?_spot h0
    subst hsp
    refine ⟨b, o, rfl, fun j hj => ?_⟩
    have hj' : j < len := by simpa using hj
    obtain ⟨_, x, c, g1, g2⟩ := hf j hj'
    rw [Addr.add_lit] at g1
    simp only [List.getElem_map, List.getElem_range]
    exact ⟨x, c, g1, g2⟩
  · obtain ⟨i, hi, rfl⟩ := List.mem_map.1 hz
    exact (hf i (by simpa using hi)).1
end
end Go.Proofs.Ytghcmlkgpedkkaa
