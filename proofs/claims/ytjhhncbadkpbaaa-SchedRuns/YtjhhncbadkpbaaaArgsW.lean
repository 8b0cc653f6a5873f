/-
  Lists of what steps do, as they come in, and how long they are at most.
-/
import Derived.Test.YtjhhncbadkpbaaaArgs
namespace Go.Proofs.Ytjhhncbadkpbaaa
open Go.ChangeShapes Go.WideShapes Go.ChangeAt Go.RowKit Go.Deep
theorem bytes45 : Try.prog.bytesOf 45 = 24 := by kernel_rfl
theorem wsum {H : Type} {P : Program} {e : TypeId} : ∀ {ds : List (DataW H)} {j : Nat} {d : DataW H}, ds[j]? = some d → ∀ n ∈ d.weights P e, n ∈ DataW.weightsAll P e ds
  | d0 :: ds, 0, d, hd, n, hn => by
    simp only [List.getElem?_cons_zero, Option.some.injEq] at hd
    subst hd
    simp only [DataW.weightsAll, List.mem_append]
    exact Or.inl hn
  | d0 :: ds, j + 1, d, hd, n, hn => by
    simp only [List.getElem?_cons_succ] at hd
    simp only [DataW.weightsAll, List.mem_append]
    exact Or.inr (wsum hd n hn)
  | [], _, _, hd, _, _ => by simp at hd

section
variable {H : Type} {enc : TypeId × Value → H} {w : World} {base : Nat} {held : Bool}
theorem dos_weigh {fuel : Nat} {a : Option Addr} {n cap : Nat} {x : DataW H × List MemPlace} (h : DataW.trod enc Try.prog w base (fun _ => true) held fuel 43 [.slice a n cap] = some x) (hw : ∀ m ∈ x.1.weights Try.prog 43, m ≤ reachBytes) : n * 24 ≤ 140737488355328 := by
  rcases open_slice Try.underlying43 h with ⟨h1, _⟩ | ⟨a', len, cap', m, n', D, Pl, h1, _, _, _, _, rfl, _⟩
  · simp at h1
    omega
  · simp at h1
    obtain ⟨rfl, rfl, rfl⟩ := h1
    have := hw ((n + (m - n)) * 24) (by simp [DataW.weights, Try.underlying43, bytes45])
    unfold reachBytes at this
    omega
theorem open_progs_w {fuel : Nat} {cs : List Value} {x : DataW H × List MemPlace} (h : DataW.trod enc Try.prog w base (fun _ => true) held fuel 38 cs = some x) (hw : ∀ m ∈ x.1.weights Try.prog 38, m ≤ reachBytes) :
    ∃ (a : Option Addr) (n cap : Nat) (ps : List PV), cs = [.slice a n cap] ∧ ps.length = n ∧ RdPs w a ps ∧ n ≤ cap ∧ cap ≤ 9223372036854775807 ∧ ∀ p ∈ ps, p.ln * 24 ≤ 140737488355328 := by
  rcases open_slice Try.underlying38 h with ⟨rfl, _⟩ | ⟨a, len, cap, m, n, D, Pl, rfl, hb, hl, hm, hmm, rfl, hx⟩
  · exact ⟨none, 0, 0, [], rfl, rfl, fun h => by simp at h, by omega, by omega, fun p hp => by cases hp⟩
  have hlm : len ≤ m := by rw [hmm]; split <;> omega
  have each : ∀ i, i < len → ∃ o : PV, (w.cell? (a.add i) = some (.slice o.la o.ln o.lc) ∧ o.xs.length = o.ln ∧ RdDo w o.la o.xs) ∧ o.ln * 24 ≤ 140737488355328 := by
    intro i hi
    obtain ⟨cs', h1, h2⟩ := hx i (by omega)
    rw [cells43] at h1
    obtain ⟨la, ln, lc, os, rfl, ho, hr⟩ := open_dos h2
    have hwt := dos_weigh h2 (fun k hk => hw k (by
      simp only [DataW.weights, Try.underlying38]
      refine List.mem_cons_of_mem _ (List.mem_append.2 (Or.inl (wsum (j := i) (d := D i) (by simp [hi]) k hk)))))
    obtain ⟨_, hlen, hcell⟩ := World.cells?_some h1
    have e0 := hcell 0 (by omega)
    rw [add_add] at e0
    exact ⟨⟨la, ln, lc, os⟩, ⟨by simpa using e0, ho, hr⟩, hwt⟩
  obtain ⟨f, hf⟩ := choose_below ⟨none, 0, 0, []⟩ each
  refine ⟨some a, len, cap, (List.range len).map f, rfl, by simp, fun hp => ?_, hl, by unfold maxLen at hm; omega, fun p hp => ?_⟩
  · have hl0 : 0 < len := by simpa using hp
    have h0 := (hf 0 hl0).1.1
    obtain ⟨b, o, sp⟩ := a
    have hsp : sp = none := by simpa [Addr.add] using World.cell?_spot h0
    subst hsp
    refine ⟨b, o, rfl, fun j hj => ?_⟩
    have hj' : j < len := by simpa using hj
    obtain ⟨⟨g0, g1, g2⟩, _⟩ := hf j hj'
    rw [Addr.add_lit] at g0
    simp only [List.getElem_map, List.getElem_range]
    exact ⟨g0, g1, g2⟩
  · obtain ⟨i, hi, rfl⟩ := List.mem_map.1 hp
    exact (hf i (by simpa using hi)).2
end
end Go.Proofs.Ytjhhncbadkpbaaa
