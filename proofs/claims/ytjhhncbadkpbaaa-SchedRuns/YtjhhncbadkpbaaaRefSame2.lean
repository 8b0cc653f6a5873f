/-
  The document's scheduler and the program's, plainly: the end of a step.
-/
import Derived.Test.YtjhhncbadkpbaaaRefSame
namespace Go.Proofs.Ytjhhncbadkpbaaa
theorem Alike.did {S : SS} {R : RS} (h : Alike S R) (d : Do3) {told : List Bool} (ht : R.Td = told) : Alike (S.did d) (R.did d) ∧ (R.did d).Sp = R.Sp ∧ (S.did d).E.map (·.n) = S.E.map (·.n) ∧ (R.did d).Td = toldBy S told d := by
  unfold SS.did RS.did toldBy
  by_cases h0 : d.wake = 0
  · rw [if_pos h0, if_pos h0, if_pos h0]
    exact ⟨h, rfl, rfl, ht⟩
  · rw [if_neg h0, if_neg h0, if_neg h0]
    obtain ⟨h1, h2, h3, h4⟩ := h.wake d.wake
    exact ⟨⟨h2.st, h2.ln, h2.wk, h2.now, h2.n2⟩, h3, h4, by rw [← h1, ← ht]⟩
theorem Alike.fin {S : SS} {R : RS} (h : Alike S R) (i : Nat) (e : En) (hs : R.Sp = (S.E.map (·.n)).set i (e.n + 1)) (st : Nat) : Alike (S.fin i e st) (R.fin i (st : Int)) ∧ (R.fin i (st : Int)).Sp = (S.fin i e st).E.map (·.n) ∧ R.finSt (st : Int) = S.finSt st ∧ (R.fin i (st : Int)).Td = R.Td := by
  have hw := h.wk
  have hc : (((st : Int) = 1 ∨ (st : Int) = 2 ∧ R.wk = true) ↔ (st = 1 ∨ st = 2 ∧ S.wk = true)) := by
    rw [hw]
    constructor
    · rintro (h1 | ⟨h1, h2⟩)
      · exact .inl (by omega)
      · exact .inr ⟨by omega, h2⟩
    · rintro (h1 | ⟨h1, h2⟩)
      · exact .inl (by omega)
      · exact .inr ⟨by omega, h2⟩
  unfold SS.fin RS.fin SS.finSt RS.finSt
  by_cases h1 : st = 1 ∨ st = 2 ∧ S.wk = true
  · have h1' := hc.2 h1
    rw [if_pos h1, if_pos h1', if_pos h1, if_pos h1']
    refine ⟨⟨?_, ?_, h.wk, rfl, fun _ _ hn => by cases hn⟩, ?_, rfl, rfl⟩
    · show R.St.set i 1 = _
      rw [h.st]
      simp only [List.map_set]
    · show R.Ln ++ [i + 1] = (S.L ++ [i]).map (· + 1)
      rw [h.ln, List.map_append]
      rfl
    · show R.Sp = _
      rw [hs]
      simp only [List.map_set]
  · have h1' := fun x => h1 (hc.1 x)
    rw [if_neg h1, if_neg h1', if_neg h1, if_neg h1']
    by_cases h2 : st = 2
    · have h2' : (st : Int) = 2 := by omega
      rw [if_pos h2, if_pos h2', if_pos h2, if_pos h2']
      refine ⟨⟨?_, h.ln, h.wk, rfl, fun _ _ hn => by cases hn⟩, ?_, rfl, rfl⟩
      · show R.St.set i 2 = _
        rw [h.st]
        simp only [List.map_set]
      · show R.Sp = _
        rw [hs]
        simp only [List.map_set]
    · have h2' : ¬ (st : Int) = 2 := by omega
      rw [if_neg h2, if_neg h2', if_neg h2, if_neg h2']
      refine ⟨⟨?_, h.ln, h.wk, rfl, fun _ _ hn => by cases hn⟩, ?_, rfl, rfl⟩
      · show R.St.set i 3 = _
        rw [h.st]
        simp only [List.map_set]
      · show R.Sp = _
        rw [hs]
        simp only [List.map_set]
end Go.Proofs.Ytjhhncbadkpbaaa
