/-
  The document's scheduler and the program's, plainly: Wake.
-/
import Derived.Test.YtjhhncbadkpbaaaRefFin
namespace Go.Proofs.Ytjhhncbadkpbaaa
structure Alike (S : SS) (R : RS) : Prop where
  st : R.St = S.E.map (·.st)
  ln : R.Ln = S.L.map (· + 1)
  wk : R.wk = S.wk
  now : R.now = match S.now with | none => 0 | some i => i + 1
  n2 : ∀ i e, S.now = some i → S.E[i]? = some e → e.st ≠ 2
theorem Alike.wake {S : SS} {R : RS} (h : Alike S R) (id : Int) : (R.wake id).2 = (S.wake id).2 ∧ Alike (S.wake id).1 (R.wake id).1 ∧ (R.wake id).1.Sp = R.Sp ∧ (S.wake id).1.E.map (·.n) = S.E.map (·.n) := by
  have hl : R.St.length = S.E.length := by rw [h.st, List.length_map]
  by_cases h1 : id < 1
  · have e1 : R.wake id = (R, false) := by unfold RS.wake; rw [if_pos (.inl h1)]
    have e2 : S.wake id = (S, false) := by unfold SS.wake; rw [if_pos h1]
    rw [e1, e2]
    exact ⟨rfl, h, rfl, rfl⟩
  · obtain ⟨j, rfl⟩ : ∃ j : Nat, id = ((j + 1 : Nat) : Int) := ⟨(id - 1).toNat, by omega⟩
    have ej : (((j + 1 : Nat) : Int) - 1).toNat = j := by omega
    cases he : S.E[j]? with
    | none =>
      have hj := List.getElem?_eq_none_iff.1 he
      have e1 : R.wake ((j + 1 : Nat) : Int) = (R, false) := by unfold RS.wake; rw [if_pos (.inr (by omega))]
      have e2 : S.wake ((j + 1 : Nat) : Int) = (S, false) := by unfold SS.wake; rw [if_neg h1, ej, he]
      rw [e1, e2]
      exact ⟨rfl, h, rfl, rfl⟩
    | some e =>
      obtain ⟨hj, hje⟩ := List.getElem?_eq_some_iff.1 he
      have e2 : S.wake ((j + 1 : Nat) : Int) = S.wakeI j e := by unfold SS.wake; rw [if_neg h1, ej, he]
      have ho : ¬ (((j + 1 : Nat) : Int) < 1 ∨ (R.St.length : Int) < ((j + 1 : Nat) : Int)) := by omega
      have hst : R.St[j]? = some e.st := by rw [h.st, List.getElem?_map, he]; rfl
      rw [e2]
      by_cases hn : S.now = some j
      · have hR : R.now = j + 1 := by rw [h.now, hn]
        have e1 : R.wake ((j + 1 : Nat) : Int) = ({ R with wk := true }, !R.wk) := by unfold RS.wake; rw [if_neg ho, if_pos (by rw [hR])]
        have h2 := h.n2 j e hn he
        rw [e1]
        unfold SS.wakeI
        rw [if_neg h2]
        have hk := h.wk
        cases hw : S.wk with
        | false =>
          rw [if_pos ⟨hn, rfl⟩]
          rw [hw] at hk
          exact ⟨by rw [hk]; rfl, ⟨h.st, h.ln, rfl, h.now, h.n2⟩, rfl, rfl⟩
        | true =>
          rw [if_neg (by simp)]
          rw [hw] at hk
          exact ⟨by rw [hk]; rfl, ⟨h.st, h.ln, hw.symm, h.now, h.n2⟩, rfl, rfl⟩
      · have hR : ¬ (((j + 1 : Nat) : Int) = (R.now : Int)) := fun e3 => by
          have e4 : R.now = j + 1 := by omega
          rw [h.now] at e4
          cases hs : S.now with
          | none => rw [hs] at e4; simp at e4
          | some k => rw [hs] at e4; simp at e4; exact hn (by rw [hs, e4])
        unfold SS.wakeI
        by_cases h2 : e.st = 2
        · have e1 : R.wake ((j + 1 : Nat) : Int) = ({ R with St := R.St.set j 1, Ln := R.Ln ++ [j + 1] }, true) := by
            unfold RS.wake
            rw [if_neg ho, if_neg hR, ej, if_pos (by rw [hst, h2])]
            rfl
          rw [e1, if_pos h2]
          refine ⟨rfl, ⟨?_, ?_, h.wk, h.now, ?_⟩, rfl, ?_⟩
          · show R.St.set j 1 = (SS.ready S j e).E.map (·.st)
            unfold SS.ready
            rw [h.st, List.map_set]
          · show R.Ln ++ [j + 1] = (SS.ready S j e).L.map (· + 1)
            unfold SS.ready
            rw [h.ln, List.map_append]
            rfl
          · intro i e' hi he'
            have hij : j ≠ i := fun e5 => hn (by rw [e5]; exact hi)
            unfold SS.ready at he'
            change (S.E.set j _)[i]? = some e' at he'
            rw [List.getElem?_set_ne hij] at he'
            exact h.n2 i e' hi he'
          · unfold SS.ready
            show (S.E.set j _).map (·.n) = _
            rw [List.map_set]
            show (S.E.map (·.n)).set j e.n = _
            apply List.ext_getElem?
            intro i
            by_cases hij : j = i
            · subst hij
              rw [List.getElem?_set_self (by simpa using hj), List.getElem?_map, he]; rfl
            · rw [List.getElem?_set_ne hij]
        · have e1 : R.wake ((j + 1 : Nat) : Int) = (R, false) := by
            unfold RS.wake
            rw [if_neg ho, if_neg hR, ej, if_neg (by rw [hst]; simpa using h2)]
          rw [e1, if_neg h2, if_neg (fun e5 => hn e5.1)]
          exact ⟨rfl, h, rfl, rfl⟩
end Go.Proofs.Ytjhhncbadkpbaaa
