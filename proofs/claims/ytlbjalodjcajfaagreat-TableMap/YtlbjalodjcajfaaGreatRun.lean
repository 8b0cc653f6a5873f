/-
  A transaction's end, step after step.
-/
import Derived.Test.YtlbjalodjcajfaaGreatFin
namespace Go.Proofs.YtlbjalodjcajfaaGreat
open Go.RowKit Go.Sort Go.Maps
theorem srt_nodup {l : List Int} (h : l.Nodup) : (srt l).Nodup := (List.mergeSort_perm l leI).nodup_iff.2 h
theorem runAll_app (b : Int) (S : SS En) : ∀ (A B : List Stp) (p : SP), runAll b S (A ++ B) p = runAll b S B (runAll b S A p)
  | [], _, _ => rfl
  | a :: A, B, p => runAll_app b S A B (a.run b S p)
theorem okAll_at (b : Int) (S : SS En) : ∀ (A : List Stp) (s : Stp) (B : List Stp) (p : SP), okAll b S (A ++ s :: B) p → s.ok S (runAll b S A p)
  | [], _, _, _, h => h.1
  | a :: A, s, B, p, h => okAll_at b S A s B (a.run b S p) h.2
section
variable {O : List (Nat × Obj)}
variable {w0 u : World} {x m g s n : Nat} {k b : Int} {C : List Cl} {S : SS En} {K : List Bx} {Fs : Nat → Prop}
/-- i steps of its end are done -/
def Run (O : List (Nat × Obj)) (w0 u : World) (x m g s n : Nat) (k b : Int) (C : List Cl) (S : SS En) (K : List Bx) (Fs : Nat → Prop) (i : Nat) : Prop :=
  (i = 0 ∧ ∃ V, HT O w0 u x m g s n k b 1 C S V K Fs) ∨
  (0 < i ∧ i < (ends S).length ∧ ∃ Q lv, HZ O w0 u x m g s n b 2 lv ((ends S).drop i) S K Fs Q (runAll b S ((ends S).take i) ⟨k, 0, false, C⟩)) ∨
  (i = (ends S).length ∧ ∃ Q, HZ O w0 u x m g s n b 3 (.slice none 0 0) [] S K Fs Q (runAll b S (ends S) ⟨k, 0, false, C⟩))
theorem ends_pos (S : SS En) : 0 < (ends S).length := List.length_pos_iff.2 (ends_ne S)
theorem Run.status {i : Nat} (h : Run O w0 u x m g s n k b C S K Fs i) (hi : i ≤ (ends S).length) : ∃ st : Int, (st = 3 ↔ i = (ends S).length) ∧ Calls Tryz.prog 13 #[ptr x] u fun r w' => r = .returned (.int .u8 st) ∧ w' = u := by
  have := ends_pos S
  rcases h with ⟨rfl, V, h⟩ | ⟨h1, h2, Q, lv, h⟩ | ⟨rfl, Q, h⟩
  · exact ⟨1, ⟨fun e => (by omega), fun e => (by omega)⟩, statusE (h.he (fun _ => False)).bx⟩
  · exact ⟨2, ⟨fun e => (by omega), fun e => (by omega)⟩, statusE h.bx⟩
  · exact ⟨3, ⟨fun _ => rfl, fun _ => rfl⟩, statusE h.bx⟩
theorem stepTo_run {i : Nat} {sp : Stp} {L : List Stp} {Q : Nat → Prop} {r : Ending} {w' : World} (hd : (ends S).drop i = sp :: L) (h : StepTo O w0 x m g s n b L S K Fs Q (sp.run b S (runAll b S ((ends S).take i) ⟨k, 0, false, C⟩)) r w') : (∃ st : Int, r = .returned (.tuple #[.int .u8 st, .int .i64 0])) ∧ Run O w0 w' x m g s n k b C S K Fs (i + 1) := by
  have hil : i < (ends S).length := by
    apply Classical.byContradiction
    intro hh
    rw [List.drop_eq_nil_of_le (by omega)] at hd
    cases hd
  have hg : (ends S)[i]? = some sp := by
    have := List.getElem?_drop (xs := ends S) (i := i) (j := 0)
    rw [hd] at this
    simpa using this.symm
  have ht : (ends S).take (i + 1) = (ends S).take i ++ [sp] := by rw [List.take_add_one, hg]; rfl
  have hd2 : (ends S).drop (i + 1) = L := by
    rw [← List.drop_drop, hd]; rfl
  have hrun : runAll b S ((ends S).take (i + 1)) ⟨k, 0, false, C⟩ = sp.run b S (runAll b S ((ends S).take i) ⟨k, 0, false, C⟩) := by rw [ht, runAll_app]; rfl
  rcases h with ⟨rfl, e, h⟩ | ⟨hL, e, lv, h⟩
  · have hle : (ends S).length = i + 1 := by
      have := congrArg List.length hd2
      simp at this
      omega
    refine ⟨⟨_, e⟩, .inr (.inr ⟨hle.symm, Q, ?_⟩)⟩
    rw [← hrun, ← hle, List.take_length] at h
    exact h
  · have hle : i + 1 < (ends S).length := by
      apply Classical.byContradiction
      intro hh
      exact hL (by rw [← hd2]; exact List.drop_eq_nil_of_le (by omega))
    refine ⟨⟨_, e⟩, .inr (.inl ⟨by omega, hle, Q, lv, ?_⟩)⟩
    rw [hrun, hd2]
    exact h
theorem Run.step {i : Nat} (h : Run O w0 u x m g s n k b C S K Fs i) (hi : i < (ends S).length) (hok : okAll b S (ends S) ⟨k, 0, false, C⟩) : Calls Tryz.prog 14 #[ptr x] u fun r w' => (∃ st : Int, r = .returned (.tuple #[.int .u8 st, .int .i64 0])) ∧ Run O w0 w' x m g s n k b C S K Fs (i + 1) := by
  obtain ⟨sp, L, hd⟩ : ∃ sp L, (ends S).drop i = sp :: L := ⟨_, _, List.drop_eq_getElem_cons hi⟩
  have hok' : sp.ok S (runAll b S ((ends S).take i) ⟨k, 0, false, C⟩) := okAll_at b S _ sp L _ (by rw [← hd, List.take_append_drop]; exact hok)
  rcases h with ⟨rfl, V, h⟩ | ⟨h1, h2, Q, lv, h⟩ | ⟨e, _⟩
  · refine (step_first h (by simpa using hd) (by simpa [runAll] using hok')).mono (fun r w' hh => ?_)
    obtain ⟨Q, h'⟩ := hh
    exact stepTo_run hd (Q := Q) (by simpa [runAll] using h')
  · rw [hd] at h
    exact (step_more h hok').mono (fun r w' h' => stepTo_run hd h')
  · omega
end
end Go.Proofs.YtlbjalodjcajfaaGreat
