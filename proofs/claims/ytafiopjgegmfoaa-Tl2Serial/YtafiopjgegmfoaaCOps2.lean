/-
  Unlock, Clock, Size.
-/
import Derived.Test.YtafiopjgegmfoaaCNew
namespace Go.Proofs.Ytafiopjgegmfoaa.C
open Go.RowKit

theorem unlock_at {w : World} {B m : Nat} {S : M} (h : IsM 65 81 w B m S) (i o : Int) : Calls Try.prog 38 #[ptr m, .int .i64 i, .int .i64 o] w fun r w' => r = .returned (.int .i64 (S.unlock i o).2) ∧ To 65 81 w B m (S.unlock i o).1 w' := by
  obtain ⟨g, hg, hb, hr⟩ := h.row
  by_cases hno : S.cell? i = none ∨ o < 1
  · have c := findOf_no hb i o h.rt.n2 (hno.imp_left M.cell_out)
    have e : S.unlock i o = (S, 2) := by
      cases hc : S.cell? i with
      | none => simp [M.unlock, hc]
      | some q => have : o < 1 := by rcases hno with h | h; rw [hc] at h; cases h; exact h
                  simp [M.unlock, hc, this]
    rw [e]
    have H : Hid (To 65 81 w B m S w) := To.same h
    clear h hb hr hno e
    unfold ptr at *
    go_enter Try.func38, Try.ntmps38
    go_wp2_with (go_at_call 53; refine c.mono ?_; rintro e w' ⟨rfl, rfl⟩)
    go_ret
    exact ⟨rfl, H.out⟩
  · have ho1 : 1 ≤ o := by omega
    cases hc : S.cell? i with
    | none => exact absurd (.inl hc) hno
    | some q =>
    clear hno
    obtain ⟨j, rfl, hj, hl⟩ := M.cell_in hc
    obtain ⟨d0, d1, d2⟩ := hr.get hj
    have nlt : ¬ o < 1 := by omega
    by_cases ho : q.own = o
    · have c := findOf_ok hb j hl h.rt.n2 o ho1 (by rw [d2, ho])
      have e : S.unlock (j : Int) o = (S.put (j : Int) { q with own := 0 }, 0) := by simp [M.unlock, hc, ho, nlt]
      rw [e]
      have H : Hid (To 65 81 w B m (S.put (j : Int) { q with own := 0 }) (w.setCell ⟨g, j * 3 + 2, none⟩ (.int .i64 0))) := To.ofRow h hg hb hr (by decide) (by simp) (hr.set2 hj _) (grown_store _ _ _ _)
      have f0 := Box.frozen hr (j * 3 + 2)
      obtain ⟨xv, xk, xo⟩ := q
      simp only at ho d0 d1 d2 H ⊢
      subst ho
      clear h hb hr hc e d0 nlt
      unfold ptr at *
      go_enter Try.func38, Try.ntmps38
      go_wp2_with (go_at_call 53; refine c.mono ?_; rintro e w' ⟨rfl, rfl⟩)
      go_ret
      exact ⟨rfl, H.out⟩
    · have c := findOf_busy hb j hl h.rt.n2 o q.own ho1 d2 ho
      have e : S.unlock (j : Int) o = (S, 130) := by simp [M.unlock, hc, ho, nlt]
      rw [e]
      have H : Hid (To 65 81 w B m S w) := To.same h
      clear h hb hr hc e d0 d1 d2 nlt ho
      unfold ptr at *
      go_enter Try.func38, Try.ntmps38
      go_wp2_with (go_at_call 53; refine c.mono ?_; rintro e w' ⟨rfl, rfl⟩)
      go_ret
      exact ⟨rfl, H.out⟩
theorem clock_at {w : World} {B m : Nat} {S : M} (h : IsM 65 81 w B m S) : Calls Try.prog 11 #[ptr m] w fun r w' => r = .returned (.int .i64 S.k) ∧ w' = w := by
  obtain ⟨g, hg, hb, hr⟩ := h.row
  have c := isMade_at hb
  have ck : w.cell? ⟨m, 2, none⟩ = some (.int .i64 S.k) := hb.cell 2
  generalize S.k = k at *
  clear h hb hr
  unfold ptr at *
  go_enter Try.func11, Try.ntmps11
  go_wp2_with (go_at_call 23; refine c.mono ?_; rintro e w' ⟨rfl, rfl⟩)
  go_ret
  simp
theorem size_at {w : World} {B m : Nat} {S : M} (h : IsM 65 81 w B m S) : Calls Try.prog 21 #[ptr m] w fun r w' => r = .returned (.int .i64 (S.C.length : Int)) ∧ w' = w := by
  obtain ⟨g, hg, hb, hr⟩ := h.row
  have c := isMade_at hb
  have ck : w.cell? ⟨m, 1, none⟩ = some (.slice (some ⟨g, 0, none⟩) S.C.length S.C.length) := hb.cell 1
  generalize S.C.length = n at *
  clear h hb hr
  unfold ptr at *
  go_enter Try.func21, Try.ntmps21
  go_wp2_with (go_at_call 23; refine c.mono ?_; rintro e w' ⟨rfl, rfl⟩)
  go_ret
  simp
end Go.Proofs.Ytafiopjgegmfoaa.C
