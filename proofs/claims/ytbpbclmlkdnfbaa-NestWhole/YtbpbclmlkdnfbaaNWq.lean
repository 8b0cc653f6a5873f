/-
  NestWhole: the reads at its end.
-/
import Derived.Test.YtbpbclmlkdnfbaaNWr
namespace Go.Proofs.Ytbpbclmlkdnfbaa.T
open Go.RowKit Go.Proofs.Ytbpbclmlkdnfbaa.C
def rX (R W : List (Int × Int)) : TX := ⟨1, 0, ⟨R, W, []⟩, 1, [], 0, false⟩
theorem rread {R W : List (Int × Int)} {nw : List Int} (h : Wv W nw) (hR : ∀ k, (gt R k).getD 0 = 0) (hl : R.length ≤ 10) (c : Nat) (hc : c < 5) : ∃ R', (rX R W).read wS (c : Int) = (nw.getD c 0, 0, wS, rX R' W) ∧ (∀ k, (gt R' k).getD 0 = 0) ∧ R'.length ≤ R.length + 1 := by
  have hag := h.ag c hc
  unfold TX.read
  rw [if_neg (by show ¬ (1 : Int) ≠ 1; omega)]
  cases hw : gt W (c : Int) with
  | some v =>
    have e1 : gt (rX R W).S.W (c : Int) = some v := hw
    rw [e1]
    rw [hw] at hag
    have : nw.getD c 0 = v := hag.symm
    rw [this]
    exact ⟨R, rfl, hR, by omega⟩
  | none =>
    have e1 : gt (rX R W).S.W (c : Int) = none := hw
    rw [e1, wcell c hc]
    rw [hw] at hag
    have hz : nw.getD c 0 = 0 := hag.symm
    rw [hz]
    have hoth : (rX R W).oth (c : Int) 0 = false := by
      unfold TX.oth
      have := hR (c : Int)
      cases hg : gt R (c : Int) with
      | none => rw [show gt (rX R W).S.R (c : Int) = none from hg]
      | some y =>
        rw [hg] at this
        have hy : y = 0 := this
        rw [show gt (rX R W).S.R (c : Int) = some y from hg, hy]
        rfl
    have hbad : ¬ (rX R W).bad (c : Int) ⟨.int .i64 0, 0, 0⟩ := by
      unfold TX.bad
      rintro (h | h | h)
      · exact h rfl
      · exact absurd h (by show ¬ (0 : Int) < 0; omega)
      · rw [hoth] at h; cases h
    dsimp only
    rw [if_neg hbad]
    cases hg : gt R (c : Int) with
    | some y =>
      have hy : y = 0 := by have := hR (c : Int); rw [hg] at this; exact this
      subst hy
      have e2 : (rX R W).S.read (c : Int) 0 = (0, ⟨R, W, []⟩) := by
        unfold SS.read
        rw [if_neg (by omega), show gt (rX R W).S.R (c : Int) = some 0 from hg]
        rfl
      rw [e2]
      exact ⟨R, rfl, hR, by omega⟩
    | none =>
      have e2 : (rX R W).S.read (c : Int) 0 = (0, ⟨R ++ [((c : Int), 0)], W, []⟩) := by
        unfold SS.read
        rw [if_neg (by omega), show gt (rX R W).S.R (c : Int) = none from hg]
        dsimp only
        rw [if_neg (by show ¬ 256 ≤ R.length; omega)]
        rfl
      rw [e2]
      refine ⟨R ++ [((c : Int), 0)], rfl, fun k => ?_, by simp⟩
      rw [gt_append R (c : Int) k 0 hg]
      split
      · rfl
      · exact hR k
end Go.Proofs.Ytbpbclmlkdnfbaa.T
