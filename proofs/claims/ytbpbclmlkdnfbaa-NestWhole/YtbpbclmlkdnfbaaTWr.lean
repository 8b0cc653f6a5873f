/-
  Writes: a transaction's writes, rising.
-/
import Derived.Test.YtbpbclmlkdnfbaaTOps
import Derived.Test.YtbpbclmlkdnfbaaRising
namespace Go.Proofs.Ytbpbclmlkdnfbaa.T
open Go.RowKit Go.Proofs.Ytbpbclmlkdnfbaa.C
theorem writes_at {w : World} {B g m : Nat} {X : TX} {F : Nat → Prop} (hX : IsX w B g m X F) : Calls Try.prog 33 #[ptr g] w fun r w' => ∃ v, r = .returned v ∧ w'.ownsRow w.heap.size 3 1 v X.S.W.length (zcs (srt (kys X.S.W))) ∧ Below w.heap.size w w' := by
  obtain ⟨s, lv, P, Q, h⟩ := hX
  have cm := isMade_at h.box
  have c4 : w.cell? ⟨g, 4, none⟩ = some (ptr s) := h.box.cell 4
  have c := Ytbpbclmlkdnfbaa.writes_at h.sets
  clear h
  generalize zcs (srt (kys X.S.W)) = zs at *
  generalize X.S.W.length = n at *
  unfold ptr at *
  go_enter Try.func33, Try.ntmps33
  go_wp2_with (first | (go_at_call 47; refine cm.mono ?_; rintro e wx ⟨rfl, hwx⟩; subst wx) | (go_at_call 59; refine c.mono ?_; rintro e w2 ⟨v, rfl, k1, k2⟩))
  go_ret
  exact ⟨v, rfl, k1, k2⟩
end Go.Proofs.Ytbpbclmlkdnfbaa.T
