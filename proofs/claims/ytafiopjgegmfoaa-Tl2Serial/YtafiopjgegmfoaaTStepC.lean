/-
  Step of a transaction: any one.
-/
import Derived.Test.YtafiopjgegmfoaaTStepA
import Derived.Test.YtafiopjgegmfoaaTStepB
namespace Go.Proofs.Ytafiopjgegmfoaa.T
open Go.RowKit Go.Proofs.Ytafiopjgegmfoaa.C
theorem step_at {w : World} {B g m gm : Nat} {S : M} {X : TX} {F : Nat → Prop} (hM : MM w B m gm S) (hX : IsX w B g m X F) (hm : ¬ F m) (hgm : ¬ F gm) (hN : Num S) (hr : X.Rdy) : Calls Try.prog 17 #[ptr g] w fun r w' => r = .returned (.tuple #[.int .u8 (X.step S).1, .int .i64 (X.step S).2.1]) ∧ ToX w B g m gm (X.step S).2.2.1 (X.step S).2.2.2 F w' := by
  rcases hX.ok.st with h | h | h | h
  · exact step_open hM hX hm hgm hN h
  · cases hl : X.left with
    | nil => exact absurd hl (hr h)
    | cons s L => exact step_go hM hX hm hgm hN h s L hl
  · exact step_over hM hX (.inl h)
  · exact step_over hM hX (.inr h)
end Go.Proofs.Ytafiopjgegmfoaa.T
