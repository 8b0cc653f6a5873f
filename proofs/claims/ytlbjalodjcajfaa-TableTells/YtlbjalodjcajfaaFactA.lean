/-
  The program: how its types lie.
-/
import Derived.Test.YtlbjalodjcajfaaRows
import Derived.ProofKit
import Derived.OpenShut
import Derived.WalkKit
import Derived.ChangeOld
namespace Go.Proofs.Ytlbjalodjcajfaa.V
open Go.ChangeShapes Go.WideShapes Go.ChangeAt Go.RowKit
theorem laidOut : laidOutB Try.pinned.checked.prog = true := by kernel_rfl
end Go.Proofs.Ytlbjalodjcajfaa.V
