/-
  The program: its maps; its knobs.
-/
import Derived.Test.YtlbjalodjcajfaaRows
import Derived.ProofKit
import Derived.OpenShut
import Derived.WalkKit
import Derived.ChangeOld
namespace Go.Proofs.Ytlbjalodjcajfaa.V
open Go.ChangeShapes Go.WideShapes Go.ChangeAt Go.RowKit
theorem rowed : mapsRowed Try.pinned.checked.prog = true := by kernel_rfl
theorem own : ownKnob Try.prog.godebug = none := by kernel_rfl
end Go.Proofs.Ytlbjalodjcajfaa.V
