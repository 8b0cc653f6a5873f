/-
  The program: how its types lie. The program: its maps; its knobs.
-/
import Derived.Test.YtlbjalodjcajfaaGreatRows
import Derived.ProofKit
import Derived.OpenShut
import Derived.WalkKit
import Derived.ChangeOld
namespace Go.Proofs.YtlbjalodjcajfaaGreat.V
open Go.ChangeShapes Go.WideShapes Go.ChangeAt Go.RowKit
theorem laidOut : laidOutB Tryz.pinned.checked.prog = true := by kernel_rfl
end Go.Proofs.YtlbjalodjcajfaaGreat.V
namespace Go.Proofs.YtlbjalodjcajfaaGreat.V
open Go.ChangeShapes Go.WideShapes Go.ChangeAt Go.RowKit
theorem rowed : mapsRowed Tryz.pinned.checked.prog = true := by kernel_rfl
theorem own : ownKnob Tryz.prog.godebug = none := by kernel_rfl
end Go.Proofs.YtlbjalodjcajfaaGreat.V
