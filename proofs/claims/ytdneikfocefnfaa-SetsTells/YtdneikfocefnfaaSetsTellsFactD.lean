/-
  SetsTells: what it names.
-/
import Derived.Test.YtdneikfocefnfaaRows
import Derived.ProofKit
import Derived.OpenShut
import Derived.WalkKit
import Derived.ChangeOld
namespace Go.Proofs.Ytdneikfocefnfaa.setsTells
open Go.ChangeShapes Go.WideShapes Go.ChangeAt Go.RowKit
theorem inp : (Rows.setsTellsRow.inPlace == Try.pinned.checked.prog.inPlace 3) = true := by kernel_rfl
theorem nmd : (Rows.setsTellsRow.named == Try.pinned.checked.prog.varsNamed 3) = true := by kernel_rfl
end Go.Proofs.Ytdneikfocefnfaa.setsTells
