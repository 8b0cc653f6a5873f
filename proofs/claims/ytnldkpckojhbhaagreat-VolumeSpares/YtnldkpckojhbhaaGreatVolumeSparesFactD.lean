/-
  VolumeSpares: what it names.
-/
import Derived.Test.YtnldkpckojhbhaaGreatRows
import Derived.ProofKit
import Derived.OpenShut
import Derived.WalkKit
import Derived.ChangeOld
namespace Go.Proofs.YtnldkpckojhbhaaGreat.volumeSpares
open Go.ChangeShapes Go.WideShapes Go.ChangeAt Go.RowKit
theorem inp : (Rows.volumeSparesRow.inPlace == Tryz.pinned.checked.prog.inPlace 9) = true := by kernel_rfl
theorem nmd : (Rows.volumeSparesRow.named == Tryz.pinned.checked.prog.varsNamed 9) = true := by kernel_rfl
end Go.Proofs.YtnldkpckojhbhaaGreat.volumeSpares
