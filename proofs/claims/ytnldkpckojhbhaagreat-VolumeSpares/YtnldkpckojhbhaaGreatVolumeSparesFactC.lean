/-
  VolumeSpares: what it calls.
-/
import Derived.Test.YtnldkpckojhbhaaGreatRows
import Derived.ProofKit
import Derived.OpenShut
import Derived.WalkKit
import Derived.ChangeOld
namespace Go.Proofs.YtnldkpckojhbhaaGreat.volumeSpares
open Go.ChangeShapes Go.WideShapes Go.ChangeAt Go.RowKit
theorem unf : (Rows.volumeSparesRow.unfollowed == Tryz.pinned.checked.prog.unfollowed 9) = true := by kernel_rfl
theorem rec : (Rows.volumeSparesRow.recurses == Tryz.pinned.checked.prog.recurses 9) = true := by kernel_rfl
end Go.Proofs.YtnldkpckojhbhaaGreat.volumeSpares
