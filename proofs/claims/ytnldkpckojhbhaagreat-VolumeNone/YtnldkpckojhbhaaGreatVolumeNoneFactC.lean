/-
  VolumeNone: what it calls.
-/
import Derived.Test.YtnldkpckojhbhaaGreatRows
import Derived.ProofKit
import Derived.OpenShut
import Derived.WalkKit
import Derived.ChangeOld
namespace Go.Proofs.YtnldkpckojhbhaaGreat.volumeNone
open Go.ChangeShapes Go.WideShapes Go.ChangeAt Go.RowKit
theorem unf : (Rows.volumeNoneRow.unfollowed == Tryz.pinned.checked.prog.unfollowed 6) = true := by kernel_rfl
theorem rec : (Rows.volumeNoneRow.recurses == Tryz.pinned.checked.prog.recurses 6) = true := by kernel_rfl
end Go.Proofs.YtnldkpckojhbhaaGreat.volumeNone
