/-
  SetsKeep: what it calls.
-/
import Derived.Test.YtdlhgamepfcahaaRows
import Derived.ProofKit
import Derived.OpenShut
import Derived.WalkKit
import Derived.ChangeOld
namespace Go.Proofs.Ytdlhgamepfcahaa.setsKeep
open Go.ChangeShapes Go.WideShapes Go.ChangeAt Go.RowKit
theorem unf : (Rows.setsKeepRow.unfollowed == Try.pinned.checked.prog.unfollowed 6) = true := by kernel_rfl
theorem rec : (Rows.setsKeepRow.recurses == Try.pinned.checked.prog.recurses 6) = true := by kernel_rfl
end Go.Proofs.Ytdlhgamepfcahaa.setsKeep
