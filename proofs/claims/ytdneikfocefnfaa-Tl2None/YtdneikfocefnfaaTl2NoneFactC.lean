/-
  Tl2None: what it calls.
-/
import Derived.Test.YtdneikfocefnfaaRows
import Derived.ProofKit
import Derived.OpenShut
import Derived.WalkKit
import Derived.ChangeOld
namespace Go.Proofs.Ytdneikfocefnfaa.tl2None
open Go.ChangeShapes Go.WideShapes Go.ChangeAt Go.RowKit
theorem unf : (Rows.tl2NoneRow.unfollowed == Try.pinned.checked.prog.unfollowed 4) = true := by kernel_rfl
theorem rec : (Rows.tl2NoneRow.recurses == Try.pinned.checked.prog.recurses 4) = true := by kernel_rfl
end Go.Proofs.Ytdneikfocefnfaa.tl2None
