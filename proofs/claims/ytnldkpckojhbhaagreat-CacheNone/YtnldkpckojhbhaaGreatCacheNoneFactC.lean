/-
  CacheNone: what it calls.
-/
import Derived.Test.YtnldkpckojhbhaaGreatRows
import Derived.ProofKit
import Derived.OpenShut
import Derived.WalkKit
import Derived.ChangeOld
namespace Go.Proofs.YtnldkpckojhbhaaGreat.cacheNone
open Go.ChangeShapes Go.WideShapes Go.ChangeAt Go.RowKit
theorem unf : (Rows.cacheNoneRow.unfollowed == Tryz.pinned.checked.prog.unfollowed 12) = true := by kernel_rfl
theorem rec : (Rows.cacheNoneRow.recurses == Tryz.pinned.checked.prog.recurses 12) = true := by kernel_rfl
end Go.Proofs.YtnldkpckojhbhaaGreat.cacheNone
