/-
  CacheNumbers: what it calls.
-/
import Derived.Test.YtnldkpckojhbhaaGreatRows
import Derived.ProofKit
import Derived.OpenShut
import Derived.WalkKit
import Derived.ChangeOld
namespace Go.Proofs.YtnldkpckojhbhaaGreat.cacheNumbers
open Go.ChangeShapes Go.WideShapes Go.ChangeAt Go.RowKit
theorem unf : (Rows.cacheNumbersRow.unfollowed == Tryz.pinned.checked.prog.unfollowed 10) = true := by kernel_rfl
theorem rec : (Rows.cacheNumbersRow.recurses == Tryz.pinned.checked.prog.recurses 10) = true := by kernel_rfl
end Go.Proofs.YtnldkpckojhbhaaGreat.cacheNumbers
