/-
  CacheNumbers: what it names.
-/
import Derived.Test.YtnldkpckojhbhaaGreatRows
import Derived.ProofKit
import Derived.OpenShut
import Derived.WalkKit
import Derived.ChangeOld
namespace Go.Proofs.YtnldkpckojhbhaaGreat.cacheNumbers
open Go.ChangeShapes Go.WideShapes Go.ChangeAt Go.RowKit
theorem inp : (Rows.cacheNumbersRow.inPlace == Tryz.pinned.checked.prog.inPlace 10) = true := by kernel_rfl
theorem nmd : (Rows.cacheNumbersRow.named == Tryz.pinned.checked.prog.varsNamed 10) = true := by kernel_rfl
end Go.Proofs.YtnldkpckojhbhaaGreat.cacheNumbers
