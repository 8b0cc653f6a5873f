/-
  Writes: a transaction's writes, rising.
-/
import Derived.Test.YtafiopjgegmfoaaTOps
import Derived.Test.YtafiopjgegmfoaaRising
namespace Go.Proofs.Ytafiopjgegmfoaa.T
open Go.RowKit Go.Proofs.Ytafiopjgegmfoaa.C
end Go.Proofs.Ytafiopjgegmfoaa.T
