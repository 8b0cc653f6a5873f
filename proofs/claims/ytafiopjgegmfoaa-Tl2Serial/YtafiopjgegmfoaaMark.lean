/-
  Mark.
-/
import Derived.Test.YtafiopjgegmfoaaClone
import Derived.Deep.Cut
namespace Go.Proofs.Ytafiopjgegmfoaa
open Go.RowKit Go.Maps

end Go.Proofs.Ytafiopjgegmfoaa
