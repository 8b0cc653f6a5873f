/-
  SameInts.
-/
import Derived.Test.YtafiopjgegmfoaaPlay
namespace Go.Proofs.Ytafiopjgegmfoaa
open Go.RowKit
def zcs (l : List Int) : List Value := l.map encI
theorem infoI : (Try.prog.info? 3).map (fun i => (i.zero, i.size, i.bytes)) = some (some (.int .i64 0), 1, 8) := by kernel_rfl
end Go.Proofs.Ytafiopjgegmfoaa
