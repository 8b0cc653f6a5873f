/-
  Numbers in order.
-/
import Derived.Test.YtafiopjgegmfoaaMem
namespace Go.Proofs.Ytafiopjgegmfoaa
open Go.RowKit
def srt (l : List Int) : List Int := l.mergeSort leI
theorem srt_len (l : List Int) : (srt l).length = l.length := by unfold srt; simp
theorem srt_mem (l : List Int) (x : Int) : x ∈ srt l ↔ x ∈ l := by unfold srt; simp
end Go.Proofs.Ytafiopjgegmfoaa
