/-
  CellTells, whatever number of cells is asked for.
-/
import Derived.Test.YtinflodnkopcdaaTellL
namespace Go.Proofs.Ytinflodnkopcdaa
open Go.RowKit
theorem tells_at (z : Int) (a0 : Option Addr) (n0 c0 : Nat) (os : List Op5) (w : World) (hl : os.length = n0) (hr : RdOps w a0 os) (hn : n0 ≤ 9223372036854775807) :
    Calls Try.prog 4 #[.int .i64 z, .slice a0 n0 c0] w fun r w' => r = .returned (.bool true) ∧ Below w.heap.size w w' := by
  by_cases hz : z < 1 ∨ 1024 < z
  · exact tells_no z a0 n0 c0 w hz
  · obtain ⟨n, rfl⟩ : ∃ n : Nat, z = (n : Int) := ⟨z.toNat, by omega⟩
    exact tells_in n (by omega) (by omega) a0 n0 c0 os w hl hr hn
end Go.Proofs.Ytinflodnkopcdaa
