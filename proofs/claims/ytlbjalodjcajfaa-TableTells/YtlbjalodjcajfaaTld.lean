/-
  TableTells.
-/
import Derived.Test.YtlbjalodjcajfaaTlw
namespace Go.Proofs.Ytlbjalodjcajfaa
open Go.RowKit Go.Maps
theorem tells_at {w : World} (b m : Int) {a0 : Option Addr} {n0 c0 : Nat} {os : List Oq} (hl : os.length = n0) (hr : RdO w a0 os) (hn : n0 ≤ 9223372036854775807) :
    Calls Try.prog 4 #[.int .i64 b, .int .i64 m, .slice a0 n0 c0] w fun e w' => e = .returned (.bool true) ∧ Below w.heap.size w w' := by
  by_cases h : m < 1 ∨ 200 < m ∨ b < 0 ∨ (250 : Int) - m < b
  · exact tells_bad w b m a0 n0 c0 h
  · obtain ⟨n, rfl⟩ : ∃ n : Nat, m = (n : Int) := ⟨m.toNat, by omega⟩
    obtain ⟨base, rfl⟩ : ∃ base : Nat, b = (base : Int) := ⟨b.toNat, by omega⟩
    exact tells_good base n (by omega) (by omega) (by omega) hl hr hn
end Go.Proofs.Ytlbjalodjcajfaa
