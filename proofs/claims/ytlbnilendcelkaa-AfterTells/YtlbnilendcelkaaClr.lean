/-
  clear, of a row of entries.
-/
import Derived.Test.YtlbnilendcelkaaQue
namespace Go.Proofs.Ytlbnilendcelkaa
open Go.RowKit
theorem clear_none (t : TypeId) (e : TypeId) (ht : Try.prog.underlying t = some (.slice e)) (a : Option Addr) (c : Nat) (u : World) : (Builtin.clear_ #[t] 0 #[.slice a 0 c]).run Try.prog u = .ok (.tuple #[]) u := by
  cases a <;> simp [Builtin.clear_, run_underlying ht]
theorem clear_some (t e : TypeId) (i0 : TypeInfo) (z0 z1 z2 : Value) (ht : Try.prog.underlying t = some (.slice e)) (hi : Try.prog.info? e = some i0) (hz : i0.zero = some (.agg #[z0, z1, z2])) (o0 : z0.oneCell' = true) (o1 : z1.oneCell' = true) (o2 : z2.oneCell' = true)
    (b o n c : Nat) (hn : 0 < n) : ∃ vs : List Value, vs.length = n * 3 ∧ ∀ u : World, (∀ j, j < n * 3 → (u.cell? ⟨b, o + j, none⟩).isSome = true) → (∀ j, j < n * 3 → u.frozen? ⟨b, o + j, none⟩ = false) → (Builtin.clear_ #[t] 0 #[.slice (some ⟨b, o, none⟩) n c]).run Try.prog u = .ok (.tuple #[]) (u.setCells b o vs) := by
  refine ⟨(Builtin.zeroCells (Value.agg #[z0, z1, z2]).cells n).toList, ?_, fun u hc hf => ?_⟩
  · simp [Builtin.zeroCells, Value.cells]
  · have hst := run_storeCells_cells (P := Try.prog) b o (Builtin.zeroCells (Value.agg #[z0, z1, z2]).cells n).toList 0 u (by simpa [Builtin.zeroCells, Value.cells] using hc) (by simpa [Builtin.zeroCells, Value.cells] using hf) (by
      intro v hv
      simp only [Builtin.zeroCells, Array.toList_map, List.mem_map, Value.cells] at hv
      obtain ⟨q, _, rfl⟩ := hv
      have : q % 3 = 0 ∨ q % 3 = 1 ∨ q % 3 = 2 := by omega
      show ((#[z0, z1, z2] : Array Value)[q % 3]!).oneCell' = true
      rcases this with h | h | h <;> rw [h] <;> simpa)
    simp only [Nat.add_zero] at hst
    obtain ⟨m, rfl⟩ : ∃ m, n = m + 1 := ⟨n - 1, by omega⟩
    simp [Builtin.clear_, run_underlying ht, zeroValue, typeInfo, hi, hz, hst]
end Go.Proofs.Ytlbnilendcelkaa
