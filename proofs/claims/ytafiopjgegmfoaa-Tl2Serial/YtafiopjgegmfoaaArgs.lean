/-
  What the laws' arguments are, as they come in: lists of calls.
-/
import Derived.Test.YtafiopjgegmfoaaMem
import Derived.OpenShut
import Derived.Deep.Grids
namespace Go.Proofs.Ytafiopjgegmfoaa
open Go.ChangeShapes Go.WideShapes Go.ChangeAt Go.RowKit Go.Deep

/-- a call -/
structure Op4 where
  kind : Int
  i : Int
  v : Int
  ver : Int
/-- calls lie where a says -/
def RdOps (w : World) (a : Option Addr) (os : List Op4) : Prop :=
  0 < os.length → ∃ b o, a = some ⟨b, o, none⟩ ∧ ∀ j (h : j < os.length), w.cell? ⟨b, o + j * 4, none⟩ = some (.int .i64 os[j].kind) ∧ w.cell? ⟨b, o + j * 4 + 1, none⟩ = some (.int .i64 os[j].i) ∧ w.cell? ⟨b, o + j * 4 + 2, none⟩ = some (.int .i64 os[j].v) ∧ w.cell? ⟨b, o + j * 4 + 3, none⟩ = some (.int .i64 os[j].ver)
theorem RdOps.at {w : World} {a : Option Addr} {os : List Op4} (h : RdOps w a os) (u : World) (hu : Below w.heap.size w u) (k : Nat) (hk : k < os.length) : ∃ b o, ∃ x : Op4, a = some ⟨b, o, none⟩ ∧ b < w.heap.size ∧ u.cell? ⟨b, o + k * 4, none⟩ = some (.int .i64 x.kind) ∧ u.cell? ⟨b, o + k * 4 + 1, none⟩ = some (.int .i64 x.i) ∧ u.cell? ⟨b, o + k * 4 + 2, none⟩ = some (.int .i64 x.v) ∧ u.cell? ⟨b, o + k * 4 + 3, none⟩ = some (.int .i64 x.ver) := by
  obtain ⟨b, o, rfl, hc⟩ := h (by omega)
  obtain ⟨c0, c1, c2, c3⟩ := hc k hk
  have hb : b < w.heap.size := block_lt_of_cell c0
  refine ⟨b, o, os[k], rfl, hb, ?_, ?_, ?_, ?_⟩
  · rw [hu.cell (p := ⟨b, o + k * 4, none⟩) hb]; exact c0
  · rw [hu.cell (p := ⟨b, o + k * 4 + 1, none⟩) hb]; exact c1
  · rw [hu.cell (p := ⟨b, o + k * 4 + 2, none⟩) hb]; exact c2
  · rw [hu.cell (p := ⟨b, o + k * 4 + 3, none⟩) hb]; exact c3
theorem cells22 : Try.prog.cellsOf 22 = 1 := by kernel_rfl
theorem cells3 : Try.prog.cellsOf 3 = 1 := by kernel_rfl
theorem cells2 : Try.prog.cellsOf 2 = 1 := by kernel_rfl
theorem list4 {α : Type} {l : List α} (h : l.length = 4) : ∃ a b c d, l = [a, b, c, d] := by
  match l, h with
  | [a, b, c, d], _ => exact ⟨a, b, c, d, rfl⟩
theorem choose_below {α : Type} {P : Nat → α → Prop} {n : Nat} (z : α) (h : ∀ i, i < n → ∃ x, P i x) : ∃ f : Nat → α, ∀ i, i < n → P i (f i) := by
  classical
  refine ⟨fun i => if hi : i < n then Classical.choose (h i hi) else z, fun i hi => ?_⟩
  simp only [dif_pos hi]
  exact Classical.choose_spec (h i hi)

section
variable {H : Type} {enc : TypeId × Value → H} {w : World} {base : Nat} {held : Bool}
end
end Go.Proofs.Ytafiopjgegmfoaa
