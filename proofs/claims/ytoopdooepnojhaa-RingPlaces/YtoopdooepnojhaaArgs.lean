/-
  What the arguments are, as they come in: a ring, whole numbers.
-/
import Derived.Test.YtoopdooepnojhaaTells
import Derived.ProofKit
import Derived.OpenShut
import Derived.ChangeOld
import Derived.Below
import Derived.Deep.Slices
import Derived.Deep.Grids
namespace Go.Proofs.Ytoopdooepnojhaa
open Go.ChangeShapes Go.WideShapes Go.ChangeAt Go.RowKit Go.Deep

theorem cells23 : Try.prog.cellsOf 23 = 4 := by kernel_rfl
theorem cells3 : Try.prog.cellsOf 3 = 1 := by kernel_rfl
theorem list4 {α : Type} {l : List α} (h : l.length = 4) : ∃ a b c d, l = [a, b, c, d] := by
  match l, h with
  | [a, b, c, d], _ => exact ⟨a, b, c, d, rfl⟩
theorem i64_bounds {n : Int} (h : (Lit.int .i64 n).wf = true) : -9223372036854775808 ≤ n ∧ n ≤ 9223372036854775807 := by
  simpa [Lit.wf, IntKind.min, IntKind.max, IntKind.signed, IntKind.bits] using h

/-- The numbers zs lie where the address says; of no numbers nothing is asked. -/
def RdI (w : World) (a : Option Addr) (zs : List Int) : Prop :=
  0 < zs.length → ∃ b o, a = some ⟨b, o, none⟩ ∧ ∀ j (h : j < zs.length), w.cell? ⟨b, o + j, none⟩ = some (.int .i64 zs[j])
theorem RdI.below {B : Nat} {w w' : World} {a : Option Addr} {zs : List Int} (h : RdI w a zs) (hb : Below B w w') (hB : w.heap.size ≤ B) : RdI w' a zs := fun hp => by
  obtain ⟨b, o, e, hc⟩ := h hp
  refine ⟨b, o, e, fun j hj => ?_⟩
  have hlt : b < w.heap.size := block_lt_of_cell (hc j hj)
  rw [hb.cell (p := ⟨b, o + j, none⟩) (Nat.lt_of_lt_of_le hlt hB)]
  exact hc j hj

section
variable {H : Type} {enc : TypeId × Value → H} {w : World} {base : Nat} {held : Bool} {spare : Nat → Bool}

theorem open_super {fuel : Nat} {cs : List Value} {x : DataW H × List MemPlace} (h : DataW.trod enc Try.prog w base spare held fuel 23 cs = some x) :
    ∃ b e q t : Int, cs = [.int .i64 b, .int .i64 e, .int .i64 q, .int .i64 t] := by
  obtain ⟨xs, n, _, _, hl, hlen, hf⟩ := DataW.trod_struct Try.underlying23 h
  rw [cells23] at hl
  obtain ⟨v0, v1, v2, v3, rfl⟩ := list4 hl
  obtain ⟨y0, y1, y2, y3, rfl⟩ := list4 (show xs.length = 4 from hlen)
  have g0 := hf 0 _ rfl
  have g1 := hf 1 _ rfl
  have g2 := hf 2 _ rfl
  have g3 := hf 3 _ rfl
  simp [cells3] at g0 g1 g2 g3
  obtain ⟨n0, h0, _⟩ := DataW.trod_int Try.underlying3 g0
  obtain ⟨n1, h1, _⟩ := DataW.trod_int Try.underlying3 g1
  obtain ⟨n2, h2, _⟩ := DataW.trod_int Try.underlying3 g2
  obtain ⟨n3, h3, _⟩ := DataW.trod_int Try.underlying3 g3
  simp at h0 h1 h2 h3
  subst h0 h1 h2 h3
  exact ⟨n0, n1, n2, n3, rfl⟩

theorem open_introw {fuel : Nat} {cs : List Value} {x : DataW H × List MemPlace} (h : DataW.trod enc Try.prog w base (fun _ => true) held fuel 36 cs = some x) :
    ∃ (a : Option Addr) (n cap : Nat) (zs : List Int), cs = [.slice a n cap] ∧ zs.length = n ∧ RdI w a zs ∧ n ≤ 9223372036854775807 := by
  rcases open_ints Try.underlying36 Try.underlying3 (by kernel_rfl) h with ⟨rfl, _⟩ | ⟨⟨b, o, sp⟩, l, c, zs, rfl, _, hl, hm, hz, _, hcell, hwz⟩
  · exact ⟨none, 0, 0, [], rfl, rfl, fun h => by simp at h, by omega⟩
  · simp only [if_true] at hz
    refine ⟨_, l, c, zs.take l, rfl, by simp; omega, fun hp => ?_, by unfold maxLen at hm; omega⟩
    have h0 := hcell 0 (by simp at hp; omega)
    have hsp : sp = none := by simpa [Addr.add] using World.cell?_spot h0
    subst hsp
    refine ⟨b, o, rfl, fun j hj => ?_⟩
    have hj' : j < zs.length := by simp at hj; omega
    have h := hcell j hj'
    rw [Addr.add_lit] at h
    rw [h]
    simp [List.getD, List.getElem?_eq_getElem hj']
end
end Go.Proofs.Ytoopdooepnojhaa
