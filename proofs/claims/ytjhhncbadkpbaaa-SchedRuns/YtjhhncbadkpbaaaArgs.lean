/-
  What the laws' arguments are, as they come in: lists of what steps do, picks.
-/
import Derived.Test.YtjhhncbadkpbaaaTask
import Derived.OpenShut
import Derived.Deep.Grids
namespace Go.Proofs.Ytjhhncbadkpbaaa
open Go.ChangeShapes Go.WideShapes Go.ChangeAt Go.RowKit Go.Deep

/-- where a list lies, and what it says -/
structure PV where
  la : Option Addr
  ln : Nat
  lc : Nat
  xs : List Do3
def RdDo (w : World) (a : Option Addr) (xs : List Do3) : Prop :=
  0 < xs.length → ∃ b o, a = some ⟨b, o, none⟩ ∧ ∀ j (h : j < xs.length), w.cell? ⟨b, o + j * 3, none⟩ = some (.int .i64 xs[j].tell) ∧ w.cell? ⟨b, o + j * 3 + 1, none⟩ = some (.int .i64 xs[j].wake) ∧ w.cell? ⟨b, o + j * 3 + 2, none⟩ = some (.bool xs[j].inner)
theorem RdDo.row {w : World} {a : Option Addr} {xs : List Do3} (h : RdDo w a xs) : DoRow w w.heap.size a xs := fun h0 => by
  obtain ⟨b, o, rfl, hc⟩ := h h0
  exact ⟨b, o, rfl, hc, .inl (block_lt_of_cell (hc 0 h0).1)⟩
def RdPs (w : World) (a : Option Addr) (ps : List PV) : Prop :=
  0 < ps.length → ∃ b o, a = some ⟨b, o, none⟩ ∧ ∀ j (h : j < ps.length), w.cell? ⟨b, o + j, none⟩ = some (.slice ps[j].la ps[j].ln ps[j].lc) ∧ ps[j].xs.length = ps[j].ln ∧ RdDo w ps[j].la ps[j].xs
def RdK (k : IntKind) (w : World) (a : Option Addr) (zs : List Int) : Prop :=
  0 < zs.length → ∃ b o, a = some ⟨b, o, none⟩ ∧ ∀ j (h : j < zs.length), w.cell? ⟨b, o + j, none⟩ = some (.int k zs[j])
theorem cells45 : Try.prog.cellsOf 45 = 3 := by kernel_rfl
theorem cells43 : Try.prog.cellsOf 43 = 1 := by kernel_rfl
theorem cells3 : Try.prog.cellsOf 3 = 1 := by kernel_rfl
theorem cells4 : Try.prog.cellsOf 4 = 1 := by kernel_rfl
theorem list3 {α : Type} {l : List α} (h : l.length = 3) : ∃ a b c, l = [a, b, c] := by
  match l, h with
  | [a, b, c], _ => exact ⟨a, b, c, rfl⟩
theorem choose_below {α : Type} {P : Nat → α → Prop} {n : Nat} (z : α) (h : ∀ i, i < n → ∃ x, P i x) : ∃ f : Nat → α, ∀ i, i < n → P i (f i) := by
  classical
  refine ⟨fun i => if hi : i < n then Classical.choose (h i hi) else z, fun i hi => ?_⟩
  simp only [dif_pos hi]
  exact Classical.choose_spec (h i hi)

section
variable {H : Type} {enc : TypeId × Value → H} {w : World} {base : Nat} {held : Bool}
theorem open_row {t e : TypeId} {k : IntKind} (ht : Try.prog.underlying t = some (.slice e)) (he : Try.prog.underlying e = some (.int k)) (hc : Try.prog.cellsOf e = 1) {fuel : Nat} {cs : List Value} {x : DataW H × List MemPlace} (h : DataW.trod enc Try.prog w base (fun _ => true) held fuel t cs = some x) :
    ∃ (a : Option Addr) (n cap : Nat) (zs : List Int), cs = [.slice a n cap] ∧ zs.length = n ∧ RdK k w a zs ∧ n ≤ 9223372036854775807 ∧ ∀ z ∈ zs, (Lit.int k z).wf = true := by
  rcases open_ints ht he hc h with ⟨rfl, _⟩ | ⟨⟨b, o, sp⟩, l, c, zs, rfl, _, hl, hm, hz, _, hcell, hwz⟩
  · exact ⟨none, 0, 0, [], rfl, rfl, fun h => by simp at h, by omega, by simp⟩
  · simp only [if_true] at hz
    refine ⟨_, l, c, zs.take l, rfl, by simp; omega, fun hp => ?_, by unfold maxLen at hm; omega, fun z hz => hwz z (List.mem_of_mem_take hz)⟩
    have h0 := hcell 0 (by simp at hp; omega)
    have hsp : sp = none := by simpa [Addr.add] using World.cell?_spot h0
    subst hsp
    refine ⟨b, o, rfl, fun j hj => ?_⟩
    have hj' : j < zs.length := by simp at hj; omega
    have h := hcell j hj'
    rw [Addr.add_lit] at h
    rw [h]
    simp [List.getD, List.getElem?_eq_getElem hj']
theorem open_do {fuel : Nat} {cs : List Value} {x : DataW H × List MemPlace} (h : DataW.trod enc Try.prog w base (fun _ => true) held fuel 45 cs = some x) :
    ∃ d : Do3, cs = [.int .i64 d.tell, .int .i64 d.wake, .bool d.inner] := by
  obtain ⟨xs, n, _, _, hl, hlen, hf⟩ := DataW.trod_struct Try.underlying45 h
  rw [cells45] at hl
  obtain ⟨v0, v1, v2, rfl⟩ := list3 hl
  obtain ⟨y0, y1, y2, rfl⟩ := list3 (show xs.length = 3 from hlen)
  have g0 := hf 0 _ rfl
  have g1 := hf 1 _ rfl
  have g2 := hf 2 _ rfl
  simp [cells3, cells4] at g0 g1 g2
  obtain ⟨n0, h0, _⟩ := DataW.trod_int Try.underlying3 g0
  obtain ⟨n1, h1, _⟩ := DataW.trod_int Try.underlying3 g1
  obtain ⟨b2, h2, _⟩ := DataW.trod_bool Try.underlying4 g2
  simp at h0 h1 h2
  subst h0 h1 h2
  exact ⟨⟨n0, n1, b2⟩, rfl⟩
theorem open_dos {fuel : Nat} {cs : List Value} {x : DataW H × List MemPlace} (h : DataW.trod enc Try.prog w base (fun _ => true) held fuel 43 cs = some x) :
    ∃ (a : Option Addr) (n cap : Nat) (os : List Do3), cs = [.slice a n cap] ∧ os.length = n ∧ RdDo w a os := by
  rcases open_slice Try.underlying43 h with ⟨rfl, _⟩ | ⟨a, len, cap, m, n, D, Pl, rfl, hb, hl, hm, hmm, _, hx⟩
  · exact ⟨none, 0, 0, [], rfl, rfl, fun h => by simp at h⟩
  have hlm : len ≤ m := by rw [hmm]; split <;> omega
  have each : ∀ i, i < len → ∃ o : Do3, w.cell? (a.add (i * 3)) = some (.int .i64 o.tell) ∧ w.cell? (a.add (i * 3 + 1)) = some (.int .i64 o.wake) ∧ w.cell? (a.add (i * 3 + 2)) = some (.bool o.inner) := by
    intro i hi
    obtain ⟨cs', h1, h2⟩ := hx i (by omega)
    rw [cells45] at h1
    obtain ⟨o, rfl⟩ := open_do h2
    obtain ⟨_, hlen, hcell⟩ := World.cells?_some h1
    have e0 := hcell 0 (by omega)
    have e1 := hcell 1 (by omega)
    have e2 := hcell 2 (by omega)
    rw [add_add] at e0 e1 e2
    exact ⟨o, by simpa using e0, by simpa using e1, by simpa using e2⟩
  obtain ⟨f, hf⟩ := choose_below ⟨0, 0, false⟩ each
  refine ⟨some a, len, cap, (List.range len).map f, rfl, by simp, fun hp => ?_⟩
  have hl0 : 0 < len := by simpa using hp
  have h0 := (hf 0 hl0).1
  obtain ⟨b, o, sp⟩ := a
  have hsp : sp = none := by simpa [Addr.add] using World.cell?_spot h0
  subst hsp
  refine ⟨b, o, rfl, fun j hj => ?_⟩
  have hj' : j < len := by simpa using hj
  obtain ⟨g0, g1, g2⟩ := hf j hj'
  rw [Addr.add_lit] at g0 g1 g2
  simp only [List.getElem_map, List.getElem_range]
  exact ⟨g0, by rw [Nat.add_assoc]; exact g1, by rw [Nat.add_assoc]; exact g2⟩
theorem open_progs {fuel : Nat} {cs : List Value} {x : DataW H × List MemPlace} (h : DataW.trod enc Try.prog w base (fun _ => true) held fuel 38 cs = some x) :
    ∃ (a : Option Addr) (n cap : Nat) (ps : List PV), cs = [.slice a n cap] ∧ ps.length = n ∧ RdPs w a ps ∧ n ≤ cap ∧ cap ≤ 9223372036854775807 := by
  rcases open_slice Try.underlying38 h with ⟨rfl, _⟩ | ⟨a, len, cap, m, n, D, Pl, rfl, hb, hl, hm, hmm, _, hx⟩
  · exact ⟨none, 0, 0, [], rfl, rfl, fun h => by simp at h, by omega, by omega⟩
  have hlm : len ≤ m := by rw [hmm]; split <;> omega
  have each : ∀ i, i < len → ∃ o : PV, w.cell? (a.add i) = some (.slice o.la o.ln o.lc) ∧ o.xs.length = o.ln ∧ RdDo w o.la o.xs := by
    intro i hi
    obtain ⟨cs', h1, h2⟩ := hx i (by omega)
    rw [cells43] at h1
    obtain ⟨la, ln, lc, os, rfl, ho, hr⟩ := open_dos h2
    obtain ⟨_, hlen, hcell⟩ := World.cells?_some h1
    have e0 := hcell 0 (by omega)
    rw [add_add] at e0
    exact ⟨⟨la, ln, lc, os⟩, by simpa using e0, ho, hr⟩
  obtain ⟨f, hf⟩ := choose_below ⟨none, 0, 0, []⟩ each
  refine ⟨some a, len, cap, (List.range len).map f, rfl, by simp, fun hp => ?_, hl, by unfold maxLen at hm; omega⟩
  have hl0 : 0 < len := by simpa using hp
  have h0 := (hf 0 hl0).1
  obtain ⟨b, o, sp⟩ := a
  have hsp : sp = none := by simpa [Addr.add] using World.cell?_spot h0
  subst hsp
  refine ⟨b, o, rfl, fun j hj => ?_⟩
  have hj' : j < len := by simpa using hj
  obtain ⟨g0, g1, g2⟩ := hf j hj'
  rw [Addr.add_lit] at g0
  simp only [List.getElem_map, List.getElem_range]
  exact ⟨g0, g1, g2⟩
end
end Go.Proofs.Ytjhhncbadkpbaaa
