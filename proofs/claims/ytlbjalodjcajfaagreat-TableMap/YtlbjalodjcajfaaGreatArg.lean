/-
  The laws' arguments: entries, calls.
-/
import Derived.Test.YtlbjalodjcajfaaGreatRst
import Derived.OpenShut
import Derived.ChangeArms
import Derived.Deep.Grids
namespace Go.Proofs.YtlbjalodjcajfaaGreat
open Go.Maps Go.ChangeShapes Go.WideShapes Go.ChangeAt Go.RowKit Go.Deep
theorem list3 {α : Type} {l : List α} (h : l.length = 3) : ∃ a b c, l = [a, b, c] := by
  match l, h with
  | [a, b, c], _ => exact ⟨a, b, c, rfl⟩
theorem choose_below {α : Type} {P : Nat → α → Prop} {n : Nat} (z : α) (h : ∀ i, i < n → ∃ x, P i x) : ∃ f : Nat → α, ∀ i, i < n → P i (f i) := by
  classical
  refine ⟨fun i => if hi : i < n then Classical.choose (h i hi) else z, fun i hi => ?_⟩
  simp only [dif_pos hi]
  exact Classical.choose_spec (h i hi)
theorem cells3 : Tryz.prog.cellsOf 3 = 1 := by kernel_rfl
theorem cells4 : Tryz.prog.cellsOf 4 = 1 := by kernel_rfl
theorem cells9 : Tryz.prog.cellsOf 9 = 1 := by kernel_rfl
theorem cells37 : Tryz.prog.cellsOf 37 = 3 := by kernel_rfl
/-- a call -/
structure Oq where
  kind : Int
  k : ByteArray
  v : ByteArray
/-- calls that may be read -/
def RdO (u : World) (a : Option Addr) (l : List Oq) : Prop := ∀ i e, l[i]? = some e → ∃ b o, a = some ⟨b, o, none⟩ ∧ b < u.heap.size ∧ u.cell? ⟨b, o + i * 3, none⟩ = some (.int .i64 e.kind) ∧ u.cell? ⟨b, o + i * 3 + 1, none⟩ = some (.string e.k) ∧ u.cell? ⟨b, o + i * 3 + 2, none⟩ = some (.string e.v) ∧ e.k.size ≤ maxLen
theorem RdO.below {u u' : World} {a : Option Addr} {l : List Oq} (h : RdO u a l) (hb : Below u.heap.size u u') : RdO u' a l := fun i e hi => by
  obtain ⟨b, o, h1, h2, h3, h4, h5, h6⟩ := h i e hi
  exact ⟨b, o, h1, Nat.lt_of_lt_of_le h2 hb.size, (hb.cell (p := ⟨b, _, none⟩) h2).trans h3, (hb.cell (p := ⟨b, _, none⟩) h2).trans h4, (hb.cell (p := ⟨b, _, none⟩) h2).trans h5, h6⟩
section
variable {H : Type} {enc : TypeId × Value → H} {w : World} {base : Nat} {held : Bool}
theorem trod_str {t : TypeId} {fuel : Nat} {cs : List Value} {x : DataW H × List MemPlace} (ht : Tryz.prog.underlying t = some .string) (h : DataW.trod enc Tryz.prog w base (fun _ => true) held fuel t cs = some x) : ∃ s : ByteArray, cs = [.string s] ∧ s.size ≤ maxLen := by
  cases fuel with
  | zero => simp [DataW.trod] at h
  | succ n =>
    unfold DataW.trod at h
    rw [ht] at h
    split at h <;> simp_all
theorem open_oq {fuel : Nat} {cs : List Value} {x : DataW H × List MemPlace} (h : DataW.trod enc Tryz.prog w base (fun _ => true) held fuel 37 cs = some x) :
    ∃ d : Oq, cs = [.int .i64 d.kind, .string d.k, .string d.v] ∧ d.k.size ≤ maxLen := by
  obtain ⟨xs, n, _, _, hl, hlen, hf⟩ := DataW.trod_struct Tryz.underlying37 h
  rw [cells37] at hl
  obtain ⟨v0, v1, v2, rfl⟩ := list3 hl
  obtain ⟨y0, y1, y2, rfl⟩ := list3 (show xs.length = 3 from hlen)
  have g0 := hf 0 _ rfl
  have g1 := hf 1 _ rfl
  have g2 := hf 2 _ rfl
  simp [cells3, cells9] at g0 g1 g2
  obtain ⟨n0, h0, _⟩ := DataW.trod_int Tryz.underlying3 g0
  obtain ⟨n1, h1, z1⟩ := trod_str Tryz.underlying9 g1
  obtain ⟨n2, h2, _⟩ := trod_str Tryz.underlying9 g2
  simp at h0 h1 h2
  subst h0 h1 h2
  exact ⟨⟨n0, n1, n2⟩, rfl, z1⟩
theorem open_oqs {fuel : Nat} {cs : List Value} {x : DataW H × List MemPlace} (h : DataW.trod enc Tryz.prog w base (fun _ => true) held fuel 22 cs = some x) :
    ∃ (a : Option Addr) (n cap : Nat) (os : List Oq), cs = [.slice a n cap] ∧ os.length = n ∧ RdO w a os ∧ n ≤ 9223372036854775807 := by
  rcases open_slice Tryz.underlying22 h with ⟨rfl, _⟩ | ⟨a, len, cap, m, n, D, Pl, rfl, hb, hl, hm, hmm, _, hx⟩
  · exact ⟨none, 0, 0, [], rfl, rfl, fun i e h => by simp at h, by omega⟩
  have hlm : len ≤ m := by rw [hmm]; split <;> omega
  have each : ∀ i, i < len → ∃ o : Oq, w.cell? (a.add (i * 3)) = some (.int .i64 o.kind) ∧ w.cell? (a.add (i * 3 + 1)) = some (.string o.k) ∧ w.cell? (a.add (i * 3 + 2)) = some (.string o.v) ∧ o.k.size ≤ maxLen := by
    intro i hi
    obtain ⟨cs', h1, h2⟩ := hx i (by omega)
    rw [cells37] at h1
    obtain ⟨o, rfl, hz⟩ := open_oq h2
    obtain ⟨_, hlen, hcell⟩ := World.cells?_some h1
    have e0 := hcell 0 (by omega)
    have e1 := hcell 1 (by omega)
    have e2 := hcell 2 (by omega)
    rw [add_add] at e0 e1 e2
    exact ⟨o, by simpa using e0, by simpa using e1, by simpa using e2, hz⟩
  obtain ⟨f, hf⟩ := choose_below ⟨0, ⟨#[]⟩, ⟨#[]⟩⟩ each
  refine ⟨some a, len, cap, (List.range len).map f, rfl, by simp, fun i e hi => ?_, by unfold maxLen at hm; omega⟩
  have hil := (List.getElem?_eq_some_iff.1 hi).1
  have hi' : i < len := by simpa using hil
  have hie : f i = e := by simpa [hi'] using hi
  obtain ⟨g0, g1, g2, g3⟩ := hf i hi'
  have h0 := (hf 0 (by omega)).1
  obtain ⟨b, o, sp⟩ := a
  have hsp : sp = none := by simpa [Addr.add] using World.cell?_spot h0
  clear h0
  subst hsp
  rw [Addr.add_lit] at g0 g1 g2
  rw [hie] at g0 g1 g2 g3
  exact ⟨b, o, rfl, block_lt_of_cell g0, g0, by rw [Nat.add_assoc]; exact g1, by rw [Nat.add_assoc]; exact g2, g3⟩
end
end Go.Proofs.YtlbjalodjcajfaaGreat
