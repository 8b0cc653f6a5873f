/-
  What the arguments are, as they come in: bytes, images, a group.
-/
import Derived.Test.YtghcmlkgpedkkaaLow
import Derived.ProofKit
import Derived.OpenShut
import Derived.ChangeOld
import Derived.Below
import Derived.Deep.Slices
import Derived.Deep.Strs
namespace Go.Proofs.Ytghcmlkgpedkkaa
open Go.ChangeShapes Go.WideShapes Go.ChangeAt Go.RowKit Go.Deep

theorem cells38 : Try.prog.cellsOf 38 = 2 := by kernel_rfl
theorem cells28 : Try.prog.cellsOf 28 = 3 := by kernel_rfl
theorem cells26 : Try.prog.cellsOf 26 = 1 := by kernel_rfl
theorem cells31 : Try.prog.cellsOf 31 = 1 := by kernel_rfl
theorem cells3 : Try.prog.cellsOf 3 = 1 := by kernel_rfl
theorem list2 {α : Type} {l : List α} (h : l.length = 2) : ∃ a b, l = [a, b] := by
  match l, h with
  | [a, b], _ => exact ⟨a, b, rfl⟩
theorem list3 {α : Type} {l : List α} (h : l.length = 3) : ∃ a b c, l = [a, b, c] := by
  match l, h with
  | [a, b, c], _ => exact ⟨a, b, c, rfl⟩
theorem choose_below {α : Type} {P : Nat → α → Prop} {n : Nat} (z : α) (h : ∀ i, i < n → ∃ x, P i x) : ∃ f : Nat → α, ∀ i, i < n → P i (f i) := by
  classical
  refine ⟨fun i => if hi : i < n then Classical.choose (h i hi) else z, fun i hi => ?_⟩
  simp only [dif_pos hi]
  exact Classical.choose_spec (h i hi)

section
variable {H : Type} {enc : TypeId × Value → H} {w : World} {base : Nat} {held : Bool}

theorem open_bytes {fuel : Nat} {cs : List Value} {x : DataW H × List MemPlace} (h : DataW.trod enc Try.prog w base (fun _ => true) held fuel 31 cs = some x) :
    ∃ (a : Option Addr) (n cap : Nat) (xs : List UInt8), cs = [.slice a n cap] ∧ xs.length = n ∧ Rd w a xs ∧ n ≤ cap ∧ cap ≤ 9223372036854775807 ∧ (a = none → cap = 0) := by
  rcases open_ints Try.underlying31 Try.underlying5 (by kernel_rfl) h with ⟨rfl, _⟩ | ⟨x, l, c, zs, rfl, _, hl, hm, hz, _, hcell, hwz⟩
  · exact ⟨none, 0, 0, [], rfl, rfl, Rd.nil _ _, by omega, by omega, fun _ => rfl⟩
  · obtain ⟨xs, hxs, hrd⟩ := bytes_of_ints hl (by simpa using hz) hcell hwz
    exact ⟨some x, l, c, xs, rfl, hxs, hrd, hl, by unfold maxLen at hm; omega, fun h => by simp at h⟩

theorem open_img {fuel : Nat} {cs : List Value} {x : DataW H × List MemPlace} (h : DataW.trod enc Try.prog w base (fun _ => true) held fuel 38 cs = some x) :
    ∃ (b : Int) (a : Option Addr) (cap : Nat) (xs : List UInt8), cs = [.int .i64 b, .slice a xs.length cap] ∧ Rd w a xs ∧ xs.length ≤ cap ∧ cap ≤ 9223372036854775807 ∧ (a = none → cap = 0) := by
  obtain ⟨xs, n, _, _, hl, hlen, hf⟩ := DataW.trod_struct Try.underlying38 h
  rw [cells38] at hl
  obtain ⟨v0, v1, rfl⟩ := list2 hl
  obtain ⟨y0, y1, rfl⟩ := list2 (show xs.length = 2 from hlen)
  have g0 := hf 0 _ rfl
  have g1 := hf 1 _ rfl
  simp [cells3, cells31] at g0 g1
  obtain ⟨n0, h0, _⟩ := DataW.trod_int Try.underlying3 g0
  obtain ⟨a, m, cap, ys, h1, hy, hr, q1, q2, q3⟩ := open_bytes g1
  simp at h0 h1
  subst h0 h1 hy
  exact ⟨n0, a, cap, ys, rfl, hr, q1, q2, q3⟩

theorem open_imgs {fuel : Nat} {cs : List Value} {x : DataW H × List MemPlace} (h : DataW.trod enc Try.prog w base (fun _ => true) held fuel 26 cs = some x) :
    ∃ (a : Option Addr) (n cap : Nat) (is : List (Int × List UInt8)), cs = [.slice a n cap] ∧ is.length = n ∧ Imgs w a is ∧ n ≤ cap := by
  rcases open_slice Try.underlying26 h with ⟨rfl, _⟩ | ⟨a, len, cap, m, n, D, Pl, rfl, hb, hl, hm, hmm, _, hx⟩
  · exact ⟨none, 0, 0, [], rfl, rfl, fun h => by simp at h, by omega⟩
  have hlm : len ≤ m := by rw [hmm]; split <;> omega
  have each : ∀ i, i < len → ∃ z : Int × List UInt8, w.cell? (a.add (i * 2)) = some (.int .i64 z.1) ∧ ∃ x c, w.cell? (a.add (i * 2 + 1)) = some (.slice x z.2.length c) ∧ z.2.length ≤ c ∧ c ≤ 9223372036854775807 ∧ (x = none → c = 0) ∧ Rd w x z.2 := by
    intro i hi
    obtain ⟨cs', h1, h2⟩ := hx i (by omega)
    rw [cells38] at h1
    obtain ⟨bb, ad, cp, ys, rfl, hr, q1, q2, q3⟩ := open_img h2
    obtain ⟨_, hlen, hcell⟩ := World.cells?_some h1
    have e0 := hcell 0 (by omega)
    have e1 := hcell 1 (by omega)
    rw [add_add] at e0 e1
    exact ⟨(bb, ys), by simpa using e0, ad, cp, by simpa using e1, q1, q2, q3, hr⟩
  obtain ⟨f, hf⟩ := choose_below (0, []) each
  refine ⟨some a, len, cap, (List.range len).map f, rfl, by simp, fun hp => ?_, hl⟩
  · have hl0 : 0 < len := by simpa using hp
    have h0 := (hf 0 hl0).1
    obtain ⟨b, o, sp⟩ := a
    have hsp : sp = none := by simpa [Addr.add] using World.cell?_spot h0
    subst hsp
    refine ⟨b, o, rfl, fun j hj => ?_⟩
    have hj' : j < len := by simpa using hj
    obtain ⟨g0, x, c, g1, g2⟩ := hf j hj'
    rw [Addr.add_lit] at g0 g1
    simp only [List.getElem_map, List.getElem_range]
    exact ⟨g0, x, c, by rw [Nat.add_assoc]; exact g1, g2⟩

theorem open_group {fuel : Nat} {cs : List Value} {x : DataW H × List MemPlace} (h : DataW.trod enc Try.prog w base (fun _ => true) held fuel 28 cs = some x) :
    ∃ (e s : Int) (a : Option Addr) (n cap : Nat) (is : List (Int × List UInt8)), cs = [.int .i64 e, .int .i64 s, .slice a n cap] ∧ is.length = n ∧ Imgs w a is ∧ n ≤ cap := by
  obtain ⟨xs, n, _, _, hl, hlen, hf⟩ := DataW.trod_struct Try.underlying28 h
  rw [cells28] at hl
  obtain ⟨v0, v1, v2, rfl⟩ := list3 hl
  obtain ⟨y0, y1, y2, rfl⟩ := list3 (show xs.length = 3 from hlen)
  have g0 := hf 0 _ rfl
  have g1 := hf 1 _ rfl
  have g2 := hf 2 _ rfl
  simp [cells3, cells26] at g0 g1 g2
  obtain ⟨n0, h0, _⟩ := DataW.trod_int Try.underlying3 g0
  obtain ⟨n1, h1, _⟩ := DataW.trod_int Try.underlying3 g1
  obtain ⟨a, m, cap, is, h2, q⟩ := open_imgs g2
  simp at h0 h1 h2
  subst h0 h1 h2
  exact ⟨n0, n1, a, m, cap, is, rfl, q⟩
end
end Go.Proofs.Ytghcmlkgpedkkaa
