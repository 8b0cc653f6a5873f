/-
  What the arguments are, as they come in: a super, extents, an inode, bytes.
-/
import Derived.Test.YtmhplpiglbamcaaAwake
import Derived.ProofKit
import Derived.OpenShut
import Derived.ChangeOld
import Derived.Below
import Derived.Deep.Slices
import Derived.Deep.Strs
namespace Go.Proofs.Ytmhplpiglbamcaa
open Go.ChangeShapes Go.WideShapes Go.ChangeAt Go.RowKit Go.Deep

theorem cells46 : Try.prog.cellsOf 46 = 3 := by kernel_rfl
theorem cells27 : Try.prog.cellsOf 27 = 4 := by kernel_rfl
theorem cells32 : Try.prog.cellsOf 32 = 5 := by kernel_rfl
theorem cells3 : Try.prog.cellsOf 3 = 1 := by kernel_rfl
theorem cells29 : Try.prog.cellsOf 29 = 1 := by kernel_rfl
theorem cells30 : Try.prog.cellsOf 30 = 1 := by kernel_rfl

theorem list3 {α : Type} {l : List α} (h : l.length = 3) : ∃ a b c, l = [a, b, c] := by
  match l, h with
  | [a, b, c], _ => exact ⟨a, b, c, rfl⟩
theorem list4 {α : Type} {l : List α} (h : l.length = 4) : ∃ a b c d, l = [a, b, c, d] := by
  match l, h with
  | [a, b, c, d], _ => exact ⟨a, b, c, d, rfl⟩
theorem list5 {α : Type} {l : List α} (h : l.length = 5) : ∃ a b c d e, l = [a, b, c, d, e] := by
  match l, h with
  | [a, b, c, d, e], _ => exact ⟨a, b, c, d, e, rfl⟩

section
variable {H : Type} {enc : TypeId × Value → H} {w : World} {base : Nat} {spare : Nat → Bool} {held : Bool}

theorem open_super {fuel : Nat} {cs : List Value} {x : DataW H × List MemPlace} (h : DataW.trod enc Try.prog w base spare held fuel 27 cs = some x) :
    ∃ b e q t : Int, cs = [.int .i64 b, .int .i64 e, .int .i64 q, .int .i64 t] := by
  obtain ⟨xs, n, _, _, hl, hlen, hf⟩ := DataW.trod_struct Try.underlying27 h
  rw [cells27] at hl
  obtain ⟨v0, v1, v2, v3, rfl⟩ := list4 hl
  obtain ⟨y0, y1, y2, y3, rfl⟩ := list4 (show xs.length = 4 from hlen)
  have g0 := hf 0 _ rfl
  have g1 := hf 1 _ rfl
  have g2 := hf 2 _ rfl
  have g3 := hf 3 _ rfl
  simp [cells3] at g0 g1 g2 g3
  obtain ⟨n0, h0, _⟩ := DataW.trod_int Try.underlying3 g0
  obtain ⟨n1, h1, _⟩ := DataW.trod_int Try.underlying3 g1
  obtain ⟨n2, h2, _⟩ := DataW.trod_int Try.underlying3 g2
  obtain ⟨n3, h3, _⟩ := DataW.trod_int Try.underlying3 g3
  simp at h0 h1 h2 h3
  subst h0 h1 h2 h3
  exact ⟨n0, n1, n2, n3, rfl⟩

theorem open_ext {fuel : Nat} {cs : List Value} {x : DataW H × List MemPlace} (h : DataW.trod enc Try.prog w base spare held fuel 46 cs = some x) :
    ∃ e : Ext, wfE e ∧ cs = [.int .i64 e.a, .int .i64 e.s, .int .i64 e.c] := by
  obtain ⟨xs, n, _, _, hl, hlen, hf⟩ := DataW.trod_struct Try.underlying46 h
  rw [cells46] at hl
  obtain ⟨v0, v1, v2, rfl⟩ := list3 hl
  obtain ⟨y0, y1, y2, rfl⟩ := list3 (show xs.length = 3 from hlen)
  have g0 := hf 0 _ rfl
  have g1 := hf 1 _ rfl
  have g2 := hf 2 _ rfl
  simp [cells3] at g0 g1 g2
  obtain ⟨n0, h0, _, w0⟩ := DataW.trod_int Try.underlying3 g0
  obtain ⟨n1, h1, _, w1⟩ := DataW.trod_int Try.underlying3 g1
  obtain ⟨n2, h2, _, w2⟩ := DataW.trod_int Try.underlying3 g2
  simp at h0 h1 h2
  subst h0 h1 h2
  exact ⟨⟨n0, n1, n2⟩, ⟨i64_bounds w0, i64_bounds w1, i64_bounds w2⟩, rfl⟩

/-- extents that came in -/
structure Exts (w : World) (a : Option Addr) (n cap : Nat) (es : List Ext) : Prop where
  len : es.length = n
  rd : RdE w a es
  wf : ∀ e ∈ es, wfE e
  room : n ≤ cap
  max : cap ≤ 9223372036854775807
  nil : a = none → cap = 0

theorem open_exts {fuel : Nat} {cs : List Value} {x : DataW H × List MemPlace} (h : DataW.trod enc Try.prog w base spare held fuel 30 cs = some x) :
    ∃ a n cap es, cs = [.slice a n cap] ∧ Exts w a n cap es := by
  rcases open_slice Try.underlying30 h with ⟨rfl, _⟩ | ⟨a, len, cap, m, n, D, Pl, rfl, hb, hl, hm, hmm, _, hx⟩
  · exact ⟨none, 0, 0, [], rfl, rfl, RdE.nil _ _, by simp, by omega, by omega, fun _ => rfl⟩
  have hlm : len ≤ m := by rw [hmm]; split <;> omega
  have each : ∀ i, i < len → ∃ e : Ext, wfE e ∧ w.cell? (a.add (i * 3)) = some (.int .i64 e.a) ∧ w.cell? (a.add (i * 3 + 1)) = some (.int .i64 e.s) ∧ w.cell? (a.add (i * 3 + 2)) = some (.int .i64 e.c) := by
    intro i hi
    obtain ⟨cs', h1, h2⟩ := hx i (by omega)
    rw [cells46] at h1
    obtain ⟨e, hw, rfl⟩ := open_ext h2
    obtain ⟨_, hlen, hcell⟩ := World.cells?_some h1
    have e0 := hcell 0 (by omega)
    have e1 := hcell 1 (by omega)
    have e2 := hcell 2 (by omega)
    rw [add_add] at e0 e1 e2
    exact ⟨e, hw, by simpa using e0, by simpa using e1, by simpa using e2⟩
  obtain ⟨f, hf⟩ := choose_lt each
  refine ⟨some a, len, cap, (List.range len).map f, rfl, by simp, fun hp => ?_, ?_, hl, by unfold maxLen at hm; omega, fun h => by simp at h⟩
  · have hl0 : 0 < len := by simpa using hp
    have h0 := (hf 0 hl0).2.1
    obtain ⟨b, o, sp⟩ := a
    have hsp : sp = none := by simpa [Addr.add] using World.cell?_spot h0
    subst hsp
    refine ⟨b, o, rfl, fun j hj => ?_⟩
    have hj' : j < len := by simpa using hj
    obtain ⟨_, g0, g1, g2⟩ := hf j hj'
    rw [Addr.add_lit] at g0 g1 g2
    simp only [List.getElem_map, List.getElem_range]
    exact ⟨g0, by rw [Nat.add_assoc]; exact g1, by rw [Nat.add_assoc]; exact g2⟩
  · intro e he
    obtain ⟨j, hj, rfl⟩ := List.mem_map.1 he
    exact (hf j (by simpa using hj)).1

theorem open_inode {fuel : Nat} {cs : List Value} {x : DataW H × List MemPlace} (h : DataW.trod enc Try.prog w base spare held fuel 32 cs = some x) :
    ∃ (k : Nat) (l s d : Int) (a : Option Addr) (n cap : Nat) (es : List Ext), cs = [.int .u8 (k : Int), .int .i64 l, .int .i64 s, .slice a n cap, .int .i64 d] ∧ Exts w a n cap es := by
  obtain ⟨xs, n, _, _, hl, hlen, hf⟩ := DataW.trod_struct Try.underlying32 h
  rw [cells32] at hl
  obtain ⟨v0, v1, v2, v3, v4, rfl⟩ := list5 hl
  obtain ⟨y0, y1, y2, y3, y4, rfl⟩ := list5 (show xs.length = 5 from hlen)
  have g0 := hf 0 _ rfl
  have g1 := hf 1 _ rfl
  have g2 := hf 2 _ rfl
  have g3 := hf 3 _ rfl
  have g4 := hf 4 _ rfl
  simp [cells3, cells29, cells30] at g0 g1 g2 g3 g4
  obtain ⟨n0, h0, _, w0⟩ := DataW.trod_int Try.underlying29 g0
  obtain ⟨n1, h1, _⟩ := DataW.trod_int Try.underlying3 g1
  obtain ⟨n2, h2, _⟩ := DataW.trod_int Try.underlying3 g2
  obtain ⟨a, m, cap, es, h3, ex⟩ := open_exts g3
  obtain ⟨n4, h4, _⟩ := DataW.trod_int Try.underlying3 g4
  simp at h0 h1 h2 h3 h4
  have b0 := u8_bounds w0
  obtain ⟨k, rfl⟩ := Int.eq_ofNat_of_zero_le b0.1
  subst h0 h1 h2 h3 h4
  exact ⟨k, n1, n2, n4, a, m, cap, es, rfl, ex⟩

theorem open_bytes {fuel : Nat} {cs : List Value} {x : DataW H × List MemPlace} (hs : ∀ b, spare b = true) (h : DataW.trod enc Try.prog w base spare held fuel 22 cs = some x) :
    ∃ (a : Option Addr) (n cap : Nat) (xs : List UInt8), cs = [.slice a n cap] ∧ xs.length = n ∧ Rd w a xs ∧ n ≤ cap ∧ cap ≤ 9223372036854775807 ∧ (a = none → cap = 0) := by
  rcases open_ints Try.underlying22 Try.underlying5 (by kernel_rfl) h with ⟨rfl, _⟩ | ⟨x, l, c, zs, rfl, _, hl, hm, hz, _, hcell, hwz⟩
  · exact ⟨none, 0, 0, [], rfl, rfl, Rd.nil _ _, by omega, by omega, fun _ => rfl⟩
  · rw [hs] at hz
    obtain ⟨xs, hxs, hrd⟩ := bytes_of_ints hl (by simpa using hz) hcell hwz
    exact ⟨some x, l, c, xs, rfl, hxs, hrd, hl, by unfold maxLen at hm; omega, fun h => by simp at h⟩
end
end Go.Proofs.Ytmhplpiglbamcaa
