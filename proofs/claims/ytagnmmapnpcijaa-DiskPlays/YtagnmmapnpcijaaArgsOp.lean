/-
  What a script is as it comes in.
-/
import Derived.Test.YtagnmmapnpcijaaPlays
import Derived.Test.YtagnmmapnpcijaaArgsB
namespace Go.Proofs.Ytagnmmapnpcijaa
open Go.ChangeShapes Go.WideShapes Go.ChangeAt Go.RowKit Go.Deep

theorem cells53 : Try.prog.cellsOf 53 = 6 := by kernel_rfl
theorem cells3' : Try.prog.cellsOf 3 = 1 := by kernel_rfl
theorem cells30' : Try.prog.cellsOf 30 = 1 := by kernel_rfl
theorem cells5' : Try.prog.cellsOf 5 = 1 := by kernel_rfl
theorem list6 {α : Type} {l : List α} (h : l.length = 6) : ∃ a b c d e f, l = [a, b, c, d, e, f] := by
  match l, h with
  | [a, b, c, d, e, f], _ => exact ⟨a, b, c, d, e, f, rfl⟩
theorem choose_below {α : Type} {P : Nat → α → Prop} {n : Nat} (z : α) (h : ∀ i, i < n → ∃ x, P i x) : ∃ f : Nat → α, ∀ i, i < n → P i (f i) := by
  classical
  refine ⟨fun i => if hi : i < n then Classical.choose (h i hi) else z, fun i hi => ?_⟩
  simp only [dif_pos hi]
  exact Classical.choose_spec (h i hi)

section
variable {H : Type} {enc : TypeId × Value → H} {w : World} {base : Nat} {held : Bool}

theorem open_op {fuel : Nat} {cs : List Value} {x : DataW H × List MemPlace} (h : DataW.trod enc Try.prog w base (fun _ => true) held fuel 53 cs = some x) :
    ∃ o : OpV, OpOk w o ∧ cs = [.int .i64 o.k, .int .i64 o.n, .int .i64 o.sz, .int .i64 o.b, .slice o.ak o.nk o.ck, .int .u8 (o.m : Int)] := by
  obtain ⟨xs, n, _, _, hl, hlen, hf⟩ := DataW.trod_struct Try.underlying53 h
  rw [cells53] at hl
  obtain ⟨v0, v1, v2, v3, v4, v5, rfl⟩ := list6 hl
  obtain ⟨y0, y1, y2, y3, y4, y5, rfl⟩ := list6 (show xs.length = 6 from hlen)
  have g0 := hf 0 _ rfl
  have g1 := hf 1 _ rfl
  have g2 := hf 2 _ rfl
  have g3 := hf 3 _ rfl
  have g4 := hf 4 _ rfl
  have g5 := hf 5 _ rfl
  simp [cells3', cells30', cells5'] at g0 g1 g2 g3 g4 g5
  obtain ⟨n0, h0, _⟩ := DataW.trod_int Try.underlying3 g0
  obtain ⟨n1, h1, _, w1⟩ := DataW.trod_int Try.underlying3 g1
  obtain ⟨n2, h2, _⟩ := DataW.trod_int Try.underlying3 g2
  obtain ⟨n3, h3, _⟩ := DataW.trod_int Try.underlying3 g3
  obtain ⟨a, m, cap, ks, h4, hk, hr, hm⟩ := open_boolrow g4
  obtain ⟨n5, h5, _, w5⟩ := DataW.trod_int Try.underlying5 g5
  simp at h0 h1 h2 h3 h4 h5
  have b1 := i64_bounds w1
  have b5 := u8_bounds w5
  obtain ⟨k5, rfl⟩ := Int.eq_ofNat_of_zero_le b5.1
  subst h0 h1 h2 h3 h4 h5
  refine ⟨⟨n0, n1, n2, n3, a, m, cap, k5⟩, ⟨b1.2, by have := b5.2; show k5 < 256; omega, ks, hk, hm, hr, fun ad e h0 => ?_⟩, rfl⟩
  obtain ⟨b, o, e2, hc⟩ := hr (by have : ks.length = m := hk; have : 0 < m := h0; omega)
  have e3 : some ad = some (⟨b, o, none⟩ : Addr) := by
    have : a = some ad := e
    rw [← this, e2]
  injection e3 with e3
  subst e3
  have h00 : 0 < m := h0
  exact block_lt_of_cell (hc 0 (by omega))

theorem open_ops {fuel : Nat} {cs : List Value} {x : DataW H × List MemPlace} (h : DataW.trod enc Try.prog w base (fun _ => true) held fuel 44 cs = some x) :
    ∃ (a : Option Addr) (n cap : Nat) (os : List OpV), cs = [.slice a n cap] ∧ os.length = n ∧ RdOp w a os := by
  rcases open_slice Try.underlying44 h with ⟨rfl, _⟩ | ⟨a, len, cap, m, n, D, Pl, rfl, hb, hl, hm, hmm, _, hx⟩
  · exact ⟨none, 0, 0, [], rfl, rfl, fun h => by simp at h⟩
  have hlm : len ≤ m := by rw [hmm]; split <;> omega
  have each : ∀ i, i < len → ∃ o : OpV, OpOk w o ∧ w.cell? (a.add (i * 6)) = some (.int .i64 o.k) ∧ w.cell? (a.add (i * 6 + 1)) = some (.int .i64 o.n) ∧ w.cell? (a.add (i * 6 + 2)) = some (.int .i64 o.sz) ∧ w.cell? (a.add (i * 6 + 3)) = some (.int .i64 o.b) ∧ w.cell? (a.add (i * 6 + 4)) = some (.slice o.ak o.nk o.ck) ∧ w.cell? (a.add (i * 6 + 5)) = some (.int .u8 (o.m : Int)) := by
    intro i hi
    obtain ⟨cs', h1, h2⟩ := hx i (by omega)
    rw [cells53] at h1
    obtain ⟨o, hw, rfl⟩ := open_op h2
    obtain ⟨_, hlen, hcell⟩ := World.cells?_some h1
    have e0 := hcell 0 (by omega)
    have e1 := hcell 1 (by omega)
    have e2 := hcell 2 (by omega)
    have e3 := hcell 3 (by omega)
    have e4 := hcell 4 (by omega)
    have e5 := hcell 5 (by omega)
    rw [add_add] at e0 e1 e2 e3 e4 e5
    exact ⟨o, hw, by simpa using e0, by simpa using e1, by simpa using e2, by simpa using e3, by simpa using e4, by simpa using e5⟩
  obtain ⟨f, hf⟩ := choose_below ⟨0, 0, 0, 0, none, 0, 0, 0⟩ each
  refine ⟨some a, len, cap, (List.range len).map f, rfl, by simp, fun hp => ?_⟩
  have hl0 : 0 < len := by simpa using hp
  have h0 := (hf 0 hl0).2.1
  obtain ⟨b, o, sp⟩ := a
  have hsp : sp = none := by simpa [Addr.add] using World.cell?_spot h0
  subst hsp
  refine ⟨b, o, rfl, block_lt_of_cell (by rw [Addr.add_lit] at h0; exact h0), fun j hj => ?_⟩
  have hj' : j < len := by simpa using hj
  obtain ⟨hw, g0, g1, g2, g3, g4, g5⟩ := hf j hj'
  rw [Addr.add_lit] at g0 g1 g2 g3 g4 g5
  simp only [List.getElem_map, List.getElem_range]
  exact ⟨hw, g0, by rw [Nat.add_assoc]; exact g1, by rw [Nat.add_assoc]; exact g2, by rw [Nat.add_assoc]; exact g3, by rw [Nat.add_assoc]; exact g4, by rw [Nat.add_assoc]; exact g5⟩
end
end Go.Proofs.Ytagnmmapnpcijaa
