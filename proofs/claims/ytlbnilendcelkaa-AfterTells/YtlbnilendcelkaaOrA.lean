/-
  AfterOrder: its argument; Pick, SameInts.
-/
import Derived.Test.YtlbnilendcelkaaOrT
import Derived.OpenShut
import Derived.Deep.Grids
namespace Go.Proofs.Ytlbnilendcelkaa
open Go.Maps Go.ChangeShapes Go.WideShapes Go.ChangeAt Go.RowKit Go.Deep

/-- a call -/
structure Op4 where
  kind : Int
  i : Int
  v : Int
  ver : Int
/-- calls lie where a says -/
def RdOps (w : World) (a : Option Addr) (os : List Op4) : Prop :=
  0 < os.length → ∃ b o, a = some ⟨b, o, none⟩ ∧ ∀ j (h : j < os.length), w.cell? ⟨b, o + j * 4, none⟩ = some (.int .i64 os[j].kind) ∧ w.cell? ⟨b, o + j * 4 + 1, none⟩ = some (.int .i64 os[j].i) ∧ w.cell? ⟨b, o + j * 4 + 2, none⟩ = some (.int .i64 os[j].v) ∧ w.cell? ⟨b, o + j * 4 + 3, none⟩ = some (.int .i64 os[j].ver)
theorem RdOps.at {w : World} {a : Option Addr} {os : List Op4} (h : RdOps w a os) (u : World) (hu : Below w.heap.size w u) (k : Nat) (hk : k < os.length) : ∃ b o, ∃ x : Op4, a = some ⟨b, o, none⟩ ∧ b < w.heap.size ∧ u.cell? ⟨b, o + k * 4, none⟩ = some (.int .i64 x.kind) ∧ u.cell? ⟨b, o + k * 4 + 1, none⟩ = some (.int .i64 x.i) ∧ u.cell? ⟨b, o + k * 4 + 2, none⟩ = some (.int .i64 x.v) ∧ u.cell? ⟨b, o + k * 4 + 3, none⟩ = some (.int .i64 x.ver) := by
  obtain ⟨b, o, rfl, hc⟩ := h (by omega)
  obtain ⟨c0, c1, c2, c3⟩ := hc k hk
  have hb : b < w.heap.size := block_lt_of_cell c0
  refine ⟨b, o, os[k], rfl, hb, ?_, ?_, ?_, ?_⟩
  · rw [hu.cell (p := ⟨b, o + k * 4, none⟩) hb]; exact c0
  · rw [hu.cell (p := ⟨b, o + k * 4 + 1, none⟩) hb]; exact c1
  · rw [hu.cell (p := ⟨b, o + k * 4 + 2, none⟩) hb]; exact c2
  · rw [hu.cell (p := ⟨b, o + k * 4 + 3, none⟩) hb]; exact c3
theorem cells3 : Try.prog.cellsOf 3 = 1 := by kernel_rfl
theorem cells2 : Try.prog.cellsOf 2 = 1 := by kernel_rfl
theorem list4 {α : Type} {l : List α} (h : l.length = 4) : ∃ a b c d, l = [a, b, c, d] := by
  match l, h with
  | [a, b, c, d], _ => exact ⟨a, b, c, d, rfl⟩
theorem choose_below {α : Type} {P : Nat → α → Prop} {n : Nat} (z : α) (h : ∀ i, i < n → ∃ x, P i x) : ∃ f : Nat → α, ∀ i, i < n → P i (f i) := by
  classical
  refine ⟨fun i => if hi : i < n then Classical.choose (h i hi) else z, fun i hi => ?_⟩
  simp only [dif_pos hi]
  exact Classical.choose_spec (h i hi)

theorem cellsOp : Try.prog.cellsOf 41 = 4 := by kernel_rfl
section
variable {H : Type} {enc : TypeId × Value → H} {w : World} {base : Nat} {held : Bool}
theorem open_op {fuel : Nat} {cs : List Value} {x : DataW H × List MemPlace} (h : DataW.trod enc Try.prog w base (fun _ => true) held fuel 41 cs = some x) :
    ∃ d : Op4, cs = [.int .i64 d.kind, .int .i64 d.i, .int .i64 d.v, .int .i64 d.ver] := by
  obtain ⟨xs, n, _, _, hl, hlen, hf⟩ := DataW.trod_struct Try.underlying41 h
  rw [cellsOp] at hl
  obtain ⟨v0, v1, v2, v3, rfl⟩ := list4 hl
  obtain ⟨y0, y1, y2, y3, rfl⟩ := list4 (show xs.length = 4 from hlen)
  have g0 := hf 0 _ rfl
  have g1 := hf 1 _ rfl
  have g2 := hf 2 _ rfl
  have g3 := hf 3 _ rfl
  simp [cells3, cells2] at g0 g1 g2 g3
  obtain ⟨n0, h0, _⟩ := DataW.trod_int Try.underlying3 g0
  obtain ⟨n1, h1, _⟩ := DataW.trod_int Try.underlying3 g1
  obtain ⟨n2, h2, _⟩ := DataW.trod_int Try.underlying3 g2
  obtain ⟨n3, h3, _⟩ := DataW.trod_int Try.underlying2 g3
  simp at h0 h1 h2 h3
  subst h0 h1 h2 h3
  exact ⟨⟨n0, n1, n2, n3⟩, rfl⟩
theorem open_ops {fuel : Nat} {cs : List Value} {x : DataW H × List MemPlace} (h : DataW.trod enc Try.prog w base (fun _ => true) held fuel 35 cs = some x) :
    ∃ (a : Option Addr) (n cap : Nat) (os : List Op4), cs = [.slice a n cap] ∧ os.length = n ∧ RdOps w a os ∧ n ≤ 9223372036854775807 := by
  rcases open_slice Try.underlying35 h with ⟨rfl, _⟩ | ⟨a, len, cap, m, n, D, Pl, rfl, hb, hl, hm, hmm, _, hx⟩
  · exact ⟨none, 0, 0, [], rfl, rfl, fun h => by simp at h, by omega⟩
  have hlm : len ≤ m := by rw [hmm]; split <;> omega
  have each : ∀ i, i < len → ∃ o : Op4, w.cell? (a.add (i * 4)) = some (.int .i64 o.kind) ∧ w.cell? (a.add (i * 4 + 1)) = some (.int .i64 o.i) ∧ w.cell? (a.add (i * 4 + 2)) = some (.int .i64 o.v) ∧ w.cell? (a.add (i * 4 + 3)) = some (.int .i64 o.ver) := by
    intro i hi
    obtain ⟨cs', h1, h2⟩ := hx i (by omega)
    rw [cellsOp] at h1
    obtain ⟨o, rfl⟩ := open_op h2
    obtain ⟨_, hlen, hcell⟩ := World.cells?_some h1
    have e0 := hcell 0 (by omega)
    have e1 := hcell 1 (by omega)
    have e2 := hcell 2 (by omega)
    have e3 := hcell 3 (by omega)
    rw [add_add] at e0 e1 e2 e3
    exact ⟨o, by simpa using e0, by simpa using e1, by simpa using e2, by simpa using e3⟩
  obtain ⟨f, hf⟩ := choose_below ⟨0, 0, 0, 0⟩ each
  refine ⟨some a, len, cap, (List.range len).map f, rfl, by simp, fun hp => ?_, by unfold maxLen at hm; omega⟩
  have hl0 : 0 < len := by simpa using hp
  have h0 := (hf 0 hl0).1
  obtain ⟨b, o, sp⟩ := a
  have hsp : sp = none := by simpa [Addr.add] using World.cell?_spot h0
  subst hsp
  refine ⟨b, o, rfl, fun j hj => ?_⟩
  have hj' : j < len := by simpa using hj
  obtain ⟨g0, g1, g2, g3⟩ := hf j hj'
  rw [Addr.add_lit] at g0 g1 g2 g3
  simp only [List.getElem_map, List.getElem_range]
  exact ⟨g0, by rw [Nat.add_assoc]; exact g1, by rw [Nat.add_assoc]; exact g2, by rw [Nat.add_assoc]; exact g3⟩
end
theorem kitPick_at (n m : Int) (w : World) (h1 : 1 ≤ m) (h2 : m ≤ 1000) : Calls Try.prog 22 #[.int .i64 n, .int .i64 m] w fun r w' => r = .returned (.int .i64 (n % m)) ∧ w' = w := by
  have e1 : n.tmod m = if 0 ≤ n ∨ n % m = 0 then n % m else n % m - m := by
    by_cases h : 0 ≤ n
    · rw [if_pos (.inl h), Int.tmod_eq_emod_of_nonneg h]
    · have := Int.tmod_eq_emod (a := n) (b := m)
      rw [this]
      have hd : m ∣ n ↔ n % m = 0 := Int.dvd_iff_emod_eq_zero
      by_cases h0 : n % m = 0
      · rw [if_pos (.inr (hd.2 h0)), if_pos (.inr h0)]; omega
      · rw [if_neg (by rintro (h' | h'); exact h h'; exact h0 (hd.1 h')), if_neg (by rintro (h' | h'); exact h h'; exact h0 h')]
        omega
  have hz0 : 0 ≤ n % m := Int.emod_nonneg _ (by omega)
  have hz1 : n % m < m := Int.emod_lt_of_pos _ (by omega)
  have hnz : ¬ (m = 0) := by omega
  have hm1 : ¬ (m < 1) := by omega
  generalize hz : n % m = z at *
  generalize hy : n.tmod m = y at *
  by_cases hc : 0 ≤ n ∨ z = 0
  · rw [if_pos hc] at e1
    subst e1
    have hyl : ¬ y < 0 := by omega
    go_enter Try.func22, Try.ntmps22
    go_wp2
    go_ret
    simp
  · rw [if_neg hc] at e1
    have hyl : y < 0 := by omega
    have hs : y + m = z := by omega
    have hs2 : y = z - m := e1
    clear e1 hc
    subst hs2
    go_enter Try.func22, Try.ntmps22
    go_wp2
    go_ret
    simp


/-- These whole numbers lie where a says (of none nothing is asked). -/
def RdI (w : World) (a : Option Addr) (zs : List Int) : Prop :=
  0 < zs.length → ∃ b o, a = some ⟨b, o, none⟩ ∧ ∀ j (h : j < zs.length), w.cell? ⟨b, o + j, none⟩ = some (.int .i64 zs[j])
theorem RdI.below {B : Nat} {w w' : World} {a : Option Addr} {zs : List Int} (h : RdI w a zs) (hb : Below B w w') (hB : w.heap.size ≤ B) : RdI w' a zs := fun hp => by
  obtain ⟨b, o, ha, hc⟩ := h hp
  refine ⟨b, o, ha, fun j hj => ?_⟩
  have hlt : b < w.heap.size := block_lt_of_cell (hc j hj)
  rw [hb.cell (p := ⟨b, o + j, none⟩) (Nat.lt_of_lt_of_le hlt hB)]
  exact hc j hj

theorem row_rdi {u : World} {B : Nat} {v : Value} {l : List Int} (h : u.ownsRow B 3 1 v l.length (ics l)) : ∃ a c, v = .slice a l.length c ∧ RdI u a l := by
  rcases h.2 with ⟨rfl, h0⟩ | ⟨g, cap, cur, rfl, _⟩
  · exact ⟨none, 0, by rw [h0], fun hp => by omega⟩
  · refine ⟨_, _, rfl, fun _ => ⟨g, 0, rfl, fun j hj => ?_⟩⟩
    obtain ⟨g', cap', e, hc⟩ := ownsRow_cell h j hj
    injection e with e _ _
    injection e with e
    injection e with e
    subst e
    rw [Nat.zero_add, hc, ics, List.getElem?_map, List.getElem?_eq_getElem hj]; rfl
set_option maxRecDepth 100000 in
theorem sameInts_self (n ca cb : Nat) (p p' : Option Addr) (zs : List Int) (w : World) (hl : zs.length = n) (hn : n ≤ 9223372036854775807)
    (h1 : RdI w p zs) (h2 : RdI w p' zs) :
    Calls Try.prog 23 #[.slice p n ca, .slice p' n cb] w fun e w' => e = .returned (.bool true) ∧ Below w.heap.size w w' := by
  have Hl : Hid _ := hl
  have H1 : Hid _ := h1
  have H2 : Hid _ := h2
  clear hl h1 h2
  go_enter Try.func23, Try.ntmps23
  go_wp2_with fail
  go_loopw [5] (fun i wr => ∃ k : Nat, k ≤ n ∧ i = .int .i64 k ∧ ∃ q, wr = w.drewN q) (fun i _ => n - (intOf i).toNat)
  case atStart => exact ⟨0, Nat.zero_le _, rfl, 0, rfl⟩
  case round =>
    obtain ⟨k, hk, rfl, q, rfl⟩ := hrel
    by_cases hlt : k < n
    · have hk' : k < zs.length := by rw [Hl.out]; exact hlt
      obtain ⟨b, o, hp, g1⟩ := H1.out (by omega)
      obtain ⟨b', o', hp', g2⟩ := H2.out (by omega)
      have a1 : (w.drewN q).cell? ⟨b, o + k, none⟩ = some (.int .i64 zs[k]) := g1 k hk'
      have a2 : (w.drewN q).cell? ⟨b', o' + k, none⟩ = some (.int .i64 zs[k]) := g2 k hk'
      clear H1 H2 g1 g2
      subst hp hp'
      generalize (zs[k]'hk') = z at a1 a2
      have hlt2 : (k : Int) < n := by omega
      obtain ⟨V, hV⟩ : ∃ V, V = w.drewN q := ⟨_, rfl⟩
      rw [← hV] at a1 a2 ⊢
      have HV : Hid _ := hV
      clear hV
      go_wp2_with fail
      go_quiet (fail)
      have hz : ∃ q', V.drewN nq = w.drewN q' := by rw [HV.out]; exact ⟨q + nq, by simp [World.drewN, Nat.add_assoc]⟩
      obtain ⟨q', hq'⟩ := hz
      rw [hq']
      clear hq'
      go_wp2
      go_roundw
      case rel => exact ⟨k + 1, by omega, by go_num, q', rfl⟩
      case measure => simp [intOf]; omega
    · obtain rfl : k = n := by omega
      go_wp2
      go_ret
      exact ⟨rfl, ⟨rfl, rfl, rfl, Nat.le_refl _, fun _ _ => rfl⟩⟩
end Go.Proofs.Ytlbnilendcelkaa
