/-
  A memory of six numbers beside the law's own two rows of six.
-/
import Derived.Test.YtinflodnkopcdaaOps2
import Derived.Test.YtinflodnkopcdaaAwake
import Derived.Test.YtinflodnkopcdaaArgs
import Derived.Test.YtinflodnkopcdaaVerP
namespace Go.Proofs.Ytinflodnkopcdaa
open Go.RowKit
structure VS (u : World) (B m vb nb : Nat) (S : M) (X : List Cl) : Prop where
  is : IsM 54 63 u B m S
  six : S.C.length = 6
  gd : Gd S
  xl : X.length = 6
  bv : Box u vb (X.map fun c => c.v).toArray 56
  bn : Box u nb (X.map fun c => Value.int .i64 c.ver).toArray 57
  hv : B ≤ vb
  hn : B ≤ nb
theorem VS.kt {u u' : World} {B m vb nb : Nat} {S : M} {X : List Cl} (h : VS u B m vb nb S X) {p : TypeId → Prop} (hk : Kt p u u') (h1 : p 54) (h2 : p 63) (h3 : p 56) (h4 : p 57) : VS u' B m vb nb S X :=
  ⟨h.is.kt hk h1 h2, h.six, h.gd, h.xl, hk _ _ _ h.bv h3, hk _ _ _ h.bn h4, h.hv, h.hn⟩
theorem VS.below {u u' : World} {B m vb nb : Nat} {S : M} {X : List Cl} (h : VS u B m vb nb S X) (hb : Below u.heap.size u u') : VS u' B m vb nb S X := h.kt (p := fun _ => True) (Kt.below hb) trivial trivial trivial trivial
theorem VS.to {u u' : World} {B m vb nb : Nat} {S S' : M} {X : List Cl} (h : VS u B m vb nb S X) (t : To 54 63 u B m S' u') (hl : S'.C.length = S.C.length) (hg : Gd S') : VS u' B m vb nb S' X :=
  ⟨t.is, hl.trans h.six, hg, h.xl, t.kt _ _ _ h.bv (by decide), t.kt _ _ _ h.bn (by decide), h.hv, h.hn⟩
theorem map_set_at {α β : Type} (f : α → β) (l : List α) (i : Nat) (x : α) : (l.set i x).map f = (l.map f).set i (f x) := by
  rw [List.map_set]
theorem VS.put {u : World} {B m vb nb : Nat} {S : M} {X : List Cl} (h : VS u B m vb nb S X) (i : Nat) (c : Cl) : VS ((u.setCell ⟨vb, i, none⟩ c.v).setCell ⟨nb, i, none⟩ (.int .i64 c.ver)) B m vb nb S (X.set i c) := by
  have k1 : Kt (fun t => t ≠ 56) u (u.setCell ⟨vb, i, none⟩ c.v) := (Kt.refl _ _).setCell h.bv (by simp) i _
  have b1 := h.bv.store i c.v
  have b2 : Box (u.setCell ⟨vb, i, none⟩ c.v) nb _ 57 := k1 _ _ _ h.bn (by decide)
  have k2 : Kt (fun t => t ≠ 57) (u.setCell ⟨vb, i, none⟩ c.v) ((u.setCell ⟨vb, i, none⟩ c.v).setCell ⟨nb, i, none⟩ (.int .i64 c.ver)) := (Kt.refl _ _).setCell b2 (by simp) i _
  have b3 := b2.store i (.int .i64 c.ver)
  rw [List.setIfInBounds_toArray] at b1 b3
  refine ⟨(h.is.kt k1 (by decide) (by decide)).kt k2 (by decide) (by decide), h.six, h.gd, by simpa using h.xl, ?_, ?_, h.hv, h.hn⟩
  · rw [map_set_at]; exact k2 _ _ _ b1 (by decide)
  · rw [map_set_at]; exact b3
theorem VS.put_below {u : World} {B m vb nb : Nat} {S : M} {X : List Cl} (h : VS u B m vb nb S X) (i : Nat) (a b : Value) : Below B u ((u.setCell ⟨vb, i, none⟩ a).setCell ⟨nb, i, none⟩ b) := by
  have g1 := grown_store u vb i a
  have g2 := grown_store (u.setCell ⟨vb, i, none⟩ a) nb i b
  have hB := h.is.hB
  have h1 := h.hv
  have h2 := h.hn
  exact (⟨g1.os, g1.tape, g1.output, g1.size, fun k hk => g1.block k (by omega) (by simp; omega)⟩ : Below B u _).trans ⟨g2.os, g2.tape, g2.output, g2.size, fun k hk => g2.block k (by have := g1.size; omega) (by simp; omega)⟩
theorem VS.cells {u : World} {B m vb nb : Nat} {S : M} {X : List Cl} (h : VS u B m vb nb S X) {i : Nat} {c : Cl} (hc : X[i]? = some c) : u.cell? ⟨vb, i, none⟩ = some c.v ∧ u.cell? ⟨nb, i, none⟩ = some (.int .i64 c.ver) ∧ u.frozen? ⟨vb, i, none⟩ = false ∧ u.frozen? ⟨nb, i, none⟩ = false :=
  ⟨by rw [h.bv.cell]; simp [hc], by rw [h.bn.cell]; simp [hc], h.bv.frozen i, h.bn.frozen i⟩
/-- at the beginning -/
theorem VS.start {w1 : World} {B m : Nat} (h : IsM 54 63 w1 B m (M0 6)) : VS ((w1.alloc (.cells #[.int .i64 0, .int .i64 0, .int .i64 0, .int .i64 0, .int .i64 0, .int .i64 0] 56)).alloc (.cells #[.int .i64 0, .int .i64 0, .int .i64 0, .int .i64 0, .int .i64 0, .int .i64 0] 57)) B m w1.heap.size (w1.heap.size + 1) (M0 6) (M0 6).C := by
  have hB := h.hB
  have x1 := (Box.new w1 #[.int .i64 0, .int .i64 0, .int .i64 0, .int .i64 0, .int .i64 0, .int .i64 0] 56).alloc (.cells #[.int .i64 0, .int .i64 0, .int .i64 0, .int .i64 0, .int .i64 0, .int .i64 0] 57)
  have x2 := Box.new (w1.alloc (.cells #[.int .i64 0, .int .i64 0, .int .i64 0, .int .i64 0, .int .i64 0, .int .i64 0] 56)) #[.int .i64 0, .int .i64 0, .int .i64 0, .int .i64 0, .int .i64 0, .int .i64 0] 57
  have e1 : (w1.alloc (.cells #[.int .i64 0, .int .i64 0, .int .i64 0, .int .i64 0, .int .i64 0, .int .i64 0] 56)).heap.size = w1.heap.size + 1 := by simp
  rw [e1] at x2
  have bb := ((Below.refl w1.heap.size w1).alloc (Nat.le_refl _) (.cells #[.int .i64 0, .int .i64 0, .int .i64 0, .int .i64 0, .int .i64 0, .int .i64 0] 56)).alloc (by rw [e1]; omega) (.cells #[.int .i64 0, .int .i64 0, .int .i64 0, .int .i64 0, .int .i64 0, .int .i64 0] 57)
  exact ⟨h.below bb, rfl, ⟨fun c hc => by simp [M0] at hc; rw [hc]; exact ⟨0, rfl⟩, fun c hc => by simp [M0] at hc; rw [hc]; exact ⟨Int.le_refl _, Int.le_refl _⟩⟩, rfl, x1, x2, hB, by omega⟩
end Go.Proofs.Ytinflodnkopcdaa
