/-
  The law's own 'does': what stands while it runs: the program's disk, and four boxes of the law's.
-/
import Derived.Test.YtagnmmapnpcijaaRefAll2
namespace Go.Proofs.Ytagnmmapnpcijaa
open Go.RowKit

variable {K : List (Nat × Obj)}

/-- the program's disk, the blocks K that stay as they are, and four boxes at bx: the document's disk as it came, the operation, the result, the document's disk as it goes -/
structure Sit (K : List (Nat × Obj)) (w0 w : World) (g bx : Nat) (D : DS) (v4 op v6 v8 : Array Value) (F : Nat → Prop) : Prop where
  d : IsDisk w g D F
  f0 : ∀ i, F i → w0.heap.size ≤ i
  bel : Below w0.heap.size w0 w
  ge : w0.heap.size ≤ bx
  nf : ∀ i, bx ≤ i → i < bx + 4 → ¬ F i
  b4 : Box w bx v4 49
  b5 : Box w (bx + 1) op 53
  b6 : Box w (bx + 2) v6 49
  b8 : Box w (bx + 3) v8 49
  k : ∀ p ∈ K, w.heap[p.1]? = some p.2 ∧ ¬ F p.1 ∧ p.1 < bx

theorem Box.upd {F : Nat → Prop} {w w' : World} {g : Nat} {cs : Array Value} {t : TypeId} (h : Box w g cs t) (u : Upd F w w') (hn : ¬ F g) : Box w' g cs t := (u.block g h.lt hn).trans h
theorem Sit.upd {w0 w w' : World} {g bx : Nat} {D D' : DS} {v4 op v6 v8 : Array Value} {F F' : Nat → Prop} (h : Sit K w0 w g bx D v4 op v6 v8 F) (hd : IsDisk w' g D' F') (hF : ∀ i, F' i → F i ∨ w.heap.size ≤ i) (u : Upd F w w') : Sit K w0 w' g bx D' v4 op v6 v8 F' := by
  have l := h.b8.lt
  have z := h.bel.size
  exact ⟨hd, fun i hi => by rcases hF i hi with q | q; exact h.f0 i q; omega, h.bel.trans (u.below h.f0 z), h.ge, fun i h1 h2 hi => by rcases hF i hi with q | q; exact h.nf i h1 h2 q; omega,
    h.b4.upd u (h.nf _ (by omega) (by omega)), h.b5.upd u (h.nf _ (by omega) (by omega)), h.b6.upd u (h.nf _ (by omega) (by omega)), h.b8.upd u (h.nf _ (by omega) (by omega)),
    fun p hp => ⟨(u.block p.1 (by have := (h.k p hp).2.2; omega) (h.k p hp).2.1).trans (h.k p hp).1, fun hi => by rcases hF p.1 hi with q | q; exact (h.k p hp).2.1 q; have := (h.k p hp).2.2; omega, (h.k p hp).2.2⟩⟩
theorem Sit.below {w0 w w' : World} {g bx : Nat} {D : DS} {v4 op v6 v8 : Array Value} {F : Nat → Prop} (h : Sit K w0 w g bx D v4 op v6 v8 F) (b : Below w.heap.size w w') : Sit K w0 w' g bx D v4 op v6 v8 F :=
  ⟨h.d.below b, h.f0, h.bel.trans (b.mono h.bel.size), h.ge, h.nf, h.b4.below b, h.b5.below b, h.b6.below b, h.b8.below b, fun p hp => ⟨(b.block p.1 (by have := (h.k p hp).2.2; have := h.b4.lt; omega)).trans (h.k p hp).1, (h.k p hp).2⟩⟩
theorem below_set {B : Nat} {w w' : World} (b : Below B w w') {g j : Nat} {v : Value} (hg : B ≤ g) (hz : B ≤ w'.heap.size) : Below B w (w'.setCell ⟨g, j, none⟩ v) := by
  refine b.grown (row := some g) (grown_store w' g j v) hz ?_
  intro k hk
  cases hk
  exact hg
theorem Sit.store8 {w0 w : World} {g bx : Nat} {D : DS} {v4 op v6 v8 : Array Value} {F : Nat → Prop} (h : Sit K w0 w g bx D v4 op v6 v8 F) (j : Nat) (v : Value) : Sit K w0 (w.setCell ⟨bx + 3, j, none⟩ v) g bx D v4 op v6 (v8.setIfInBounds j v) F :=
  ⟨h.d.storeOut _ _ _ (h.nf _ (by omega) (by omega)), h.f0, below_set h.bel (by have := h.ge; omega) h.bel.size, h.ge, h.nf, h.b4.away (by omega), h.b5.away (by omega), h.b6.away (by omega), h.b8.store j v, fun p hp => ⟨(heap_setCell_other w ⟨bx + 3, j, none⟩ p.1 v (by have := (h.k p hp).2.2; show p.1 ≠ bx + 3; omega)).trans (h.k p hp).1, (h.k p hp).2⟩⟩
theorem Sit.store6 {w0 w : World} {g bx : Nat} {D : DS} {v4 op v6 v8 : Array Value} {F : Nat → Prop} (h : Sit K w0 w g bx D v4 op v6 v8 F) (j : Nat) (v : Value) : Sit K w0 (w.setCell ⟨bx + 2, j, none⟩ v) g bx D v4 op (v6.setIfInBounds j v) v8 F :=
  ⟨h.d.storeOut _ _ _ (h.nf _ (by omega) (by omega)), h.f0, below_set h.bel (by have := h.ge; omega) h.bel.size, h.ge, h.nf, h.b4.away (by omega), h.b5.away (by omega), h.b6.store j v, h.b8.away (by omega), fun p hp => ⟨(heap_setCell_other w ⟨bx + 2, j, none⟩ p.1 v (by have := (h.k p hp).2.2; show p.1 ≠ bx + 2; omega)).trans (h.k p hp).1, (h.k p hp).2⟩⟩

/-- a struct of six cells is stored -/
def set6 (w : World) (g : Nat) (x0 x1 x2 x3 x4 x5 : Value) : World := (((((w.setCell ⟨g, 0, none⟩ x0).setCell ⟨g, 1, none⟩ x1).setCell ⟨g, 2, none⟩ x2).setCell ⟨g, 3, none⟩ x3).setCell ⟨g, 4, none⟩ x4).setCell ⟨g, 5, none⟩ x5
theorem Sit.set8 {w0 w : World} {g bx : Nat} {D : DS} {v4 op v6 : Array Value} {y0 y1 y2 y3 y4 y5 : Value} {F : Nat → Prop} (h : Sit K w0 w g bx D v4 op v6 #[y0, y1, y2, y3, y4, y5] F) (x0 x1 x2 x3 x4 x5 : Value) : Sit K w0 (set6 w (bx + 3) x0 x1 x2 x3 x4 x5) g bx D v4 op v6 #[x0, x1, x2, x3, x4, x5] F :=
  (((((h.store8 0 x0).store8 1 x1).store8 2 x2).store8 3 x3).store8 4 x4).store8 5 x5
theorem Sit.set6 {w0 w : World} {g bx : Nat} {D : DS} {v4 op v8 : Array Value} {y0 y1 y2 y3 y4 y5 : Value} {F : Nat → Prop} (h : Sit K w0 w g bx D v4 op #[y0, y1, y2, y3, y4, y5] v8 F) (x0 x1 x2 x3 x4 x5 : Value) : Sit K w0 (set6 w (bx + 2) x0 x1 x2 x3 x4 x5) g bx D v4 op #[x0, x1, x2, x3, x4, x5] v8 F :=
  (((((h.store6 0 x0).store6 1 x1).store6 2 x2).store6 3 x3).store6 4 x4).store6 5 x5
theorem RD.set6 {w : World} {Q : Nat → Prop} {a1 a2 : Option Addr} {n1 c1 n2 c2 : Nat} {D : DS} {g : Nat} {cb : Array Value} (h : RD w Q a1 a2 n1 c1 n2 c2 D) (hb : Box w g cb 49) (x0 x1 x2 x3 x4 x5 : Value) : RD (set6 w g x0 x1 x2 x3 x4 x5) Q a1 a2 n1 c1 n2 c2 D := by
  have b1 := hb.store 0 x0
  have b2 := b1.store 1 x1
  have b3 := b2.store 2 x2
  have b4 := b3.store 3 x3
  have b5 := b4.store 4 x4
  exact (((((h.store hb).store b1).store b2).store b3).store b4).store b5
theorem Sit.kk {w0 w : World} {g bx : Nat} {D : DS} {v4 op v6 v8 : Array Value} {F : Nat → Prop} (h : Sit K w0 w g bx D v4 op v6 v8 F) : ∀ p ∈ K, w.heap[p.1]? = some p.2 ∧ ¬ F p.1 := fun p hp => ⟨(h.k p hp).1, (h.k p hp).2.1⟩
end Go.Proofs.Ytagnmmapnpcijaa
