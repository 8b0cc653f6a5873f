/-
  Copy, for both disks; the law's own boxes among what stays.
-/
import Derived.Test.YtagnmmapnpcijaaDoesAll
namespace Go.Proofs.Ytagnmmapnpcijaa
open Go.RowKit

variable {K : List (Nat × Obj)}
theorem RD.copy {w : World} {Q : Nat → Prop} {a1 a2 : Option Addr} {n1 c1 n2 c2 : Nat} {D : DS} (h : RD w Q a1 a2 n1 c1 n2 c2 D) : RD w Q a1 a2 n1 c1 n2 c2 D.copy :=
  ⟨h.safe, h.wr, ⟨h.ok.len, h.ok.lo, h.ok.hi, h.ok.each, h.ok.arm, h.ok.fail⟩⟩
theorem both_copy {w0 w : World} {g : Nat} {D : DS} {a1 a2 : Option Addr} {n1 c1 n2 c2 : Nat} (h : Both K w0 w g D (.agg (refA a1 a2 n1 c1 n2 c2 D))) (hlim : D.uf.length ≤ 1000000) :
    Calls Try.prog 17 #[.pointer (some ⟨g, 0, none⟩)] w fun e w' => ∃ gc, e = .returned (.pointer (some ⟨gc, 0, none⟩)) ∧ Both K w0 w' gc D.copy (.agg (refA a1 a2 n1 c1 n2 c2 D.copy)) := by
  obtain ⟨F, b1, b2, m1, d1, m2, d2, hv, hd, f0, B, R, kk⟩ := h
  obtain ⟨rfl, rfl, rfl, rfl, rfl, rfl⟩ : a1 = b1 ∧ n1 = m1 ∧ c1 = d1 ∧ a2 = b2 ∧ n2 = m2 ∧ c2 = d2 := by
    simp only [refA, Value.agg.injEq, Array.mk.injEq, List.cons.injEq, Value.slice.injEq] at hv
    obtain ⟨⟨h1, h2, h3⟩, ⟨h4, h5, h6⟩, _⟩ := hv
    exact ⟨h1, h2, h3, h4, h5, h6⟩
  refine (copy_at hd hlim).mono ?_
  rintro e w' ⟨gc, rfl, F', hd', hF', b⟩
  refine ⟨gc, rfl, F', a1, a2, n1, c1, n2, c2, rfl, hd', fun i hi => by have := hF' i hi; have := B.size; omega, B.trans (b.mono B.size), ?_, fun p hp => ?_⟩
  · exact (R.move (fun i hi _ _ => b.block i hi) (fun i hi _ h => by have := hF' i h; omega)).copy
  · have lt : p.1 < w.heap.size := (Array.getElem?_eq_some_iff.1 (kk p hp).1).1
    exact ⟨(b.block p.1 lt).trans (kk p hp).1, fun h => by have := hF' _ h; omega⟩
/-- less is kept -/
theorem Both.less {K' : List (Nat × Obj)} {w0 w : World} {g : Nat} {D : DS} {v : Value} (h : Both K w0 w g D v) (hs : ∀ p ∈ K', p ∈ K) : Both K' w0 w g D v := by
  obtain ⟨F, a1, a2, n1, c1, n2, c2, hv, hd, f0, B, R, kk⟩ := h
  exact ⟨F, a1, a2, n1, c1, n2, c2, hv, hd, f0, B, R, fun p hp => kk p (hs p hp)⟩
/-- a new box is kept too -/
theorem Both.new {w0 w : World} {g : Nat} {D : DS} {v : Value} (h : Both K w0 w g D v) (cs : Array Value) (t : TypeId) : Both ((w.heap.size, .cells cs t) :: K) w0 (w.alloc (.cells cs t)) g D v := by
  obtain ⟨F, a1, a2, n1, c1, n2, c2, hv, hd, f0, B, R, kk⟩ := h
  have b1 := (Below.refl w.heap.size w).alloc (Nat.le_refl _) (.cells cs t)
  refine ⟨F, a1, a2, n1, c1, n2, c2, hv, hd.below b1, f0, B.trans (b1.mono B.size), R.below b1, fun p hp => ?_⟩
  rcases List.mem_cons.1 hp with rfl | hp
  · exact ⟨Box.new w cs t, fun h => by have := hd.flt _ h; omega⟩
  · have lt : p.1 < w.heap.size := (Array.getElem?_eq_some_iff.1 (kk p hp).1).1
    exact ⟨(b1.block p.1 lt).trans (kk p hp).1, (kk p hp).2⟩
/-- a box that is kept is written: w's own -/
theorem Both.store {w0 w : World} {g bx : Nat} {D : DS} {v : Value} {cs : Array Value} (h : Both ((bx, .cells cs 49) :: K) w0 w g D v) (hb : w0.heap.size ≤ bx) (hK : ∀ p ∈ K, p.1 ≠ bx) (j : Nat) (u : Value) : Both ((bx, .cells (cs.setIfInBounds j u) 49) :: K) w0 (w.setCell ⟨bx, j, none⟩ u) g D v := by
  obtain ⟨F, a1, a2, n1, c1, n2, c2, hv, hd, f0, B, R, kk⟩ := h
  have hbox : Box w bx cs 49 := (kk (bx, .cells cs 49) (by simp)).1
  have nF : ¬ F bx := (kk (bx, .cells cs 49) (by simp)).2
  refine ⟨F, a1, a2, n1, c1, n2, c2, hv, hd.storeOut _ _ _ nF, f0, below_set B hb B.size, R.store hbox, fun p hp => ?_⟩
  rcases List.mem_cons.1 hp with rfl | hp
  · exact ⟨hbox.store j u, nF⟩
  · have := kk p (by simp [hp])
    exact ⟨(heap_setCell_other w ⟨bx, j, none⟩ p.1 u (hK p hp)).trans this.1, this.2⟩
end Go.Proofs.Ytagnmmapnpcijaa
