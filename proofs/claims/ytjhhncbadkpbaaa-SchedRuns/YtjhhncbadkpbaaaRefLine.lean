/-
  The document's own Pick: the line without the one that is picked.
-/
import Derived.Test.YtjhhncbadkpbaaaRefAdd
import Derived.Test.YtjhhncbadkpbaaaLate
namespace Go.Proofs.Ytjhhncbadkpbaaa
open Go.RowKit
theorem grown_of_below {w w' : World} {row : Option Nat} (h : Below w.heap.size w w') : w.grownBy w' row := ⟨h.os, h.tape, h.output, h.size, fun k hk _ => h.block k hk⟩
theorem rdI_at {w u : World} {B n : Nat} {ql cl : Nat} {l : List Nat} (h : w.ownsRow B 3 1 (.slice (some ⟨ql, 0, none⟩) n cl) n (ics l)) (hb : Below w.heap.size w u) (k m o : Nat) (ho : m = 0 ∨ o = k) (hkm : k + m ≤ n) : ∀ (j : Nat) (v : Value), (((ics l).drop k).take m)[j]? = some v → u.cell? ((⟨ql, o, none⟩ : Addr).add j) = some v := by
  intro j v hj
  have hjm : j < m := by
    have := (List.getElem?_eq_some_iff.1 hj).1
    simp at this
    omega
  have e0 : o = k := by rcases ho with h | h; omega; exact h
  subst e0
  obtain ⟨g', cap, e1, c1⟩ := ownsRow_cell h (o + j) (by omega)
  injection e1 with e1
  injection e1 with e1
  injection e1 with e1
  subst e1
  obtain ⟨cs, hbx⟩ := ownsRow_box h ql rfl
  rw [Addr.add_lit, hb.cell (p := ⟨ql, o + j, none⟩) hbx.lt, c1]
  rw [List.getElem?_take, if_pos hjm, List.getElem?_drop] at hj
  exact hj
theorem line_facts {w : World} {B g : Nat} {V : RV} {R : RS} {P : List PV} (h : RB w B g V R P) {N K K1 ql cl oz : Nat} (hN : N = R.Ln.length) (hKN : K < N) (hK1 : K1 = K + 1) (hvl : V.vl = .slice (some ⟨ql, 0, none⟩) N cl) (hoz : cl ≠ K1 → oz = K1) (hNc : N ≤ cl) :
    (w.alloc (.cells #[] 3)).drew.cell? ⟨g, 3, none⟩ = some (.slice (some ⟨ql, 0, none⟩) N cl) ∧ (w.alloc (.cells #[] 3)).drew.ownsRow B 3 1 (.slice (some ⟨w.heap.size, 0, none⟩) 0 0) 0 [] ∧ (∀ (j : Nat) (v : Value), ((ics R.Ln).take K)[j]? = some v → (w.alloc (.cells #[] 3)).drew.cell? ((⟨ql, 0, none⟩ : Addr).add j) = some v) ∧
    ∀ v2 W2, W2.ownsRow B 3 1 v2 (0 + K) ([] ++ (ics R.Ln).take K) → (w.alloc (.cells #[] 3)).drew.grownBy W2 (some w.heap.size) → (v2.ownBlock = some w.heap.size ∨ v2.ownBlock = some (w.alloc (.cells #[] 3)).drew.heap.size) →
      W2.cell? ⟨g, 3, none⟩ = some (.slice (some ⟨ql, 0, none⟩) N cl) ∧ (∀ (j : Nat) (v : Value), ((ics R.Ln).drop K1)[j]? = some v → W2.cell? ((⟨ql, oz, none⟩ : Addr).add j) = some v) ∧ B ≤ W2.heap.size ∧ (∃ a n c, v2 = .slice a n c) ∧
      ∀ v3 W3, W3.ownsRow B 3 1 v3 (0 + K + (N - K1)) ([] ++ (ics R.Ln).take K ++ (ics R.Ln).drop K1) → W2.grownBy W3 v2.ownBlock → (v3.ownBlock = v2.ownBlock ∨ v3.ownBlock = some W2.heap.size) →
        W3.cell? ⟨g, 3, none⟩ = some (.slice (some ⟨ql, 0, none⟩) N cl) ∧ W3.frozen? ⟨g, 3, none⟩ = false ∧ (∃ a n c, v3 = .slice a n c) ∧ RTo w B g V { R with Ln := R.Ln.eraseIdx K } P (W3.setCell ⟨g, 3, none⟩ v3) := by
  have b1 : Below w.heap.size w (w.alloc (.cells #[] 3)).drew := by
    have := (Below.refl w.heap.size w).alloc (Nat.le_refl _) (.cells #[] 3)
    exact ⟨this.os, this.tape, this.output, this.size, this.block⟩
  have h1 := h.below b1
  have hrl := h.rl
  rw [hvl, ← hN] at hrl
  have own1 : (w.alloc (.cells #[] 3)).drew.ownsRow B 3 1 (.slice (some ⟨w.heap.size, 0, none⟩) 0 0) 0 [] := ⟨rfl, .inr ⟨w.heap.size, 0, #[], rfl, h.hB, Box.new w #[] 3, Nat.le_refl _, by unfold maxLen; omega, rfl, rfl⟩⟩
  refine ⟨by rw [← hvl]; exact h1.box.cell 3, own1, ?_, fun v2 W2 ho2 hg2 hw2 => ?_⟩
  · have := rdI_at hrl b1 0 K 0 (.inr rfl) (by omega)
    rw [List.drop_zero] at this
    exact this
  have b2 : Below w.heap.size w W2 := b1.grown hg2 (by show w.heap.size ≤ (w.alloc (.cells #[] 3)).heap.size; simp) (fun k hk => by cases hk; exact Nat.le_refl _)
  have h2 := h.below b2
  have v2n : ∀ k, v2.ownBlock = some k → w.heap.size ≤ k := fun k hk => by
    rcases hw2 with e | e
    · rw [e] at hk; cases hk; exact Nat.le_refl _
    · rw [e] at hk; cases hk; show w.heap.size ≤ (w.alloc (.cells #[] 3)).heap.size; simp
  obtain ⟨a2, c2, hv2⟩ := ownsRow_slice ho2
  refine ⟨by rw [← hvl]; exact h2.box.cell 3, ?_, h2.hB, ⟨a2, _, c2, hv2⟩, fun v3 W3 ho3 hg3 hw3 => ?_⟩
  · have hm : N - K1 = 0 ∨ oz = K1 := by
      by_cases e : cl = K1
      · left; omega
      · exact .inr (hoz e)
    have := rdI_at hrl b2 K1 (N - K1) oz hm (by omega)
    rw [List.take_of_length_le (by rw [List.length_drop, ics_length]; omega)] at this
    exact this
  have b3 : Below w.heap.size w W3 := b2.grown hg3 b2.size v2n
  have v3n : ∀ k, v3.ownBlock = some k → w.heap.size ≤ k := fun k hk => by
    rcases hw3 with e | e
    · rw [e] at hk; exact v2n k hk
    · rw [e] at hk; cases hk; exact b2.size
  obtain ⟨a3, c3, hv3⟩ := ownsRow_slice ho3
  have ho : W3.ownsRow B 3 1 v3 (R.Ln.eraseIdx K).length (ics (R.Ln.eraseIdx K)) := by
    have e1 : (R.Ln.eraseIdx K).length = 0 + K + (N - K1) := by rw [List.length_eraseIdx_of_lt (by omega)]; omega
    have e2 : ics (R.Ln.eraseIdx K) = [] ++ (ics R.Ln).take K ++ (ics R.Ln).drop K1 := by
      rw [List.eraseIdx_eq_take_drop_succ, ← hK1]
      simp [ics, List.map_take, List.map_drop]
    rw [e1, e2]
    exact ho3
  obtain ⟨hR, hbx, hkt, hbl, hF⟩ := h.vl (grown_of_below b3) (R.Ln.eraseIdx K) ho (fun k hk => .inr (v3n k hk))
  exact ⟨by rw [← hvl]; exact hbx.cell 3, hbx.frozen 3, ⟨a3, _, c3, hv3⟩, ⟨⟨_, hR, hF⟩, hbl, hkt⟩⟩
end Go.Proofs.Ytjhhncbadkpbaaa
