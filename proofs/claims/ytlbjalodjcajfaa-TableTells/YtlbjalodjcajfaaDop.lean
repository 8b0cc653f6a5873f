/-
  The document's Put: one more, sunk to its place; plainly, and in memory.
-/
import Derived.Test.YtlbjalodjcajfaaDo3
import Derived.Test.YtlbjalodjcajfaaLate
import Derived.Laws.AppendOwnNone
namespace Go.Proofs.Ytlbjalodjcajfaa
open Go.RowKit Go.Maps
def sunkP (P : List Pr) (e : Pr) (k : Nat) : List Pr := P.take k ++ e :: P.drop k
section
variable {P : List Pr} {e y : Pr} {m : Nat}
theorem sunkP_all (P : List Pr) (e : Pr) : sunkP P e P.length = P ++ [e] := by unfold sunkP; simp
theorem sunkP_len (hm : m ≤ P.length) : (sunkP P e m).length = P.length + 1 := by unfold sunkP; simp; omega
theorem sunkP_at (hm : m ≤ P.length) : (sunkP P e m)[m]? = some e := by
  unfold sunkP
  rw [List.getElem?_append_right (by simp; omega), show m - (P.take m).length = 0 by simp; omega]
  rfl
theorem sunkP_before (h : P[m]? = some y) : (sunkP P e (m + 1))[m]? = some y := by
  have hm := (List.getElem?_eq_some_iff.1 h).1
  unfold sunkP
  rw [List.getElem?_append_left (by simp; omega), List.getElem?_take, if_pos (by omega), h]
theorem sunkP_swap (h : P[m]? = some y) : ((sunkP P e (m + 1)).set (m + 1) y).set m e = sunkP P e m := by
  have hm := (List.getElem?_eq_some_iff.1 h).1
  unfold sunkP
  have t1 : (P.take (m + 1)).length = m + 1 := by simp; omega
  have t2 : P.drop m = y :: P.drop (m + 1) := by
    rw [List.drop_eq_getElem_cons hm]
    congr 1
    exact (List.getElem?_eq_some_iff.1 h).2
  rw [List.set_append_right _ _ (by omega), t1, Nat.sub_self, List.set_cons_zero, List.set_append_left _ _ (by omega), List.take_add_one, h, List.set_append_right _ _ (by simp; omega), show m - (P.take m).length = 0 by simp; omega, t2]
  simp
theorem flat2_set : ∀ {l : List Pr} {i : Nat}, i < l.length → ∀ p : Pr, ((flat2 l).set (i * 2) (.string p.1)).set (i * 2 + 1) (.string p.2) = flat2 (l.set i p)
  | [], i, h, _ => by simp at h
  | x :: l, 0, h, p => by simp [flat2_cons]
  | x :: l, i + 1, h, p => by
    have ih := flat2_set (l := l) (i := i) (by simpa using h) p
    rw [flat2_cons, show (i + 1) * 2 = i * 2 + 1 + 1 by omega, show i * 2 + 1 + 1 + 1 = (i * 2 + 1) + 1 + 1 by omega]
    simp only [List.set_cons_succ, ih, flat2_cons]
/-- where the new one stands still -/
theorem sunk_cut {key : ByteArray} (ha : Asc P) (hno : ∀ p ∈ P, p.1 ≠ key) (hm : m ≤ P.length) (hhi : ∀ (j : Nat) (q : Pr), m ≤ j → P[j]? = some q → blt key q.1 = true) (hlo : m = 0 ∨ ∃ q, P[m - 1]? = some q ∧ blt key q.1 = false) : Cut P key (P.take m) (P.drop m) where
  eq := (List.take_append_drop m P).symm
  lo := fun a hx => by
    obtain ⟨j, hj, rfl⟩ := List.getElem_of_mem hx
    have hj2 : j < m := by simp at hj; omega
    rcases hlo with h0 | ⟨q, hq, hb⟩
    · omega
    · have hql := (List.getElem?_eq_some_iff.1 hq).1
      have hqk : blt q.1 key = true := by
        cases hk : blt q.1 key with
        | true => rfl
        | false => exact absurd (blt_tri hk hb) (hno q (List.mem_of_getElem? hq))
      rw [List.getElem_take]
      by_cases e : j = m - 1
      · subst e
        have := (List.getElem?_eq_some_iff.1 hq).2
        rw [this]; exact hqk
      · exact blt_trans (asc_at ha (List.getElem?_eq_getElem (by omega)) hq (by omega)) hqk
  hi := fun b hx => by
    obtain ⟨j, hj, rfl⟩ := List.getElem_of_mem hx
    rw [List.getElem_drop]
    simp at hj
    exact blt_asymm (hhi (m + j) _ (by omega) (List.getElem?_eq_getElem (by omega)))
end
section
variable {w : World} {g cap : Nat} {P : List Pr} {cur : Array Value}
theorem L2.set (h : L2 w g cap P cur) {i : Nat} (hi : i < P.length) (p : Pr) : L2 ((w.setCell ⟨g, i * 2, none⟩ (.string p.1)).setCell ⟨g, i * 2 + 1, none⟩ (.string p.2)) g cap (P.set i p) ((cur.setIfInBounds (i * 2) (.string p.1)).setIfInBounds (i * 2 + 1) (.string p.2)) where
  bx := (h.bx.store _ _).store _ _
  sz := by simpa using h.sz
  le := by simpa using h.le
  mx := h.mx
  tk := by
    rw [← flat2_set hi p, ← h.tk]
    simp only [Array.toList_setIfInBounds, List.take_set, List.length_set]
theorem L2.val (h : L2 w g cap P cur) {i : Nat} {p : Pr} (hi : P[i]? = some p) (v : ByteArray) : L2 (w.setCell ⟨g, i * 2 + 1, none⟩ (.string v)) g cap (P.set i (p.1, v)) (cur.setIfInBounds (i * 2 + 1) (.string v)) where
  bx := h.bx.store _ _
  sz := by simpa using h.sz
  le := by simpa using h.le
  mx := h.mx
  tk := by
    have hil := (List.getElem?_eq_some_iff.1 hi).1
    have hg := (flat2_get hi).1
    rw [← flat2_set hil (p.1, v), show (flat2 P).set (i * 2) (.string p.1) = flat2 P from ?_, ← h.tk]
    · simp only [Array.toList_setIfInBounds, List.take_set, List.length_set]
    · have hl := (List.getElem?_eq_some_iff.1 hg).1
      have := (List.getElem?_eq_some_iff.1 hg).2
      rw [← this, List.set_getElem_self]
theorem L2.drewN (h : L2 w g cap P cur) (q : Nat) : L2 (w.drewN q) g cap P cur := h.at' rfl
theorem L2.mid (h : L2 w g cap P cur) {i j : Nat} {y : Pr} (hi : i < P.length) (hj : P[j]? = some y) (hne : i ≠ j) (p : Pr) : ((w.setCell ⟨g, i * 2, none⟩ (.string p.1)).setCell ⟨g, i * 2 + 1, none⟩ (.string p.2)).cell? ⟨g, j * 2, none⟩ = some (.string y.1) ∧ ((w.setCell ⟨g, i * 2, none⟩ (.string p.1)).setCell ⟨g, i * 2 + 1, none⟩ (.string p.2)).cell? ⟨g, j * 2 + 1, none⟩ = some (.string y.2) :=
  (h.set hi p).get (by rw [List.getElem?_set_ne hne]; exact hj)
theorem L2.doc (h : L2 w g cap P cur) (hn : P ≠ []) : DocV w (.slice (some ⟨g, 0, none⟩) P.length cap) P := .inr ⟨hn, g, cap, cur, rfl, h⟩
theorem chg_two (w : World) (g i : Nat) (a b : Value) : Chg (fun k => k = g) w ((w.setCell ⟨g, i, none⟩ a).setCell ⟨g, i + 1, none⟩ b) := (Chg.setCell (S := fun k => k = g) (Chg.refl _ w) g i a (fun _ => rfl)).setCell g (i + 1) b (fun _ => rfl)
theorem OwnD.l2 {u : World} {B : Nat} {v : Value} {F : List Pr} (h : OwnD u B v F) (hF : F ≠ []) : ∃ g cap cur, v = .slice (some ⟨g, 0, none⟩) F.length cap ∧ B ≤ g ∧ L2 u g cap F cur := by
  rcases h.1.2 with ⟨e, _⟩ | ⟨g, cap, cur, e, hb, hg, h1, h2, h3, h4⟩
  · exact absurd (h.2.1 e) hF
  · exact ⟨g, cap, cur, e, hb, hg, h3, h1, by unfold maxLen at h2; omega, h4⟩
end
end Go.Proofs.Ytlbjalodjcajfaa
