/-
  A row that is put in order; insertion, plainly.
-/
import Derived.Test.YtlbnilendcelkaaCmp
namespace Go.Proofs.Ytlbnilendcelkaa
open Go.RowKit
variable {E : Type}
theorem hid {p : Prop} (h : p) : Hid p := h
theorem Lay.swp {X : Enc E} {t : TypeId} {w : World} {g cap : Nat} {l : List E} (h : Lay X t w g cap l) {i j : Nat} {x y : E} (hi : l[i]? = some x) (hj : l[j]? = some y) : Lay X t ((((((w.setCell ⟨g, i * 3, none⟩ (X.a y)).setCell ⟨g, i * 3 + 1, none⟩ (X.b y)).setCell ⟨g, i * 3 + 2, none⟩ (X.c y)).setCell ⟨g, j * 3, none⟩ (X.a x)).setCell ⟨g, j * 3 + 1, none⟩ (X.b x)).setCell ⟨g, j * 3 + 2, none⟩ (X.c x)) g cap (Go.Proofs.Ytlbnilendcelkaa.swp l i j) := by
  have h1 := h.set (List.getElem?_eq_some_iff.1 hi).1 y
  have h2 := h1.set (i := j) (by simpa using (List.getElem?_eq_some_iff.1 hj).1) x
  have e : Go.Proofs.Ytlbnilendcelkaa.swp l i j = (l.set i y).set j x := by unfold Go.Proofs.Ytlbnilendcelkaa.swp; rw [hi, hj]
  rw [e]; exact h2
/-- behind the first of the two: the other one's cells -/
theorem Lay.mid {X : Enc E} {t : TypeId} {w : World} {g cap : Nat} {l : List E} (h : Lay X t w g cap l) {i j : Nat} {x y : E} (hi : l[i]? = some x) (hj : l[j]? = some y) (hne : i ≠ j) (u : World) (hu : u = (((w.setCell ⟨g, i * 3, none⟩ (X.a y)).setCell ⟨g, i * 3 + 1, none⟩ (X.b y)).setCell ⟨g, i * 3 + 2, none⟩ (X.c y))) :
    u.cell? ⟨g, j * 3, none⟩ = some (X.a y) ∧ u.cell? ⟨g, j * 3 + 1, none⟩ = some (X.b y) ∧ u.cell? ⟨g, j * 3 + 2, none⟩ = some (X.c y) := by
  subst hu
  have h1 := h.set (List.getElem?_eq_some_iff.1 hi).1 y
  exact h1.get (by rw [List.getElem?_set_ne hne]; exact hj)
theorem chg_st3 (w : World) (g a b c : Nat) (x y z : Value) : Chg (fun k => k = g) w (((w.setCell ⟨g, a, none⟩ x).setCell ⟨g, b, none⟩ y).setCell ⟨g, c, none⟩ z) := (((Chg.refl (fun k => k = g) w).setCell g a x (fun _ => rfl)).setCell g b y (fun _ => rfl)).setCell g c z (fun _ => rfl)
theorem chg_st6 (w : World) (g a b c a' b' c' : Nat) (x y z x' y' z' : Value) : Chg (fun k => k = g) w ((((((w.setCell ⟨g, a, none⟩ x).setCell ⟨g, b, none⟩ y).setCell ⟨g, c, none⟩ z).setCell ⟨g, a', none⟩ x').setCell ⟨g, b', none⟩ y').setCell ⟨g, c', none⟩ z') := (chg_st3 w g a b c x y z).trans (chg_st3 _ g a' b' c' x' y' z') (fun _ _ h => h)
/-- a row that is being put in order: what it held, what it holds -/
structure Srt (X : Enc E) (t : TypeId) (w u : World) (g cap : Nat) (L : List E) : Prop where
  lay : Lay X t u g cap L
  chg : Chg (fun k => k = g) w u
theorem Srt.drew {X : Enc E} {t : TypeId} {w u : World} {g cap : Nat} {L : List E} (h : Srt X t w u g cap L) (n : Nat) : Srt X t w (u.drewN n) g cap L := ⟨h.lay.at' rfl, h.chg.drew n⟩
theorem Srt.below {X : Enc E} {t : TypeId} {w u u' : World} {g cap : Nat} {L : List E} (h : Srt X t w u g cap L) (hb : Below u.heap.size u u') : Srt X t w u' g cap L := ⟨h.lay.at' (hb.block g h.lay.lt), h.chg.trans (Chg.ofBelow (S := fun k => k = g) hb) (fun _ _ x => x)⟩
theorem Srt.swp {X : Enc E} {t : TypeId} {w u : World} {g cap : Nat} {l : List E} (h : Srt X t w u g cap l) {i j : Nat} {x y : E} (hi : l[i]? = some x) (hj : l[j]? = some y) : Srt X t w ((((((u.setCell ⟨g, i * 3, none⟩ (X.a y)).setCell ⟨g, i * 3 + 1, none⟩ (X.b y)).setCell ⟨g, i * 3 + 2, none⟩ (X.c y)).setCell ⟨g, j * 3, none⟩ (X.a x)).setCell ⟨g, j * 3 + 1, none⟩ (X.b x)).setCell ⟨g, j * 3 + 2, none⟩ (X.c x)) g cap (Go.Proofs.Ytlbnilendcelkaa.swp l i j) :=
  ⟨h.lay.swp hi hj, h.chg.trans (chg_st6 u g _ _ _ _ _ _ _ _ _ _ _ _) (fun _ _ x => x)⟩
section
variable {F : Type} (k : F → Int)
/-- insertion, plainly: the outer loop, at i -/
def OutR (a i : Nat) (Q Mid R L : List F) : Prop := ∃ M1, Stb k (Mid.take (i - a)) M1 ∧ L = Q ++ M1 ++ (Mid.drop (i - a) ++ R)
def InR (a i j : Nat) (Q Mid R L : List F) : Prop := ∃ A B y, Stb k (Mid.take (i - a)) (A ++ B) ∧ Mid[i - a]? = some y ∧ j = a + A.length ∧ (∀ b ∈ B, k y < k b) ∧ L = Q ++ (A ++ y :: B) ++ (Mid.drop (i - a + 1) ++ R)
theorem OutR.start {a : Nat} {Q Mid R : List F} : OutR k a (a + 1) Q Mid R (Q ++ Mid ++ R) := by
  refine ⟨Mid.take 1, ?_, ?_⟩
  · rw [show a + 1 - a = 1 by omega]
    refine Stb.same k ?_
    cases Mid <;> simp [Rise]
  · rw [show a + 1 - a = 1 by omega, List.append_assoc, List.append_assoc Q, ← List.append_assoc (Mid.take 1), List.take_append_drop]
theorem OutR.inn {a i : Nat} {Q Mid R L : List F} (h : OutR k a i Q Mid R L) (hi : a < i) (hb : i < a + Mid.length) : InR k a i i Q Mid R L := by
  obtain ⟨M1, h1, rfl⟩ := h
  have hl : i - a < Mid.length := by omega
  refine ⟨M1, [], Mid[i - a], by simpa using h1, by simp [hl], ?_, by simp, ?_⟩
  · have := h1.len; rw [List.length_take] at this; omega
  · have e : Mid.drop (i - a) = Mid[i - a] :: Mid.drop (i - a + 1) := List.drop_eq_getElem_cons hl
    rw [e]; simp only [List.append_assoc, List.cons_append, List.nil_append]
theorem OutR.done {a i : Nat} {Q Mid R L : List F} (h : OutR k a i Q Mid R L) (hb : a + Mid.length ≤ i) : ∃ M1, Stb k Mid M1 ∧ L = Q ++ M1 ++ R := by
  obtain ⟨M1, h1, rfl⟩ := h
  rw [List.take_of_length_le (by omega)] at h1
  exact ⟨M1, h1, by rw [List.drop_of_length_le (by omega)]; rfl⟩
theorem InR.stop {a i : Nat} {Q Mid R : List F} {A B : List F} {y : F} (hi : a < i) (h1 : Stb k (Mid.take (i - a)) (A ++ B)) (h2 : Mid[i - a]? = some y) (h3 : ∀ b ∈ B, k y < k b) (h4 : ∀ x ∈ A, k x ≤ k y) : OutR k a (i + 1) Q Mid R (Q ++ (A ++ y :: B) ++ (Mid.drop (i - a + 1) ++ R)) := by
  refine ⟨A ++ y :: B, ?_, by rw [show i + 1 - a = i - a + 1 by omega]⟩
  rw [show i + 1 - a = i - a + 1 by omega, List.take_add_one, h2, ← mrg_last k A B y h1.rise h4 h3]
  exact h1.mrg k (Stb.same k (by simp [Rise]))
theorem InR.zero {a i : Nat} {Q Mid R L : List F} (h : InR k a i a Q Mid R L) (hi : a < i) : OutR k a (i + 1) Q Mid R L := by
  obtain ⟨A, B, y, h1, h2, h3, h4, rfl⟩ := h
  obtain rfl : A = [] := List.length_eq_zero_iff.1 (by omega)
  exact InR.stop k hi h1 h2 h4 (by simp)
theorem InR.go {a i j : Nat} {Q Mid R L : List F} (hQ : a = Q.length) (h : InR k a i (j + 1) Q Mid R L) (hi : a < i) (ha : a ≤ j) : ∃ p y, L[j]? = some p ∧ L[j + 1]? = some y ∧ (¬ k y < k p → OutR k a (i + 1) Q Mid R L) ∧ (k y < k p → InR k a i j Q Mid R (swp L (j + 1) j)) := by
  obtain ⟨A, B, y, h1, h2, h3, h4, rfl⟩ := h
  have hA : A ≠ [] := by intro e; subst e; simp at h3; omega
  obtain ⟨A', p, rfl⟩ : ∃ A' p, A = A' ++ [p] := ⟨A.dropLast, A.getLast hA, (List.dropLast_concat_getLast hA).symm⟩
  have hj : j = (Q ++ A').length := by simp at h3 ⊢; omega
  have e : Q ++ (A' ++ [p] ++ y :: B) ++ (Mid.drop (i - a + 1) ++ R) = (Q ++ A') ++ p :: ([] ++ y :: (B ++ (Mid.drop (i - a + 1) ++ R))) := by simp
  refine ⟨p, y, ?_, ?_, fun hn => ?_, fun hl => ?_⟩
  · rw [e, hj]; simp
  · rw [e, hj, List.getElem?_append_right (by omega), show (Q ++ A').length + 1 - (Q ++ A').length = 1 by omega]; simp
  · refine InR.stop k hi h1 h2 h4 (fun x hx => ?_)
    have hr := (List.pairwise_append.1 h1.rise).1
    rcases List.mem_append.1 hx with hx | hx
    · have := (List.pairwise_append.1 hr).2.2 x hx p (by simp); omega
    · simp at hx; subst hx; omega
  · rw [swp_comm _ _ _ (by omega), e]
    have := swp_mid (Q ++ A') [] (B ++ (Mid.drop (i - a + 1) ++ R)) p y
    rw [show (Q ++ A').length + 1 + ([] : List F).length = j + 1 by simp at hj ⊢; omega, ← hj] at this
    rw [this]
    refine ⟨A', p :: B, y, by simpa using h1, h2, by simp at h3; omega, fun b hb => ?_, by simp⟩
    rcases List.mem_cons.1 hb with rfl | hb
    · exact hl
    · exact h4 b hb
end
end Go.Proofs.Ytlbnilendcelkaa
