/-
  Entries written into a row, side by side.
-/
import Derived.Test.YtlbjalodjcajfaaWrt
import Derived.Deep.AppendSrc
import Derived.Lib.JoinLaws
import Derived.Lib.SliceRun
import Derived.Laws.IdiomCopy
namespace Go.Proofs.Ytlbjalodjcajfaa
open Go.RowKit Go.Maps
def setL : List Value → Nat → List Value → List Value
  | l, _, [] => l
  | l, o, v :: r => setL (l.set o v) (o + 1) r
theorem setL_eq : ∀ (vs l : List Value) (o : Nat), o + vs.length ≤ l.length → setL l o vs = l.take o ++ (vs ++ l.drop (o + vs.length))
  | [], l, o, _ => by simp [setL]
  | v :: r, l, o, h => by
    have hl : o < l.length := by simp at h; omega
    rw [setL, setL_eq r (l.set o v) (o + 1) (by simp at h ⊢; omega)]
    have e1 : (l.set o v).take (o + 1) = l.take o ++ [v] := by
      rw [List.take_set, List.take_add_one, List.getElem?_eq_getElem hl]
      rw [List.set_append_right _ _ (by simp; omega)]
      simp
      rw [show o - min o l.length = 0 by omega, List.set_cons_zero]
    have e2 : (l.set o v).drop (o + 1 + r.length) = l.drop (o + (v :: r).length) := by
      rw [List.drop_set_of_lt (by omega)]
      congr 1
      simp; omega
    rw [e1, e2]
    simp
theorem box_setCells {g : Nat} {t : TypeId} : ∀ (vs : List Value) (o : Nat) (w : World) (cur : Array Value), Box w g cur t → Box (w.setCells g o vs) g (setL cur.toList o vs).toArray t
  | [], o, w, cur, h => by simpa [World.setCells, setL] using h
  | v :: r, o, w, cur, h => by
    rw [World.setCells, setL]
    have := box_setCells r (o + 1) (w.setCell ⟨g, o, none⟩ v) (cur.setIfInBounds o v) (h.store o v)
    rw [Array.toList_setIfInBounds] at this
    exact this
section
variable {E : Type} {X : Enc E} {t : TypeId} {w : World} {g cap : Nat} {l : List E}
theorem flat_drop (X : Enc E) (l : List E) (n : Nat) (h : n ≤ l.length) : (flat X l).drop (n * 3) = flat X (l.drop n) := by
  have e : flat X l = flat X (l.take n) ++ flat X (l.drop n) := by rw [← flat_app, List.take_append_drop]
  rw [e, show n * 3 = (flat X (l.take n)).length by rw [flat_len, List.length_take, Nat.min_eq_left h], List.drop_left]
theorem Lay.write (h : Lay X t w g cap l) (p : Nat) (es : List E) (hp : p ≤ l.length) (hc : p + es.length ≤ cap) : Lay X t (w.setCells g (p * 3) (flat X es)) g cap (l.take p ++ (es ++ l.drop (p + es.length))) := by
  obtain ⟨cur, h1, h2, h3⟩ := h.cur
  have hle := h.le
  have hcl : cur.toList.length = cap * 3 := by simpa using h2
  have hfl := flat_len X es
  have b1 := box_setCells (flat X es) (p * 3) w cur h1
  rw [setL_eq _ _ _ (by rw [hcl, hfl]; omega)] at b1
  have hlen : (l.take p ++ (es ++ l.drop (p + es.length))).length = max l.length (p + es.length) := by simp; omega
  refine ⟨by rw [hlen]; omega, h.mx, _, b1, ?_, ?_⟩
  · simp [hcl, hfl]; omega
  · rw [hlen, List.toList_toArray, flat_app, flat_app]
    have e0 : cur.toList.take (p * 3) = flat X (l.take p) := by
      rw [← flat_take X l p hp, ← h3, List.take_take, Nat.min_eq_left (by omega)]
    rw [e0, hfl]
    have l0 : (flat X (l.take p)).length = p * 3 := by rw [flat_len]; simp; omega
    by_cases hb : l.length ≤ p + es.length
    · rw [Nat.max_eq_right hb, List.drop_eq_nil_of_le hb, flat_nil, List.append_nil, ← List.append_assoc, List.take_left' (by rw [List.length_append, l0, hfl]; omega)]
    · rw [Nat.max_eq_left (by omega), ← List.append_assoc, List.take_append, List.length_append, l0, hfl, List.take_of_length_le (by rw [List.length_append, l0, hfl]; omega), List.append_assoc]
      congr 2
      rw [← flat_drop X l _ (by omega), ← h3, List.drop_take]
      congr 1
      · omega
      · congr 1; omega
theorem flat_at (X : Enc E) {l : List E} {j : Nat} {v : Value} (h : (flat X l)[j]? = some v) : ∃ i e, l[i]? = some e ∧ ((j = i * 3 ∧ v = X.a e) ∨ (j = i * 3 + 1 ∧ v = X.b e) ∨ (j = i * 3 + 2 ∧ v = X.c e)) := by
  have hj := (List.getElem?_eq_some_iff.1 h).1
  rw [flat_len] at hj
  have hi : j / 3 < l.length := by omega
  have hx := List.getElem?_eq_getElem hi
  obtain ⟨a, b, c⟩ := flat_get X hx
  refine ⟨j / 3, _, hx, ?_⟩
  have hm : j % 3 = 0 ∨ j % 3 = 1 ∨ j % 3 = 2 := by omega
  rcases hm with hm | hm | hm
  · have e : j = j / 3 * 3 := by omega
    rw [e] at h; rw [a] at h
    exact .inl ⟨e, by injection h with h; exact h.symm⟩
  · have e : j = j / 3 * 3 + 1 := by omega
    rw [e] at h; rw [b] at h
    exact .inr (.inl ⟨e, by injection h with h; exact h.symm⟩)
  · have e : j = j / 3 * 3 + 2 := by omega
    rw [e] at h; rw [c] at h
    exact .inr (.inr ⟨e, by injection h with h; exact h.symm⟩)
end
theorem rdE_cells {u : World} {a : Option Addr} {l : List En} (h : RdE u a l) (b : Addr) (ha : a = some b) {j : Nat} {v : Value} (hj : (flat eE l)[j]? = some v) : u.cell? (b.add j) = some v := by
  obtain ⟨i, e, hi, hc⟩ := flat_at eE hj
  obtain ⟨b0, o0, h0, hb, c0, c1, c2⟩ := h i e hi
  rw [ha] at h0
  injection h0 with h0
  subst h0
  rw [Addr.add_lit]
  rcases hc with ⟨rfl, rfl⟩ | ⟨rfl, rfl⟩ | ⟨rfl, rfl⟩
  · exact c0
  · rw [← Nat.add_assoc]; exact c1
  · rw [← Nat.add_assoc]; exact c2
end Go.Proofs.Ytlbjalodjcajfaa
