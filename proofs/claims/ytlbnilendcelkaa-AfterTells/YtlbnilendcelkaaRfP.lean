/-
  The document's Commit, plainly: the last one sinks to its place.
-/
import Derived.Test.YtlbnilendcelkaaRf4
import Derived.Test.YtlbnilendcelkaaMrgP
namespace Go.Proofs.Ytlbnilendcelkaa
open Go.RowKit
/-- one more of the same version behind those of before -/
theorem mrg_more (D E : List (En Int)) (x : En Int) (hD : Rise En.ver D) (hE : Rise En.ver (E ++ [x])) : mrg En.ver (mrg En.ver D E) [x] = mrg En.ver D (E ++ [x]) := by
  have hE1 : Rise En.ver E := (List.pairwise_append.1 hE).1
  have h1 := rise_mrg En.ver D E hD hE1
  have hx : Rise En.ver [x] := List.pairwise_singleton _ _
  refine rise_eq En.ver (rise_mrg En.ver _ _ h1 hx) (rise_mrg En.ver _ _ hD hE) (fun v => ?_)
  rw [filter_mrg En.ver v _ _ h1 hx, filter_mrg En.ver v _ _ hD hE1, filter_mrg En.ver v _ _ hD hE, List.filter_append, List.append_assoc]
/-- the last one, let sink k places before the end of D -/
def sunk (D : List (En Int)) (x : En Int) (k : Nat) : List (En Int) := D.take k ++ x :: D.drop k
theorem sunk_start (D : List (En Int)) (x : En Int) : sunk D x D.length = D ++ [x] := by simp [sunk]
theorem sunk_len (D : List (En Int)) (x : En Int) (k : Nat) (h : k ≤ D.length) : (sunk D x k).length = D.length + 1 := by
  simp [sunk]; omega
theorem sunk_at (D : List (En Int)) (x : En Int) (k : Nat) (h : k ≤ D.length) : (sunk D x k)[k]? = some x := by
  unfold sunk
  rw [List.getElem?_append_right (by simp; omega)]
  simp [Nat.min_eq_left h]
theorem sunk_before (D : List (En Int)) (x : En Int) (k : Nat) (h : k + 1 ≤ D.length) : (sunk D x (k + 1))[k]? = some (D[k]'(by omega)) := by
  unfold sunk
  rw [List.getElem?_append_left (by simp; omega), List.getElem?_take]
  simp
/-- one place more -/
theorem sunk_swap (D : List (En Int)) (x : En Int) (k : Nat) (h : k + 1 ≤ D.length) : ((sunk D x (k + 1)).set (k + 1) (D[k]'(by omega))).set k x = sunk D x k := by
  unfold sunk
  have e1 : D.take (k + 1) = D.take k ++ [D[k]'(by omega)] := List.take_succ_eq_append_getElem (by omega)
  have e2 : D.drop k = (D[k]'(by omega)) :: D.drop (k + 1) := List.drop_eq_getElem_cons (by omega)
  have hl : (D.take k).length = k := by simp; omega
  rw [e1, e2]
  generalize D.take k = A at *
  generalize D.drop (k + 1) = C at *
  generalize (D[k]'(by omega)) = y at *
  subst hl
  simp
/-- where it comes to rest -/
theorem sunk_end (D : List (En Int)) (x : En Int) (k : Nat) (h : k ≤ D.length) (hD : Rise En.ver D) (hlo : k = 0 ∨ ∃ y, D[k - 1]? = some y ∧ y.ver ≤ x.ver) (hhi : ∀ j y, k ≤ j → D[j]? = some y → x.ver < y.ver) : mrg En.ver D [x] = sunk D x k := by
  have e := List.take_append_drop k D
  have h1 : ∀ y ∈ D.take k, y.ver ≤ x.ver := fun y hy => by
    obtain ⟨j, hj, rfl⟩ := List.getElem_of_mem hy
    have hjk : j < k := by simp at hj; omega
    rcases hlo with h0 | ⟨z, hz, hzx⟩
    · omega
    · have := rise_get En.ver hD (i := j) (j := k - 1) (by omega) (x := (D.take k)[j]) (y := z) (by rw [List.getElem_take]; exact List.getElem?_eq_getElem (by omega)) hz
      omega
  have h2 : ∀ y ∈ D.drop k, x.ver < y.ver := fun y hy => by
    obtain ⟨j, hj, rfl⟩ := List.getElem_of_mem hy
    refine hhi (k + j) _ (by omega) ?_
    rw [List.getElem_drop]; exact List.getElem?_eq_getElem (by simp at hj; omega)
  have := mrg_last En.ver (D.take k) (D.drop k) x (by rw [e]; exact hD) h1 h2
  rw [e] at this
  exact this
end Go.Proofs.Ytlbnilendcelkaa
