/-
  A sector written over, byte by byte: no walk here.
-/
import Derived.Test.YtghcmlkgpedkkaaMix
namespace Go.Proofs.Ytghcmlkgpedkkaa

theorem over_none (x : List UInt8) (o : Nat) : over x o [] = x := by simp [over]
theorem over_step (x t : List UInt8) (o k : Nat) (h : o + 512 ≤ x.length) (ht : t.length = 512) (hk : k < 512) : (over x o (t.take k)).set (o + k) (t[k]'(by omega)) = over x o (t.take (k + 1)) := by
  have l1 : (t.take k).length = k := by simp; omega
  have l2 : (t.take (k + 1)).length = k + 1 := by simp; omega
  refine List.ext_getElem? (fun i => ?_)
  rw [List.getElem?_set, over_get _ _ _ (by omega), over_get _ _ _ (by omega), over_length _ _ _ (by omega), l1, l2]
  by_cases e : o + k = i
  · subst e
    rw [if_pos rfl, if_pos (by omega), if_pos (by omega)]
    rw [show o + k - o = k by omega, List.getElem?_take, if_pos (by omega), List.getElem?_eq_getElem (by omega)]
  · rw [if_neg e]
    by_cases q : o ≤ i ∧ i < o + k
    · rw [if_pos q, if_pos (by omega), List.getElem?_take, List.getElem?_take, if_pos (by omega), if_pos (by omega)]
    · rw [if_neg q, if_neg (by omega)]
theorem sec_get (x : List UInt8) (s i : Nat) : (sec x s)[i]? = if i < 512 then x[s * 512 + i]? else none := by
  unfold sec
  rw [List.getElem?_take, List.getElem?_drop]
theorem sec_over (x t : List UInt8) (s s' : Nat) (hx : x.length = 4096) (ht : t.length = 512) (hs : s < 8) : sec (over x (s * 512) t) s' = if s' = s then t else sec x s' := by
  refine List.ext_getElem? (fun i => ?_)
  rw [sec_get, over_get _ _ _ (by omega), ht]
  by_cases e : s' = s
  · subst e
    rw [if_pos rfl]
    by_cases hi : i < 512
    · rw [if_pos hi, if_pos (by omega), show s' * 512 + i - s' * 512 = i by omega]
    · rw [if_neg hi, List.getElem?_eq_none (by omega)]
  · rw [if_neg e, sec_get]
    by_cases hi : i < 512
    · rw [if_pos hi, if_pos hi, if_neg (by omega)]
    · rw [if_neg hi, if_neg hi]
/-- the same of one block of many -/
theorem modify_step (X : List (List UInt8)) (t : List UInt8) (b o k : Nat) (h : ∀ x ∈ X, o + 512 ≤ x.length) (ht : t.length = 512) (hk : k < 512) :
    (X.modify b (fun x => over x o (t.take k))).modify b (fun x => x.set (o + k) (t[k]'(by omega))) = X.modify b (fun x => over x o (t.take (k + 1))) := by
  refine List.ext_getElem? (fun i => ?_)
  simp only [List.getElem?_modify]
  cases hx : X[i]? with
  | none => simp
  | some x =>
    by_cases e : b = i
    · simp [e]
      exact over_step x t o k (h x (List.mem_of_getElem? hx)) ht hk
    · simp [e]
end Go.Proofs.Ytghcmlkgpedkkaa
