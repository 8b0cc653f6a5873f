/-
  closed: all scopes from a depth on are closed, as a body told.
-/
import Derived.Test.YtafiopjgegmfoaaGreatNHas
namespace Go.Proofs.YtafiopjgegmfoaaGreat.T
open Go.RowKit Go.Proofs.YtafiopjgegmfoaaGreat.C
/-- i scopes are closed: kept where e is 0, else undone -/
def TX.cut (x : TX) (e : Int) (i : Nat) : TX := { x with S := { x.S with W := if e = 0 ∨ i = 0 then x.S.W else x.S.M.getD (x.S.M.length - i) [], M := x.S.M.take (x.S.M.length - i) } }
def TX.shutE (x : TX) (d : Nat) (e : Int) : Int :=
  if x.st ≠ 1 then (if e ≠ 0 then e else 132) else if x.S.M.length < d then (if e ≠ 0 then e else 136) else e
def TX.shut (x : TX) (d : Nat) (e : Int) : TX :=
  if x.st ≠ 1 then x else if x.S.M.length < d then x else x.cut e (x.S.M.length - (d - 1))
theorem TX.cut_zero (x : TX) (e : Int) : x.cut e 0 = x := by
  unfold TX.cut
  simp
theorem TX.cut_len (x : TX) (e : Int) (i : Nat) : (x.cut e i).S.M.length = x.S.M.length - i := by
  unfold TX.cut
  simp
theorem dropLast_take {α : Type} (l : List α) (n : Nat) (h : n ≤ l.length) : (l.take n).dropLast = l.take (n - 1) := by
  rw [List.dropLast_eq_take, List.take_take, List.length_take]
  congr 1
  omega
theorem TX.cut_keep (x : TX) (e : Int) (i : Nat) (hs : x.st = 1) (he : e = 0) (hi : i < x.S.M.length) : (x.cut e i).keep = (0, x.cut e (i + 1)) := by
  have hl := x.cut_len e i
  have h0 : ¬ (x.cut e i).S.M.length = 0 := by omega
  unfold TX.keep
  rw [if_neg (by show ¬ x.st ≠ 1; omega)]
  unfold SS.keep
  rw [if_neg h0]
  unfold TX.cut
  simp only [he, true_or, if_true]
  rw [dropLast_take _ _ (by omega)]
  rfl
theorem TX.cut_undo (x : TX) (e : Int) (i : Nat) (hs : x.st = 1) (he : e ≠ 0) (hi : i < x.S.M.length) : (x.cut e i).undo = (0, x.cut e (i + 1)) := by
  have hl := x.cut_len e i
  have h0 : ¬ (x.cut e i).S.M.length = 0 := by omega
  unfold TX.undo
  rw [if_neg (by show ¬ x.st ≠ 1; omega)]
  unfold SS.undo
  rw [if_neg h0]
  unfold TX.cut
  have h1 : ¬ (e = 0 ∨ i + 1 = 0) := by omega
  simp only [if_neg h1]
  have e1 : (x.S.M.take (x.S.M.length - i)).getLastD [] = x.S.M.getD (x.S.M.length - (i + 1)) [] := by
    rw [List.getLastD_eq_getLast?, List.getLast?_eq_getElem?, List.length_take, List.getD_eq_getElem?_getD, List.getElem?_take, if_pos (by omega)]
    congr 2
    omega
  rw [e1, dropLast_take _ _ (by omega)]
  rfl
end Go.Proofs.YtafiopjgegmfoaaGreat.T
