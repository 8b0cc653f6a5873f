/-
  What stays true of a memory of numbers and of a transaction.
-/
import Derived.Test.YtafiopjgegmfoaaTRead
namespace Go.Proofs.Ytafiopjgegmfoaa.T
open Go.RowKit Go.Proofs.Ytafiopjgegmfoaa.C
/-! ### what stays true -/
theorem IsS.base {α : Type} {enc : α → Value} {tS tM : TypeId} {w : World} {B B' g : Nat} {S : SS α} {F : Nat → Prop} (h : IsS enc tS tM w B' g S F) (hB : B ≤ B') : IsS enc tS tM w B g S F := by
  obtain ⟨rb, wb, v, X, h⟩ := h
  refine ⟨rb, wb, v, X, { h with row := ?_, fB := fun x hx => ⟨by have := (h.fB x hx).1; omega, (h.fB x hx).2⟩ }⟩
  refine ⟨h.row.1, ?_⟩
  rcases h.row.2 with h1 | ⟨q, cap, cur, h1, hb, hg, r⟩
  · exact .inl h1
  · exact .inr ⟨q, cap, cur, h1, by omega, hg, r⟩
theorem rel_cell (S : M) (o i : Int) : (S.rel o).cell? i = (S.cell? i).map (fun c => if c.own = o then { c with own := 0 } else c) := by
  unfold M.cell? M.rel
  split
  · simp
  · rfl
theorem Num.rel {S : M} (h : Num S) (o : Int) : Num (S.rel o) := fun i c hc => by
  rw [rel_cell] at hc
  cases hs : S.cell? i with
  | none => rw [hs] at hc; cases hc
  | some x =>
    rw [hs] at hc
    simp only [Option.map_some, Option.some.injEq] at hc
    obtain ⟨y, hy⟩ := h i x hs
    refine ⟨y, ?_⟩
    rw [← hc]
    split
    · exact hy
    · exact hy
theorem put_cell (S : M) (i : Int) (c : Cl) (h : ∃ x, S.cell? i = some x) (j : Int) : (S.put i c).cell? j = if j = i then some c else S.cell? j := by
  obtain ⟨x, hx⟩ := h
  obtain ⟨k, rfl, hk, hl⟩ := M.cell_in hx
  unfold M.cell? M.put
  by_cases hj : 0 ≤ j
  · rw [if_pos hj, if_pos hj]
    show (S.C.set ((k : Int)).toNat c)[j.toNat]? = _
    rw [List.getElem?_set, show ((k : Int)).toNat = k by omega]
    by_cases e : j = (k : Int)
    · rw [if_pos e, if_pos (by omega), if_pos hl]
    · rw [if_neg e, if_neg (by omega)]
  · rw [if_neg hj, if_neg hj, if_neg (by omega)]
theorem Num.put {S : M} (h : Num S) (i : Int) (c : Cl) (hx : ∃ x, S.cell? i = some x) (hc : ∃ y : Int, c.v = .int .i64 y) : Num (S.put i c) := fun j d hd => by
  rw [put_cell S i c hx] at hd
  split at hd
  · injection hd with hd; rw [← hd]; exact hc
  · exact h j d hd
theorem Num.lock {S : M} (h : Num S) (i o : Int) : Num (S.lock i o).1 := by
  unfold M.lock
  cases hc : S.cell? i with
  | none => exact h
  | some c =>
    dsimp only
    repeat' split
    all_goals first | exact h | exact h.put i _ ⟨c, hc⟩ (h i c hc)
theorem Num.adv {S : M} (h : Num S) : Num S.adv.1 := by
  unfold M.adv
  split
  · exact h
  · exact fun i c hc => h i c hc
theorem Num.publish {S : M} (h : Num S) (i o x k : Int) : Num (S.publish i o (.int .i64 x) k).1 := by
  unfold M.publish
  cases hc : S.cell? i with
  | none => exact h
  | some c =>
    dsimp only
    repeat' split
    all_goals first | exact h | exact h.put i _ ⟨c, hc⟩ ⟨x, rfl⟩
theorem Num.fill {S : M} (h : Num S) (i x : Int) : Num (S.fill i (.int .i64 x)).1 := by
  unfold M.fill
  cases hc : S.cell? i with
  | none => exact h
  | some c =>
    dsimp only
    repeat' split
    all_goals first | exact h | exact h.put i _ ⟨c, hc⟩ ⟨x, rfl⟩
theorem Num.new (n : Nat) : Num (C.M0 n) := fun i c hc => by
  obtain ⟨j, _, h, _⟩ := M.cell_in hc
  have : c ∈ (C.M0 n).C := List.mem_of_getElem? h
  unfold C.M0 at this
  rw [List.mem_replicate] at this
  exact ⟨0, by rw [this.2]⟩
theorem Num.read {S : M} (h : Num S) (X : TX) (i : Int) : Num (X.read S i).2.2.1 := by
  unfold TX.read
  repeat' split
  all_goals first | exact h | exact h.rel _
theorem Num.do1 {S : M} (h : Num S) (X : TX) (s : Stp) : Num (X.do1 S s).2.1 := by
  unfold TX.do1
  repeat' split
  all_goals first | exact h | exact h.lock _ _ | exact h.adv | exact h.publish _ _ _ _
theorem Num.fin {r : Int × M × TX} (h : Num r.2.1) (o : Int) (L : List Stp) : Num (TX.fin o L r).2.2.1 := by
  unfold TX.fin
  repeat' split
  all_goals first | exact h | exact h.rel _
theorem Num.step {S : M} (h : Num S) (X : TX) : Num (X.step S).2.2.1 := by
  unfold TX.step TX.go
  repeat' split
  all_goals first | exact h | exact (h.do1 _ _).fin _ _
theorem Num.abort {S : M} (h : Num S) (X : TX) : Num (X.abort S).2.1 := by
  unfold TX.abort
  split
  · exact h
  · exact h.rel _
theorem TX.Rdy.read {X : TX} (h : X.Rdy) (S : M) (i : Int) : (X.read S i).2.2.2.Rdy := by
  unfold TX.read
  repeat' split
  all_goals first | exact h | exact fun e => by simp [TX.fail] at e
theorem TX.Rdy.write {X : TX} (h : X.Rdy) (S : M) (i v : Int) : (X.write S i v).2.Rdy := by
  unfold TX.write
  repeat' split
  all_goals exact h
theorem TX.Rdy.mark {X : TX} (h : X.Rdy) : X.mark.2.Rdy := by unfold TX.mark; split <;> exact h
theorem TX.Rdy.keep {X : TX} (h : X.Rdy) : X.keep.2.Rdy := by unfold TX.keep; split <;> exact h
theorem TX.Rdy.undo {X : TX} (h : X.Rdy) : X.undo.2.Rdy := by unfold TX.undo; split <;> exact h
theorem TX.Rdy.abort {X : TX} (h : X.Rdy) (S : M) : (X.abort S).2.2.Rdy := by
  unfold TX.abort
  split
  · exact h
  · exact fun e => by simp [TX.fail] at e
/-! ### transactions side by side -/
def upd {α : Type} (f : Nat → α) (j : Nat) (x : α) : Nat → α := fun i => if i = j then x else f i
theorem upd_same {α : Type} (f : Nat → α) (j : Nat) (x : α) : upd f j x j = x := if_pos rfl
theorem upd_other {α : Type} (f : Nat → α) {i j : Nat} (x : α) (h : i ≠ j) : upd f j x i = f i := if_neg h
end Go.Proofs.Ytafiopjgegmfoaa.T
