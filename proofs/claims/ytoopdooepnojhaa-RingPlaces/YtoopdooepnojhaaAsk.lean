/-
  ask, whatever closure it is handed.
-/
import Derived.Test.YtoopdooepnojhaaRing
namespace Go.Proofs.Ytoopdooepnojhaa
open Go.RowKit

theorem ask_bad (S T U H n no : Int) (f : Value) (w : World) (h : ¬(R S T U H ∧ 0 ≤ n)) :
    Calls Try.prog 23 #[.agg (ri S T U H), .int .i64 n, f, .int .i64 no] w fun r w' => r = .returned (.int .i64 2) ∧ Below w.heap.size w w' := by
  have B := (Below.refl w.heap.size w).alloc (Nat.le_refl _) (.cells (ri S T U H) 23)
  unfold ri at *
  by_cases hR : R S T U H
  · have hn : n < 0 := by
      by_cases q : 0 ≤ n
      · exact absurd ⟨hR, q⟩ h
      · omega
    go_enter Try.func23, Try.ntmps23
    go_wp2_with fail
    refine (right_at _ _ _ _ _).mono ?_
    rintro r w1 ⟨rfl, b1⟩
    have B1 := keep B b1
    clear B b1
    rw [decide_eq_true hR]
    go_wp2_with fail
    go_ret
    exact ⟨rfl, B1⟩
  · go_enter Try.func23, Try.ntmps23
    go_wp2_with fail
    refine (right_at _ _ _ _ _).mono ?_
    rintro r w1 ⟨rfl, b1⟩
    have B1 := keep B b1
    clear B b1
    rw [decide_eq_false hR]
    go_wp2_with fail
    go_ret
    exact ⟨rfl, B1⟩

theorem ask_in22 (caps : Array Value) (S T U H n no : Int) (m : Bool) (w : World) (hR : R S T U H) (hn : 0 ≤ n)
    (hm : ∀ w', Below w.heap.size w w' → Calls Try.prog 22 caps w' fun r w'' => r = .returned (.bool m) ∧ Below w'.heap.size w' w'') :
    Calls Try.prog 23 #[.agg (ri S T U H), .int .i64 n, .func (.func 22) #[] caps, .int .i64 no] w fun r w' => r = .returned (.int .i64 (if m then 0 else no)) ∧ Below w.heap.size w w' := by
  have B := (Below.refl w.heap.size w).alloc (Nat.le_refl _) (.cells (ri S T U H) 23)
  unfold ri at *
  cases m
  · rw [if_neg (by simp)]
    go_enter Try.func23, Try.ntmps23
    go_wp2_with fail
    refine (right_at _ _ _ _ _).mono ?_
    rintro r w1 ⟨rfl, b1⟩
    have B1 := keep B b1
    clear B b1
    rw [decide_eq_true hR]
    go_wp2_with fail
    refine (hm _ B1).mono ?_
    rintro r w2 ⟨rfl, b2⟩
    have B2 := keep B1 b2
    go_wp2_with fail
    go_ret
    exact ⟨rfl, B2⟩
  · rw [if_pos rfl]
    go_enter Try.func23, Try.ntmps23
    go_wp2_with fail
    refine (right_at _ _ _ _ _).mono ?_
    rintro r w1 ⟨rfl, b1⟩
    have B1 := keep B b1
    clear B b1
    rw [decide_eq_true hR]
    go_wp2_with fail
    refine (hm _ B1).mono ?_
    rintro r w2 ⟨rfl, b2⟩
    have B2 := keep B1 b2
    go_wp2_with fail
    go_ret
    exact ⟨rfl, B2⟩

theorem ask_in24 (caps : Array Value) (S T U H n no : Int) (m : Bool) (w : World) (hR : R S T U H) (hn : 0 ≤ n)
    (hm : ∀ w', Below w.heap.size w w' → Calls Try.prog 24 caps w' fun r w'' => r = .returned (.bool m) ∧ Below w'.heap.size w' w'') :
    Calls Try.prog 23 #[.agg (ri S T U H), .int .i64 n, .func (.func 24) #[] caps, .int .i64 no] w fun r w' => r = .returned (.int .i64 (if m then 0 else no)) ∧ Below w.heap.size w w' := by
  have B := (Below.refl w.heap.size w).alloc (Nat.le_refl _) (.cells (ri S T U H) 23)
  unfold ri at *
  cases m
  · rw [if_neg (by simp)]
    go_enter Try.func23, Try.ntmps23
    go_wp2_with fail
    refine (right_at _ _ _ _ _).mono ?_
    rintro r w1 ⟨rfl, b1⟩
    have B1 := keep B b1
    clear B b1
    rw [decide_eq_true hR]
    go_wp2_with fail
    refine (hm _ B1).mono ?_
    rintro r w2 ⟨rfl, b2⟩
    have B2 := keep B1 b2
    go_wp2_with fail
    go_ret
    exact ⟨rfl, B2⟩
  · rw [if_pos rfl]
    go_enter Try.func23, Try.ntmps23
    go_wp2_with fail
    refine (right_at _ _ _ _ _).mono ?_
    rintro r w1 ⟨rfl, b1⟩
    have B1 := keep B b1
    clear B b1
    rw [decide_eq_true hR]
    go_wp2_with fail
    refine (hm _ B1).mono ?_
    rintro r w2 ⟨rfl, b2⟩
    have B2 := keep B1 b2
    go_wp2_with fail
    go_ret
    exact ⟨rfl, B2⟩

theorem ask_in26 (caps : Array Value) (S T U H n no : Int) (m : Bool) (w : World) (hR : R S T U H) (hn : 0 ≤ n)
    (hm : ∀ w', Below w.heap.size w w' → Calls Try.prog 26 caps w' fun r w'' => r = .returned (.bool m) ∧ Below w'.heap.size w' w'') :
    Calls Try.prog 23 #[.agg (ri S T U H), .int .i64 n, .func (.func 26) #[] caps, .int .i64 no] w fun r w' => r = .returned (.int .i64 (if m then 0 else no)) ∧ Below w.heap.size w w' := by
  have B := (Below.refl w.heap.size w).alloc (Nat.le_refl _) (.cells (ri S T U H) 23)
  unfold ri at *
  cases m
  · rw [if_neg (by simp)]
    go_enter Try.func23, Try.ntmps23
    go_wp2_with fail
    refine (right_at _ _ _ _ _).mono ?_
    rintro r w1 ⟨rfl, b1⟩
    have B1 := keep B b1
    clear B b1
    rw [decide_eq_true hR]
    go_wp2_with fail
    refine (hm _ B1).mono ?_
    rintro r w2 ⟨rfl, b2⟩
    have B2 := keep B1 b2
    go_wp2_with fail
    go_ret
    exact ⟨rfl, B2⟩
  · rw [if_pos rfl]
    go_enter Try.func23, Try.ntmps23
    go_wp2_with fail
    refine (right_at _ _ _ _ _).mono ?_
    rintro r w1 ⟨rfl, b1⟩
    have B1 := keep B b1
    clear B b1
    rw [decide_eq_true hR]
    go_wp2_with fail
    refine (hm _ B1).mono ?_
    rintro r w2 ⟨rfl, b2⟩
    have B2 := keep B1 b2
    go_wp2_with fail
    go_ret
    exact ⟨rfl, B2⟩

theorem ask_in27 (caps : Array Value) (S T U H n no : Int) (m : Bool) (w : World) (hR : R S T U H) (hn : 0 ≤ n)
    (hm : ∀ w', Below w.heap.size w w' → Calls Try.prog 27 caps w' fun r w'' => r = .returned (.bool m) ∧ Below w'.heap.size w' w'') :
    Calls Try.prog 23 #[.agg (ri S T U H), .int .i64 n, .func (.func 27) #[] caps, .int .i64 no] w fun r w' => r = .returned (.int .i64 (if m then 0 else no)) ∧ Below w.heap.size w w' := by
  have B := (Below.refl w.heap.size w).alloc (Nat.le_refl _) (.cells (ri S T U H) 23)
  unfold ri at *
  cases m
  · rw [if_neg (by simp)]
    go_enter Try.func23, Try.ntmps23
    go_wp2_with fail
    refine (right_at _ _ _ _ _).mono ?_
    rintro r w1 ⟨rfl, b1⟩
    have B1 := keep B b1
    clear B b1
    rw [decide_eq_true hR]
    go_wp2_with fail
    refine (hm _ B1).mono ?_
    rintro r w2 ⟨rfl, b2⟩
    have B2 := keep B1 b2
    go_wp2_with fail
    go_ret
    exact ⟨rfl, B2⟩
  · rw [if_pos rfl]
    go_enter Try.func23, Try.ntmps23
    go_wp2_with fail
    refine (right_at _ _ _ _ _).mono ?_
    rintro r w1 ⟨rfl, b1⟩
    have B1 := keep B b1
    clear B b1
    rw [decide_eq_true hR]
    go_wp2_with fail
    refine (hm _ B1).mono ?_
    rintro r w2 ⟨rfl, b2⟩
    have B2 := keep B1 b2
    go_wp2_with fail
    go_ret
    exact ⟨rfl, B2⟩

theorem ask_in29 (caps : Array Value) (S T U H n no : Int) (m : Bool) (w : World) (hR : R S T U H) (hn : 0 ≤ n)
    (hm : ∀ w', Below w.heap.size w w' → Calls Try.prog 29 caps w' fun r w'' => r = .returned (.bool m) ∧ Below w'.heap.size w' w'') :
    Calls Try.prog 23 #[.agg (ri S T U H), .int .i64 n, .func (.func 29) #[] caps, .int .i64 no] w fun r w' => r = .returned (.int .i64 (if m then 0 else no)) ∧ Below w.heap.size w w' := by
  have B := (Below.refl w.heap.size w).alloc (Nat.le_refl _) (.cells (ri S T U H) 23)
  unfold ri at *
  cases m
  · rw [if_neg (by simp)]
    go_enter Try.func23, Try.ntmps23
    go_wp2_with fail
    refine (right_at _ _ _ _ _).mono ?_
    rintro r w1 ⟨rfl, b1⟩
    have B1 := keep B b1
    clear B b1
    rw [decide_eq_true hR]
    go_wp2_with fail
    refine (hm _ B1).mono ?_
    rintro r w2 ⟨rfl, b2⟩
    have B2 := keep B1 b2
    go_wp2_with fail
    go_ret
    exact ⟨rfl, B2⟩
  · rw [if_pos rfl]
    go_enter Try.func23, Try.ntmps23
    go_wp2_with fail
    refine (right_at _ _ _ _ _).mono ?_
    rintro r w1 ⟨rfl, b1⟩
    have B1 := keep B b1
    clear B b1
    rw [decide_eq_true hR]
    go_wp2_with fail
    refine (hm _ B1).mono ?_
    rintro r w2 ⟨rfl, b2⟩
    have B2 := keep B1 b2
    go_wp2_with fail
    go_ret
    exact ⟨rfl, B2⟩

theorem ask_in30 (caps : Array Value) (S T U H n no : Int) (m : Bool) (w : World) (hR : R S T U H) (hn : 0 ≤ n)
    (hm : ∀ w', Below w.heap.size w w' → Calls Try.prog 30 caps w' fun r w'' => r = .returned (.bool m) ∧ Below w'.heap.size w' w'') :
    Calls Try.prog 23 #[.agg (ri S T U H), .int .i64 n, .func (.func 30) #[] caps, .int .i64 no] w fun r w' => r = .returned (.int .i64 (if m then 0 else no)) ∧ Below w.heap.size w w' := by
  have B := (Below.refl w.heap.size w).alloc (Nat.le_refl _) (.cells (ri S T U H) 23)
  unfold ri at *
  cases m
  · rw [if_neg (by simp)]
    go_enter Try.func23, Try.ntmps23
    go_wp2_with fail
    refine (right_at _ _ _ _ _).mono ?_
    rintro r w1 ⟨rfl, b1⟩
    have B1 := keep B b1
    clear B b1
    rw [decide_eq_true hR]
    go_wp2_with fail
    refine (hm _ B1).mono ?_
    rintro r w2 ⟨rfl, b2⟩
    have B2 := keep B1 b2
    go_wp2_with fail
    go_ret
    exact ⟨rfl, B2⟩
  · rw [if_pos rfl]
    go_enter Try.func23, Try.ntmps23
    go_wp2_with fail
    refine (right_at _ _ _ _ _).mono ?_
    rintro r w1 ⟨rfl, b1⟩
    have B1 := keep B b1
    clear B b1
    rw [decide_eq_true hR]
    go_wp2_with fail
    refine (hm _ B1).mono ?_
    rintro r w2 ⟨rfl, b2⟩
    have B2 := keep B1 b2
    go_wp2_with fail
    go_ret
    exact ⟨rfl, B2⟩

end Go.Proofs.Ytoopdooepnojhaa
