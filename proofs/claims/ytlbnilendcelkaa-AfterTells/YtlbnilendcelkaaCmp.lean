/-
  cmp.Compare; the closure that holds two entries against each other.
-/
import Derived.Test.YtlbnilendcelkaaMem
import Derived.Test.YtlbnilendcelkaaStab
namespace Go.Proofs.Ytlbnilendcelkaa
open Go.RowKit
theorem isNaN_at (w : World) (x : Int) : Calls Try.prog 38 #[.int .i64 x] w fun r w' => r = .returned (.bool false) ∧ w' = w := by
  go_enter Try.func38, Try.ntmps38
  go_wp2
  go_ret
  exact ⟨rfl, rfl⟩
def cmpI (x y : Int) : Int := if x < y then -1 else if y < x then 1 else 0
theorem cmpI_neg (x y : Int) : cmpI x y < 0 ↔ x < y := by unfold cmpI; split <;> (try split) <;> omega
theorem compare_at (w : World) (x y : Int) : Calls Try.prog 29 #[.int .i64 x, .int .i64 y] w fun r w' => r = .returned (.int .i64 (cmpI x y)) ∧ w' = w := by
  have c1 := isNaN_at w x
  have c2 := isNaN_at w y
  by_cases h : x < y
  · have e : cmpI x y = -1 := by simp [cmpI, h]
    rw [e]; clear e
    go_enter Try.func29, Try.ntmps29
    go_wp2_with (first | (go_at_call 38; with_reducible refine Calls.mono c1 ?_; rintro e w' ⟨rfl, rfl⟩) | (go_at_call 38; with_reducible refine Calls.mono c2 ?_; rintro e w' ⟨rfl, rfl⟩))
    go_ret
    exact ⟨rfl, rfl⟩
  · by_cases h2 : y < x
    · have e : cmpI x y = 1 := by simp [cmpI, h, h2]
      rw [e]; clear e
      go_enter Try.func29, Try.ntmps29
      go_wp2_with (first | (go_at_call 38; with_reducible refine Calls.mono c1 ?_; rintro e w' ⟨rfl, rfl⟩) | (go_at_call 38; with_reducible refine Calls.mono c2 ?_; rintro e w' ⟨rfl, rfl⟩))
      go_ret
      exact ⟨rfl, rfl⟩
    · have e : cmpI x y = 0 := by simp [cmpI, h, h2]
      rw [e]; clear e
      go_enter Try.func29, Try.ntmps29
      go_wp2_with (first | (go_at_call 38; with_reducible refine Calls.mono c1 ?_; rintro e w' ⟨rfl, rfl⟩) | (go_at_call 38; with_reducible refine Calls.mono c2 ?_; rintro e w' ⟨rfl, rfl⟩))
      go_ret
      exact ⟨rfl, rfl⟩
/-- an entry: its version, its owner, its action -/
structure En (α : Type) where
  ver : Int
  own : Int
  act : α
def eI : Enc (En Int) := ⟨fun e => .int .i64 e.ver, fun e => .int .i64 e.own, fun e => .int .i64 e.act, fun _ => rfl, fun _ => rfl, fun _ => rfl⟩
def eS : Enc (En ByteArray) := ⟨fun e => .int .i64 e.ver, fun e => .int .i64 e.own, fun e => .string e.act, fun _ => rfl, fun _ => rfl, fun _ => rfl⟩
namespace I
theorem cmp_at (w : World) (x y : En Int) : Calls Try.prog 28 #[eI.agg x, eI.agg y] w fun r w' => r = .returned (.int .i64 (cmpI x.ver y.ver)) ∧ Below w.heap.size w w' := by
  obtain ⟨xv, xo, xa⟩ := x
  obtain ⟨yv, yo, ya⟩ := y
  have c0 := fun u => compare_at u xv yv
  generalize cmpI xv yv = cc at c0 ⊢
  simp only [Enc.agg, eI]
  go_enter Try.func28, Try.ntmps28
  go_wp2_with (go_at_call 29; refine (c0 _).mono ?_; rintro e w' ⟨rfl, rfl⟩)
  go_ret
  exact ⟨rfl, (Below.refl _ _).alloc (Nat.le_refl _) _ |>.alloc (by simp) _⟩
end I
namespace S
theorem cmp_at (w : World) (x y : En ByteArray) : Calls Try.prog 43 #[eS.agg x, eS.agg y] w fun r w' => r = .returned (.int .i64 (cmpI x.ver y.ver)) ∧ Below w.heap.size w w' := by
  obtain ⟨xv, xo, xa⟩ := x
  obtain ⟨yv, yo, ya⟩ := y
  have c0 := fun u => compare_at u xv yv
  generalize cmpI xv yv = cc at c0 ⊢
  simp only [Enc.agg, eS]
  go_enter Try.func43, Try.ntmps43
  go_wp2_with (go_at_call 29; refine (c0 _).mono ?_; rintro e w' ⟨rfl, rfl⟩)
  go_ret
  exact ⟨rfl, (Below.refl _ _).alloc (Nat.le_refl _) _ |>.alloc (by simp) _⟩
end S
end Go.Proofs.Ytlbnilendcelkaa
