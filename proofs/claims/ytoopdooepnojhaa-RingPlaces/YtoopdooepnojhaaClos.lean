/-
  The closures that ask is handed.
-/
import Derived.Test.YtoopdooepnojhaaAsk
namespace Go.Proofs.Ytoopdooepnojhaa
open Go.RowKit

abbrev pt (g : Nat) : Value := .pointer (some ⟨g, 0, none⟩)

theorem at1 (S T U H n : Int) (g h : Nat) (w : World) (bn : Box w g #[.int .i64 n] 3) (br : Box w h (ri S T U H) 23) :
    Calls Try.prog 30 #[pt g, pt h] w fun r w' => r = .returned (.bool (decide (n < S))) ∧ Below w.heap.size w w' := by
  have c := bn.one
  obtain ⟨c0, c1, c2, c3⟩ := br.all4
  go_enter Try.func30, Try.ntmps30
  go_wp2_with fail
  go_ret
  exact ⟨rfl, Below.refl _ _⟩
theorem drop1 (S T U H n : Int) (g h : Nat) (w : World) (bn : Box w g #[.int .i64 n] 3) (br : Box w h (ri S T U H) 23) :
    Calls Try.prog 24 #[pt g, pt h] w fun r w' => r = .returned (.bool (decide (n ≤ U))) ∧ Below w.heap.size w w' := by
  have c := bn.one
  obtain ⟨c0, c1, c2, c3⟩ := br.all4
  go_enter Try.func24, Try.ntmps24
  go_wp2_with fail
  go_ret
  exact ⟨rfl, Below.refl _ _⟩
theorem release1 (S T U H n : Int) (g h : Nat) (w : World) (bn : Box w g #[.int .i64 n] 3) (br : Box w h (ri S T U H) 23) :
    Calls Try.prog 26 #[pt g, pt h] w fun r w' => r = .returned (.bool (decide (n ≤ H))) ∧ Below w.heap.size w w' := by
  have c := bn.one
  obtain ⟨c0, c1, c2, c3⟩ := br.all4
  go_enter Try.func26, Try.ntmps26
  go_wp2_with fail
  go_ret
  exact ⟨rfl, Below.refl _ _⟩
theorem put1 (S T U H n k : Int) (f g h : Nat) (w : World) (bk : Box w f #[.int .i64 k] 3) (bn : Box w g #[.int .i64 n] 3) (br : Box w h (ri S T U H) 23) :
    Calls Try.prog 27 #[pt f, pt g, pt h] w fun r w' => r = .returned (.bool (decide (0 ≤ k ∧ k ≤ n ∧ k ≤ H))) ∧ Below w.heap.size w w' := by
  have c := bn.one
  have d := bk.one
  obtain ⟨c0, c1, c2, c3⟩ := br.all4
  by_cases q : n ≤ H
  · have e : decide (0 ≤ k ∧ k ≤ n ∧ k ≤ H) = decide (0 ≤ k ∧ k ≤ n) := decide_eq_decide.2 (by omega)
    rw [e]
    go_enter Try.func27, Try.ntmps27
    go_wp2_with fail
    refine (within_at _ _ _ _).mono ?_
    rintro r w1 ⟨rfl, rfl⟩
    go_wp2_with fail
    go_ret
    exact ⟨by simp, Below.refl _ _⟩
  · have e : decide (0 ≤ k ∧ k ≤ n ∧ k ≤ H) = decide (0 ≤ k ∧ k ≤ H) := decide_eq_decide.2 (by omega)
    rw [e]
    go_enter Try.func27, Try.ntmps27
    go_wp2_with fail
    refine (within_at _ _ _ _).mono ?_
    rintro r w1 ⟨rfl, rfl⟩
    go_wp2_with fail
    go_ret
    exact ⟨by simp, Below.refl _ _⟩

theorem reserve1 (S T U H n : Int) (g h : Nat) (w : World) (bn : Box w g #[.int .i64 n] 3) (br : Box w h (ri S T U H) 23) :
    Calls Try.prog 22 #[pt g, pt h] w fun r w' => r = .returned (.bool (decide (n ≤ fr S T U H))) ∧ Below w.heap.size w w' := by
  have c := bn.one
  obtain ⟨c0, c1, c2, c3⟩ := br.all4
  go_enter Try.func22, Try.ntmps22
  go_wp2_with fail
  go_region_with (go_at_call 12; refine (free_at S T U H _).mono ?_; rintro e w2 ⟨rfl, b2⟩; have B2 := ((Below.refl w.heap.size w).drew).trans b2; have d := ((show Box w.drew g #[.int .i64 n] 3 from bn).below b2).one)
  all_goals go_wp2_with fail
  all_goals go_ret
  all_goals exact ⟨rfl, B2⟩
set_option maxHeartbeats 2000000 in
theorem put2 (S T U H n k : Int) (f g h : Nat) (w : World) (hk : 0 ≤ k) (hkn : k ≤ n) (hn : n ≤ 9223372036854775807) (bk : Box w f #[.int .i64 k] 3) (bn : Box w g #[.int .i64 n] 3) (br : Box w h (ri S T U H) 23) :
    Calls Try.prog 29 #[pt g, pt f, pt h] w fun r w' => r = .returned (.bool (decide (n - k ≤ fr S T U H))) ∧ Below w.heap.size w w' := by
  have hw : IntKind.i64.wrap (n - k) = n - k := by rw [IntKind.wrap_i64]; omega
  have c := bn.one
  have c' := bk.one
  obtain ⟨c0, c1, c2, c3⟩ := br.all4
  go_enter Try.func29, Try.ntmps29
  go_wp2_with fail
  go_region_with (go_at_call 12; refine (free_at S T U H _).mono ?_; rintro e w2 ⟨rfl, b2⟩; have B2 := ((Below.refl w.heap.size w).drew).trans b2; have d := ((show Box w.drew g #[.int .i64 n] 3 from bn).below b2).one; have d' := ((show Box w.drew f #[.int .i64 k] 3 from bk).below b2).one)
  all_goals go_wp2_with fail
  all_goals go_ret
  all_goals exact ⟨by first | rfl | (rw [hw]; rfl), B2⟩
end Go.Proofs.Ytoopdooepnojhaa
