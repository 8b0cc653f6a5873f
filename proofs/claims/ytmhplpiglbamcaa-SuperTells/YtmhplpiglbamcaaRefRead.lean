/-
  The document's own readings: number, read.
-/
import Derived.Test.YtmhplpiglbamcaaRefSuper
namespace Go.Proofs.Ytmhplpiglbamcaa
open Go.RowKit

/-- number: of so many bytes at a place -/
theorem refnumber_at (cap n : Nat) (a : Option Addr) (xs : List UInt8) (i : Int) (size : Nat) (S : Int) (w : World) (hS : S = (size : Int)) (hl : xs.length = n) (hs0 : 0 < size) (hs : size ≤ 8) (hn : n ≤ 9223372036854775807) (hr : Rd w a xs) :
    Calls Try.prog 62 #[.slice a n cap, .int .i64 i, .int .i64 S] w fun e w' => e = .returned (.int .i64 (i64 (num xs i size))) ∧ w = w' := by
  subst hS
  have c := refNumber_at cap n a xs i size size w rfl hl hs0 hs hn hr
  have hlt : num xs i size < 18446744073709551616 := by
    have h := num_lt xs i size
    have h2 : 256 ^ size ≤ 256 ^ 8 := Nat.pow_le_pow_right (by omega) hs
    have h3 : 256 ^ 8 = 18446744073709551616 := by decide
    omega
  have c' : Calls Try.prog 77 #[.slice a n cap, .int .i64 i, .int .i64 size] w fun e w' => ∃ ok, e = .returned (.tuple #[.int .u64 (num xs i size : Nat), .bool ok]) ∧ w = w' := by
    refine c.mono ?_
    rintro e w' ⟨rfl, rfl⟩
    exact ⟨_, rfl, rfl⟩
  generalize num xs i size = V at c' hlt
  clear hl c
  go_enter Try.func62, Try.ntmps62
  go_wp2_with fail
  refine c'.mono ?_
  rintro e w' ⟨ok, rfl, rfl⟩
  go_wp2
  go_ret
  exact ⟨rfl, rfl⟩

theorem num2_i64 (xs : List UInt8) (i : Int) : i64 (num xs i 2) = (num xs i 2 : Nat) := i64_in _ (by have := num_lt xs i 2; omega)

theorem refread_at (n cap p c : Nat) (a : Option Addr) (xs : List UInt8) (w : World) (hn : xs.length = n) (hm : n ≤ 9223372036854775807) (hp : p ≤ 100) (hc : c ≤ 100000) (hr : Rd w a xs) :
    Calls Try.prog 63 #[.slice a n cap, .int .i64 p, .int .i64 c] w fun r w' => ∃ v, r = .returned v ∧ w'.ownsRow w.heap.size 46 3 v c (ecs (readE xs p c)) ∧ Below w.heap.size w w' := by
  obtain ⟨i0, hi, hz0, hz1, hz2⟩ := info_parts info46
  have Hn : Hid _ := hn
  clear hn
  go_enter Try.func63, Try.ntmps63
  go_wp2_with fail
  go_loopw [7, 8] (fun v i wr => ∃ k : Nat, k ≤ c ∧ i = .int .i64 k ∧ wr.ownsRow w.heap.size 46 3 v k (ecs (readE xs p k)) ∧ Below w.heap.size w wr) (fun _ i _ => c - (intOf i).toNat)
  case atStart => exact ⟨0, Nat.zero_le _, rfl, World.ownsRow_nil _ _ _ _, Below.refl _ _⟩
  case round =>
    obtain ⟨k, hk, rfl, hown, hbel⟩ := hrel
    by_cases hlt : k < c
    · have z3 := hbel.size
      have hrk := hr.below hbel (Nat.le_refl _)
      go_wp2_with fail
      refine (refnumber_at cap n a xs _ 2 _ wr rfl Hn.out (by omega) (by omega) hm hrk).mono ?_
      rintro r w1 ⟨rfl, rfl⟩
      rw [num2_i64]
      obtain ⟨N1, hN1⟩ : ∃ N, N = num xs ((p : Int) + 6 * (k : Int)) 2 := ⟨_, rfl⟩
      rw [← hN1]
      have HN1 : Hid _ := hN1
      clear hN1
      go_wp2_with fail
      refine (refnumber_at cap n a xs _ 2 _ wr rfl Hn.out (by omega) (by omega) hm hrk).mono ?_
      rintro r w1 ⟨rfl, rfl⟩
      rw [num2_i64]
      obtain ⟨N2, hN2⟩ : ∃ N, N = num xs ((p : Int) + 6 * (k : Int) + 2) 2 := ⟨_, rfl⟩
      rw [← hN2]
      have HN2 : Hid _ := hN2
      clear hN2
      go_wp2_with fail
      refine (refnumber_at cap n a xs _ 2 _ wr rfl Hn.out (by omega) (by omega) hm hrk).mono ?_
      rintro r w1 ⟨rfl, rfl⟩
      rw [num2_i64]
      obtain ⟨N3, hN3⟩ : ∃ N, N = num xs ((p : Int) + 6 * (k : Int) + 4) 2 := ⟨_, rfl⟩
      rw [← hN3]
      have HN3 : Hid _ := hN3
      clear hN3 hrk
      go_wp2_with (at_builtin; refine wpList_append_own _ rfl _ _ 30 rfl w.heap.size 46 i0 (.agg #[.int .i64 0, .int .i64 0, .int .i64 0]) 3 24 Try.underlying30 hi hz0 hz1 hz2 rfl (by decide) u7 k (ecs (readE xs p k)) rfl (hown.alloc _) ⟨wr.heap.size, 0, none⟩ 1 1 [.int .i64 (N1 : Int), .int .i64 (N2 : Int), .int .i64 (N3 : Int)] rfl rfl ?c1 ?c2 ?c3 ?c4 ?c5 ?_)
      case c1 =>
        intro i u hi'
        match i, hi' with
        | 0, hi' => simp at hi'; subst hi'; simp [Addr.add]
        | 1, hi' => simp at hi'; subst hi'; simp [Addr.add]
        | 2, hi' => simp at hi'; subst hi'; simp [Addr.add]
      case c2 => intro u hu; simp at hu; rcases hu with rfl | rfl | rfl <;> rfl
      case c3 => unfold maxLen; omega
      case c4 => omega
      case c5 => simp; omega
      · intro v' w4 hown4 hgrow _
        have B4 : Below w.heap.size w w4 := (hbel.alloc z3 _).grown hgrow (by simp; omega) (fun k hk => (hown.lt k hk).1)
        have hfin : Hid (ecs (readE xs p (k + 1)) = ecs (readE xs p k) ++ [.int .i64 (N1 : Int), .int .i64 (N2 : Int), .int .i64 (N3 : Int)]) := by
          show _ = _
          have q1 : ((p + 6 * k : Nat) : Int) = (p : Int) + 6 * (k : Int) := by omega
          have q2 : ((p + 6 * k + 2 : Nat) : Int) = (p : Int) + 6 * (k : Int) + 2 := by omega
          have q3 : ((p + 6 * k + 4 : Nat) : Int) = (p : Int) + 6 * (k : Int) + 4 := by omega
          rw [readE_succ, q1, q2, q3, ← HN1.out, ← HN2.out, ← HN3.out]
          simp [ecs, ec]
        clear hown hbel hgrow
        go_wp2
        go_roundw
        case rel =>
          refine ⟨k + 1, by omega, by go_num, ?_, B4⟩
          rw [hfin.out]; exact hown4
        case measure => simp [intOf]; omega
    · obtain rfl : k = c := by omega
      go_wp2
      go_ret
      exact ⟨_, rfl, hown, hbel⟩
end Go.Proofs.Ytmhplpiglbamcaa
