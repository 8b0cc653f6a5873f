/-
  The document's own Inode: counted, one by one.
-/
import Derived.Test.YthnflalafmhdpaaLaid
namespace Go.Proofs.Ythnflalafmhdpaa
open Go.RowKit

set_option maxRecDepth 100000 in
theorem rinode_in (m d : Nat) (n : Int) (w : World) (h0 : 64 ≤ m) (h1 : m ≤ 512) (hd : d = m / 16) :
    Calls Try.prog 11 #[.agg (layA m), .int .i64 n] w fun r w' => ((∃ k j : Nat, k < d ∧ j < 64 ∧ n = 1 + 64 * k + j ∧ r = .returned (.tuple #[.int .i64 (3 + lgs m + k : Nat), .int .i64 (64 * j : Nat), .int .i64 0])) ∨ (¬(1 ≤ n ∧ n ≤ 64 * (d : Int)) ∧ r = .returned (.tuple #[.int .i64 0, .int .i64 0, .int .i64 2]))) ∧ Below w.heap.size w w' := by
  have hl := lgs_le m h1
  have hd32 : d ≤ 32 := by omega
  unfold layA
  go_enter Try.func11, Try.ntmps11
  go_wp2_with fail
  refine (right_yes m _ h0 h1).mono ?_
  rintro r w1 ⟨rfl, b1⟩
  have bx := (Box.new w _ 23).below b1
  have B1 := ((Below.refl w.heap.size w).alloc (Nat.le_refl _) _).trans (b1.mono (by simp))
  clear b1
  obtain ⟨c0, c1, c2, c3, c4, c5, c6⟩ := bx.all7
  have hd' : (m : Int) / 16 = (d : Int) := by omega
  rw [hd'] at c5
  clear hd hd'
  go_wp2_with fail
  go_loopw [7, 8] (fun u i wr => ∃ k : Nat, k ≤ d ∧ u = .int .i64 (1 + 64 * k : Nat) ∧ i = .int .i64 (3 + lgs m + k : Nat) ∧ w1 = wr ∧ ¬(1 ≤ n ∧ n ≤ 64 * (k : Int))) (fun _ i _ => 3 + lgs m + d - (intOf i).toNat)
  case atStart => exact ⟨0, Nat.zero_le _, rfl, rfl, rfl, by omega⟩
  case round =>
    obtain ⟨k, hk, rfl, rfl, rfl, hno⟩ := hrel
    by_cases hlt : k < d
    · go_wp2_with fail
      go_loopw [7, 9] (fun u i wr => ∃ j : Nat, j ≤ 64 ∧ u = .int .i64 (1 + 64 * k + j : Nat) ∧ i = .int .i64 (64 * j : Nat) ∧ w1 = wr ∧ ¬(1 ≤ n ∧ n ≤ 64 * (k : Int) + j)) (fun _ i _ => 4096 - (intOf i).toNat)
      case atStart => exact ⟨0, Nat.zero_le _, rfl, rfl, rfl, by omega⟩
      case round =>
        obtain ⟨j, hj, rfl, rfl, rfl, hno2⟩ := hrel
        by_cases hlt2 : j < 64
        · by_cases hq : n = 1 + 64 * k + j
          · subst hq
            go_wp2_with fail
            refine bodyPost_ret (by simp [results, Try.results11, go_sem]; rfl) rfl ⟨.inl ⟨k, j, hlt, hlt2, rfl, ?_⟩, B1⟩
            push_cast
            rfl
          · go_wp2_with fail
            go_roundw
            case rel => exact ⟨j + 1, by omega, by push_cast; rfl, by push_cast; rfl, by trivial, by omega⟩
            case measure => simp [intOf]; omega
        · obtain rfl : j = 64 := by omega
          go_wp2_with fail
          go_roundw
          case rel => exact ⟨k + 1, by omega, by push_cast; rfl, by push_cast; rfl, by trivial, by omega⟩
          case measure => simp [intOf]; omega
    · obtain rfl : k = d := by omega
      go_wp2_with fail
      exact bodyPost_ret (v := .tuple #[.int .i64 0, .int .i64 0, .int .i64 2]) (by simp [results, Try.results11, go_sem]) rfl ⟨.inr ⟨hno, rfl⟩, B1⟩
end Go.Proofs.Ythnflalafmhdpaa
