/-
  SameInts of two rows that hold the same.
-/
import Derived.Test.YtjhhncbadkpbaaaReady
namespace Go.Proofs.Ytjhhncbadkpbaaa
open Go.RowKit
set_option maxHeartbeats 1000000 in
set_option maxRecDepth 20000 in
theorem same_ints {w : World} {B B' : Nat} {v v' : Value} {l : List Nat} (h : w.ownsRow B 3 1 v l.length (ics l)) (h' : w.ownsRow B' 3 1 v' l.length (ics l)) (hl : l.length < 1000000) :
    Calls Try.prog 17 #[v, v'] w fun r w' => r = .returned (.bool true) ∧ ∃ q, w' = w.drewN q := by
  obtain ⟨a, c, rfl⟩ := ownsRow_slice h
  obtain ⟨a', c', rfl⟩ := ownsRow_slice h'
  have HR : Hid (∀ k (hk : k < l.length) (q : Nat), ∃ g g', a = some ⟨g, 0, none⟩ ∧ a' = some ⟨g', 0, none⟩ ∧ (w.drewN q).cell? ⟨g, k, none⟩ = some (.int .i64 (l[k] : Int)) ∧ (w.drewN q).cell? ⟨g', k, none⟩ = some (.int .i64 (l[k] : Int))) := fun k hk q => by
    obtain ⟨g, cap, e1, c1⟩ := ownsRow_cell h k hk
    obtain ⟨g', cap', e2, c2⟩ := ownsRow_cell h' k hk
    injection e1 with e1
    injection e2 with e2
    refine ⟨g, g', e1, e2, ?_, ?_⟩
    · show w.cell? _ = _
      rw [c1]; simp [ics, hk]
    · show w.cell? _ = _
      rw [c2]; simp [ics, hk]
  obtain ⟨n, hn⟩ : ∃ n, n = l.length := ⟨_, rfl⟩
  rw [← hn] at hl ⊢
  have HN : Hid (n = l.length) := hn
  clear h h' hn
  go_enter Try.func17, Try.ntmps17
  go_wp2_with fail
  go_loopw [5] (fun i u => ∃ k q : Nat, k ≤ n ∧ i = .int .i64 (k : Int) ∧ u = w.drewN q) (fun i _ => n - (intOf i).toNat)
  case atStart => exact ⟨0, 0, Nat.zero_le _, rfl, rfl⟩
  case round =>
    obtain ⟨k, q, hk, rfl, rfl⟩ := hrel
    by_cases hlt : k < n
    · have hki : (k : Int) < (n : Int) := by omega
      obtain ⟨g, g', rfl, rfl, x1, x2⟩ := HR.out k (by rw [← HN.out]; exact hlt) q
      generalize ((l[k]'(by rw [← HN.out]; exact hlt) : Nat) : Int) = z at x1 x2
      obtain ⟨wq, hwq⟩ : ∃ wq, wq = w.drewN q := ⟨_, rfl⟩
      rw [← hwq] at x1 x2 ⊢
      have HQ : Hid (wq = w.drewN q) := hwq
      clear hwq
      go_wp2_with fail
      go_quiet (fail)
      go_wp2
      go_roundw
      case rel => exact ⟨k + 1, q + nq, by omega, by go_num, by rw [HQ.out, World.drewN_drewN]⟩
      case measure => simp [intOf]; omega
    · obtain rfl : k = n := by omega
      go_wp2
      go_ret
      exact ⟨rfl, q, rfl⟩
end Go.Proofs.Ytjhhncbadkpbaaa
