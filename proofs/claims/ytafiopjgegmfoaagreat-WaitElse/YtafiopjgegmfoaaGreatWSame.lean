/-
  SameInts of two rows that hold the same.
-/
import Derived.Test.YtafiopjgegmfoaaGreatWHw
namespace Go.Proofs.YtafiopjgegmfoaaGreat.W
open Go.RowKit Go.Maps Go.Proofs.YtafiopjgegmfoaaGreat Go.Proofs.YtafiopjgegmfoaaGreat.C Go.Proofs.YtafiopjgegmfoaaGreat.T
set_option maxHeartbeats 1000000 in
set_option maxRecDepth 20000 in
theorem same_ints {w : World} {B B' : Nat} {v v' : Value} {l : List Int} (h : w.ownsRow B 3 1 v l.length (zcs l)) (h' : w.ownsRow B' 3 1 v' l.length (zcs l)) (hl : l.length < 1000000) :
    Calls Tryz.prog 40 #[v, v'] w fun r w' => r = .returned (.bool true) ∧ ∃ q, w' = w.drewN q := by
  obtain ⟨a, c, rfl⟩ := ownsRow_slice h
  obtain ⟨a', c', rfl⟩ := ownsRow_slice h'
  have HR : Hid (∀ k (hk : k < l.length) (q : Nat), ∃ g g', a = some ⟨g, 0, none⟩ ∧ a' = some ⟨g', 0, none⟩ ∧ (w.drewN q).cell? ⟨g, k, none⟩ = some (.int .i64 l[k]) ∧ (w.drewN q).cell? ⟨g', k, none⟩ = some (.int .i64 l[k])) := fun k hk q => by
    obtain ⟨g, cap, e1, c1⟩ := ownsRow_cell h k hk
    obtain ⟨g', cap', e2, c2⟩ := ownsRow_cell h' k hk
    injection e1 with e1
    injection e2 with e2
    refine ⟨g, g', e1, e2, ?_, ?_⟩
    · show w.cell? _ = _
      rw [c1]; simp [zcs, hk, encI]
    · show w.cell? _ = _
      rw [c2]; simp [zcs, hk, encI]
  obtain ⟨n, hn⟩ : ∃ n, n = l.length := ⟨_, rfl⟩
  rw [← hn] at hl ⊢
  have HN : Hid (n = l.length) := hn
  clear h h' hn
  go_enter Tryz.func40, Tryz.ntmps40
  go_wp2_with fail
  go_loopw [5] (fun i u => ∃ k q : Nat, k ≤ n ∧ i = .int .i64 (k : Int) ∧ u = w.drewN q) (fun i _ => n - (iv i).toNat)
  case atStart => exact ⟨0, 0, Nat.zero_le _, rfl, rfl⟩
  case round =>
    obtain ⟨k, q, hk, rfl, rfl⟩ := hrel
    by_cases hlt : k < n
    · have hki : (k : Int) < (n : Int) := by omega
      obtain ⟨g, g', rfl, rfl, x1, x2⟩ := HR.out k (by rw [← HN.out]; exact hlt) q
      generalize (l[k]'(by rw [← HN.out]; exact hlt)) = z at x1 x2
      obtain ⟨wq, hwq⟩ : ∃ wq, wq = w.drewN q := ⟨_, rfl⟩
      rw [← hwq] at x1 x2 ⊢
      have HQ : Hid (wq = w.drewN q) := hwq
      clear hwq
      go_wp2_with fail
      go_quiet (fail)
      go_wp2
      go_roundw
      case rel => exact ⟨k + 1, q + nq, by omega, by go_num, by rw [HQ.out, World.drewN_drewN]⟩
      case measure => simp [iv]; omega
    · obtain rfl : k = n := by omega
      go_wp2
      go_ret
      exact ⟨rfl, q, rfl⟩

end Go.Proofs.YtafiopjgegmfoaaGreat.W
