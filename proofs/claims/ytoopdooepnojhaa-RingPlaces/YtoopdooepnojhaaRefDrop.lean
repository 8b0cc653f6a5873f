/-
  The document's own Drop and Put.
-/
import Derived.Test.YtoopdooepnojhaaRef
namespace Go.Proofs.Ytoopdooepnojhaa
open Go.RowKit

set_option maxRecDepth 100000 in
set_option maxHeartbeats 1000000 in
theorem rdrop_ok (S T U H : Int) (m : Nat) (w : World) (hR : R S T U H) (h1 : (m : Int) ≤ U) :
    Calls Try.prog 18 #[.agg (ri S T U H), .int .i64 m] w fun r w' => r = .returned (.tuple #[.agg (ri S ((T + m) % S) (U - m) H), .int .i64 0]) ∧ Below w.heap.size w w' := by
  have br := w2r w S T U H
  have bo := w2o w S T U H
  have B0 := w2b w S T U H
  unfold ri at *
  go_enter Try.func18, Try.ntmps18
  go_wp2_with fail
  refine (rright_at _ _ _ _ _).mono ?_
  rintro r w1 ⟨rfl, b1⟩
  have B1 := keep B0 b1
  have bo1 := bo.below b1
  have br1 := br.below b1
  clear B0 bo br b1
  rw [decide_eq_true hR]
  obtain ⟨⟨q1, q2⟩, ⟨q3, q4⟩, q5, q6⟩ := hR
  obtain ⟨c0, c1, c2, c3⟩ := br1.all4
  go_wp2_with fail
  go_loopw [6] (fun i wr => ∃ k : Nat, k ≤ m ∧ i = .int .i64 (k : Int) ∧ Box wr w.heap.size #[.int .i64 S, .int .i64 ((T + k) % S), .int .i64 U, .int .i64 H] 23 ∧ Box wr (w.heap.size + 1) #[.int .i64 0, .int .i64 0, .int .i64 0, .int .i64 0] 23 ∧ Below w.heap.size w wr) (fun i _ => m - (intOf i).toNat)
  case atStart =>
    refine ⟨0, Nat.zero_le _, by simp, ?_, bo1, B1⟩
    have e : (T + ((0 : Nat) : Int)) % S = T := by simp; exact Int.emod_eq_of_lt (by omega) (by omega)
    rw [e]
    exact br1
  case round =>
    obtain ⟨k, hk, rfl, br2, bo2, B2⟩ := hrel
    clear c0 c1 c2 c3 br1 bo1 B1
    obtain ⟨c0, c1, c2, c3⟩ := br2.all4
    by_cases hlt : k < m
    · have p0 := Int.emod_nonneg (T + k) (show S ≠ 0 by omega)
      have p1 := Int.emod_lt_of_pos (T + k) (show 0 < S by omega)
      have nx := fun u => next_at S ((T + k) % S) U H ((T + k) % S) u q1 q2 p0 p1
      rw [step_mod] at nx
      generalize hg : (T + (k : Int)) % S = g at nx p0 p1 br2 c1 ⊢
      generalize hg2 : (T + ((k : Int) + 1)) % S = g2 at nx
      have Hg2 : Hid _ := hg2
      clear hg hg2
      unfold ri at nx
      go_wp2_with fail
      refine (nx _).mono ?_
      rintro r w2 ⟨rfl, b2⟩
      have br3 := br2.below b2
      have bo3 := bo2.below b2
      have B3 := keep B2 b2
      clear nx br2 bo2 B2 b2 c0 c1 c2 c3
      have f1 := br3.frozen 1
      have br4 : Box (w2.setCell ⟨w.heap.size, 1, none⟩ (.int .i64 g2)) w.heap.size #[.int .i64 S, .int .i64 g2, .int .i64 U, .int .i64 H] 23 := by simpa using br3.store 1 (.int .i64 g2)
      have bo4 := bo3.other (k := w.heap.size) 1 (.int .i64 g2) (by omega)
      have B4 := B3.setCell (p := ⟨w.heap.size, 1, none⟩) (Nat.le_refl _) (.int .i64 g2)
      obtain ⟨c0, c1, c2, c3⟩ := br3.all4
      clear br3 bo3 B3
      go_wp2_with fail
      go_roundw
      case rel => exact ⟨k + 1, by omega, by push_cast; rfl, by have := Hg2.out; push_cast; rw [this]; exact br4, bo4, B4⟩
      case measure => simp [intOf]; omega
    · obtain rfl : k = m := by omega
      generalize hg : (T + (k : Int)) % S = g at br2 c1 ⊢
      have Hg : Hid _ := hg
      clear hg
      have f2 := br2.frozen 2
      have br4 : Box (wr.setCell ⟨w.heap.size, 2, none⟩ (.int .i64 (U - k))) w.heap.size #[.int .i64 S, .int .i64 g, .int .i64 (U - k), .int .i64 H] 23 := by simpa using br2.store 2 (.int .i64 (U - k))
      have bo4 := bo2.other (k := w.heap.size) 2 (.int .i64 (U - k)) (by omega)
      have B4 := B2.setCell (p := ⟨w.heap.size, 2, none⟩) (Nat.le_refl _) (.int .i64 (U - k))
      obtain ⟨d0, d1, d2, d3⟩ := br4.all4
      obtain ⟨e0, e1, e2, e3⟩ := bo4.all4
      obtain ⟨g0, g1, g2, g3⟩ := bo4.fr4
      clear br2 bo2 B2 br4
      go_wp2_with fail
      have y := bo4.store4 (u0 := .int .i64 S) (u1 := .int .i64 g) (u2 := .int .i64 (U - k)) (u3 := .int .i64 H)
      have C1 := below4 B4 (by omega : w.heap.size ≤ w.heap.size + 1) (.int .i64 S) (.int .i64 g) (.int .i64 (U - k)) (.int .i64 H)
      unfold set4 at y C1
      clear bo4 B4 c0 c1 c2 c3 f2 d0 d1 d2 d3 e0 e1 e2 e3 g0 g1 g2 g3
      obtain ⟨c0, c1, c2, c3⟩ := y.all4
      exact bodyPost_ret (v := .tuple #[.agg (ri S g (U - k) H), .int .i64 0]) (by simp only [ri]; simp [results, Try.results18, go_sem, c0, c1, c2, c3]) rfl ⟨by rw [← Hg.out]; rfl, C1⟩

theorem rput_wrong (S T U H n k : Int) (w : World) (hR : ¬ R S T U H) :
    Calls Try.prog 17 #[.agg (ri S T U H), .int .i64 n, .int .i64 k] w fun r w' => r = .returned (.tuple #[.agg (ri 0 0 0 0), .int .i64 0, .int .i64 2]) ∧ Below w.heap.size w w' := by
  have br := w2r w S T U H
  have bo := w2o w S T U H
  have B0 := w2b w S T U H
  unfold ri at *
  go_enter Try.func17, Try.ntmps17
  go_wp2_with fail
  refine (rright_at _ _ _ _ _).mono ?_
  rintro r w1 ⟨rfl, b1⟩
  have B1 := keep B0 b1
  have bo1 := bo.below b1
  have br1 := br.below b1
  clear B0 bo br b1
  rw [decide_eq_false hR]
  obtain ⟨c0, c1, c2, c3⟩ := bo1.all4
  obtain ⟨f0, f1, f2, f3⟩ := bo1.fr4
  go_wp2_with fail
  have y := bo1.store4 (u0 := .int .i64 0) (u1 := .int .i64 0) (u2 := .int .i64 0) (u3 := .int .i64 0)
  have C1 := below4 B1 (by omega : w.heap.size ≤ w.heap.size + 1) (.int .i64 0) (.int .i64 0) (.int .i64 0) (.int .i64 0)
  unfold set4 at y C1
  clear bo1 B1 c0 c1 c2 c3 f0 f1 f2 f3
  obtain ⟨c0, c1, c2, c3⟩ := y.all4
  exact bodyPost_ret (v := .tuple #[.agg (ri 0 0 0 0), .int .i64 0, .int .i64 2]) (by simp only [ri]; simp [results, Try.results17, go_sem, c0, c1, c2, c3]) rfl ⟨rfl, C1⟩

theorem rput_neg (S T U H n k : Int) (w : World) (hR : R S T U H) (hn : n < 0) :
    Calls Try.prog 17 #[.agg (ri S T U H), .int .i64 n, .int .i64 k] w fun r w' => r = .returned (.tuple #[.agg (ri 0 0 0 0), .int .i64 0, .int .i64 2]) ∧ Below w.heap.size w w' := by
  have br := w2r w S T U H
  have bo := w2o w S T U H
  have B0 := w2b w S T U H
  unfold ri at *
  go_enter Try.func17, Try.ntmps17
  go_wp2_with fail
  refine (rright_at _ _ _ _ _).mono ?_
  rintro r w1 ⟨rfl, b1⟩
  have B1 := keep B0 b1
  have bo1 := bo.below b1
  have br1 := br.below b1
  clear B0 bo br b1
  rw [decide_eq_true hR]
  obtain ⟨c0, c1, c2, c3⟩ := bo1.all4
  obtain ⟨f0, f1, f2, f3⟩ := bo1.fr4
  go_wp2_with fail
  have y := bo1.store4 (u0 := .int .i64 0) (u1 := .int .i64 0) (u2 := .int .i64 0) (u3 := .int .i64 0)
  have C1 := below4 B1 (by omega : w.heap.size ≤ w.heap.size + 1) (.int .i64 0) (.int .i64 0) (.int .i64 0) (.int .i64 0)
  unfold set4 at y C1
  clear bo1 B1 c0 c1 c2 c3 f0 f1 f2 f3
  obtain ⟨c0, c1, c2, c3⟩ := y.all4
  exact bodyPost_ret (v := .tuple #[.agg (ri 0 0 0 0), .int .i64 0, .int .i64 2]) (by simp only [ri]; simp [results, Try.results17, go_sem, c0, c1, c2, c3]) rfl ⟨rfl, C1⟩

theorem rput_neg2 (S T U H n k : Int) (w : World) (hR : R S T U H) (hn : 0 ≤ n) (hk : k < 0) :
    Calls Try.prog 17 #[.agg (ri S T U H), .int .i64 n, .int .i64 k] w fun r w' => r = .returned (.tuple #[.agg (ri 0 0 0 0), .int .i64 0, .int .i64 2]) ∧ Below w.heap.size w w' := by
  have br := w2r w S T U H
  have bo := w2o w S T U H
  have B0 := w2b w S T U H
  unfold ri at *
  go_enter Try.func17, Try.ntmps17
  go_wp2_with fail
  refine (rright_at _ _ _ _ _).mono ?_
  rintro r w1 ⟨rfl, b1⟩
  have B1 := keep B0 b1
  have bo1 := bo.below b1
  have br1 := br.below b1
  clear B0 bo br b1
  rw [decide_eq_true hR]
  obtain ⟨c0, c1, c2, c3⟩ := bo1.all4
  obtain ⟨f0, f1, f2, f3⟩ := bo1.fr4
  go_wp2_with fail
  have y := bo1.store4 (u0 := .int .i64 0) (u1 := .int .i64 0) (u2 := .int .i64 0) (u3 := .int .i64 0)
  have C1 := below4 B1 (by omega : w.heap.size ≤ w.heap.size + 1) (.int .i64 0) (.int .i64 0) (.int .i64 0) (.int .i64 0)
  unfold set4 at y C1
  clear bo1 B1 c0 c1 c2 c3 f0 f1 f2 f3
  obtain ⟨c0, c1, c2, c3⟩ := y.all4
  exact bodyPost_ret (v := .tuple #[.agg (ri 0 0 0 0), .int .i64 0, .int .i64 2]) (by simp only [ri]; simp [results, Try.results17, go_sem, c0, c1, c2, c3]) rfl ⟨rfl, C1⟩

theorem rput_more (S T U H n k : Int) (w : World) (hR : R S T U H) (hn : 0 ≤ n) (hk : 0 ≤ k) (hkn : n < k) :
    Calls Try.prog 17 #[.agg (ri S T U H), .int .i64 n, .int .i64 k] w fun r w' => r = .returned (.tuple #[.agg (ri 0 0 0 0), .int .i64 0, .int .i64 2]) ∧ Below w.heap.size w w' := by
  have br := w2r w S T U H
  have bo := w2o w S T U H
  have B0 := w2b w S T U H
  unfold ri at *
  go_enter Try.func17, Try.ntmps17
  go_wp2_with fail
  refine (rright_at _ _ _ _ _).mono ?_
  rintro r w1 ⟨rfl, b1⟩
  have B1 := keep B0 b1
  have bo1 := bo.below b1
  have br1 := br.below b1
  clear B0 bo br b1
  rw [decide_eq_true hR]
  obtain ⟨c0, c1, c2, c3⟩ := bo1.all4
  obtain ⟨f0, f1, f2, f3⟩ := bo1.fr4
  go_wp2_with fail
  have y := bo1.store4 (u0 := .int .i64 0) (u1 := .int .i64 0) (u2 := .int .i64 0) (u3 := .int .i64 0)
  have C1 := below4 B1 (by omega : w.heap.size ≤ w.heap.size + 1) (.int .i64 0) (.int .i64 0) (.int .i64 0) (.int .i64 0)
  unfold set4 at y C1
  clear bo1 B1 c0 c1 c2 c3 f0 f1 f2 f3
  obtain ⟨c0, c1, c2, c3⟩ := y.all4
  exact bodyPost_ret (v := .tuple #[.agg (ri 0 0 0 0), .int .i64 0, .int .i64 2]) (by simp only [ri]; simp [results, Try.results17, go_sem, c0, c1, c2, c3]) rfl ⟨rfl, C1⟩

theorem rput_held (S T U H n k : Int) (w : World) (hR : R S T U H) (hn : 0 ≤ n) (hk : 0 ≤ k) (hkn : k ≤ n) (hkh : H < k) :
    Calls Try.prog 17 #[.agg (ri S T U H), .int .i64 n, .int .i64 k] w fun r w' => r = .returned (.tuple #[.agg (ri 0 0 0 0), .int .i64 0, .int .i64 2]) ∧ Below w.heap.size w w' := by
  have br := w2r w S T U H
  have bo := w2o w S T U H
  have B0 := w2b w S T U H
  unfold ri at *
  go_enter Try.func17, Try.ntmps17
  go_wp2_with fail
  refine (rright_at _ _ _ _ _).mono ?_
  rintro r w1 ⟨rfl, b1⟩
  have B1 := keep B0 b1
  have bo1 := bo.below b1
  have br1 := br.below b1
  clear B0 bo br b1
  rw [decide_eq_true hR]
  obtain ⟨d0, d1, d2, d3⟩ := br1.all4
  obtain ⟨c0, c1, c2, c3⟩ := bo1.all4
  obtain ⟨f0, f1, f2, f3⟩ := bo1.fr4
  go_wp2_with fail
  have y := bo1.store4 (u0 := .int .i64 0) (u1 := .int .i64 0) (u2 := .int .i64 0) (u3 := .int .i64 0)
  have C1 := below4 B1 (by omega : w.heap.size ≤ w.heap.size + 1) (.int .i64 0) (.int .i64 0) (.int .i64 0) (.int .i64 0)
  unfold set4 at y C1
  clear bo1 B1 c0 c1 c2 c3 f0 f1 f2 f3
  obtain ⟨c0, c1, c2, c3⟩ := y.all4
  exact bodyPost_ret (v := .tuple #[.agg (ri 0 0 0 0), .int .i64 0, .int .i64 2]) (by simp only [ri]; simp [results, Try.results17, go_sem, c0, c1, c2, c3]) rfl ⟨rfl, C1⟩

theorem rput_full (S T U H n k : Int) (w : World) (hR : R S T U H) (hn : 0 ≤ n) (hk : 0 ≤ k) (hkn : k ≤ n) (hkh : k ≤ H) (hnm : n ≤ 9223372036854775807) (h1 : fr S T U H < n - k) :
    Calls Try.prog 17 #[.agg (ri S T U H), .int .i64 n, .int .i64 k] w fun r w' => r = .returned (.tuple #[.agg (ri 0 0 0 0), .int .i64 0, .int .i64 5]) ∧ Below w.heap.size w w' := by
  have br := w2r w S T U H
  have bo := w2o w S T U H
  have B0 := w2b w S T U H
  unfold ri at *
  go_enter Try.func17, Try.ntmps17
  go_wp2_with fail
  refine (rright_at _ _ _ _ _).mono ?_
  rintro r w1 ⟨rfl, b1⟩
  have B1 := keep B0 b1
  have bo1 := bo.below b1
  have br1 := br.below b1
  clear B0 bo br b1
  rw [decide_eq_true hR]
  obtain ⟨c0, c1, c2, c3⟩ := br1.all4
  go_wp2_with fail
  refine (rfree_at _ _ _ _ _).mono ?_
  rintro r w2 ⟨rfl, b2⟩
  replace B1 := keep B1 b2
  replace bo1 := bo1.below b2
  replace br1 := br1.below b2
  clear b2 c0 c1 c2 c3
  obtain ⟨c0, c1, c2, c3⟩ := bo1.all4
  obtain ⟨f0, f1, f2, f3⟩ := bo1.fr4
  go_wp2_with fail
  have y := bo1.store4 (u0 := .int .i64 0) (u1 := .int .i64 0) (u2 := .int .i64 0) (u3 := .int .i64 0)
  have C1 := below4 B1 (by omega : w.heap.size ≤ w.heap.size + 1) (.int .i64 0) (.int .i64 0) (.int .i64 0) (.int .i64 0)
  unfold set4 at y C1
  clear bo1 B1 c0 c1 c2 c3 f0 f1 f2 f3
  obtain ⟨c0, c1, c2, c3⟩ := y.all4
  exact bodyPost_ret (v := .tuple #[.agg (ri 0 0 0 0), .int .i64 0, .int .i64 5]) (by simp only [ri]; simp [results, Try.results17, go_sem, c0, c1, c2, c3]) rfl ⟨rfl, C1⟩

set_option maxRecDepth 100000 in
set_option maxHeartbeats 1000000 in
theorem rput_ok (S T H n k : Int) (m : Nat) (w : World) (hR : R S T m H) (hn : 0 ≤ n) (hk : 0 ≤ k) (hkn : k ≤ n) (hkh : k ≤ H) (h1 : n - k ≤ fr S T m H) :
    Calls Try.prog 17 #[.agg (ri S T m H), .int .i64 n, .int .i64 k] w fun r w' => r = .returned (.tuple #[.agg (ri S T (m + n) (H - k)), .int .i64 ((T + m) % S), .int .i64 0]) ∧ Below w.heap.size w w' := by
  have hq : n - k ≤ S - m - H := by
    rw [fr, if_pos hR] at h1
    exact h1
  have hn5 : n ≤ 512 := by unfold R at hR; omega
  have br := w2r w S T m H
  have bo := w2o w S T m H
  have B0 := w2b w S T m H
  unfold ri at *
  go_enter Try.func17, Try.ntmps17
  go_wp2_with fail
  refine (rright_at _ _ _ _ _).mono ?_
  rintro r w1 ⟨rfl, b1⟩
  have B1 := keep B0 b1
  have bo1 := bo.below b1
  have br1 := br.below b1
  clear B0 bo br b1
  rw [decide_eq_true hR]
  obtain ⟨c0, c1, c2, c3⟩ := br1.all4
  go_wp2_with fail
  refine (rfree_at _ _ _ _ _).mono ?_
  rintro r w2 ⟨rfl, b2⟩
  replace B1 := keep B1 b2
  replace bo1 := bo1.below b2
  replace br1 := br1.below b2
  clear b2 c0 c1 c2 c3
  obtain ⟨⟨q1, q2⟩, ⟨q3, q4⟩, q5, q6⟩ := hR
  obtain ⟨c0, c1, c2, c3⟩ := br1.all4
  go_wp2_with fail
  clear h1
  go_loopw [9, 10] (fun a i wr => ∃ j : Nat, j ≤ m ∧ i = .int .i64 (j : Int) ∧ a = .int .i64 ((T + j) % S) ∧ Box wr w.heap.size #[.int .i64 S, .int .i64 T, .int .i64 m, .int .i64 H] 23 ∧ Box wr (w.heap.size + 1) #[.int .i64 0, .int .i64 0, .int .i64 0, .int .i64 0] 23 ∧ Below w.heap.size w wr) (fun _ i _ => m - (intOf i).toNat)
  case atStart =>
    refine ⟨0, Nat.zero_le _, by simp, ?_, br1, bo1, B1⟩
    have e : (T + ((0 : Nat) : Int)) % S = T := by simp; exact Int.emod_eq_of_lt (by omega) (by omega)
    rw [e]
  case round =>
    obtain ⟨j, hj, rfl, rfl, br2, bo2, B2⟩ := hrel
    clear c0 c1 c2 c3 br1 bo1 B1
    obtain ⟨c0, c1, c2, c3⟩ := br2.all4
    by_cases hlt : j < m
    · have p0 := Int.emod_nonneg (T + j) (show S ≠ 0 by omega)
      have p1 := Int.emod_lt_of_pos (T + j) (show 0 < S by omega)
      have nx := fun u => next_at S T m H ((T + j) % S) u q1 q2 p0 p1
      rw [step_mod] at nx
      generalize hg : (T + (j : Int)) % S = g at nx p0 p1 ⊢
      generalize hg2 : (T + ((j : Int) + 1)) % S = g2 at nx
      have Hg2 : Hid _ := hg2
      clear hg hg2
      unfold ri at nx
      go_wp2_with fail
      refine (nx _).mono ?_
      rintro r w2 ⟨rfl, b2⟩
      have br3 := br2.below b2
      have bo3 := bo2.below b2
      have B3 := keep B2 b2
      clear nx br2 bo2 B2 b2 c0 c1 c2 c3
      go_wp2_with fail
      go_roundw
      case rel => exact ⟨j + 1, by omega, by push_cast; rfl, by have := Hg2.out; push_cast; rw [this], br3, bo3, B3⟩
      case measure => simp [intOf]; omega
    · obtain rfl : j = m := by omega
      generalize hg : (T + (j : Int)) % S = g
      have Hg : Hid _ := hg
      clear hg
      have f2 := br2.frozen 2
      have br3 : Box (wr.setCell ⟨w.heap.size, 2, none⟩ (.int .i64 (j + n))) w.heap.size #[.int .i64 S, .int .i64 T, .int .i64 (j + n), .int .i64 H] 23 := by simpa using br2.store 2 (.int .i64 (j + n))
      have bo3 := bo2.other (k := w.heap.size) 2 (.int .i64 (j + n)) (by omega)
      have B3 := B2.setCell (p := ⟨w.heap.size, 2, none⟩) (Nat.le_refl _) (.int .i64 (j + n))
      have f3 := br3.frozen 3
      have br4 : Box ((wr.setCell ⟨w.heap.size, 2, none⟩ (.int .i64 (j + n))).setCell ⟨w.heap.size, 3, none⟩ (.int .i64 (H - k))) w.heap.size #[.int .i64 S, .int .i64 T, .int .i64 (j + n), .int .i64 (H - k)] 23 := by simpa using br3.store 3 (.int .i64 (H - k))
      have bo4 := bo3.other (k := w.heap.size) 3 (.int .i64 (H - k)) (by omega)
      have B4 := B3.setCell (p := ⟨w.heap.size, 3, none⟩) (Nat.le_refl _) (.int .i64 (H - k))
      obtain ⟨k0, k1, k2, k3⟩ := br3.all4
      obtain ⟨d0, d1, d2, d3⟩ := br4.all4
      obtain ⟨e0, e1, e2, e3⟩ := bo4.all4
      obtain ⟨g0, g1, g2, g3⟩ := bo4.fr4
      clear br2 bo2 B2 br3 bo3 B3 br4
      go_wp2_with fail
      have y := bo4.store4 (u0 := .int .i64 S) (u1 := .int .i64 T) (u2 := .int .i64 (j + n)) (u3 := .int .i64 (H - k))
      have C1 := below4 B4 (by omega : w.heap.size ≤ w.heap.size + 1) (.int .i64 S) (.int .i64 T) (.int .i64 (j + n)) (.int .i64 (H - k))
      unfold set4 at y C1
      clear bo4 B4 c0 c1 c2 c3 f2 f3 k0 k1 k2 k3 d0 d1 d2 d3 e0 e1 e2 e3 g0 g1 g2 g3
      obtain ⟨c0, c1, c2, c3⟩ := y.all4
      exact bodyPost_ret (v := .tuple #[.agg (ri S T (j + n) (H - k)), .int .i64 g, .int .i64 0]) (by simp only [ri]; simp [results, Try.results17, go_sem, c0, c1, c2, c3]) rfl ⟨by rw [← Hg.out]; rfl, C1⟩

end Go.Proofs.Ytoopdooepnojhaa
