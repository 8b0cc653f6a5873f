/-
  The document's own functions of layer 7.
-/
import Derived.Test.YtoopdooepnojhaaPut
namespace Go.Proofs.Ytoopdooepnojhaa
open Go.RowKit

set_option maxHeartbeats 2000000 in
theorem rright_at (S T U H : Int) (w : World) :
    Calls Try.prog 19 #[.agg (ri S T U H)] w fun r w' => r = .returned (.bool (decide (R S T U H))) ∧ Below w.heap.size w w' := by
  unfold ri
  have B := (Below.refl w.heap.size w).alloc (Nat.le_refl _) (.cells #[.int .i64 S, .int .i64 T, .int .i64 U, .int .i64 H] 23)
  obtain ⟨c0, c1, c2, c3⟩ := (Box.new w #[.int .i64 S, .int .i64 T, .int .i64 U, .int .i64 H] 23).all4
  by_cases h : (1 ≤ S ∧ S ≤ 512) ∧ (0 ≤ T ∧ T < S)
  · by_cases h2 : 0 ≤ U ∧ 0 ≤ H ∧ U ≤ 512 ∧ H ≤ 512
    · have e : decide (R S T U H) = decide (U + H ≤ S) := decide_eq_decide.2 (by unfold R; omega)
      rw [e]
      go_enter Try.func19, Try.ntmps19
      go_wp2_with fail
      go_ret
      exact ⟨rfl, B⟩
    · rw [decide_eq_false (p := R S T U H) (by unfold R; omega)]
      by_cases k1 : 0 ≤ U
      · by_cases k2 : 0 ≤ H
        · by_cases k3 : U ≤ 512
          · go_enter Try.func19, Try.ntmps19
            go_wp2_with fail
            go_ret
            exact ⟨by first | (congr 2; done) | (congr 2; simp; omega), B⟩
          · go_enter Try.func19, Try.ntmps19
            go_wp2_with fail
            go_ret
            exact ⟨by congr 2, B⟩
        · go_enter Try.func19, Try.ntmps19
          go_wp2_with fail
          go_ret
          exact ⟨by congr 2, B⟩
      · go_enter Try.func19, Try.ntmps19
        go_wp2_with fail
        go_ret
        exact ⟨by congr 2, B⟩
  · rw [decide_eq_false (p := R S T U H) (by unfold R; omega)]
    by_cases k1 : S < 1
    · go_enter Try.func19, Try.ntmps19
      go_wp2_with fail
      go_ret
      exact ⟨rfl, B⟩
    · by_cases k2 : 512 < S
      · go_enter Try.func19, Try.ntmps19
        go_wp2_with fail
        go_ret
        exact ⟨rfl, B⟩
      · by_cases k3 : T < 0
        · go_enter Try.func19, Try.ntmps19
          go_wp2_with fail
          go_ret
          exact ⟨rfl, B⟩
        · have k4 : S ≤ T := by omega
          go_enter Try.func19, Try.ntmps19
          go_wp2_with fail
          go_ret
          exact ⟨rfl, B⟩

theorem rfree_at (S T U H : Int) (w : World) :
    Calls Try.prog 20 #[.agg (ri S T U H)] w fun r w' => r = .returned (.int .i64 (fr S T U H)) ∧ Below w.heap.size w w' := by
  have B := (Below.refl w.heap.size w).alloc (Nat.le_refl _) (.cells (ri S T U H) 23)
  have bx := Box.new w (ri S T U H) 23
  unfold ri at *
  by_cases h : R S T U H
  · rw [fr, if_pos h]
    have e : S - U - H = S - (U + H) := by omega
    rw [e]
    go_enter Try.func20, Try.ntmps20
    go_wp2_with fail
    refine (rright_at _ _ _ _ _).mono ?_
    rintro r w1 ⟨rfl, b1⟩
    have bx1 := bx.below b1
    have B1 := keep B b1
    clear bx B b1
    obtain ⟨c0, c1, c2, c3⟩ := bx1.all4
    rw [decide_eq_true h]
    obtain ⟨h1, h2, h3, h4⟩ := h
    go_wp2_with fail
    go_ret
    exact ⟨rfl, B1⟩
  · rw [fr, if_neg h]
    go_enter Try.func20, Try.ntmps20
    go_wp2_with fail
    refine (rright_at _ _ _ _ _).mono ?_
    rintro r w1 ⟨rfl, b1⟩
    have B1 := keep B b1
    clear bx B b1
    rw [decide_eq_false h]
    go_wp2_with fail
    go_ret
    exact ⟨rfl, B1⟩

theorem next_at (S T U H a : Int) (w : World) (hS : 1 ≤ S) (hS' : S ≤ 512) (ha : 0 ≤ a) (ha' : a < S) :
    Calls Try.prog 31 #[.agg (ri S T U H), .int .i64 a] w fun r w' => r = .returned (.int .i64 ((a + 1) % S)) ∧ Below w.heap.size w w' := by
  have B := (Below.refl w.heap.size w).alloc (Nat.le_refl _) (.cells (ri S T U H) 23)
  obtain ⟨c0, c1, c2, c3⟩ := (Box.new w (ri S T U H) 23).all4
  unfold ri at *
  by_cases h : a + 1 = S
  · rw [show (a + 1) % S = 0 by rw [h]; exact Int.emod_self]
    go_enter Try.func31, Try.ntmps31
    go_wp2_with fail
    go_ret
    exact ⟨rfl, B⟩
  · rw [show (a + 1) % S = a + 1 from Int.emod_eq_of_lt (by omega) (by omega)]
    go_enter Try.func31, Try.ntmps31
    go_wp2_with fail
    go_ret
    exact ⟨rfl, B⟩

theorem step_mod (T k S : Int) : ((T + k) % S + 1) % S = (T + (k + 1)) % S := by
  rw [Int.add_emod, Int.emod_emod, ← Int.add_emod]
  congr 1
  omega

theorem rat_no (S T U H n : Int) (w : World) (h : ¬(R S T U H ∧ 0 ≤ n ∧ n < S)) :
    Calls Try.prog 14 #[.agg (ri S T U H), .int .i64 n] w fun r w' => r = .returned (.tuple #[.int .i64 0, .int .i64 2]) ∧ Below w.heap.size w w' := by
  have B := (Below.refl w.heap.size w).alloc (Nat.le_refl _) (.cells (ri S T U H) 23)
  have bx := Box.new w (ri S T U H) 23
  unfold ri at *
  by_cases hR : R S T U H
  · by_cases hn : n < 0
    · go_enter Try.func14, Try.ntmps14
      go_wp2_with fail
      refine (rright_at _ _ _ _ _).mono ?_
      rintro r w1 ⟨rfl, b1⟩
      have B1 := keep B b1
      rw [decide_eq_true hR]
      go_wp2_with fail
      exact bodyPost_ret (v := .tuple #[.int .i64 0, .int .i64 2]) (by simp [results, Try.results14, go_sem]) rfl ⟨rfl, B1⟩
    · have hn2 : S ≤ n := by
        by_cases q : n < S
        · exact absurd ⟨hR, by omega, q⟩ h
        · omega
      go_enter Try.func14, Try.ntmps14
      go_wp2_with fail
      refine (rright_at _ _ _ _ _).mono ?_
      rintro r w1 ⟨rfl, b1⟩
      have B1 := keep B b1
      obtain ⟨c0, c1, c2, c3⟩ := (bx.below b1).all4
      rw [decide_eq_true hR]
      go_wp2_with fail
      exact bodyPost_ret (v := .tuple #[.int .i64 0, .int .i64 2]) (by simp [results, Try.results14, go_sem]) rfl ⟨rfl, B1⟩
  · go_enter Try.func14, Try.ntmps14
    go_wp2_with fail
    refine (rright_at _ _ _ _ _).mono ?_
    rintro r w1 ⟨rfl, b1⟩
    have B1 := keep B b1
    rw [decide_eq_false hR]
    go_wp2_with fail
    exact bodyPost_ret (v := .tuple #[.int .i64 0, .int .i64 2]) (by simp [results, Try.results14, go_sem]) rfl ⟨rfl, B1⟩

set_option maxRecDepth 100000 in
theorem rat_ok (S T U H : Int) (m : Nat) (w : World) (hR : R S T U H) (h1 : (m : Int) < S) :
    Calls Try.prog 14 #[.agg (ri S T U H), .int .i64 m] w fun r w' => r = .returned (.tuple #[.int .i64 ((T + m) % S), .int .i64 0]) ∧ Below w.heap.size w w' := by
  have B := (Below.refl w.heap.size w).alloc (Nat.le_refl _) (.cells (ri S T U H) 23)
  have bx := Box.new w (ri S T U H) 23
  have hR' : Hid _ := hR
  unfold ri at *
  go_enter Try.func14, Try.ntmps14
  go_wp2_with fail
  refine (rright_at _ _ _ _ _).mono ?_
  rintro r w1 ⟨rfl, b1⟩
  have B1 := keep B b1
  have bx1 := bx.below b1
  rw [decide_eq_true hR]
  clear B bx b1
  obtain ⟨⟨q1, q2⟩, ⟨q3, q4⟩, q5, q6⟩ := hR
  obtain ⟨c0, c1, c2, c3⟩ := bx1.all4
  go_wp2_with fail
  go_loopw [1, 6] (fun i a wr => ∃ k : Nat, k ≤ m ∧ i = .int .i64 ((m - k : Nat) : Int) ∧ a = .int .i64 ((T + k) % S) ∧ Box wr w.heap.size #[.int .i64 S, .int .i64 T, .int .i64 U, .int .i64 H] 23 ∧ Below w.heap.size w wr) (fun i _ _ => (intOf i).toNat)
  case atStart => exact ⟨0, Nat.zero_le _, by simp, by simp; exact (Int.emod_eq_of_lt (by omega) (by omega)).symm, bx1, B1⟩
  case round =>
    obtain ⟨k, hk, rfl, rfl, bx2, B2⟩ := hrel
    clear c0 c1 c2 c3 bx1 B1
    obtain ⟨c0, c1, c2, c3⟩ := bx2.all4
    obtain ⟨j, hj⟩ : ∃ j, j = m - k := ⟨_, rfl⟩
    rw [← hj]
    by_cases hlt : 0 < j
    · have p0 := Int.emod_nonneg (T + k) (show S ≠ 0 by omega)
      have p1 := Int.emod_lt_of_pos (T + k) (show 0 < S by omega)
      have nx := fun u => next_at S T U H ((T + k) % S) u q1 q2 p0 p1
      rw [step_mod] at nx
      generalize hg : (T + (k : Int)) % S = g at nx p0 p1 ⊢
      generalize hg2 : (T + ((k : Int) + 1)) % S = g2 at nx
      have Hg2 : Hid _ := hg2
      have Hj : Hid _ := hj
      have hj5 : j ≤ 512 := by omega
      clear hg hg2 hj hR'
      unfold ri at nx
      go_wp2_with fail
      refine (nx _).mono ?_
      rintro r w2 ⟨rfl, b2⟩
      have bx3 := bx2.below b2
      have B3 := keep B2 b2
      go_wp2_with fail
      go_roundw
      case rel => exact ⟨k + 1, by have := Hj.out; omega, by have := Hj.out; congr 1; omega, by rw [← Hg2.out]; push_cast; rfl, bx3, B3⟩
      case measure => simp [intOf]; omega
    · obtain rfl : j = 0 := by omega
      obtain rfl : k = m := by omega
      clear hj hR'
      go_wp2_with fail
      exact bodyPost_ret (by simp [results, Try.results14, go_sem]) rfl ⟨rfl, B2⟩

/-! the calls that answer a ring -/
theorem w2o (w : World) (S T U H : Int) : Box ((w.alloc (.cells (ri S T U H) 23)).alloc (.cells #[.int .i64 0, .int .i64 0, .int .i64 0, .int .i64 0] 23)) (w.heap.size + 1) #[.int .i64 0, .int .i64 0, .int .i64 0, .int .i64 0] 23 := Box.next w _ _ 23
theorem w2b (w : World) (S T U H : Int) : Below w.heap.size w ((w.alloc (.cells (ri S T U H) 23)).alloc (.cells #[.int .i64 0, .int .i64 0, .int .i64 0, .int .i64 0] 23)) := ((Below.refl w.heap.size w).alloc (Nat.le_refl _) _).alloc (by simp) _
theorem w2r (w : World) (S T U H : Int) : Box ((w.alloc (.cells (ri S T U H) 23)).alloc (.cells #[.int .i64 0, .int .i64 0, .int .i64 0, .int .i64 0] 23)) w.heap.size (ri S T U H) 23 := (Box.new w _ 23).alloc _

theorem rreserve_wrong (S T U H n : Int) (w : World) (hR : ¬ R S T U H) :
    Calls Try.prog 15 #[.agg (ri S T U H), .int .i64 n] w fun r w' => r = .returned (.tuple #[.agg (ri 0 0 0 0), .int .i64 2]) ∧ Below w.heap.size w w' := by
  have br := w2r w S T U H
  have bo := w2o w S T U H
  have B0 := w2b w S T U H
  unfold ri at *
  go_enter Try.func15, Try.ntmps15
  go_wp2_with fail
  refine (rright_at _ _ _ _ _).mono ?_
  rintro r w1 ⟨rfl, b1⟩
  have B1 := keep B0 b1
  have bo1 := bo.below b1
  have br1 := br.below b1
  clear B0 bo br b1
  rw [decide_eq_false hR]
  obtain ⟨c0, c1, c2, c3⟩ := bo1.all4
  obtain ⟨f0, f1, f2, f3⟩ := bo1.fr4
  go_wp2_with fail
  have y := bo1.store4 (u0 := .int .i64 0) (u1 := .int .i64 0) (u2 := .int .i64 0) (u3 := .int .i64 0)
  have C1 := below4 B1 (by omega : w.heap.size ≤ w.heap.size + 1) (.int .i64 0) (.int .i64 0) (.int .i64 0) (.int .i64 0)
  unfold set4 at y C1
  clear bo1 B1 c0 c1 c2 c3 f0 f1 f2 f3
  obtain ⟨c0, c1, c2, c3⟩ := y.all4
  exact bodyPost_ret (v := .tuple #[.agg (ri 0 0 0 0), .int .i64 2]) (by simp only [ri]; simp [results, Try.results15, go_sem, c0, c1, c2, c3]) rfl ⟨rfl, C1⟩

theorem rreserve_neg (S T U H n : Int) (w : World) (hR : R S T U H) (hn : n < 0) :
    Calls Try.prog 15 #[.agg (ri S T U H), .int .i64 n] w fun r w' => r = .returned (.tuple #[.agg (ri 0 0 0 0), .int .i64 2]) ∧ Below w.heap.size w w' := by
  have br := w2r w S T U H
  have bo := w2o w S T U H
  have B0 := w2b w S T U H
  unfold ri at *
  go_enter Try.func15, Try.ntmps15
  go_wp2_with fail
  refine (rright_at _ _ _ _ _).mono ?_
  rintro r w1 ⟨rfl, b1⟩
  have B1 := keep B0 b1
  have bo1 := bo.below b1
  have br1 := br.below b1
  clear B0 bo br b1
  rw [decide_eq_true hR]
  obtain ⟨c0, c1, c2, c3⟩ := bo1.all4
  obtain ⟨f0, f1, f2, f3⟩ := bo1.fr4
  go_wp2_with fail
  have y := bo1.store4 (u0 := .int .i64 0) (u1 := .int .i64 0) (u2 := .int .i64 0) (u3 := .int .i64 0)
  have C1 := below4 B1 (by omega : w.heap.size ≤ w.heap.size + 1) (.int .i64 0) (.int .i64 0) (.int .i64 0) (.int .i64 0)
  unfold set4 at y C1
  clear bo1 B1 c0 c1 c2 c3 f0 f1 f2 f3
  obtain ⟨c0, c1, c2, c3⟩ := y.all4
  exact bodyPost_ret (v := .tuple #[.agg (ri 0 0 0 0), .int .i64 2]) (by simp only [ri]; simp [results, Try.results15, go_sem, c0, c1, c2, c3]) rfl ⟨rfl, C1⟩

theorem rrelease_wrong (S T U H n : Int) (w : World) (hR : ¬ R S T U H) :
    Calls Try.prog 16 #[.agg (ri S T U H), .int .i64 n] w fun r w' => r = .returned (.tuple #[.agg (ri 0 0 0 0), .int .i64 2]) ∧ Below w.heap.size w w' := by
  have br := w2r w S T U H
  have bo := w2o w S T U H
  have B0 := w2b w S T U H
  unfold ri at *
  go_enter Try.func16, Try.ntmps16
  go_wp2_with fail
  refine (rright_at _ _ _ _ _).mono ?_
  rintro r w1 ⟨rfl, b1⟩
  have B1 := keep B0 b1
  have bo1 := bo.below b1
  have br1 := br.below b1
  clear B0 bo br b1
  rw [decide_eq_false hR]
  obtain ⟨c0, c1, c2, c3⟩ := bo1.all4
  obtain ⟨f0, f1, f2, f3⟩ := bo1.fr4
  go_wp2_with fail
  have y := bo1.store4 (u0 := .int .i64 0) (u1 := .int .i64 0) (u2 := .int .i64 0) (u3 := .int .i64 0)
  have C1 := below4 B1 (by omega : w.heap.size ≤ w.heap.size + 1) (.int .i64 0) (.int .i64 0) (.int .i64 0) (.int .i64 0)
  unfold set4 at y C1
  clear bo1 B1 c0 c1 c2 c3 f0 f1 f2 f3
  obtain ⟨c0, c1, c2, c3⟩ := y.all4
  exact bodyPost_ret (v := .tuple #[.agg (ri 0 0 0 0), .int .i64 2]) (by simp only [ri]; simp [results, Try.results16, go_sem, c0, c1, c2, c3]) rfl ⟨rfl, C1⟩

theorem rrelease_neg (S T U H n : Int) (w : World) (hR : R S T U H) (hn : n < 0) :
    Calls Try.prog 16 #[.agg (ri S T U H), .int .i64 n] w fun r w' => r = .returned (.tuple #[.agg (ri 0 0 0 0), .int .i64 2]) ∧ Below w.heap.size w w' := by
  have br := w2r w S T U H
  have bo := w2o w S T U H
  have B0 := w2b w S T U H
  unfold ri at *
  go_enter Try.func16, Try.ntmps16
  go_wp2_with fail
  refine (rright_at _ _ _ _ _).mono ?_
  rintro r w1 ⟨rfl, b1⟩
  have B1 := keep B0 b1
  have bo1 := bo.below b1
  have br1 := br.below b1
  clear B0 bo br b1
  rw [decide_eq_true hR]
  obtain ⟨c0, c1, c2, c3⟩ := bo1.all4
  obtain ⟨f0, f1, f2, f3⟩ := bo1.fr4
  go_wp2_with fail
  have y := bo1.store4 (u0 := .int .i64 0) (u1 := .int .i64 0) (u2 := .int .i64 0) (u3 := .int .i64 0)
  have C1 := below4 B1 (by omega : w.heap.size ≤ w.heap.size + 1) (.int .i64 0) (.int .i64 0) (.int .i64 0) (.int .i64 0)
  unfold set4 at y C1
  clear bo1 B1 c0 c1 c2 c3 f0 f1 f2 f3
  obtain ⟨c0, c1, c2, c3⟩ := y.all4
  exact bodyPost_ret (v := .tuple #[.agg (ri 0 0 0 0), .int .i64 2]) (by simp only [ri]; simp [results, Try.results16, go_sem, c0, c1, c2, c3]) rfl ⟨rfl, C1⟩

theorem rdrop_wrong (S T U H n : Int) (w : World) (hR : ¬ R S T U H) :
    Calls Try.prog 18 #[.agg (ri S T U H), .int .i64 n] w fun r w' => r = .returned (.tuple #[.agg (ri 0 0 0 0), .int .i64 2]) ∧ Below w.heap.size w w' := by
  have br := w2r w S T U H
  have bo := w2o w S T U H
  have B0 := w2b w S T U H
  unfold ri at *
  go_enter Try.func18, Try.ntmps18
  go_wp2_with fail
  refine (rright_at _ _ _ _ _).mono ?_
  rintro r w1 ⟨rfl, b1⟩
  have B1 := keep B0 b1
  have bo1 := bo.below b1
  have br1 := br.below b1
  clear B0 bo br b1
  rw [decide_eq_false hR]
  obtain ⟨c0, c1, c2, c3⟩ := bo1.all4
  obtain ⟨f0, f1, f2, f3⟩ := bo1.fr4
  go_wp2_with fail
  have y := bo1.store4 (u0 := .int .i64 0) (u1 := .int .i64 0) (u2 := .int .i64 0) (u3 := .int .i64 0)
  have C1 := below4 B1 (by omega : w.heap.size ≤ w.heap.size + 1) (.int .i64 0) (.int .i64 0) (.int .i64 0) (.int .i64 0)
  unfold set4 at y C1
  clear bo1 B1 c0 c1 c2 c3 f0 f1 f2 f3
  obtain ⟨c0, c1, c2, c3⟩ := y.all4
  exact bodyPost_ret (v := .tuple #[.agg (ri 0 0 0 0), .int .i64 2]) (by simp only [ri]; simp [results, Try.results18, go_sem, c0, c1, c2, c3]) rfl ⟨rfl, C1⟩

theorem rdrop_neg (S T U H n : Int) (w : World) (hR : R S T U H) (hn : n < 0) :
    Calls Try.prog 18 #[.agg (ri S T U H), .int .i64 n] w fun r w' => r = .returned (.tuple #[.agg (ri 0 0 0 0), .int .i64 2]) ∧ Below w.heap.size w w' := by
  have br := w2r w S T U H
  have bo := w2o w S T U H
  have B0 := w2b w S T U H
  unfold ri at *
  go_enter Try.func18, Try.ntmps18
  go_wp2_with fail
  refine (rright_at _ _ _ _ _).mono ?_
  rintro r w1 ⟨rfl, b1⟩
  have B1 := keep B0 b1
  have bo1 := bo.below b1
  have br1 := br.below b1
  clear B0 bo br b1
  rw [decide_eq_true hR]
  obtain ⟨c0, c1, c2, c3⟩ := bo1.all4
  obtain ⟨f0, f1, f2, f3⟩ := bo1.fr4
  go_wp2_with fail
  have y := bo1.store4 (u0 := .int .i64 0) (u1 := .int .i64 0) (u2 := .int .i64 0) (u3 := .int .i64 0)
  have C1 := below4 B1 (by omega : w.heap.size ≤ w.heap.size + 1) (.int .i64 0) (.int .i64 0) (.int .i64 0) (.int .i64 0)
  unfold set4 at y C1
  clear bo1 B1 c0 c1 c2 c3 f0 f1 f2 f3
  obtain ⟨c0, c1, c2, c3⟩ := y.all4
  exact bodyPost_ret (v := .tuple #[.agg (ri 0 0 0 0), .int .i64 2]) (by simp only [ri]; simp [results, Try.results18, go_sem, c0, c1, c2, c3]) rfl ⟨rfl, C1⟩

theorem rrelease_more (S T U H n : Int) (w : World) (hR : R S T U H) (hn : 0 ≤ n) (h1 : H < n) :
    Calls Try.prog 16 #[.agg (ri S T U H), .int .i64 n] w fun r w' => r = .returned (.tuple #[.agg (ri 0 0 0 0), .int .i64 2]) ∧ Below w.heap.size w w' := by
  have br := w2r w S T U H
  have bo := w2o w S T U H
  have B0 := w2b w S T U H
  unfold ri at *
  go_enter Try.func16, Try.ntmps16
  go_wp2_with fail
  refine (rright_at _ _ _ _ _).mono ?_
  rintro r w1 ⟨rfl, b1⟩
  have B1 := keep B0 b1
  have bo1 := bo.below b1
  have br1 := br.below b1
  clear B0 bo br b1
  rw [decide_eq_true hR]
  obtain ⟨c0, c1, c2, c3⟩ := bo1.all4
  obtain ⟨f0, f1, f2, f3⟩ := bo1.fr4
  obtain ⟨d0, d1, d2, d3⟩ := br1.all4
  go_wp2_with fail
  have y := bo1.store4 (u0 := .int .i64 0) (u1 := .int .i64 0) (u2 := .int .i64 0) (u3 := .int .i64 0)
  have C1 := below4 B1 (by omega : w.heap.size ≤ w.heap.size + 1) (.int .i64 0) (.int .i64 0) (.int .i64 0) (.int .i64 0)
  unfold set4 at y C1
  clear bo1 B1 c0 c1 c2 c3 f0 f1 f2 f3
  obtain ⟨c0, c1, c2, c3⟩ := y.all4
  exact bodyPost_ret (v := .tuple #[.agg (ri 0 0 0 0), .int .i64 2]) (by simp only [ri]; simp [results, Try.results16, go_sem, c0, c1, c2, c3]) rfl ⟨rfl, C1⟩

theorem rdrop_more (S T U H n : Int) (w : World) (hR : R S T U H) (hn : 0 ≤ n) (h1 : U < n) :
    Calls Try.prog 18 #[.agg (ri S T U H), .int .i64 n] w fun r w' => r = .returned (.tuple #[.agg (ri 0 0 0 0), .int .i64 2]) ∧ Below w.heap.size w w' := by
  have br := w2r w S T U H
  have bo := w2o w S T U H
  have B0 := w2b w S T U H
  unfold ri at *
  go_enter Try.func18, Try.ntmps18
  go_wp2_with fail
  refine (rright_at _ _ _ _ _).mono ?_
  rintro r w1 ⟨rfl, b1⟩
  have B1 := keep B0 b1
  have bo1 := bo.below b1
  have br1 := br.below b1
  clear B0 bo br b1
  rw [decide_eq_true hR]
  obtain ⟨c0, c1, c2, c3⟩ := bo1.all4
  obtain ⟨f0, f1, f2, f3⟩ := bo1.fr4
  obtain ⟨d0, d1, d2, d3⟩ := br1.all4
  go_wp2_with fail
  have y := bo1.store4 (u0 := .int .i64 0) (u1 := .int .i64 0) (u2 := .int .i64 0) (u3 := .int .i64 0)
  have C1 := below4 B1 (by omega : w.heap.size ≤ w.heap.size + 1) (.int .i64 0) (.int .i64 0) (.int .i64 0) (.int .i64 0)
  unfold set4 at y C1
  clear bo1 B1 c0 c1 c2 c3 f0 f1 f2 f3
  obtain ⟨c0, c1, c2, c3⟩ := y.all4
  exact bodyPost_ret (v := .tuple #[.agg (ri 0 0 0 0), .int .i64 2]) (by simp only [ri]; simp [results, Try.results18, go_sem, c0, c1, c2, c3]) rfl ⟨rfl, C1⟩

theorem rreserve_full (S T U H n : Int) (w : World) (hR : R S T U H) (hn : 0 ≤ n) (h1 : fr S T U H < n) :
    Calls Try.prog 15 #[.agg (ri S T U H), .int .i64 n] w fun r w' => r = .returned (.tuple #[.agg (ri 0 0 0 0), .int .i64 5]) ∧ Below w.heap.size w w' := by
  have br := w2r w S T U H
  have bo := w2o w S T U H
  have B0 := w2b w S T U H
  unfold ri at *
  go_enter Try.func15, Try.ntmps15
  go_wp2_with fail
  refine (rright_at _ _ _ _ _).mono ?_
  rintro r w1 ⟨rfl, b1⟩
  have B1 := keep B0 b1
  have bo1 := bo.below b1
  have br1 := br.below b1
  clear B0 bo br b1
  rw [decide_eq_true hR]
  obtain ⟨c0, c1, c2, c3⟩ := br1.all4
  go_wp2_with fail
  refine (rfree_at _ _ _ _ _).mono ?_
  rintro r w2 ⟨rfl, b2⟩
  replace B1 := keep B1 b2
  replace bo1 := bo1.below b2
  replace br1 := br1.below b2
  clear b2 c0 c1 c2 c3
  obtain ⟨c0, c1, c2, c3⟩ := bo1.all4
  obtain ⟨f0, f1, f2, f3⟩ := bo1.fr4
  go_wp2_with fail
  have y := bo1.store4 (u0 := .int .i64 0) (u1 := .int .i64 0) (u2 := .int .i64 0) (u3 := .int .i64 0)
  have C1 := below4 B1 (by omega : w.heap.size ≤ w.heap.size + 1) (.int .i64 0) (.int .i64 0) (.int .i64 0) (.int .i64 0)
  unfold set4 at y C1
  clear bo1 B1 c0 c1 c2 c3 f0 f1 f2 f3
  obtain ⟨c0, c1, c2, c3⟩ := y.all4
  exact bodyPost_ret (v := .tuple #[.agg (ri 0 0 0 0), .int .i64 5]) (by simp only [ri]; simp [results, Try.results15, go_sem, c0, c1, c2, c3]) rfl ⟨rfl, C1⟩

theorem rreserve_ok (S T U H n : Int) (w : World) (hR : R S T U H) (hn : 0 ≤ n) (h1 : n ≤ fr S T U H) :
    Calls Try.prog 15 #[.agg (ri S T U H), .int .i64 n] w fun r w' => r = .returned (.tuple #[.agg (ri S T U (H + n)), .int .i64 0]) ∧ Below w.heap.size w w' := by
  have hq : Hid (n ≤ S - U - H) := by
    rw [fr, if_pos hR] at h1
    exact h1
  have br := w2r w S T U H
  have bo := w2o w S T U H
  have B0 := w2b w S T U H
  unfold ri at *
  go_enter Try.func15, Try.ntmps15
  go_wp2_with fail
  refine (rright_at _ _ _ _ _).mono ?_
  rintro r w1 ⟨rfl, b1⟩
  have B1 := keep B0 b1
  have bo1 := bo.below b1
  have br1 := br.below b1
  clear B0 bo br b1
  rw [decide_eq_true hR]
  obtain ⟨c0, c1, c2, c3⟩ := br1.all4
  go_wp2_with fail
  refine (rfree_at _ _ _ _ _).mono ?_
  rintro r w2 ⟨rfl, b2⟩
  replace B1 := keep B1 b2
  replace bo1 := bo1.below b2
  replace br1 := br1.below b2
  clear b2 c0 c1 c2 c3
  have hn' := hq.out
  obtain ⟨q1, q2, q3, q4⟩ := hR
  have f3 := br1.frozen 3
  have br2 : Box (w2.setCell ⟨w.heap.size, 3, none⟩ (.int .i64 (H + n))) w.heap.size #[.int .i64 S, .int .i64 T, .int .i64 U, .int .i64 (H + n)] 23 := by simpa using br1.store 3 (.int .i64 (H + n))
  have bo2 := bo1.other (k := w.heap.size) 3 (.int .i64 (H + n)) (by omega)
  have B2 := B1.setCell (p := ⟨w.heap.size, 3, none⟩) (Nat.le_refl _) (.int .i64 (H + n))
  obtain ⟨c0, c1, c2, c3⟩ := br1.all4
  obtain ⟨d0, d1, d2, d3⟩ := br2.all4
  obtain ⟨e0, e1, e2, e3⟩ := bo2.all4
  obtain ⟨g0, g1, g2, g3⟩ := bo2.fr4
  clear bo1 br1 B1 br2
  go_wp2_with fail
  have y := bo2.store4 (u0 := .int .i64 S) (u1 := .int .i64 T) (u2 := .int .i64 U) (u3 := .int .i64 (H + n))
  have C1 := below4 B2 (by omega : w.heap.size ≤ w.heap.size + 1) (.int .i64 S) (.int .i64 T) (.int .i64 U) (.int .i64 (H + n))
  unfold set4 at y C1
  clear bo2 B2 c0 c1 c2 c3 f3 d0 d1 d2 d3 e0 e1 e2 e3 g0 g1 g2 g3
  obtain ⟨c0, c1, c2, c3⟩ := y.all4
  exact bodyPost_ret (v := .tuple #[.agg (ri S T U (H + n)), .int .i64 0]) (by simp only [ri]; simp [results, Try.results15, go_sem, c0, c1, c2, c3]) rfl ⟨rfl, C1⟩

theorem rrelease_ok (S T U H n : Int) (w : World) (hR : R S T U H) (hn : 0 ≤ n) (h1 : n ≤ H) :
    Calls Try.prog 16 #[.agg (ri S T U H), .int .i64 n] w fun r w' => r = .returned (.tuple #[.agg (ri S T U (H - n)), .int .i64 0]) ∧ Below w.heap.size w w' := by
  have br := w2r w S T U H
  have bo := w2o w S T U H
  have B0 := w2b w S T U H
  unfold ri at *
  go_enter Try.func16, Try.ntmps16
  go_wp2_with fail
  refine (rright_at _ _ _ _ _).mono ?_
  rintro r w1 ⟨rfl, b1⟩
  have B1 := keep B0 b1
  have bo1 := bo.below b1
  have br1 := br.below b1
  clear B0 bo br b1
  rw [decide_eq_true hR]
  obtain ⟨q1, q2, q3, q4⟩ := hR
  have f3 := br1.frozen 3
  have br2 : Box (w1.setCell ⟨w.heap.size, 3, none⟩ (.int .i64 (H - n))) w.heap.size #[.int .i64 S, .int .i64 T, .int .i64 U, .int .i64 (H - n)] 23 := by simpa using br1.store 3 (.int .i64 (H - n))
  have bo2 := bo1.other (k := w.heap.size) 3 (.int .i64 (H - n)) (by omega)
  have B2 := B1.setCell (p := ⟨w.heap.size, 3, none⟩) (Nat.le_refl _) (.int .i64 (H - n))
  obtain ⟨c0, c1, c2, c3⟩ := br1.all4
  obtain ⟨d0, d1, d2, d3⟩ := br2.all4
  obtain ⟨e0, e1, e2, e3⟩ := bo2.all4
  obtain ⟨g0, g1, g2, g3⟩ := bo2.fr4
  clear bo1 br1 B1 br2
  go_wp2_with fail
  have y := bo2.store4 (u0 := .int .i64 S) (u1 := .int .i64 T) (u2 := .int .i64 U) (u3 := .int .i64 (H - n))
  have C1 := below4 B2 (by omega : w.heap.size ≤ w.heap.size + 1) (.int .i64 S) (.int .i64 T) (.int .i64 U) (.int .i64 (H - n))
  unfold set4 at y C1
  clear bo2 B2 c0 c1 c2 c3 f3 d0 d1 d2 d3 e0 e1 e2 e3 g0 g1 g2 g3
  obtain ⟨c0, c1, c2, c3⟩ := y.all4
  exact bodyPost_ret (v := .tuple #[.agg (ri S T U (H - n)), .int .i64 0]) (by simp only [ri]; simp [results, Try.results16, go_sem, c0, c1, c2, c3]) rfl ⟨rfl, C1⟩

end Go.Proofs.Ytoopdooepnojhaa
