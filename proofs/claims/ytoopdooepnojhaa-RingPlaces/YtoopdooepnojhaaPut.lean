/-
  Put.
-/
import Derived.Test.YtoopdooepnojhaaCalls
namespace Go.Proofs.Ytoopdooepnojhaa
open Go.RowKit

def W4 (w : World) (S T U H n k : Int) : World := (((w.alloc (.cells (ri S T U H) 23)).alloc (.cells #[.int .i64 n] 3)).alloc (.cells #[.int .i64 k] 3)).alloc (.cells #[.int .i64 0, .int .i64 0, .int .i64 0, .int .i64 0] 23)
theorem w4_r (w : World) (S T U H n k : Int) : Box (W4 w S T U H n k) w.heap.size (ri S T U H) 23 := (((Box.new w _ 23).alloc _).alloc _).alloc _
theorem w4_n (w : World) (S T U H n k : Int) : Box (W4 w S T U H n k) (w.heap.size + 1) #[.int .i64 n] 3 := ((Box.next w _ _ 3).alloc _).alloc _
theorem w4_k (w : World) (S T U H n k : Int) : Box (W4 w S T U H n k) (w.heap.size + 2) #[.int .i64 k] 3 := (Box.next2 w _ _ _ 3).alloc _
theorem w4_o (w : World) (S T U H n k : Int) : Box (W4 w S T U H n k) (w.heap.size + 3) #[.int .i64 0, .int .i64 0, .int .i64 0, .int .i64 0] 23 := Box.next3 w _ _ _ _ 23
theorem w4_b (w : World) (S T U H n k : Int) : Below w.heap.size w (W4 w S T U H n k) := ((((Below.refl w.heap.size w).alloc (Nat.le_refl _) _).alloc (by simp) _).alloc (by simp; omega) _).alloc (by simp; omega) _

theorem put_no (S T U H n k : Int) (w : World) (h : ¬((R S T U H ∧ 0 ≤ n) ∧ 0 ≤ k ∧ k ≤ n ∧ k ≤ H)) :
    Calls Try.prog 9 #[.agg (ri S T U H), .int .i64 n, .int .i64 k] w fun r w' => r = .returned (.tuple #[.agg (ri 0 0 0 0), .int .i64 0, .int .i64 2]) ∧ Below w.heap.size w w' := by
  have br := w4_r w S T U H n k
  have bn := w4_n w S T U H n k
  have bk := w4_k w S T U H n k
  have bo := w4_o w S T U H n k
  have B0 := w4_b w S T U H n k
  have hask : Calls Try.prog 23 #[.agg (ri S T U H), .int .i64 n, .func (.func 27) #[] #[pt (w.heap.size + 2), pt (w.heap.size + 1), pt w.heap.size], .int .i64 2] (W4 w S T U H n k) fun r w' => r = .returned (.int .i64 2) ∧ Below (W4 w S T U H n k).heap.size (W4 w S T U H n k) w' := by
    by_cases q : R S T U H ∧ 0 ≤ n
    · have := ask_in27 #[pt (w.heap.size + 2), pt (w.heap.size + 1), pt w.heap.size] S T U H n 2 (decide (0 ≤ k ∧ k ≤ n ∧ k ≤ H)) (W4 w S T U H n k) q.1 q.2 (fun w' b => put1 S T U H n k _ _ _ w' (bk.below b) (bn.below b) (br.below b))
      rw [decide_eq_false (fun e => h ⟨q, e⟩)] at this
      exact this
    · exact ask_bad S T U H n 2 _ _ q
  clear h
  unfold W4 ri at *
  go_enter Try.func9, Try.ntmps9
  go_wp2_with fail
  refine hask.mono ?_
  rintro r w1 ⟨rfl, b1⟩
  have B1 := keep B0 b1
  have bo1 := bo.below b1
  obtain ⟨c0, c1, c2, c3⟩ := bo1.all4
  obtain ⟨f0, f1, f2, f3⟩ := bo1.fr4
  clear hask br bn bk B0 b1 bo
  go_wp2_with fail
  have y := bo1.store4 (u0 := .int .i64 0) (u1 := .int .i64 0) (u2 := .int .i64 0) (u3 := .int .i64 0)
  have C1 := below4 B1 (by omega : w.heap.size ≤ w.heap.size + 3) (.int .i64 0) (.int .i64 0) (.int .i64 0) (.int .i64 0)
  unfold set4 at y C1
  clear bo1 B1 c0 c1 c2 c3 f0 f1 f2 f3
  obtain ⟨c0, c1, c2, c3⟩ := y.all4
  exact bodyPost_ret (v := .tuple #[.agg (ri 0 0 0 0), .int .i64 0, .int .i64 2]) (by simp only [ri]; simp [results, Try.results9, go_sem, c0, c1, c2, c3]) rfl ⟨rfl, C1⟩

theorem ask27_ok (S T U H n k : Int) (w w0 : World) (hR : R S T U H) (h0 : 0 ≤ n) (h1 : 0 ≤ k ∧ k ≤ n ∧ k ≤ H) (g : Nat) (bk : Box w (g + 2) #[.int .i64 k] 3) (bn : Box w (g + 1) #[.int .i64 n] 3) (br : Box w g (ri S T U H) 23) (e : w0 = w) :
    Calls Try.prog 23 #[.agg (ri S T U H), .int .i64 n, .func (.func 27) #[] #[pt (g + 2), pt (g + 1), pt g], .int .i64 2] w0 fun r w' => r = .returned (.int .i64 0) ∧ Below w0.heap.size w0 w' := by
  subst e
  have := ask_in27 #[pt (g + 2), pt (g + 1), pt g] S T U H n 2 (decide (0 ≤ k ∧ k ≤ n ∧ k ≤ H)) w0 hR h0 (fun w' b => put1 S T U H n k _ _ _ w' (bk.below b) (bn.below b) (br.below b))
  rw [decide_eq_true h1] at this
  exact this
theorem ask29 (S T U H n k : Int) (w : World) (hR : R S T U H) (h0 : 0 ≤ n) (hn : n ≤ 9223372036854775807) (h1 : 0 ≤ k ∧ k ≤ n ∧ k ≤ H) (g : Nat) (bk : Box w (g + 2) #[.int .i64 k] 3) (bn : Box w (g + 1) #[.int .i64 n] 3) (br : Box w g (ri S T U H) 23) :
    Calls Try.prog 23 #[.agg (ri S T U H), .int .i64 n, .func (.func 29) #[] #[pt (g + 1), pt (g + 2), pt g], .int .i64 5] w fun r w' => r = .returned (.int .i64 (if n - k ≤ fr S T U H then 0 else 5)) ∧ Below w.heap.size w w' := by
  have := ask_in29 #[pt (g + 1), pt (g + 2), pt g] S T U H n 5 (decide (n - k ≤ fr S T U H)) w hR h0 (fun w' b => put2 S T U H n k _ _ _ w' h1.1 h1.2.1 hn (bk.below b) (bn.below b) (br.below b))
  simpa using this

theorem put_full (S T U H n k : Int) (w : World) (hR : R S T U H) (h0 : 0 ≤ n) (hn : n ≤ 9223372036854775807) (h1 : 0 ≤ k ∧ k ≤ n ∧ k ≤ H) (h2 : ¬ n - k ≤ fr S T U H) :
    Calls Try.prog 9 #[.agg (ri S T U H), .int .i64 n, .int .i64 k] w fun r w' => r = .returned (.tuple #[.agg (ri 0 0 0 0), .int .i64 0, .int .i64 5]) ∧ Below w.heap.size w w' := by
  have br := w4_r w S T U H n k
  have bn := w4_n w S T U H n k
  have bk := w4_k w S T U H n k
  have bo := w4_o w S T U H n k
  have B0 := w4_b w S T U H n k
  have hask := ask27_ok S T U H n k _ _ hR h0 h1 _ bk bn br rfl
  have hask2 := fun u => ask29 S T U H n k u hR h0 hn h1 w.heap.size
  rw [if_neg h2] at hask2
  have A2 : Hid _ := hask2
  clear h2 hask2 hR h1 hn h0
  unfold W4 ri at *
  go_enter Try.func9, Try.ntmps9
  go_wp2_with fail
  refine hask.mono ?_
  rintro r w1 ⟨rfl, b1⟩
  have B1 := keep B0 b1
  have bo1 := bo.below b1
  have br1 := br.below b1
  have bn1 := bn.below b1
  have bk1 := bk.below b1
  obtain ⟨c0, c1, c2, c3⟩ := br1.all4
  have c := bn1.one
  clear hask br bn bk B0 b1 bo
  go_wp2_with fail
  refine (A2.out _ bk1 bn1 br1).mono ?_
  rintro r w2 ⟨rfl, b2⟩
  have B2 := keep B1 b2
  have bo2 := bo1.below b2
  clear B1 bo1 b2 c0 c1 c2 c3 c br1 bn1 bk1 A2
  obtain ⟨c0, c1, c2, c3⟩ := bo2.all4
  obtain ⟨f0, f1, f2, f3⟩ := bo2.fr4
  go_wp2_with fail
  have y := bo2.store4 (u0 := .int .i64 0) (u1 := .int .i64 0) (u2 := .int .i64 0) (u3 := .int .i64 0)
  have C1 := below4 B2 (by omega : w.heap.size ≤ w.heap.size + 3) (.int .i64 0) (.int .i64 0) (.int .i64 0) (.int .i64 0)
  unfold set4 at y C1
  clear bo2 B2 c0 c1 c2 c3 f0 f1 f2 f3
  obtain ⟨c0, c1, c2, c3⟩ := y.all4
  exact bodyPost_ret (v := .tuple #[.agg (ri 0 0 0 0), .int .i64 0, .int .i64 5]) (by simp only [ri]; simp [results, Try.results9, go_sem, c0, c1, c2, c3]) rfl ⟨rfl, C1⟩

set_option maxHeartbeats 1000000 in
theorem put_ok (S T U H n k : Int) (w : World) (hR : R S T U H) (h0 : 0 ≤ n) (h1 : 0 ≤ k ∧ k ≤ n ∧ k ≤ H) (h2 : n - k ≤ fr S T U H) :
    Calls Try.prog 9 #[.agg (ri S T U H), .int .i64 n, .int .i64 k] w fun r w' => r = .returned (.tuple #[.agg (ri S T (U + n) (H - k)), .int .i64 ((T + U) % S), .int .i64 0]) ∧ Below w.heap.size w w' := by
  have hn : n ≤ 512 := by
    rw [fr, if_pos hR] at h2
    unfold R at hR
    omega
  have br := w4_r w S T U H n k
  have bn := w4_n w S T U H n k
  have bk := w4_k w S T U H n k
  have bo := w4_o w S T U H n k
  have B0 := w4_b w S T U H n k
  have hask := ask27_ok S T U H n k _ _ hR h0 h1 _ bk bn br rfl
  have hask2 := fun u => ask29 S T U H n k u hR h0 (by omega) h1 w.heap.size
  rw [if_pos h2] at hask2
  have A2 : Hid _ := hask2
  have hb : Hid _ := fun u => behind_at S T U H U u hR.1.1 hR.1.2 hR.2.1.1 (by have := hR.2.1.2; omega) hR.2.2.1.1 hR.2.2.1.2
  obtain ⟨P, hP⟩ : ∃ P, P = (T + U) % S := ⟨_, rfl⟩
  rw [← hP] at hb ⊢
  clear hP hask2 h2
  obtain ⟨q1, q2, q3, q4⟩ := hR
  unfold W4 ri at *
  go_enter Try.func9, Try.ntmps9
  go_wp2_with fail
  refine hask.mono ?_
  rintro r w1 ⟨rfl, b1⟩
  have B1 := keep B0 b1
  have bo1 := bo.below b1
  have br1 := br.below b1
  have bn1 := bn.below b1
  have bk1 := bk.below b1
  obtain ⟨c0, c1, c2, c3⟩ := br1.all4
  have c := bn1.one
  clear hask br bn bk B0 b1 bo
  go_wp2_with fail
  refine (A2.out _ bk1 bn1 br1).mono ?_
  rintro r w2 ⟨rfl, b2⟩
  have B2 := keep B1 b2
  have bo2 := bo1.below b2
  have br2 := br1.below b2
  have bn2 := bn1.below b2
  have bk2 := bk1.below b2
  clear B1 bo1 b2 c0 c1 c2 c3 c br1 bn1 bk1 A2
  obtain ⟨c0, c1, c2, c3⟩ := br2.all4
  go_wp2_with fail
  refine (hb.out _).mono ?_
  rintro r w3 ⟨rfl, b3⟩
  have B3 := keep B2 b3
  have bo3 := bo2.below b3
  have br3 := br2.below b3
  have bn3 := bn2.below b3
  have bk3 := bk2.below b3
  clear B2 bo2 b3 c0 c1 c2 c3 br2 bn2 bk2 hb
  have f2 := br3.frozen 2
  have br4 : Box (w3.setCell ⟨w.heap.size, 2, none⟩ (.int .i64 (U + n))) w.heap.size #[.int .i64 S, .int .i64 T, .int .i64 (U + n), .int .i64 H] 23 := by simpa using br3.store 2 (.int .i64 (U + n))
  have bo4 := bo3.other (k := w.heap.size) 2 (.int .i64 (U + n)) (by omega)
  have bk4 := bk3.other (k := w.heap.size) 2 (.int .i64 (U + n)) (by omega)
  have B4 := B3.setCell (p := ⟨w.heap.size, 2, none⟩) (Nat.le_refl _) (.int .i64 (U + n))
  have f3 := br4.frozen 3
  have br5 : Box ((w3.setCell ⟨w.heap.size, 2, none⟩ (.int .i64 (U + n))).setCell ⟨w.heap.size, 3, none⟩ (.int .i64 (H - k))) w.heap.size #[.int .i64 S, .int .i64 T, .int .i64 (U + n), .int .i64 (H - k)] 23 := by simpa using br4.store 3 (.int .i64 (H - k))
  have bo5 := bo4.other (k := w.heap.size) 3 (.int .i64 (H - k)) (by omega)
  have B5 := B4.setCell (p := ⟨w.heap.size, 3, none⟩) (Nat.le_refl _) (.int .i64 (H - k))
  obtain ⟨c0, c1, c2, c3⟩ := br3.all4
  obtain ⟨k0, k1, k2, k3⟩ := br4.all4
  have c := bn3.one
  have c' := bk4.one
  obtain ⟨d0, d1, d2, d3⟩ := br5.all4
  obtain ⟨e0, e1, e2, e3⟩ := bo5.all4
  obtain ⟨g0, g1, g2, g3⟩ := bo5.fr4
  clear bo3 br3 bn3 bk3 bo4 br4 bk4 B3 B4 br5
  go_wp2_with fail
  have y := bo5.store4 (u0 := .int .i64 S) (u1 := .int .i64 T) (u2 := .int .i64 (U + n)) (u3 := .int .i64 (H - k))
  have C1 := below4 B5 (by omega : w.heap.size ≤ w.heap.size + 3) (.int .i64 S) (.int .i64 T) (.int .i64 (U + n)) (.int .i64 (H - k))
  unfold set4 at y C1
  clear bo5 B5 c0 c1 c2 c3 c c' f2 f3 k0 k1 k2 k3 d0 d1 d2 d3 e0 e1 e2 e3 g0 g1 g2 g3
  obtain ⟨c0, c1, c2, c3⟩ := y.all4
  exact bodyPost_ret (v := .tuple #[.agg (ri S T (U + n) (H - k)), .int .i64 P, .int .i64 0]) (by simp only [ri]; simp [results, Try.results9, go_sem, c0, c1, c2, c3]) rfl ⟨rfl, C1⟩

end Go.Proofs.Ytoopdooepnojhaa
