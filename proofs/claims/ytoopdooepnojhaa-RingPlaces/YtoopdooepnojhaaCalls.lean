/-
  The calls: At, Reserve, Release, Put, Drop.
-/
import Derived.Test.YtoopdooepnojhaaClos
namespace Go.Proofs.Ytoopdooepnojhaa
open Go.RowKit

/-- four numbers stored over four -/
def set4 (w : World) (g : Nat) (u0 u1 u2 u3 : Value) : World := ((((w.setCell ⟨g, 0, none⟩ u0).setCell ⟨g, 1, none⟩ u1).setCell ⟨g, 2, none⟩ u2).setCell ⟨g, 3, none⟩ u3)
theorem Box.store4 {w : World} {g : Nat} {v0 v1 v2 v3 u0 u1 u2 u3 : Value} {t : TypeId} (h : Box w g #[v0, v1, v2, v3] t) : Box (set4 w g u0 u1 u2 u3) g #[u0, u1, u2, u3] t := by
  have q := ((((h.store 0 u0).store 1 u1).store 2 u2).store 3 u3)
  unfold set4
  simpa using q
theorem below4 {B : Nat} {w0 w : World} {g : Nat} (h : Below B w0 w) (hg : B ≤ g) (u0 u1 u2 u3 : Value) : Below B w0 (set4 w g u0 u1 u2 u3) := ((((h.setCell (p := ⟨g, 0, none⟩) hg u0).setCell (p := ⟨g, 1, none⟩) hg u1).setCell (p := ⟨g, 2, none⟩) hg u2).setCell (p := ⟨g, 3, none⟩) hg u3)

/-- the world behind the boxes of a ring and a number -/
def W2 (w : World) (S T U H n : Int) : World := (w.alloc (.cells (ri S T U H) 23)).alloc (.cells #[.int .i64 n] 3)
def W3 (w : World) (S T U H n : Int) : World := (W2 w S T U H n).alloc (.cells #[.int .i64 0, .int .i64 0, .int .i64 0, .int .i64 0] 23)
theorem w2_r (w : World) (S T U H n : Int) : Box (W2 w S T U H n) w.heap.size (ri S T U H) 23 := (Box.new w _ 23).alloc _
theorem w2_n (w : World) (S T U H n : Int) : Box (W2 w S T U H n) (w.heap.size + 1) #[.int .i64 n] 3 := Box.next w _ _ 3
theorem w2_b (w : World) (S T U H n : Int) : Below w.heap.size w (W2 w S T U H n) := ((Below.refl w.heap.size w).alloc (Nat.le_refl _) _).alloc (by simp) _
theorem w3_r (w : World) (S T U H n : Int) : Box (W3 w S T U H n) w.heap.size (ri S T U H) 23 := (w2_r w S T U H n).alloc _
theorem w3_n (w : World) (S T U H n : Int) : Box (W3 w S T U H n) (w.heap.size + 1) #[.int .i64 n] 3 := (w2_n w S T U H n).alloc _
theorem w3_o (w : World) (S T U H n : Int) : Box (W3 w S T U H n) (w.heap.size + 2) #[.int .i64 0, .int .i64 0, .int .i64 0, .int .i64 0] 23 := Box.next2 w _ _ _ 23
theorem w3_b (w : World) (S T U H n : Int) : Below w.heap.size w (W3 w S T U H n) := (w2_b w S T U H n).alloc (w2_b w S T U H n).size _

theorem at_no (S T U H n : Int) (w : World) (h : ¬(R S T U H ∧ 0 ≤ n ∧ n < S)) :
    Calls Try.prog 10 #[.agg (ri S T U H), .int .i64 n] w fun r w' => r = .returned (.tuple #[.int .i64 0, .int .i64 2]) ∧ Below w.heap.size w w' := by
  have br := w2_r w S T U H n
  have bn := w2_n w S T U H n
  have B0 := w2_b w S T U H n
  have hask : Calls Try.prog 23 #[.agg (ri S T U H), .int .i64 n, .func (.func 30) #[] #[pt (w.heap.size + 1), pt w.heap.size], .int .i64 2] (W2 w S T U H n) fun r w' => r = .returned (.int .i64 2) ∧ Below (W2 w S T U H n).heap.size (W2 w S T U H n) w' := by
    by_cases q : R S T U H ∧ 0 ≤ n
    · have := ask_in30 #[pt (w.heap.size + 1), pt w.heap.size] S T U H n 2 (decide (n < S)) (W2 w S T U H n) q.1 q.2 (fun w' b => at1 S T U H n _ _ w' (bn.below b) (br.below b))
      rw [decide_eq_false (fun e => h ⟨q.1, q.2, e⟩)] at this
      exact this
    · exact ask_bad S T U H n 2 _ _ q
  unfold W2 ri at *
  go_enter Try.func10, Try.ntmps10
  go_wp2_with fail
  refine hask.mono ?_
  rintro r w1 ⟨rfl, b1⟩
  have B1 := keep B0 b1
  go_wp2_with fail
  exact bodyPost_ret (v := .tuple #[.int .i64 0, .int .i64 2]) (by simp [results, Try.results10, go_sem]) rfl ⟨rfl, B1⟩

theorem at_ok (S T U H n : Int) (w : World) (hR : R S T U H) (h0 : 0 ≤ n) (h1 : n < S) :
    Calls Try.prog 10 #[.agg (ri S T U H), .int .i64 n] w fun r w' => r = .returned (.tuple #[.int .i64 ((T + n) % S), .int .i64 0]) ∧ Below w.heap.size w w' := by
  have br := w2_r w S T U H n
  have bn := w2_n w S T U H n
  have B0 := w2_b w S T U H n
  have hask : Calls Try.prog 23 #[.agg (ri S T U H), .int .i64 n, .func (.func 30) #[] #[pt (w.heap.size + 1), pt w.heap.size], .int .i64 2] (W2 w S T U H n) fun r w' => r = .returned (.int .i64 0) ∧ Below (W2 w S T U H n).heap.size (W2 w S T U H n) w' := by
    have := ask_in30 #[pt (w.heap.size + 1), pt w.heap.size] S T U H n 2 (decide (n < S)) (W2 w S T U H n) hR h0 (fun w' b => at1 S T U H n _ _ w' (bn.below b) (br.below b))
    rw [decide_eq_true h1] at this
    exact this
  have hb := fun u => behind_at S T U H n u hR.1.1 hR.1.2 hR.2.1.1 (by have := hR.2.1.2; omega) h0 (by omega)
  unfold W2 ri at *
  go_enter Try.func10, Try.ntmps10
  go_wp2_with fail
  refine hask.mono ?_
  rintro r w1 ⟨rfl, b1⟩
  have B1 := keep B0 b1
  obtain ⟨c0, c1, c2, c3⟩ := (br.below b1).all4
  have c := (bn.below b1).one
  clear b1 B0 br bn hask
  go_wp2_with fail
  refine (hb _).mono ?_
  rintro r w2 ⟨rfl, b2⟩
  have B2 := keep B1 b2
  go_wp2_with fail
  exact bodyPost_ret (v := .tuple #[.int .i64 ((T + n) % S), .int .i64 0]) (by simp [results, Try.results10, go_sem]) rfl ⟨rfl, B2⟩

theorem reserve_no (S T U H n E : Int) (w : World) (h : ¬(R S T U H ∧ 0 ≤ n) ∧ E = 2 ∨ (R S T U H ∧ 0 ≤ n ∧ ¬(n ≤ fr S T U H)) ∧ E = 5) :
    Calls Try.prog 6 #[.agg (ri S T U H), .int .i64 n] w fun r w' => r = .returned (.tuple #[.agg (ri 0 0 0 0), .int .i64 E]) ∧ Below w.heap.size w w' := by
  have br := w3_r w S T U H n
  have bn := w3_n w S T U H n
  have bo := w3_o w S T U H n
  have B0 := w3_b w S T U H n
  have hask : Calls Try.prog 23 #[.agg (ri S T U H), .int .i64 n, .func (.func 22) #[] #[pt (w.heap.size + 1), pt w.heap.size], .int .i64 5] (W3 w S T U H n) fun r w' => r = .returned (.int .i64 E) ∧ Below (W3 w S T U H n).heap.size (W3 w S T U H n) w' := by
    rcases h with ⟨q, rfl⟩ | ⟨⟨q1, q2, q3⟩, rfl⟩
    · exact ask_bad S T U H n 5 _ _ q
    · have := ask_in22 #[pt (w.heap.size + 1), pt w.heap.size] S T U H n 5 (decide (n ≤ fr S T U H)) (W3 w S T U H n) q1 q2 (fun w' b => reserve1 S T U H n _ _ w' (bn.below b) (br.below b))
      rw [decide_eq_false q3] at this
      exact this
  have hE : E ≠ 0 := by
    rcases h with ⟨_, rfl⟩ | ⟨_, rfl⟩ <;> decide
  have hE' : (E == 0) = false := by simp [hE]
  clear h
  unfold W3 W2 ri at *
  go_enter Try.func6, Try.ntmps6
  go_wp2_with fail
  refine hask.mono ?_
  rintro r w1 ⟨rfl, b1⟩
  have B1 := keep B0 b1
  have bo1 := bo.below b1
  obtain ⟨c0, c1, c2, c3⟩ := bo1.all4
  obtain ⟨f0, f1, f2, f3⟩ := bo1.fr4
  clear hask br bn B0 b1 bo
  go_wp2_with fail
  have y := bo1.store4 (u0 := .int .i64 0) (u1 := .int .i64 0) (u2 := .int .i64 0) (u3 := .int .i64 0)
  have C1 := below4 B1 (by omega : w.heap.size ≤ w.heap.size + 2) (.int .i64 0) (.int .i64 0) (.int .i64 0) (.int .i64 0)
  unfold set4 at y C1
  clear bo1 B1 c0 c1 c2 c3 f0 f1 f2 f3
  obtain ⟨c0, c1, c2, c3⟩ := y.all4
  exact bodyPost_ret (v := .tuple #[.agg (ri 0 0 0 0), .int .i64 E]) (by simp only [ri]; simp [results, Try.results6, go_sem, c0, c1, c2, c3]) rfl ⟨rfl, C1⟩

theorem release_no (S T U H n E : Int) (w : World) (h : ¬(R S T U H ∧ 0 ≤ n) ∧ E = 2 ∨ (R S T U H ∧ 0 ≤ n ∧ ¬(n ≤ H)) ∧ E = 2) :
    Calls Try.prog 8 #[.agg (ri S T U H), .int .i64 n] w fun r w' => r = .returned (.tuple #[.agg (ri 0 0 0 0), .int .i64 E]) ∧ Below w.heap.size w w' := by
  have br := w3_r w S T U H n
  have bn := w3_n w S T U H n
  have bo := w3_o w S T U H n
  have B0 := w3_b w S T U H n
  have hask : Calls Try.prog 23 #[.agg (ri S T U H), .int .i64 n, .func (.func 26) #[] #[pt (w.heap.size + 1), pt w.heap.size], .int .i64 2] (W3 w S T U H n) fun r w' => r = .returned (.int .i64 E) ∧ Below (W3 w S T U H n).heap.size (W3 w S T U H n) w' := by
    rcases h with ⟨q, rfl⟩ | ⟨⟨q1, q2, q3⟩, rfl⟩
    · exact ask_bad S T U H n 2 _ _ q
    · have := ask_in26 #[pt (w.heap.size + 1), pt w.heap.size] S T U H n 2 (decide (n ≤ H)) (W3 w S T U H n) q1 q2 (fun w' b => release1 S T U H n _ _ w' (bn.below b) (br.below b))
      rw [decide_eq_false q3] at this
      exact this
  have hE : E ≠ 0 := by
    rcases h with ⟨_, rfl⟩ | ⟨_, rfl⟩ <;> decide
  have hE' : (E == 0) = false := by simp [hE]
  clear h
  unfold W3 W2 ri at *
  go_enter Try.func8, Try.ntmps8
  go_wp2_with fail
  refine hask.mono ?_
  rintro r w1 ⟨rfl, b1⟩
  have B1 := keep B0 b1
  have bo1 := bo.below b1
  obtain ⟨c0, c1, c2, c3⟩ := bo1.all4
  obtain ⟨f0, f1, f2, f3⟩ := bo1.fr4
  clear hask br bn B0 b1 bo
  go_wp2_with fail
  have y := bo1.store4 (u0 := .int .i64 0) (u1 := .int .i64 0) (u2 := .int .i64 0) (u3 := .int .i64 0)
  have C1 := below4 B1 (by omega : w.heap.size ≤ w.heap.size + 2) (.int .i64 0) (.int .i64 0) (.int .i64 0) (.int .i64 0)
  unfold set4 at y C1
  clear bo1 B1 c0 c1 c2 c3 f0 f1 f2 f3
  obtain ⟨c0, c1, c2, c3⟩ := y.all4
  exact bodyPost_ret (v := .tuple #[.agg (ri 0 0 0 0), .int .i64 E]) (by simp only [ri]; simp [results, Try.results8, go_sem, c0, c1, c2, c3]) rfl ⟨rfl, C1⟩

theorem drop_no (S T U H n E : Int) (w : World) (h : ¬(R S T U H ∧ 0 ≤ n) ∧ E = 2 ∨ (R S T U H ∧ 0 ≤ n ∧ ¬(n ≤ U)) ∧ E = 2) :
    Calls Try.prog 7 #[.agg (ri S T U H), .int .i64 n] w fun r w' => r = .returned (.tuple #[.agg (ri 0 0 0 0), .int .i64 E]) ∧ Below w.heap.size w w' := by
  have br := w3_r w S T U H n
  have bn := w3_n w S T U H n
  have bo := w3_o w S T U H n
  have B0 := w3_b w S T U H n
  have hask : Calls Try.prog 23 #[.agg (ri S T U H), .int .i64 n, .func (.func 24) #[] #[pt (w.heap.size + 1), pt w.heap.size], .int .i64 2] (W3 w S T U H n) fun r w' => r = .returned (.int .i64 E) ∧ Below (W3 w S T U H n).heap.size (W3 w S T U H n) w' := by
    rcases h with ⟨q, rfl⟩ | ⟨⟨q1, q2, q3⟩, rfl⟩
    · exact ask_bad S T U H n 2 _ _ q
    · have := ask_in24 #[pt (w.heap.size + 1), pt w.heap.size] S T U H n 2 (decide (n ≤ U)) (W3 w S T U H n) q1 q2 (fun w' b => drop1 S T U H n _ _ w' (bn.below b) (br.below b))
      rw [decide_eq_false q3] at this
      exact this
  have hE : E ≠ 0 := by
    rcases h with ⟨_, rfl⟩ | ⟨_, rfl⟩ <;> decide
  have hE' : (E == 0) = false := by simp [hE]
  clear h
  unfold W3 W2 ri at *
  go_enter Try.func7, Try.ntmps7
  go_wp2_with fail
  refine hask.mono ?_
  rintro r w1 ⟨rfl, b1⟩
  have B1 := keep B0 b1
  have bo1 := bo.below b1
  obtain ⟨c0, c1, c2, c3⟩ := bo1.all4
  obtain ⟨f0, f1, f2, f3⟩ := bo1.fr4
  clear hask br bn B0 b1 bo
  go_wp2_with fail
  have y := bo1.store4 (u0 := .int .i64 0) (u1 := .int .i64 0) (u2 := .int .i64 0) (u3 := .int .i64 0)
  have C1 := below4 B1 (by omega : w.heap.size ≤ w.heap.size + 2) (.int .i64 0) (.int .i64 0) (.int .i64 0) (.int .i64 0)
  unfold set4 at y C1
  clear bo1 B1 c0 c1 c2 c3 f0 f1 f2 f3
  obtain ⟨c0, c1, c2, c3⟩ := y.all4
  exact bodyPost_ret (v := .tuple #[.agg (ri 0 0 0 0), .int .i64 E]) (by simp only [ri]; simp [results, Try.results7, go_sem, c0, c1, c2, c3]) rfl ⟨rfl, C1⟩

theorem reserve_ok (S T U H n : Int) (w : World) (hR : R S T U H) (h0 : 0 ≤ n) (h1 : n ≤ fr S T U H) :
    Calls Try.prog 6 #[.agg (ri S T U H), .int .i64 n] w fun r w' => r = .returned (.tuple #[.agg (ri S T U (H + n)), .int .i64 0]) ∧ Below w.heap.size w w' := by
  have br := w3_r w S T U H n
  have bn := w3_n w S T U H n
  have bo := w3_o w S T U H n
  have B0 := w3_b w S T U H n
  have hask : Calls Try.prog 23 #[.agg (ri S T U H), .int .i64 n, .func (.func 22) #[] #[pt (w.heap.size + 1), pt w.heap.size], .int .i64 5] (W3 w S T U H n) fun r w' => r = .returned (.int .i64 0) ∧ Below (W3 w S T U H n).heap.size (W3 w S T U H n) w' := by
    have := ask_in22 #[pt (w.heap.size + 1), pt w.heap.size] S T U H n 5 (decide (n ≤ fr S T U H)) (W3 w S T U H n) hR h0 (fun w' b => reserve1 S T U H n _ _ w' (bn.below b) (br.below b))
    rw [decide_eq_true h1] at this
    exact this
  have hn : n ≤ 512 := by
    unfold R at hR
    have := h1
    try rw [fr, if_pos (by exact hR)] at this
    omega
  obtain ⟨q1, q2, q3, q4⟩ := hR
  clear h1
  unfold W3 W2 ri at *
  go_enter Try.func6, Try.ntmps6
  go_wp2_with fail
  refine hask.mono ?_
  rintro r w1 ⟨rfl, b1⟩
  have B1 := keep B0 b1
  have bo1 := bo.below b1
  have br1 := br.below b1
  obtain ⟨c0, c1, c2, c3⟩ := br1.all4
  have f3 := br1.frozen 3
  have c := (bn.below b1).one
  have br2 : Box (w1.setCell ⟨w.heap.size, 3, none⟩ (.int .i64 (H + n))) w.heap.size #[.int .i64 S, .int .i64 T, .int .i64 U, .int .i64 (H + n)] 23 := by simpa using br1.store 3 (.int .i64 (H + n))
  have bo2 := bo1.other (k := w.heap.size) 3 (.int .i64 (H + n)) (by omega)
  have B2 := B1.setCell (p := ⟨w.heap.size, 3, none⟩) (Nat.le_refl _) (.int .i64 (H + n))
  clear hask br bn B0 b1 bo bo1 br1 B1
  obtain ⟨d0, d1, d2, d3⟩ := br2.all4
  obtain ⟨e0, e1, e2, e3⟩ := bo2.all4
  obtain ⟨g0, g1, g2, g3⟩ := bo2.fr4
  go_wp2_with fail
  have y := bo2.store4 (u0 := .int .i64 S) (u1 := .int .i64 T) (u2 := .int .i64 U) (u3 := .int .i64 (H + n))
  have C1 := below4 B2 (by omega : w.heap.size ≤ w.heap.size + 2) (.int .i64 S) (.int .i64 T) (.int .i64 U) (.int .i64 (H + n))
  unfold set4 at y C1
  clear bo2 B2 br2 c0 c1 c2 c3 c f3 d0 d1 d2 d3 e0 e1 e2 e3 g0 g1 g2 g3
  obtain ⟨c0, c1, c2, c3⟩ := y.all4
  exact bodyPost_ret (v := .tuple #[.agg (ri S T U (H + n)), .int .i64 0]) (by simp only [ri]; simp [results, Try.results6, go_sem, c0, c1, c2, c3]) rfl ⟨rfl, C1⟩

theorem release_ok (S T U H n : Int) (w : World) (hR : R S T U H) (h0 : 0 ≤ n) (h1 : n ≤ H) :
    Calls Try.prog 8 #[.agg (ri S T U H), .int .i64 n] w fun r w' => r = .returned (.tuple #[.agg (ri S T U (H - n)), .int .i64 0]) ∧ Below w.heap.size w w' := by
  have br := w3_r w S T U H n
  have bn := w3_n w S T U H n
  have bo := w3_o w S T U H n
  have B0 := w3_b w S T U H n
  have hask : Calls Try.prog 23 #[.agg (ri S T U H), .int .i64 n, .func (.func 26) #[] #[pt (w.heap.size + 1), pt w.heap.size], .int .i64 2] (W3 w S T U H n) fun r w' => r = .returned (.int .i64 0) ∧ Below (W3 w S T U H n).heap.size (W3 w S T U H n) w' := by
    have := ask_in26 #[pt (w.heap.size + 1), pt w.heap.size] S T U H n 2 (decide (n ≤ H)) (W3 w S T U H n) hR h0 (fun w' b => release1 S T U H n _ _ w' (bn.below b) (br.below b))
    rw [decide_eq_true h1] at this
    exact this
  have hn : n ≤ 512 := by
    unfold R at hR
    have := h1
    try rw [fr, if_pos (by exact hR)] at this
    omega
  obtain ⟨q1, q2, q3, q4⟩ := hR
  clear h1
  unfold W3 W2 ri at *
  go_enter Try.func8, Try.ntmps8
  go_wp2_with fail
  refine hask.mono ?_
  rintro r w1 ⟨rfl, b1⟩
  have B1 := keep B0 b1
  have bo1 := bo.below b1
  have br1 := br.below b1
  obtain ⟨c0, c1, c2, c3⟩ := br1.all4
  have f3 := br1.frozen 3
  have c := (bn.below b1).one
  have br2 : Box (w1.setCell ⟨w.heap.size, 3, none⟩ (.int .i64 (H - n))) w.heap.size #[.int .i64 S, .int .i64 T, .int .i64 U, .int .i64 (H - n)] 23 := by simpa using br1.store 3 (.int .i64 (H - n))
  have bo2 := bo1.other (k := w.heap.size) 3 (.int .i64 (H - n)) (by omega)
  have B2 := B1.setCell (p := ⟨w.heap.size, 3, none⟩) (Nat.le_refl _) (.int .i64 (H - n))
  clear hask br bn B0 b1 bo bo1 br1 B1
  obtain ⟨d0, d1, d2, d3⟩ := br2.all4
  obtain ⟨e0, e1, e2, e3⟩ := bo2.all4
  obtain ⟨g0, g1, g2, g3⟩ := bo2.fr4
  go_wp2_with fail
  have y := bo2.store4 (u0 := .int .i64 S) (u1 := .int .i64 T) (u2 := .int .i64 U) (u3 := .int .i64 (H - n))
  have C1 := below4 B2 (by omega : w.heap.size ≤ w.heap.size + 2) (.int .i64 S) (.int .i64 T) (.int .i64 U) (.int .i64 (H - n))
  unfold set4 at y C1
  clear bo2 B2 br2 c0 c1 c2 c3 c f3 d0 d1 d2 d3 e0 e1 e2 e3 g0 g1 g2 g3
  obtain ⟨c0, c1, c2, c3⟩ := y.all4
  exact bodyPost_ret (v := .tuple #[.agg (ri S T U (H - n)), .int .i64 0]) (by simp only [ri]; simp [results, Try.results8, go_sem, c0, c1, c2, c3]) rfl ⟨rfl, C1⟩

theorem drop_ok (S T U H n : Int) (w : World) (hR : R S T U H) (h0 : 0 ≤ n) (h1 : n ≤ U) :
    Calls Try.prog 7 #[.agg (ri S T U H), .int .i64 n] w fun r w' => r = .returned (.tuple #[.agg (ri S ((T + n) % S) (U - n) H), .int .i64 0]) ∧ Below w.heap.size w w' := by
  have br := w3_r w S T U H n
  have bn := w3_n w S T U H n
  have bo := w3_o w S T U H n
  have B0 := w3_b w S T U H n
  have hask : Calls Try.prog 23 #[.agg (ri S T U H), .int .i64 n, .func (.func 24) #[] #[pt (w.heap.size + 1), pt w.heap.size], .int .i64 2] (W3 w S T U H n) fun r w' => r = .returned (.int .i64 0) ∧ Below (W3 w S T U H n).heap.size (W3 w S T U H n) w' := by
    have := ask_in24 #[pt (w.heap.size + 1), pt w.heap.size] S T U H n 2 (decide (n ≤ U)) (W3 w S T U H n) hR h0 (fun w' b => drop1 S T U H n _ _ w' (bn.below b) (br.below b))
    rw [decide_eq_true h1] at this
    exact this
  have hb := fun u => behind_at S T U H n u hR.1.1 hR.1.2 hR.2.1.1 (by have := hR.2.1.2; omega) h0 (by have := hR.2.2.1.2; omega)
  obtain ⟨P, hP⟩ : ∃ P, P = (T + n) % S := ⟨_, rfl⟩
  rw [← hP] at hb ⊢
  clear hP
  obtain ⟨q1, q2, q3, q4⟩ := hR
  unfold W3 W2 ri at *
  go_enter Try.func7, Try.ntmps7
  go_wp2_with fail
  refine hask.mono ?_
  rintro r w1 ⟨rfl, b1⟩
  have B1 := keep B0 b1
  have bo1 := bo.below b1
  have br1 := br.below b1
  have bn1 := bn.below b1
  clear hask br bn B0 b1 bo
  obtain ⟨c0, c1, c2, c3⟩ := br1.all4
  have c := bn1.one
  go_wp2_with fail
  refine (hb _).mono ?_
  rintro r w2 ⟨rfl, b2⟩
  have B2 := keep B1 b2
  have bo2 := bo1.below b2
  have br2 := br1.below b2
  have bn2 := bn1.below b2
  clear hb bo1 br1 bn1 b2 B1 c0 c1 c2 c3 c
  have f1 := br2.frozen 1
  have br3 : Box (w2.setCell ⟨w.heap.size, 1, none⟩ (.int .i64 P)) w.heap.size #[.int .i64 S, .int .i64 P, .int .i64 U, .int .i64 H] 23 := by simpa using br2.store 1 (.int .i64 P)
  have bo3 := bo2.other (k := w.heap.size) 1 (.int .i64 P) (by omega)
  have bn3 := bn2.other (k := w.heap.size) 1 (.int .i64 P) (by omega)
  have B3 := B2.setCell (p := ⟨w.heap.size, 1, none⟩) (Nat.le_refl _) (.int .i64 P)
  have f2 := br3.frozen 2
  have br4 : Box ((w2.setCell ⟨w.heap.size, 1, none⟩ (.int .i64 P)).setCell ⟨w.heap.size, 2, none⟩ (.int .i64 (U - n))) w.heap.size #[.int .i64 S, .int .i64 P, .int .i64 (U - n), .int .i64 H] 23 := by simpa using br3.store 2 (.int .i64 (U - n))
  have bo4 := bo3.other (k := w.heap.size) 2 (.int .i64 (U - n)) (by omega)
  have B4 := B3.setCell (p := ⟨w.heap.size, 2, none⟩) (Nat.le_refl _) (.int .i64 (U - n))
  obtain ⟨c0, c1, c2, c3⟩ := br2.all4
  obtain ⟨k0, k1, k2, k3⟩ := br3.all4
  have c := bn3.one
  obtain ⟨d0, d1, d2, d3⟩ := br4.all4
  obtain ⟨e0, e1, e2, e3⟩ := bo4.all4
  obtain ⟨g0, g1, g2, g3⟩ := bo4.fr4
  clear bo2 br2 bn2 bo3 br3 bn3 B2 B3 br4
  go_wp2_with fail
  have y := bo4.store4 (u0 := .int .i64 S) (u1 := .int .i64 P) (u2 := .int .i64 (U - n)) (u3 := .int .i64 H)
  have C1 := below4 B4 (by omega : w.heap.size ≤ w.heap.size + 2) (.int .i64 S) (.int .i64 P) (.int .i64 (U - n)) (.int .i64 H)
  unfold set4 at y C1
  clear bo4 B4 c0 c1 c2 c3 c f1 f2 k0 k1 k2 k3 d0 d1 d2 d3 e0 e1 e2 e3 g0 g1 g2 g3
  obtain ⟨c0, c1, c2, c3⟩ := y.all4
  exact bodyPost_ret (v := .tuple #[.agg (ri S P (U - n) H), .int .i64 0]) (by simp only [ri]; simp [results, Try.results7, go_sem, c0, c1, c2, c3]) rfl ⟨rfl, C1⟩

end Go.Proofs.Ytoopdooepnojhaa
