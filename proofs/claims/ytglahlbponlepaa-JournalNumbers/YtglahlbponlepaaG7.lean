/-
  RgClos, RgCalls, RgPut, JApp, JAppF, JWrite, JWrite2, JState, JAppOk, JAppHeld: put together.
-/
import Derived.Test.YtglahlbponlepaaG6
import Derived.Deep.RegionHeld3
import Derived.Deep.Cut
import Derived.Deep.AppendLies
/-
  The closures that ask is handed.
-/
namespace Go.Proofs.Ytglahlbponlepaa.Rg
open Go.RowKit

abbrev pt (g : Nat) : Value := .pointer (some ⟨g, 0, none⟩)

theorem drop1 (S T U H n : Int) (g h : Nat) (w : World) (bn : Box w g #[.int .i64 n] 3) (br : Box w h (ri S T U H) 37) :
    Calls Try.prog 68 #[pt g, pt h] w fun r w' => r = .returned (.bool (decide (n ≤ U))) ∧ Below w.heap.size w w' := by
  have c := bn.one
  obtain ⟨c0, c1, c2, c3⟩ := br.all4
  go_enter Try.func68, Try.ntmps68
  go_wp2_with fail
  go_ret
  exact ⟨rfl, Below.refl _ _⟩
theorem release1 (S T U H n : Int) (g h : Nat) (w : World) (bn : Box w g #[.int .i64 n] 3) (br : Box w h (ri S T U H) 37) :
    Calls Try.prog 71 #[pt g, pt h] w fun r w' => r = .returned (.bool (decide (n ≤ H))) ∧ Below w.heap.size w w' := by
  have c := bn.one
  obtain ⟨c0, c1, c2, c3⟩ := br.all4
  go_enter Try.func71, Try.ntmps71
  go_wp2_with fail
  go_ret
  exact ⟨rfl, Below.refl _ _⟩
theorem put1 (S T U H n k : Int) (f g h : Nat) (w : World) (bk : Box w f #[.int .i64 k] 3) (bn : Box w g #[.int .i64 n] 3) (br : Box w h (ri S T U H) 37) :
    Calls Try.prog 58 #[pt f, pt g, pt h] w fun r w' => r = .returned (.bool (decide (0 ≤ k ∧ k ≤ n ∧ k ≤ H))) ∧ Below w.heap.size w w' := by
  have c := bn.one
  have d := bk.one
  obtain ⟨c0, c1, c2, c3⟩ := br.all4
  by_cases q : n ≤ H
  · have e : decide (0 ≤ k ∧ k ≤ n ∧ k ≤ H) = decide (0 ≤ k ∧ k ≤ n) := decide_eq_decide.2 (by omega)
    rw [e]
    go_enter Try.func58, Try.ntmps58
    go_wp2_with fail
    refine (within_at _ _ _ _).mono ?_
    rintro r w1 ⟨rfl, rfl⟩
    go_wp2_with fail
    go_ret
    exact ⟨by simp, Below.refl _ _⟩
  · have e : decide (0 ≤ k ∧ k ≤ n ∧ k ≤ H) = decide (0 ≤ k ∧ k ≤ H) := decide_eq_decide.2 (by omega)
    rw [e]
    go_enter Try.func58, Try.ntmps58
    go_wp2_with fail
    refine (within_at _ _ _ _).mono ?_
    rintro r w1 ⟨rfl, rfl⟩
    go_wp2_with fail
    go_ret
    exact ⟨by simp, Below.refl _ _⟩

theorem reserve1 (S T U H n : Int) (g h : Nat) (w : World) (bn : Box w g #[.int .i64 n] 3) (br : Box w h (ri S T U H) 37) :
    Calls Try.prog 70 #[pt g, pt h] w fun r w' => r = .returned (.bool (decide (n ≤ fr S T U H))) ∧ Below w.heap.size w w' := by
  have c := bn.one
  obtain ⟨c0, c1, c2, c3⟩ := br.all4
  go_enter Try.func70, Try.ntmps70
  go_wp2_with fail
  go_region_with (go_at_call 62; refine (free_at S T U H _).mono ?_; rintro e w2 ⟨rfl, b2⟩; have B2 := ((Below.refl w.heap.size w).drew).trans b2; have d := ((show Box w.drew g #[.int .i64 n] 3 from bn).below b2).one)
  all_goals go_wp2_with fail
  all_goals go_ret
  all_goals exact ⟨rfl, B2⟩
set_option maxHeartbeats 2000000 in
theorem put2 (S T U H n k : Int) (f g h : Nat) (w : World) (hk : 0 ≤ k) (hkn : k ≤ n) (hn : n ≤ 9223372036854775807) (bk : Box w f #[.int .i64 k] 3) (bn : Box w g #[.int .i64 n] 3) (br : Box w h (ri S T U H) 37) :
    Calls Try.prog 61 #[pt g, pt f, pt h] w fun r w' => r = .returned (.bool (decide (n - k ≤ fr S T U H))) ∧ Below w.heap.size w w' := by
  have hw : IntKind.i64.wrap (n - k) = n - k := by rw [IntKind.wrap_i64]; omega
  have c := bn.one
  have c' := bk.one
  obtain ⟨c0, c1, c2, c3⟩ := br.all4
  go_enter Try.func61, Try.ntmps61
  go_wp2_with fail
  go_region_with (go_at_call 62; refine (free_at S T U H _).mono ?_; rintro e w2 ⟨rfl, b2⟩; have B2 := ((Below.refl w.heap.size w).drew).trans b2; have d := ((show Box w.drew g #[.int .i64 n] 3 from bn).below b2).one; have d' := ((show Box w.drew f #[.int .i64 k] 3 from bk).below b2).one)
  all_goals go_wp2_with fail
  all_goals go_ret
  all_goals exact ⟨by first | rfl | (rw [hw]; rfl), B2⟩
end Go.Proofs.Ytglahlbponlepaa.Rg

/-
  The calls: At, Reserve, Release, Put, Drop.
-/
namespace Go.Proofs.Ytglahlbponlepaa.Rg
open Go.RowKit

/-- four numbers stored over four -/
def set4 (w : World) (g : Nat) (u0 u1 u2 u3 : Value) : World := ((((w.setCell ⟨g, 0, none⟩ u0).setCell ⟨g, 1, none⟩ u1).setCell ⟨g, 2, none⟩ u2).setCell ⟨g, 3, none⟩ u3)
theorem Box.store4 {w : World} {g : Nat} {v0 v1 v2 v3 u0 u1 u2 u3 : Value} {t : TypeId} (h : Box w g #[v0, v1, v2, v3] t) : Box (set4 w g u0 u1 u2 u3) g #[u0, u1, u2, u3] t := by
  have q := ((((h.store 0 u0).store 1 u1).store 2 u2).store 3 u3)
  unfold set4
  simpa using q
theorem below4 {B : Nat} {w0 w : World} {g : Nat} (h : Below B w0 w) (hg : B ≤ g) (u0 u1 u2 u3 : Value) : Below B w0 (set4 w g u0 u1 u2 u3) := ((((h.setCell (p := ⟨g, 0, none⟩) hg u0).setCell (p := ⟨g, 1, none⟩) hg u1).setCell (p := ⟨g, 2, none⟩) hg u2).setCell (p := ⟨g, 3, none⟩) hg u3)

/-- the world behind the boxes of a ring and a number -/
def W2 (w : World) (S T U H n : Int) : World := (w.alloc (.cells (ri S T U H) 37)).alloc (.cells #[.int .i64 n] 3)
def W3 (w : World) (S T U H n : Int) : World := (W2 w S T U H n).alloc (.cells #[.int .i64 0, .int .i64 0, .int .i64 0, .int .i64 0] 37)
theorem w2_r (w : World) (S T U H n : Int) : Box (W2 w S T U H n) w.heap.size (ri S T U H) 37 := (Box.new w _ 37).alloc _
theorem w2_n (w : World) (S T U H n : Int) : Box (W2 w S T U H n) (w.heap.size + 1) #[.int .i64 n] 3 := Box.next w _ _ 3
theorem w2_b (w : World) (S T U H n : Int) : Below w.heap.size w (W2 w S T U H n) := ((Below.refl w.heap.size w).alloc (Nat.le_refl _) _).alloc (by simp) _
theorem w3_r (w : World) (S T U H n : Int) : Box (W3 w S T U H n) w.heap.size (ri S T U H) 37 := (w2_r w S T U H n).alloc _
theorem w3_n (w : World) (S T U H n : Int) : Box (W3 w S T U H n) (w.heap.size + 1) #[.int .i64 n] 3 := (w2_n w S T U H n).alloc _
theorem w3_o (w : World) (S T U H n : Int) : Box (W3 w S T U H n) (w.heap.size + 2) #[.int .i64 0, .int .i64 0, .int .i64 0, .int .i64 0] 37 := Box.next2 w _ _ _ 37
theorem w3_b (w : World) (S T U H n : Int) : Below w.heap.size w (W3 w S T U H n) := (w2_b w S T U H n).alloc (w2_b w S T U H n).size _

theorem reserve_no (S T U H n E : Int) (w : World) (h : ¬(R S T U H ∧ 0 ≤ n) ∧ E = 2 ∨ (R S T U H ∧ 0 ≤ n ∧ ¬(n ≤ fr S T U H)) ∧ E = 5) :
    Calls Try.prog 42 #[.agg (ri S T U H), .int .i64 n] w fun r w' => r = .returned (.tuple #[.agg (ri 0 0 0 0), .int .i64 E]) ∧ Below w.heap.size w w' := by
  have br := w3_r w S T U H n
  have bn := w3_n w S T U H n
  have bo := w3_o w S T U H n
  have B0 := w3_b w S T U H n
  have hask : Calls Try.prog 60 #[.agg (ri S T U H), .int .i64 n, .func (.func 70) #[] #[pt (w.heap.size + 1), pt w.heap.size], .int .i64 5] (W3 w S T U H n) fun r w' => r = .returned (.int .i64 E) ∧ Below (W3 w S T U H n).heap.size (W3 w S T U H n) w' := by
    rcases h with ⟨q, rfl⟩ | ⟨⟨q1, q2, q3⟩, rfl⟩
    · exact ask_bad S T U H n 5 _ _ q
    · have := ask_in22 #[pt (w.heap.size + 1), pt w.heap.size] S T U H n 5 (decide (n ≤ fr S T U H)) (W3 w S T U H n) q1 q2 (fun w' b => reserve1 S T U H n _ _ w' (bn.below b) (br.below b))
      rw [decide_eq_false q3] at this
      exact this
  have hE : E ≠ 0 := by
    rcases h with ⟨_, rfl⟩ | ⟨_, rfl⟩ <;> decide
  have hE' : (E == 0) = false := by simp [hE]
  clear h
  unfold W3 W2 ri at *
  go_enter Try.func42, Try.ntmps42
  go_wp2_with fail
  refine hask.mono ?_
  rintro r w1 ⟨rfl, b1⟩
  have B1 := keep B0 b1
  have bo1 := bo.below b1
  obtain ⟨c0, c1, c2, c3⟩ := bo1.all4
  obtain ⟨f0, f1, f2, f3⟩ := bo1.fr4
  clear hask br bn B0 b1 bo
  go_wp2_with fail
  have y := bo1.store4 (u0 := .int .i64 0) (u1 := .int .i64 0) (u2 := .int .i64 0) (u3 := .int .i64 0)
  have C1 := below4 B1 (by omega : w.heap.size ≤ w.heap.size + 2) (.int .i64 0) (.int .i64 0) (.int .i64 0) (.int .i64 0)
  unfold set4 at y C1
  clear bo1 B1 c0 c1 c2 c3 f0 f1 f2 f3
  obtain ⟨c0, c1, c2, c3⟩ := y.all4
  exact bodyPost_ret (v := .tuple #[.agg (ri 0 0 0 0), .int .i64 E]) (by simp only [ri]; simp [results, Try.results42, go_sem, c0, c1, c2, c3]) rfl ⟨rfl, C1⟩

theorem release_no (S T U H n E : Int) (w : World) (h : ¬(R S T U H ∧ 0 ≤ n) ∧ E = 2 ∨ (R S T U H ∧ 0 ≤ n ∧ ¬(n ≤ H)) ∧ E = 2) :
    Calls Try.prog 44 #[.agg (ri S T U H), .int .i64 n] w fun r w' => r = .returned (.tuple #[.agg (ri 0 0 0 0), .int .i64 E]) ∧ Below w.heap.size w w' := by
  have br := w3_r w S T U H n
  have bn := w3_n w S T U H n
  have bo := w3_o w S T U H n
  have B0 := w3_b w S T U H n
  have hask : Calls Try.prog 60 #[.agg (ri S T U H), .int .i64 n, .func (.func 71) #[] #[pt (w.heap.size + 1), pt w.heap.size], .int .i64 2] (W3 w S T U H n) fun r w' => r = .returned (.int .i64 E) ∧ Below (W3 w S T U H n).heap.size (W3 w S T U H n) w' := by
    rcases h with ⟨q, rfl⟩ | ⟨⟨q1, q2, q3⟩, rfl⟩
    · exact ask_bad S T U H n 2 _ _ q
    · have := ask_in26 #[pt (w.heap.size + 1), pt w.heap.size] S T U H n 2 (decide (n ≤ H)) (W3 w S T U H n) q1 q2 (fun w' b => release1 S T U H n _ _ w' (bn.below b) (br.below b))
      rw [decide_eq_false q3] at this
      exact this
  have hE : E ≠ 0 := by
    rcases h with ⟨_, rfl⟩ | ⟨_, rfl⟩ <;> decide
  have hE' : (E == 0) = false := by simp [hE]
  clear h
  unfold W3 W2 ri at *
  go_enter Try.func44, Try.ntmps44
  go_wp2_with fail
  refine hask.mono ?_
  rintro r w1 ⟨rfl, b1⟩
  have B1 := keep B0 b1
  have bo1 := bo.below b1
  obtain ⟨c0, c1, c2, c3⟩ := bo1.all4
  obtain ⟨f0, f1, f2, f3⟩ := bo1.fr4
  clear hask br bn B0 b1 bo
  go_wp2_with fail
  have y := bo1.store4 (u0 := .int .i64 0) (u1 := .int .i64 0) (u2 := .int .i64 0) (u3 := .int .i64 0)
  have C1 := below4 B1 (by omega : w.heap.size ≤ w.heap.size + 2) (.int .i64 0) (.int .i64 0) (.int .i64 0) (.int .i64 0)
  unfold set4 at y C1
  clear bo1 B1 c0 c1 c2 c3 f0 f1 f2 f3
  obtain ⟨c0, c1, c2, c3⟩ := y.all4
  exact bodyPost_ret (v := .tuple #[.agg (ri 0 0 0 0), .int .i64 E]) (by simp only [ri]; simp [results, Try.results44, go_sem, c0, c1, c2, c3]) rfl ⟨rfl, C1⟩

theorem drop_no (S T U H n E : Int) (w : World) (h : ¬(R S T U H ∧ 0 ≤ n) ∧ E = 2 ∨ (R S T U H ∧ 0 ≤ n ∧ ¬(n ≤ U)) ∧ E = 2) :
    Calls Try.prog 38 #[.agg (ri S T U H), .int .i64 n] w fun r w' => r = .returned (.tuple #[.agg (ri 0 0 0 0), .int .i64 E]) ∧ Below w.heap.size w w' := by
  have br := w3_r w S T U H n
  have bn := w3_n w S T U H n
  have bo := w3_o w S T U H n
  have B0 := w3_b w S T U H n
  have hask : Calls Try.prog 60 #[.agg (ri S T U H), .int .i64 n, .func (.func 68) #[] #[pt (w.heap.size + 1), pt w.heap.size], .int .i64 2] (W3 w S T U H n) fun r w' => r = .returned (.int .i64 E) ∧ Below (W3 w S T U H n).heap.size (W3 w S T U H n) w' := by
    rcases h with ⟨q, rfl⟩ | ⟨⟨q1, q2, q3⟩, rfl⟩
    · exact ask_bad S T U H n 2 _ _ q
    · have := ask_in24 #[pt (w.heap.size + 1), pt w.heap.size] S T U H n 2 (decide (n ≤ U)) (W3 w S T U H n) q1 q2 (fun w' b => drop1 S T U H n _ _ w' (bn.below b) (br.below b))
      rw [decide_eq_false q3] at this
      exact this
  have hE : E ≠ 0 := by
    rcases h with ⟨_, rfl⟩ | ⟨_, rfl⟩ <;> decide
  have hE' : (E == 0) = false := by simp [hE]
  clear h
  unfold W3 W2 ri at *
  go_enter Try.func38, Try.ntmps38
  go_wp2_with fail
  refine hask.mono ?_
  rintro r w1 ⟨rfl, b1⟩
  have B1 := keep B0 b1
  have bo1 := bo.below b1
  obtain ⟨c0, c1, c2, c3⟩ := bo1.all4
  obtain ⟨f0, f1, f2, f3⟩ := bo1.fr4
  clear hask br bn B0 b1 bo
  go_wp2_with fail
  have y := bo1.store4 (u0 := .int .i64 0) (u1 := .int .i64 0) (u2 := .int .i64 0) (u3 := .int .i64 0)
  have C1 := below4 B1 (by omega : w.heap.size ≤ w.heap.size + 2) (.int .i64 0) (.int .i64 0) (.int .i64 0) (.int .i64 0)
  unfold set4 at y C1
  clear bo1 B1 c0 c1 c2 c3 f0 f1 f2 f3
  obtain ⟨c0, c1, c2, c3⟩ := y.all4
  exact bodyPost_ret (v := .tuple #[.agg (ri 0 0 0 0), .int .i64 E]) (by simp only [ri]; simp [results, Try.results38, go_sem, c0, c1, c2, c3]) rfl ⟨rfl, C1⟩

theorem reserve_ok (S T U H n : Int) (w : World) (hR : R S T U H) (h0 : 0 ≤ n) (h1 : n ≤ fr S T U H) :
    Calls Try.prog 42 #[.agg (ri S T U H), .int .i64 n] w fun r w' => r = .returned (.tuple #[.agg (ri S T U (H + n)), .int .i64 0]) ∧ Below w.heap.size w w' := by
  have br := w3_r w S T U H n
  have bn := w3_n w S T U H n
  have bo := w3_o w S T U H n
  have B0 := w3_b w S T U H n
  have hask : Calls Try.prog 60 #[.agg (ri S T U H), .int .i64 n, .func (.func 70) #[] #[pt (w.heap.size + 1), pt w.heap.size], .int .i64 5] (W3 w S T U H n) fun r w' => r = .returned (.int .i64 0) ∧ Below (W3 w S T U H n).heap.size (W3 w S T U H n) w' := by
    have := ask_in22 #[pt (w.heap.size + 1), pt w.heap.size] S T U H n 5 (decide (n ≤ fr S T U H)) (W3 w S T U H n) hR h0 (fun w' b => reserve1 S T U H n _ _ w' (bn.below b) (br.below b))
    rw [decide_eq_true h1] at this
    exact this
  have hn : n ≤ 512 := by
    unfold R at hR
    have := h1
    try rw [fr, if_pos (by exact hR)] at this
    omega
  obtain ⟨q1, q2, q3, q4⟩ := hR
  clear h1
  unfold W3 W2 ri at *
  go_enter Try.func42, Try.ntmps42
  go_wp2_with fail
  refine hask.mono ?_
  rintro r w1 ⟨rfl, b1⟩
  have B1 := keep B0 b1
  have bo1 := bo.below b1
  have br1 := br.below b1
  obtain ⟨c0, c1, c2, c3⟩ := br1.all4
  have f3 := br1.frozen 3
  have c := (bn.below b1).one
  have br2 : Box (w1.setCell ⟨w.heap.size, 3, none⟩ (.int .i64 (H + n))) w.heap.size #[.int .i64 S, .int .i64 T, .int .i64 U, .int .i64 (H + n)] 37 := by simpa using br1.store 3 (.int .i64 (H + n))
  have bo2 := bo1.other (k := w.heap.size) 3 (.int .i64 (H + n)) (by omega)
  have B2 := B1.setCell (p := ⟨w.heap.size, 3, none⟩) (Nat.le_refl _) (.int .i64 (H + n))
  clear hask br bn B0 b1 bo bo1 br1 B1
  obtain ⟨d0, d1, d2, d3⟩ := br2.all4
  obtain ⟨e0, e1, e2, e3⟩ := bo2.all4
  obtain ⟨g0, g1, g2, g3⟩ := bo2.fr4
  go_wp2_with fail
  have y := bo2.store4 (u0 := .int .i64 S) (u1 := .int .i64 T) (u2 := .int .i64 U) (u3 := .int .i64 (H + n))
  have C1 := below4 B2 (by omega : w.heap.size ≤ w.heap.size + 2) (.int .i64 S) (.int .i64 T) (.int .i64 U) (.int .i64 (H + n))
  unfold set4 at y C1
  clear bo2 B2 br2 c0 c1 c2 c3 c f3 d0 d1 d2 d3 e0 e1 e2 e3 g0 g1 g2 g3
  obtain ⟨c0, c1, c2, c3⟩ := y.all4
  exact bodyPost_ret (v := .tuple #[.agg (ri S T U (H + n)), .int .i64 0]) (by simp only [ri]; simp [results, Try.results42, go_sem, c0, c1, c2, c3]) rfl ⟨rfl, C1⟩

theorem release_ok (S T U H n : Int) (w : World) (hR : R S T U H) (h0 : 0 ≤ n) (h1 : n ≤ H) :
    Calls Try.prog 44 #[.agg (ri S T U H), .int .i64 n] w fun r w' => r = .returned (.tuple #[.agg (ri S T U (H - n)), .int .i64 0]) ∧ Below w.heap.size w w' := by
  have br := w3_r w S T U H n
  have bn := w3_n w S T U H n
  have bo := w3_o w S T U H n
  have B0 := w3_b w S T U H n
  have hask : Calls Try.prog 60 #[.agg (ri S T U H), .int .i64 n, .func (.func 71) #[] #[pt (w.heap.size + 1), pt w.heap.size], .int .i64 2] (W3 w S T U H n) fun r w' => r = .returned (.int .i64 0) ∧ Below (W3 w S T U H n).heap.size (W3 w S T U H n) w' := by
    have := ask_in26 #[pt (w.heap.size + 1), pt w.heap.size] S T U H n 2 (decide (n ≤ H)) (W3 w S T U H n) hR h0 (fun w' b => release1 S T U H n _ _ w' (bn.below b) (br.below b))
    rw [decide_eq_true h1] at this
    exact this
  have hn : n ≤ 512 := by
    unfold R at hR
    have := h1
    try rw [fr, if_pos (by exact hR)] at this
    omega
  obtain ⟨q1, q2, q3, q4⟩ := hR
  clear h1
  unfold W3 W2 ri at *
  go_enter Try.func44, Try.ntmps44
  go_wp2_with fail
  refine hask.mono ?_
  rintro r w1 ⟨rfl, b1⟩
  have B1 := keep B0 b1
  have bo1 := bo.below b1
  have br1 := br.below b1
  obtain ⟨c0, c1, c2, c3⟩ := br1.all4
  have f3 := br1.frozen 3
  have c := (bn.below b1).one
  have br2 : Box (w1.setCell ⟨w.heap.size, 3, none⟩ (.int .i64 (H - n))) w.heap.size #[.int .i64 S, .int .i64 T, .int .i64 U, .int .i64 (H - n)] 37 := by simpa using br1.store 3 (.int .i64 (H - n))
  have bo2 := bo1.other (k := w.heap.size) 3 (.int .i64 (H - n)) (by omega)
  have B2 := B1.setCell (p := ⟨w.heap.size, 3, none⟩) (Nat.le_refl _) (.int .i64 (H - n))
  clear hask br bn B0 b1 bo bo1 br1 B1
  obtain ⟨d0, d1, d2, d3⟩ := br2.all4
  obtain ⟨e0, e1, e2, e3⟩ := bo2.all4
  obtain ⟨g0, g1, g2, g3⟩ := bo2.fr4
  go_wp2_with fail
  have y := bo2.store4 (u0 := .int .i64 S) (u1 := .int .i64 T) (u2 := .int .i64 U) (u3 := .int .i64 (H - n))
  have C1 := below4 B2 (by omega : w.heap.size ≤ w.heap.size + 2) (.int .i64 S) (.int .i64 T) (.int .i64 U) (.int .i64 (H - n))
  unfold set4 at y C1
  clear bo2 B2 br2 c0 c1 c2 c3 c f3 d0 d1 d2 d3 e0 e1 e2 e3 g0 g1 g2 g3
  obtain ⟨c0, c1, c2, c3⟩ := y.all4
  exact bodyPost_ret (v := .tuple #[.agg (ri S T U (H - n)), .int .i64 0]) (by simp only [ri]; simp [results, Try.results44, go_sem, c0, c1, c2, c3]) rfl ⟨rfl, C1⟩

theorem drop_ok (S T U H n : Int) (w : World) (hR : R S T U H) (h0 : 0 ≤ n) (h1 : n ≤ U) :
    Calls Try.prog 38 #[.agg (ri S T U H), .int .i64 n] w fun r w' => r = .returned (.tuple #[.agg (ri S ((T + n) % S) (U - n) H), .int .i64 0]) ∧ Below w.heap.size w w' := by
  have br := w3_r w S T U H n
  have bn := w3_n w S T U H n
  have bo := w3_o w S T U H n
  have B0 := w3_b w S T U H n
  have hask : Calls Try.prog 60 #[.agg (ri S T U H), .int .i64 n, .func (.func 68) #[] #[pt (w.heap.size + 1), pt w.heap.size], .int .i64 2] (W3 w S T U H n) fun r w' => r = .returned (.int .i64 0) ∧ Below (W3 w S T U H n).heap.size (W3 w S T U H n) w' := by
    have := ask_in24 #[pt (w.heap.size + 1), pt w.heap.size] S T U H n 2 (decide (n ≤ U)) (W3 w S T U H n) hR h0 (fun w' b => drop1 S T U H n _ _ w' (bn.below b) (br.below b))
    rw [decide_eq_true h1] at this
    exact this
  have hb := fun u => behind_at S T U H n u hR.1.1 hR.1.2 hR.2.1.1 (by have := hR.2.1.2; omega) h0 (by have := hR.2.2.1.2; omega)
  obtain ⟨P, hP⟩ : ∃ P, P = (T + n) % S := ⟨_, rfl⟩
  rw [← hP] at hb ⊢
  clear hP
  obtain ⟨q1, q2, q3, q4⟩ := hR
  unfold W3 W2 ri at *
  go_enter Try.func38, Try.ntmps38
  go_wp2_with fail
  refine hask.mono ?_
  rintro r w1 ⟨rfl, b1⟩
  have B1 := keep B0 b1
  have bo1 := bo.below b1
  have br1 := br.below b1
  have bn1 := bn.below b1
  clear hask br bn B0 b1 bo
  obtain ⟨c0, c1, c2, c3⟩ := br1.all4
  have c := bn1.one
  go_wp2_with fail
  refine (hb _).mono ?_
  rintro r w2 ⟨rfl, b2⟩
  have B2 := keep B1 b2
  have bo2 := bo1.below b2
  have br2 := br1.below b2
  have bn2 := bn1.below b2
  clear hb bo1 br1 bn1 b2 B1 c0 c1 c2 c3 c
  have f1 := br2.frozen 1
  have br3 : Box (w2.setCell ⟨w.heap.size, 1, none⟩ (.int .i64 P)) w.heap.size #[.int .i64 S, .int .i64 P, .int .i64 U, .int .i64 H] 37 := by simpa using br2.store 1 (.int .i64 P)
  have bo3 := bo2.other (k := w.heap.size) 1 (.int .i64 P) (by omega)
  have bn3 := bn2.other (k := w.heap.size) 1 (.int .i64 P) (by omega)
  have B3 := B2.setCell (p := ⟨w.heap.size, 1, none⟩) (Nat.le_refl _) (.int .i64 P)
  have f2 := br3.frozen 2
  have br4 : Box ((w2.setCell ⟨w.heap.size, 1, none⟩ (.int .i64 P)).setCell ⟨w.heap.size, 2, none⟩ (.int .i64 (U - n))) w.heap.size #[.int .i64 S, .int .i64 P, .int .i64 (U - n), .int .i64 H] 37 := by simpa using br3.store 2 (.int .i64 (U - n))
  have bo4 := bo3.other (k := w.heap.size) 2 (.int .i64 (U - n)) (by omega)
  have B4 := B3.setCell (p := ⟨w.heap.size, 2, none⟩) (Nat.le_refl _) (.int .i64 (U - n))
  obtain ⟨c0, c1, c2, c3⟩ := br2.all4
  obtain ⟨k0, k1, k2, k3⟩ := br3.all4
  have c := bn3.one
  obtain ⟨d0, d1, d2, d3⟩ := br4.all4
  obtain ⟨e0, e1, e2, e3⟩ := bo4.all4
  obtain ⟨g0, g1, g2, g3⟩ := bo4.fr4
  clear bo2 br2 bn2 bo3 br3 bn3 B2 B3 br4
  go_wp2_with fail
  have y := bo4.store4 (u0 := .int .i64 S) (u1 := .int .i64 P) (u2 := .int .i64 (U - n)) (u3 := .int .i64 H)
  have C1 := below4 B4 (by omega : w.heap.size ≤ w.heap.size + 2) (.int .i64 S) (.int .i64 P) (.int .i64 (U - n)) (.int .i64 H)
  unfold set4 at y C1
  clear bo4 B4 c0 c1 c2 c3 c f1 f2 k0 k1 k2 k3 d0 d1 d2 d3 e0 e1 e2 e3 g0 g1 g2 g3
  obtain ⟨c0, c1, c2, c3⟩ := y.all4
  exact bodyPost_ret (v := .tuple #[.agg (ri S P (U - n) H), .int .i64 0]) (by simp only [ri]; simp [results, Try.results38, go_sem, c0, c1, c2, c3]) rfl ⟨rfl, C1⟩

end Go.Proofs.Ytglahlbponlepaa.Rg

/-
  Put.
-/
namespace Go.Proofs.Ytglahlbponlepaa.Rg
open Go.RowKit

def W4 (w : World) (S T U H n k : Int) : World := (((w.alloc (.cells (ri S T U H) 37)).alloc (.cells #[.int .i64 n] 3)).alloc (.cells #[.int .i64 k] 3)).alloc (.cells #[.int .i64 0, .int .i64 0, .int .i64 0, .int .i64 0] 37)
theorem w4_r (w : World) (S T U H n k : Int) : Box (W4 w S T U H n k) w.heap.size (ri S T U H) 37 := (((Box.new w _ 37).alloc _).alloc _).alloc _
theorem w4_n (w : World) (S T U H n k : Int) : Box (W4 w S T U H n k) (w.heap.size + 1) #[.int .i64 n] 3 := ((Box.next w _ _ 3).alloc _).alloc _
theorem w4_k (w : World) (S T U H n k : Int) : Box (W4 w S T U H n k) (w.heap.size + 2) #[.int .i64 k] 3 := (Box.next2 w _ _ _ 3).alloc _
theorem w4_o (w : World) (S T U H n k : Int) : Box (W4 w S T U H n k) (w.heap.size + 3) #[.int .i64 0, .int .i64 0, .int .i64 0, .int .i64 0] 37 := Box.next3 w _ _ _ _ 37
theorem w4_b (w : World) (S T U H n k : Int) : Below w.heap.size w (W4 w S T U H n k) := ((((Below.refl w.heap.size w).alloc (Nat.le_refl _) _).alloc (by simp) _).alloc (by simp; omega) _).alloc (by simp; omega) _

theorem put_no (S T U H n k : Int) (w : World) (h : ¬((R S T U H ∧ 0 ≤ n) ∧ 0 ≤ k ∧ k ≤ n ∧ k ≤ H)) :
    Calls Try.prog 28 #[.agg (ri S T U H), .int .i64 n, .int .i64 k] w fun r w' => r = .returned (.tuple #[.agg (ri 0 0 0 0), .int .i64 0, .int .i64 2]) ∧ Below w.heap.size w w' := by
  have br := w4_r w S T U H n k
  have bn := w4_n w S T U H n k
  have bk := w4_k w S T U H n k
  have bo := w4_o w S T U H n k
  have B0 := w4_b w S T U H n k
  have hask : Calls Try.prog 60 #[.agg (ri S T U H), .int .i64 n, .func (.func 58) #[] #[pt (w.heap.size + 2), pt (w.heap.size + 1), pt w.heap.size], .int .i64 2] (W4 w S T U H n k) fun r w' => r = .returned (.int .i64 2) ∧ Below (W4 w S T U H n k).heap.size (W4 w S T U H n k) w' := by
    by_cases q : R S T U H ∧ 0 ≤ n
    · have := ask_in27 #[pt (w.heap.size + 2), pt (w.heap.size + 1), pt w.heap.size] S T U H n 2 (decide (0 ≤ k ∧ k ≤ n ∧ k ≤ H)) (W4 w S T U H n k) q.1 q.2 (fun w' b => put1 S T U H n k _ _ _ w' (bk.below b) (bn.below b) (br.below b))
      rw [decide_eq_false (fun e => h ⟨q, e⟩)] at this
      exact this
    · exact ask_bad S T U H n 2 _ _ q
  clear h
  unfold W4 ri at *
  go_enter Try.func28, Try.ntmps28
  go_wp2_with fail
  refine hask.mono ?_
  rintro r w1 ⟨rfl, b1⟩
  have B1 := keep B0 b1
  have bo1 := bo.below b1
  obtain ⟨c0, c1, c2, c3⟩ := bo1.all4
  obtain ⟨f0, f1, f2, f3⟩ := bo1.fr4
  clear hask br bn bk B0 b1 bo
  go_wp2_with fail
  have y := bo1.store4 (u0 := .int .i64 0) (u1 := .int .i64 0) (u2 := .int .i64 0) (u3 := .int .i64 0)
  have C1 := below4 B1 (by omega : w.heap.size ≤ w.heap.size + 3) (.int .i64 0) (.int .i64 0) (.int .i64 0) (.int .i64 0)
  unfold set4 at y C1
  clear bo1 B1 c0 c1 c2 c3 f0 f1 f2 f3
  obtain ⟨c0, c1, c2, c3⟩ := y.all4
  exact bodyPost_ret (v := .tuple #[.agg (ri 0 0 0 0), .int .i64 0, .int .i64 2]) (by simp only [ri]; simp [results, Try.results28, go_sem, c0, c1, c2, c3]) rfl ⟨rfl, C1⟩

theorem ask27_ok (S T U H n k : Int) (w w0 : World) (hR : R S T U H) (h0 : 0 ≤ n) (h1 : 0 ≤ k ∧ k ≤ n ∧ k ≤ H) (g : Nat) (bk : Box w (g + 2) #[.int .i64 k] 3) (bn : Box w (g + 1) #[.int .i64 n] 3) (br : Box w g (ri S T U H) 37) (e : w0 = w) :
    Calls Try.prog 60 #[.agg (ri S T U H), .int .i64 n, .func (.func 58) #[] #[pt (g + 2), pt (g + 1), pt g], .int .i64 2] w0 fun r w' => r = .returned (.int .i64 0) ∧ Below w0.heap.size w0 w' := by
  subst e
  have := ask_in27 #[pt (g + 2), pt (g + 1), pt g] S T U H n 2 (decide (0 ≤ k ∧ k ≤ n ∧ k ≤ H)) w0 hR h0 (fun w' b => put1 S T U H n k _ _ _ w' (bk.below b) (bn.below b) (br.below b))
  rw [decide_eq_true h1] at this
  exact this
theorem ask29 (S T U H n k : Int) (w : World) (hR : R S T U H) (h0 : 0 ≤ n) (hn : n ≤ 9223372036854775807) (h1 : 0 ≤ k ∧ k ≤ n ∧ k ≤ H) (g : Nat) (bk : Box w (g + 2) #[.int .i64 k] 3) (bn : Box w (g + 1) #[.int .i64 n] 3) (br : Box w g (ri S T U H) 37) :
    Calls Try.prog 60 #[.agg (ri S T U H), .int .i64 n, .func (.func 61) #[] #[pt (g + 1), pt (g + 2), pt g], .int .i64 5] w fun r w' => r = .returned (.int .i64 (if n - k ≤ fr S T U H then 0 else 5)) ∧ Below w.heap.size w w' := by
  have := ask_in29 #[pt (g + 1), pt (g + 2), pt g] S T U H n 5 (decide (n - k ≤ fr S T U H)) w hR h0 (fun w' b => put2 S T U H n k _ _ _ w' h1.1 h1.2.1 hn (bk.below b) (bn.below b) (br.below b))
  simpa using this

theorem put_full (S T U H n k : Int) (w : World) (hR : R S T U H) (h0 : 0 ≤ n) (hn : n ≤ 9223372036854775807) (h1 : 0 ≤ k ∧ k ≤ n ∧ k ≤ H) (h2 : ¬ n - k ≤ fr S T U H) :
    Calls Try.prog 28 #[.agg (ri S T U H), .int .i64 n, .int .i64 k] w fun r w' => r = .returned (.tuple #[.agg (ri 0 0 0 0), .int .i64 0, .int .i64 5]) ∧ Below w.heap.size w w' := by
  have br := w4_r w S T U H n k
  have bn := w4_n w S T U H n k
  have bk := w4_k w S T U H n k
  have bo := w4_o w S T U H n k
  have B0 := w4_b w S T U H n k
  have hask := ask27_ok S T U H n k _ _ hR h0 h1 _ bk bn br rfl
  have hask2 := fun u => ask29 S T U H n k u hR h0 hn h1 w.heap.size
  rw [if_neg h2] at hask2
  have A2 : Hid _ := hask2
  clear h2 hask2 hR h1 hn h0
  unfold W4 ri at *
  go_enter Try.func28, Try.ntmps28
  go_wp2_with fail
  refine hask.mono ?_
  rintro r w1 ⟨rfl, b1⟩
  have B1 := keep B0 b1
  have bo1 := bo.below b1
  have br1 := br.below b1
  have bn1 := bn.below b1
  have bk1 := bk.below b1
  obtain ⟨c0, c1, c2, c3⟩ := br1.all4
  have c := bn1.one
  clear hask br bn bk B0 b1 bo
  go_wp2_with fail
  refine (A2.out _ bk1 bn1 br1).mono ?_
  rintro r w2 ⟨rfl, b2⟩
  have B2 := keep B1 b2
  have bo2 := bo1.below b2
  clear B1 bo1 b2 c0 c1 c2 c3 c br1 bn1 bk1 A2
  obtain ⟨c0, c1, c2, c3⟩ := bo2.all4
  obtain ⟨f0, f1, f2, f3⟩ := bo2.fr4
  go_wp2_with fail
  have y := bo2.store4 (u0 := .int .i64 0) (u1 := .int .i64 0) (u2 := .int .i64 0) (u3 := .int .i64 0)
  have C1 := below4 B2 (by omega : w.heap.size ≤ w.heap.size + 3) (.int .i64 0) (.int .i64 0) (.int .i64 0) (.int .i64 0)
  unfold set4 at y C1
  clear bo2 B2 c0 c1 c2 c3 f0 f1 f2 f3
  obtain ⟨c0, c1, c2, c3⟩ := y.all4
  exact bodyPost_ret (v := .tuple #[.agg (ri 0 0 0 0), .int .i64 0, .int .i64 5]) (by simp only [ri]; simp [results, Try.results28, go_sem, c0, c1, c2, c3]) rfl ⟨rfl, C1⟩

set_option maxHeartbeats 1000000 in
theorem put_ok (S T U H n k : Int) (w : World) (hR : R S T U H) (h0 : 0 ≤ n) (h1 : 0 ≤ k ∧ k ≤ n ∧ k ≤ H) (h2 : n - k ≤ fr S T U H) :
    Calls Try.prog 28 #[.agg (ri S T U H), .int .i64 n, .int .i64 k] w fun r w' => r = .returned (.tuple #[.agg (ri S T (U + n) (H - k)), .int .i64 ((T + U) % S), .int .i64 0]) ∧ Below w.heap.size w w' := by
  have hn : n ≤ 512 := by
    rw [fr, if_pos hR] at h2
    unfold R at hR
    omega
  have br := w4_r w S T U H n k
  have bn := w4_n w S T U H n k
  have bk := w4_k w S T U H n k
  have bo := w4_o w S T U H n k
  have B0 := w4_b w S T U H n k
  have hask := ask27_ok S T U H n k _ _ hR h0 h1 _ bk bn br rfl
  have hask2 := fun u => ask29 S T U H n k u hR h0 (by omega) h1 w.heap.size
  rw [if_pos h2] at hask2
  have A2 : Hid _ := hask2
  have hb : Hid _ := fun u => behind_at S T U H U u hR.1.1 hR.1.2 hR.2.1.1 (by have := hR.2.1.2; omega) hR.2.2.1.1 hR.2.2.1.2
  obtain ⟨P, hP⟩ : ∃ P, P = (T + U) % S := ⟨_, rfl⟩
  rw [← hP] at hb ⊢
  clear hP hask2 h2
  obtain ⟨q1, q2, q3, q4⟩ := hR
  unfold W4 ri at *
  go_enter Try.func28, Try.ntmps28
  go_wp2_with fail
  refine hask.mono ?_
  rintro r w1 ⟨rfl, b1⟩
  have B1 := keep B0 b1
  have bo1 := bo.below b1
  have br1 := br.below b1
  have bn1 := bn.below b1
  have bk1 := bk.below b1
  obtain ⟨c0, c1, c2, c3⟩ := br1.all4
  have c := bn1.one
  clear hask br bn bk B0 b1 bo
  go_wp2_with fail
  refine (A2.out _ bk1 bn1 br1).mono ?_
  rintro r w2 ⟨rfl, b2⟩
  have B2 := keep B1 b2
  have bo2 := bo1.below b2
  have br2 := br1.below b2
  have bn2 := bn1.below b2
  have bk2 := bk1.below b2
  clear B1 bo1 b2 c0 c1 c2 c3 c br1 bn1 bk1 A2
  obtain ⟨c0, c1, c2, c3⟩ := br2.all4
  go_wp2_with fail
  refine (hb.out _).mono ?_
  rintro r w3 ⟨rfl, b3⟩
  have B3 := keep B2 b3
  have bo3 := bo2.below b3
  have br3 := br2.below b3
  have bn3 := bn2.below b3
  have bk3 := bk2.below b3
  clear B2 bo2 b3 c0 c1 c2 c3 br2 bn2 bk2 hb
  have f2 := br3.frozen 2
  have br4 : Box (w3.setCell ⟨w.heap.size, 2, none⟩ (.int .i64 (U + n))) w.heap.size #[.int .i64 S, .int .i64 T, .int .i64 (U + n), .int .i64 H] 37 := by simpa using br3.store 2 (.int .i64 (U + n))
  have bo4 := bo3.other (k := w.heap.size) 2 (.int .i64 (U + n)) (by omega)
  have bk4 := bk3.other (k := w.heap.size) 2 (.int .i64 (U + n)) (by omega)
  have B4 := B3.setCell (p := ⟨w.heap.size, 2, none⟩) (Nat.le_refl _) (.int .i64 (U + n))
  have f3 := br4.frozen 3
  have br5 : Box ((w3.setCell ⟨w.heap.size, 2, none⟩ (.int .i64 (U + n))).setCell ⟨w.heap.size, 3, none⟩ (.int .i64 (H - k))) w.heap.size #[.int .i64 S, .int .i64 T, .int .i64 (U + n), .int .i64 (H - k)] 37 := by simpa using br4.store 3 (.int .i64 (H - k))
  have bo5 := bo4.other (k := w.heap.size) 3 (.int .i64 (H - k)) (by omega)
  have B5 := B4.setCell (p := ⟨w.heap.size, 3, none⟩) (Nat.le_refl _) (.int .i64 (H - k))
  obtain ⟨c0, c1, c2, c3⟩ := br3.all4
  obtain ⟨k0, k1, k2, k3⟩ := br4.all4
  have c := bn3.one
  have c' := bk4.one
  obtain ⟨d0, d1, d2, d3⟩ := br5.all4
  obtain ⟨e0, e1, e2, e3⟩ := bo5.all4
  obtain ⟨g0, g1, g2, g3⟩ := bo5.fr4
  clear bo3 br3 bn3 bk3 bo4 br4 bk4 B3 B4 br5
  go_wp2_with fail
  have y := bo5.store4 (u0 := .int .i64 S) (u1 := .int .i64 T) (u2 := .int .i64 (U + n)) (u3 := .int .i64 (H - k))
  have C1 := below4 B5 (by omega : w.heap.size ≤ w.heap.size + 3) (.int .i64 S) (.int .i64 T) (.int .i64 (U + n)) (.int .i64 (H - k))
  unfold set4 at y C1
  clear bo5 B5 c0 c1 c2 c3 c c' f2 f3 k0 k1 k2 k3 d0 d1 d2 d3 e0 e1 e2 e3 g0 g1 g2 g3
  obtain ⟨c0, c1, c2, c3⟩ := y.all4
  exact bodyPost_ret (v := .tuple #[.agg (ri S T (U + n) (H - k)), .int .i64 P, .int .i64 0]) (by simp only [ri]; simp [results, Try.results28, go_sem, c0, c1, c2, c3]) rfl ⟨rfl, C1⟩

end Go.Proofs.Ytglahlbponlepaa.Rg

/-
  Append that is refused: no right group, too great, no room.
-/
namespace Go.Proofs.Ytglahlbponlepaa.J
open Go.RowKit
open Go.Proofs.Ytglahlbponlepaa.Dk (Box)

/-- the world behind Append's boxes -/
def ap3 (w : World) (g : Nat) (al : Option Addr) (n cap : Nat) : World := ((w.alloc (.cells #[.pointer (some ⟨g, 0, none⟩)] 23)).alloc (.cells #[.slice al n cap] 29)).alloc (.cells #[.slice none 0 0] 55)
section
variable (w : World) (g : Nat) (al : Option Addr) (n cap : Nat)
theorem ap3_a : Box (ap3 w g al n cap) w.heap.size #[.pointer (some ⟨g, 0, none⟩)] 23 := ((Dk.Box.new w _ 23).alloc _).alloc _
theorem ap3_b : Box (ap3 w g al n cap) (w.heap.size + 1) #[.slice al n cap] 29 := Rg.Box.alloc (Rg.Box.next w _ _ 29) _
theorem ap3_c : Box (ap3 w g al n cap) (w.heap.size + 2) #[.slice none 0 0] 55 := Rg.Box.next2 w _ _ _ 55
theorem ap3_below : Below w.heap.size w (ap3 w g al n cap) := (((Below.refl w.heap.size w).alloc (Nat.le_refl _) _).alloc (by simp) _).alloc (by simp; omega) _
end
theorem ap3_size (w : World) (g : Nat) (al : Option Addr) (n cap : Nat) : (ap3 w g al n cap).heap.size = w.heap.size + 3 := by simp [ap3]
theorem ap3_upd {w : World} {g : Nat} {al : Option Addr} {n cap : Nat} {w' : World} (h : Dk.Upd (· = w.heap.size + 2) (ap3 w g al n cap) w') : Below w.heap.size w w' := by
  have b := ap3_below w g al n cap
  have z := ap3_size w g al n cap
  have z2 := h.size
  exact ⟨h.os.trans b.os, h.tape.trans b.tape, h.output.trans b.output, by omega, fun k hk => (h.block k (by omega) (by show ¬ k = w.heap.size + 2; omega)).trans (b.block k hk)⟩

section
variable {w : World} {g dg n cap : Nat} {al : Option Addr} {vs : Value} {J : JS} {is : List (Int × List UInt8)} (h : Box w g (jC g dg vs J) 47) (hb : J.broken = false) (hl : is.length = n) (hI : Rc.Imgs w al is)
include h hb hl hI
theorem app_ahead_no (hn : n * 32 ≤ 140737488355328) (hno : ¬ Rc.okGroup J.epoch J.next is) :
    Calls Try.prog 24 #[.pointer (some ⟨g, 0, none⟩), .func (.func 25) #[] #[.pointer (some ⟨w.heap.size, 0, none⟩), .pointer (some ⟨w.heap.size + 1, 0, none⟩), .pointer (some ⟨w.heap.size + 2, 0, none⟩)]] (ap3 w g al n cap) fun r w' => ∃ e : Int, r = .returned (.int .i64 e) ∧ e = 80 ∧ Below w.heap.size w w' := by
  have b := ap3_below w g al n cap
  have h' : Box (ap3 w g al n cap) g (jC g dg vs J) 47 := h.below b
  refine ahead_in25 h' hb (fun e w' => e = 80 ∧ Below w.heap.size w w') _ ((append1_no h' (ap3_a w g al n cap) (ap3_b w g al n cap) (ap3_c w g al n cap) is hl hn (hI.below b) hno).mono ?_)
  rintro r w' ⟨rfl, hu⟩
  exact ⟨80, rfl, rfl, ap3_upd hu⟩
theorem app_ahead_ok (hok : Rc.okGroup J.epoch J.next is) :
    Calls Try.prog 24 #[.pointer (some ⟨g, 0, none⟩), .func (.func 25) #[] #[.pointer (some ⟨w.heap.size, 0, none⟩), .pointer (some ⟨w.heap.size + 1, 0, none⟩), .pointer (some ⟨w.heap.size + 2, 0, none⟩)]] (ap3 w g al n cap) fun r w' => ∃ e : Int, r = .returned (.int .i64 e) ∧ e = (if J.S < (n + 1 : Nat) then 232 else 0) ∧ Puts (ap3 w g al n cap) w' (w.heap.size + 2) n (Rc.putL J.epoch.toNat J.next.toNat is) := by
  have b := ap3_below w g al n cap
  have h' : Box (ap3 w g al n cap) g (jC g dg vs J) 47 := h.below b
  refine ahead_in25 h' hb (fun e w' => e = (if J.S < (n + 1 : Nat) then 232 else 0) ∧ Puts (ap3 w g al n cap) w' (w.heap.size + 2) n (Rc.putL J.epoch.toNat J.next.toNat is)) _ ((append1_ok h' (ap3_a w g al n cap) (ap3_b w g al n cap) (ap3_c w g al n cap) is hl (hI.below b) hok).mono ?_)
  rintro r w' ⟨rfl, hu⟩
  exact ⟨_, rfl, rfl, hu⟩

theorem append_bad (rv : Bool) (hn : n * 32 ≤ 140737488355328) (hno : ¬ Rc.okGroup J.epoch J.next is) :
    Calls Try.prog 6 #[.pointer (some ⟨g, 0, none⟩), .slice al n cap, .bool rv] w fun r w' => r = .returned (.tuple #[.int .i64 0, .int .i64 80]) ∧ Below w.heap.size w w' := by
  have ca := app_ahead_no (cap := cap) h hb hl hI hn hno
  go_enter Try.func6, Try.ntmps6
  go_wp2_with fail
  refine Calls.mono ca ?_
  rintro r w1 ⟨e, rfl, rfl, B⟩
  go_wp2_with fail
  exact bodyPost_ret (v := .tuple #[.int .i64 0, .int .i64 80]) (by simp [results, Try.results6, go_sem]) rfl ⟨rfl, B⟩
theorem append_big (rv : Bool) (hok : Rc.okGroup J.epoch J.next is) (hS : J.S < (n + 1 : Nat)) :
    Calls Try.prog 6 #[.pointer (some ⟨g, 0, none⟩), .slice al n cap, .bool rv] w fun r w' => r = .returned (.tuple #[.int .i64 0, .int .i64 232]) ∧ Below w.heap.size w w' := by
  have ca := app_ahead_ok (cap := cap) h hb hl hI hok
  rw [if_pos hS] at ca
  go_enter Try.func6, Try.ntmps6
  go_wp2_with fail
  refine Calls.mono ca ?_
  rintro r w1 ⟨e, rfl, rfl, hu, _⟩
  have B := ap3_upd hu
  go_wp2_with fail
  exact bodyPost_ret (v := .tuple #[.int .i64 0, .int .i64 232]) (by simp [results, Try.results6, go_sem]) rfl ⟨rfl, B⟩
end
end Go.Proofs.Ytglahlbponlepaa.J

/-
  Append that has no room.
-/
namespace Go.Proofs.Ytglahlbponlepaa.J
open Go.RowKit
open Go.Proofs.Ytglahlbponlepaa.Dk (Box)

/-- what region 8 of Append loads -/
@[reducible] def R8 (w : World) (g gl n cl : Nat) (J : JS) (u : World) : Prop :=
  u.cell? ⟨w.heap.size, 0, none⟩ = some (.pointer (some ⟨g, 0, none⟩)) ∧ u.cell? ⟨g, 6, none⟩ = some (.int .i64 J.S) ∧ u.cell? ⟨g, 7, none⟩ = some (.int .i64 J.T) ∧ u.cell? ⟨g, 8, none⟩ = some (.int .i64 J.U) ∧ u.cell? ⟨g, 9, none⟩ = some (.int .i64 J.H) ∧ u.cell? ⟨w.heap.size + 2, 0, none⟩ = some (.slice (some ⟨gl, 0, none⟩) (n + 1) cl)

theorem box4 {W : World} {b : Nat} {v0 v1 v2 v3 : Value} (h : Box W b #[v0, v1, v2, v3] 37) : (W.cell? ⟨b, 0, none⟩ = some v0 ∧ W.cell? ⟨b, 1, none⟩ = some v1 ∧ W.cell? ⟨b, 2, none⟩ = some v2 ∧ W.cell? ⟨b, 3, none⟩ = some v3) ∧ W.frozen? ⟨b, 0, none⟩ = false ∧ W.frozen? ⟨b, 1, none⟩ = false ∧ W.frozen? ⟨b, 2, none⟩ = false ∧ W.frozen? ⟨b, 3, none⟩ = false :=
  ⟨⟨h.cell 0, h.cell 1, h.cell 2, h.cell 3⟩, h.frozen 0, h.frozen 1, h.frozen 2, h.frozen 3⟩
theorem below_set4 {B : Nat} {a W : World} (h : Below B a W) {k : Nat} (hk : B ≤ k) (v0 v1 v2 v3 : Value) : Below B a ((((W.setCell ⟨k, 0, none⟩ v0).setCell ⟨k, 1, none⟩ v1).setCell ⟨k, 2, none⟩ v2).setCell ⟨k, 3, none⟩ v3) :=
  (((h.setCell (p := ⟨k, 0, none⟩) hk v0).setCell (p := ⟨k, 1, none⟩) hk v1).setCell (p := ⟨k, 2, none⟩) hk v2).setCell (p := ⟨k, 3, none⟩) hk v3

section
variable {w : World} {g dg n cap : Nat} {al : Option Addr} {vs : Value} {J : JS} {is : List (Int × List UInt8)} (h : Box w g (jC g dg vs J) 47) (hb : J.broken = false) (hl : is.length = n) (hI : Rc.Imgs w al is)
include h hb hl hI
theorem append_full (hok : Rc.okGroup J.epoch J.next is) (hS : ¬ J.S < (n + 1 : Nat)) (hR : Rg.R J.S J.T J.U J.H) (h2 : ¬ ((n + 1 : Nat) : Int) ≤ Rg.fr J.S J.T J.U J.H) :
    Calls Try.prog 6 #[.pointer (some ⟨g, 0, none⟩), .slice al n cap, .bool false] w fun r w' => r = .returned (.tuple #[.int .i64 0, .int .i64 5]) ∧ Below w.heap.size w w' := by
  have ca := app_ahead_ok (cap := cap) h hb hl hI hok
  rw [if_neg hS] at ca
  have hn32 : n ≤ 32 := by have := hok.1.2.1; simp at this; omega
  have cp := fun u => Rg.put_full J.S J.T J.U J.H ((n + 1 : Nat) : Int) 0 u hR (by omega) (by omega) ⟨by omega, by omega, by unfold Rg.R at hR; omega⟩ (by omega)
  unfold Rg.ri at cp
  have hlt := h.lt
  have H0 : Hid (Box w g (jC g dg vs J) 47) := h
  clear h hI hok hS hR h2
  go_enter Try.func6, Try.ntmps6
  go_wp2_with fail
  refine Calls.mono ca ?_
  rintro r w4 ⟨e, rfl, rfl, hu, gl, cl, hbc, _⟩
  have B4 := ap3_upd hu
  have z4 : w.heap.size + 3 ≤ w4.heap.size := by have := hu.size; rwa [ap3_size] at this
  have HS : Hid (∀ u, Below w4.heap.size w4 u → R8 w g gl n cl J u) := fun u bu => by
    have hz := bu.size
    obtain ⟨_, _, _, _, _, _, c6, c7, c8, c9, _, _⟩ := box_cells (H0.out.below B4)
    have ha : Box w4 w.heap.size #[.pointer (some ⟨g, 0, none⟩)] 23 := (hu.block w.heap.size (by rw [ap3_size]; omega) (by show ¬ w.heap.size = w.heap.size + 2; omega)).trans (ap3_a w g al n cap)
    have ca := ha.cell 0
    have cc := hbc.cell 0
    simp at ca cc
    have hg4 : g < w4.heap.size := by omega
    exact ⟨(bu.cell (p := ⟨w.heap.size, 0, none⟩) ha.lt).trans ca, (bu.cell (p := ⟨g, 6, none⟩) hg4).trans c6, (bu.cell (p := ⟨g, 7, none⟩) hg4).trans c7, (bu.cell (p := ⟨g, 8, none⟩) hg4).trans c8, (bu.cell (p := ⟨g, 9, none⟩) hg4).trans c9, (bu.cell (p := ⟨w.heap.size + 2, 0, none⟩) hbc.lt).trans cc⟩
  clear hu hbc ca
  go_wp2_with fail
  go_region_held3 (fun u => u.cell? ⟨w.heap.size, 0, none⟩ = some (.pointer (some ⟨g, 0, none⟩)) ∧ u.cell? ⟨g, 6, none⟩ = some (.int .i64 J.S) ∧ u.cell? ⟨g, 7, none⟩ = some (.int .i64 J.T) ∧ u.cell? ⟨g, 8, none⟩ = some (.int .i64 J.U) ∧ u.cell? ⟨g, 9, none⟩ = some (.int .i64 J.H) ∧ u.cell? ⟨w.heap.size + 2, 0, none⟩ = some (.slice (some ⟨gl, 0, none⟩) (n + 1) cl))
    (first
      | with_reducible exact HS.out _ ((Below.refl w4.heap.size w4).drew)
      | with_reducible exact HS.out _ hb1
      | with_reducible exact HS.out _ (((Below.refl w4.heap.size w4).alloc (Nat.le_refl _) _).drew)
      | with_reducible exact HS.out _ (hb1.alloc hb1.size _)
      | with_reducible exact HS.out _ (below_set4 hb1 (Nat.le_refl _) _ _ _ _))
    (first
      | (go_at_call 28; refine Calls.mono (cp w4.drew) ?_; rintro r W ⟨rfl, hw1⟩; have hb1 : Below w4.heap.size w4 W := (Below.refl w4.heap.size w4).drew.trans hw1)
      | (go_at_call 28; refine Calls.mono (cp (w4.alloc (.cells #[.int .i64 0, .int .i64 0, .int .i64 0, .int .i64 0] 37)).drew) ?_; rintro r W ⟨rfl, hw1⟩; have hb1 : Below w4.heap.size w4 W := ((Below.refl w4.heap.size w4).alloc (Nat.le_refl _) _).drew.trans (hw1.mono (by simp)); have hnb := (hw1.block w4.heap.size (by simp)).trans (Dk.Box.new w4 #[.int .i64 0, .int .i64 0, .int .i64 0, .int .i64 0] 37); obtain ⟨⟨q0, q1, q2, q3⟩, p0, p1, p2, p3⟩ := box4 hnb))
  all_goals
    first
      | have B5 := B4.trans ((below_set4 (k := w4.heap.size) hb1 (Nat.le_refl _) (.int .i64 0) (.int .i64 0) (.int .i64 0) (.int .i64 0)).mono B4.size)
        go_wp2_with fail
        exact bodyPost_ret (v := .tuple #[.int .i64 0, .int .i64 5]) (by simp [results, Try.results6, go_sem]) rfl ⟨rfl, B5⟩
      | have B5 := B4.trans ((hb1.alloc hb1.size (.cells #[.int .i64 0, .int .i64 0, .int .i64 0, .int .i64 0] 37)).mono B4.size)
        go_wp2_with fail
        exact bodyPost_ret (v := .tuple #[.int .i64 0, .int .i64 5]) (by simp [results, Try.results6, go_sem]) rfl ⟨rfl, B5⟩
end
end Go.Proofs.Ytglahlbponlepaa.J

/-
  write: the blocks of a group, one behind the other, round the ring.
-/
namespace Go.Proofs.Ytglahlbponlepaa.J
open Go.RowKit
open Go.Proofs.Ytglahlbponlepaa.Dk (Box)

/-- the disk, while blocks are written to it: what is its own was so or is new, all else stands -/
def Wr (w : World) (dg : Nat) (F : Nat → Prop) (D : Dk.DS) (u : World) : Prop := ∃ F', Dk.IsDisk u dg D F' ∧ (∀ i, F' i → F i ∨ w.heap.size ≤ i) ∧ Dk.Upd F w u
theorem Wr.drew {w u : World} {dg : Nat} {F : Nat → Prop} {D : Dk.DS} (h : Wr w dg F D u) : Wr w dg F D u.drew := by
  obtain ⟨F', ⟨gd, cd, vu, ps, hl⟩, hF, hu⟩ := h
  exact ⟨F', ⟨gd, cd, vu, ps, hl.kept (fun _ _ => rfl) (Nat.le_refl _)⟩, hF, ⟨hu.os, hu.tape, hu.output, hu.size, hu.block⟩⟩
theorem Wr.cell {w u : World} {dg : Nat} {F : Nat → Prop} {D : Dk.DS} (h : Wr w dg F D u) {p : Addr} (hp : p.block < w.heap.size) (hf : ¬ F p.block) : u.cell? p = w.cell? p := by
  obtain ⟨_, _, _, hu⟩ := h
  exact World.cell?_of_block (hu.block p.block hp hf)

theorem write_step {w u : World} {dg : Nat} {F : Nat → Prop} {D : Dk.DS} (h : Wr w dg F D u) (bn cb : Nat) (ad : Addr) (b : List UInt8) (hb : b.length = 4096) (hbn : bn < D.nb) (hE : D.operE = 0) (hlim : Dk.writeF D)
    (hr : Dk.Rd w (some ad) b) (hF : ¬ F ad.block) :
    Calls Try.prog 64 #[.pointer (some ⟨dg, 0, none⟩), .int .i64 (bn : Int), .slice (some ad) 4096 cb] u fun e w' => e = .returned (.int .i64 0) ∧ Wr w dg F { D.oper with uf := D.uf ++ [(bn, b)], n := D.n + 1 } w' := by
  have hc := fun p hp hf => h.cell (p := p) hp hf
  obtain ⟨F', ⟨gd, cd, vu, ps, hl⟩, hF', hu⟩ := h
  have hz := hu.size
  obtain ⟨b', o, e, hcs⟩ := hr (by omega)
  obtain rfl : ad = ⟨b', o, none⟩ := by simpa using e
  have hlt : b' < w.heap.size := block_lt_of_cell (hcs 0 (by omega))
  refine (Dk.write_ok hl bn cb ⟨b', o, none⟩ b hb hbn hE hlim (fun _ => ⟨b', o, rfl, fun j hj => (hc ⟨b', o + j, none⟩ hlt hF).trans (hcs j hj)⟩) (fun hf => ?_)).mono ?_
  · rcases hF' _ hf with h1 | h1
    · exact hF h1
    · dsimp only at h1
      omega
  · rintro e w' ⟨rfl, ⟨F2, hd2, hF2⟩, hu2⟩
    refine ⟨rfl, F2, hd2, fun i hi => ?_, hu.trans hu2 hF'⟩
    rcases hF2 i hi with h1 | h1
    · exact hF' i h1
    · exact .inr (Nat.le_trans hz h1)

/-- n blocks in a list, none of them the disk's -/
def Blk (w : World) (F : Nat → Prop) (b o : Nat) (bs : List (List UInt8)) : Prop :=
  ∀ k (h : k < bs.length), ∃ ad c, w.cell? ⟨b, o + k, none⟩ = some (.slice (some ad) 4096 c) ∧ (bs[k]).length = 4096 ∧ Dk.Rd w (some ad) bs[k] ∧ ¬ F ad.block

end Go.Proofs.Ytglahlbponlepaa.J

/-
  write: the blocks of a group, one behind the other, round the ring.
-/
namespace Go.Proofs.Ytglahlbponlepaa.J
open Go.RowKit
open Go.Proofs.Ytglahlbponlepaa.Dk (Box)

set_option maxRecDepth 100000 in
theorem write_at {w : World} {g dg n c b o : Nat} {vs : Value} {J : JS} {F : Nat → Prop} (Ds : Nat → Dk.DS) (bs : List (List UInt8)) (S f : Nat) (h : Box w g (jC g dg vs J) 47) (hg : ¬ F g) (hS : J.S = S) (hlog : J.log = 2)
    (hd : Dk.IsDisk w dg (Ds 0) F) (hl : bs.length = n) (hn : n ≤ 33) (hB : Blk w F b o bs) (hb : ¬ F b) (hbl : b < w.heap.size) (hS0 : 0 < S) (hS1 : S ≤ 64) (hf : f < S)
    (hst : ∀ k (h : k < bs.length), Ds (k + 1) = { (Ds k).oper with uf := (Ds k).uf ++ [(2 + (f + k) % S, bs[k])], n := (Ds k).n + 1 } ∧ 2 + (f + k) % S < (Ds k).nb ∧ (Ds k).operE = 0 ∧ Dk.writeF (Ds k)) :
    Calls Try.prog 29 #[.pointer (some ⟨g, 0, none⟩), .slice (some ⟨b, o, none⟩) n c, .int .i64 (f : Int)] w fun r w' => r = .returned (.int .i64 0) ∧ Wr w dg F (Ds n) w' := by
  obtain ⟨_, c1, c2, _, _, _, c6, _, _, _, _, _⟩ := box_cells h
  rw [hS] at c6
  rw [hlog] at c2
  have hgl := h.lt
  have HC : Hid (∀ u D, Wr w dg F D u → u.cell? ⟨g, 1, none⟩ = some (.pointer (some ⟨dg, 0, none⟩)) ∧ u.cell? ⟨g, 2, none⟩ = some (.int .i64 2) ∧ u.cell? ⟨g, 6, none⟩ = some (.int .i64 (S : Int))) := fun u D hu => ⟨(hu.cell hgl hg).trans c1, (hu.cell hgl hg).trans c2, (hu.cell hgl hg).trans c6⟩
  have HB : Hid (∀ u D, Wr w dg F D u → ∀ k (h : k < bs.length), ∃ ad c, u.cell? ⟨b, o + k, none⟩ = some (.slice (some ad) 4096 c) ∧ (bs[k]).length = 4096 ∧ Dk.Rd w (some ad) bs[k] ∧ ¬ F ad.block) := fun u D hu k hk => by
    obtain ⟨ad, c, h1, h2⟩ := hB k hk
    exact ⟨ad, c, (hu.cell hbl hb).trans h1, h2⟩
  have HT : Hid (∀ k (h : k < bs.length), Ds (k + 1) = { (Ds k).oper with uf := (Ds k).uf ++ [(2 + (f + k) % S, bs[k])], n := (Ds k).n + 1 } ∧ 2 + (f + k) % S < (Ds k).nb ∧ (Ds k).operE = 0 ∧ Dk.writeF (Ds k)) := hst
  have H0 : Hid (Wr w dg F (Ds 0) w) := ⟨F, hd, fun i hi => .inl hi, Dk.Upd.refl F w⟩
  have HL : Hid (bs.length = n) := hl
  clear h hS hlog hd hB hst c1 c2 c6 hl hg hb hbl hgl
  go_enter Try.func29, Try.ntmps29
  go_wp2_with fail
  go_loopw [13] (fun i wr => ∃ k : Nat, k ≤ n ∧ i = .int .i64 k ∧ Wr w dg F (Ds k) wr) (fun i _ => n - (intOf i).toNat)
  case atStart => exact ⟨0, Nat.zero_le _, rfl, H0.out⟩
  case round =>
    obtain ⟨k, hk, rfl, hw⟩ := hrel
    by_cases hlt : k < n
    · have hk' : k < bs.length := by rw [HL.out]; exact hlt
      obtain ⟨c1, c2, c6⟩ := HC.out wr _ hw
      obtain ⟨ad, ca, cb, h4, hrd, hFa⟩ := HB.out wr _ hw k hk'
      obtain ⟨t1, t2, t3, t4⟩ := HT.out k hk'
      have cW := fun u (hu : Wr w dg F (Ds k) u) => write_step hu (2 + (f + k) % S) ca ad _ h4 t2 t3 t4 hrd hFa
      rw [← t1] at cW
      have em : ((f : Int) + (k : Int)) % (S : Int) = (((f + k) % S : Nat) : Int) := by push_cast; rfl
      have hml : (f + k) % S < S := Nat.mod_lt _ hS0
      generalize (f + k) % S = m at em cW hml
      clear h4 t1 t2 t3 t4 hrd hFa
      have cW' : ∀ u, Wr w dg F (Ds k) u → Calls Try.prog 64 #[.pointer (some ⟨dg, 0, none⟩), .int .i64 (2 + (m : Int)), .slice (some ad) 4096 ca] u fun e w' => e = .returned (.int .i64 0) ∧ Wr w dg F (Ds (k + 1)) w' := fun u hu => by
        have q := cW u hu
        push_cast at q
        exact q
      have HS : Hid (∀ u D, Wr w dg F D u → u.cell? ⟨g, 1, none⟩ = some (.pointer (some ⟨dg, 0, none⟩)) ∧ u.cell? ⟨g, 2, none⟩ = some (.int .i64 2)) := fun u D hu => ⟨(HC.out u D hu).1, (HC.out u D hu).2.1⟩
      clear cW
      go_wp2_with fail
      clear c1 c2
      simp only [em]
      clear em
      have hwm : IntKind.i64.wrap (2 + (m : Int)) = 2 + (m : Int) := by rw [IntKind.wrap_i64]; omega
      go_region_held3 (fun u => u.cell? ⟨g, 1, none⟩ = some (.pointer (some ⟨dg, 0, none⟩)) ∧ u.cell? ⟨g, 2, none⟩ = some (.int .i64 2))
        (first | with_reducible exact HS.out _ _ hw.drew | with_reducible exact HS.out _ _ hw1)
        (first
          | (go_at_call 64; refine Calls.mono (cW' _ hw.drew) ?_; rintro r W ⟨rfl, hw1⟩)
          | (go_at_call 32; refine Calls.mono (asked_ok g W) ?_; rintro r W2 ⟨rfl, rfl⟩))
      go_wp2_with fail
      go_roundw
      case rel => exact ⟨k + 1, by omega, by push_cast; rfl, hw1⟩
      case measure => simp [intOf]; omega
    · obtain rfl : k = n := by omega
      go_wp2_with fail
      go_ret
      exact ⟨rfl, hw⟩
end Go.Proofs.Ytglahlbponlepaa.J

/-
  A journal with its disk and its groups' sizes; what a call leaves of it.
-/
namespace Go.Proofs.Ytglahlbponlepaa.J
open Go.RowKit
open Go.Proofs.Ytglahlbponlepaa.Dk (Box)

/-- whole numbers as cells -/
def ics (xs : List Int) : List Value := xs.map fun x => .int .i64 x
theorem ics_snoc (xs : List Int) (x : Int) : ics (xs ++ [x]) = ics xs ++ [.int .i64 x] := by simp [ics]

/-- a journal at g, its disk at dg, its groups' sizes xs; F: all blocks that are its own -/
structure JD (w : World) (g dg : Nat) (J : JS) (xs : List Int) (D : Dk.DS) (F : Nat → Prop) : Prop where
  ex : ∃ vs Fd, Box w g (jC g dg vs J) 47 ∧ Dk.IsDisk w dg D Fd ∧ ¬ Fd g ∧ w.ownsRow 0 3 1 vs xs.length (ics xs) ∧ (∀ k, vs.ownBlock = some k → ¬ Fd k ∧ F k) ∧ (∀ i, Fd i → F i)
  fg : F g
  flt : ∀ i, F i → i < w.heap.size

/-- behind w the journal is so; what is its own was so or is new, all else stands -/
def JTo (w : World) (F : Nat → Prop) (g dg : Nat) (J : JS) (xs : List Int) (D : Dk.DS) (u : World) : Prop := ∃ F', JD u g dg J xs D F' ∧ (∀ i, F' i → F i ∨ w.heap.size ≤ i) ∧ Dk.Upd F w u

theorem owns_kept {w w' : World} {B e size n : Nat} {v : Value} {xs : List Value} (h : w.ownsRow B e size v n xs) (hk : ∀ k, v.ownBlock = some k → w'.heap[k]? = w.heap[k]?) : w'.ownsRow B e size v n xs := by
  refine ⟨h.1, ?_⟩
  rcases h.2 with hn | ⟨g, cap, cur, rfl, hb, hg, r⟩
  · exact .inl hn
  · exact .inr ⟨g, cap, cur, rfl, hb, (hk g rfl).trans hg, r⟩
theorem disk_kept {w w' : World} {g : Nat} {D : Dk.DS} {F : Nat → Prop} (h : Dk.IsDisk w g D F) (hk : ∀ i, F i → w'.heap[i]? = w.heap[i]?) (hs : w.heap.size ≤ w'.heap.size) : Dk.IsDisk w' g D F := by
  obtain ⟨gd, cd, vu, ps, hl⟩ := h
  exact ⟨gd, cd, vu, ps, hl.kept hk hs⟩

theorem JD.kept {w w' : World} {g dg : Nat} {J : JS} {xs : List Int} {D : Dk.DS} {F : Nat → Prop} (h : JD w g dg J xs D F) (hk : ∀ i, F i → w'.heap[i]? = w.heap[i]?) (hs : w.heap.size ≤ w'.heap.size) : JD w' g dg J xs D F := by
  obtain ⟨⟨vs, Fd, h1, h2, h3, h4, h5, h6⟩, h7, h8⟩ := h
  exact ⟨⟨vs, Fd, (hk g h7).trans h1, disk_kept h2 (fun i hi => hk i (h6 i hi)) hs, h3, owns_kept h4 (fun k hk' => hk k (h5 k hk').2), h5, h6⟩, h7, fun i hi => Nat.lt_of_lt_of_le (h8 i hi) hs⟩
theorem JD.below {w w' : World} {g dg : Nat} {J : JS} {xs : List Int} {D : Dk.DS} {F : Nat → Prop} (h : JD w g dg J xs D F) {B : Nat} (hB : ∀ i, F i → i < B) (b : Below B w w') (hs : w.heap.size ≤ w'.heap.size) : JD w' g dg J xs D F := h.kept (fun i hi => b.block i (hB i hi)) hs
theorem JTo.refl {w : World} {g dg : Nat} {J : JS} {xs : List Int} {D : Dk.DS} {F : Nat → Prop} (h : JD w g dg J xs D F) : JTo w F g dg J xs D w := ⟨F, h, fun _ hi => .inl hi, Dk.Upd.refl F w⟩
/-- two calls, one behind the other -/
theorem JTo.trans {w u v : World} {g dg : Nat} {J : JS} {xs : List Int} {D : Dk.DS} {F F' : Nat → Prop} (hF : ∀ i, F' i → F i ∨ w.heap.size ≤ i) (hu : Dk.Upd F w u) (h : JTo u F' g dg J xs D v) : JTo w F g dg J xs D v := by
  obtain ⟨F2, h1, h2, h3⟩ := h
  have hz := hu.size
  refine ⟨F2, h1, fun i hi => ?_, hu.trans h3 hF⟩
  rcases h2 i hi with h | h
  · exact hF i h
  · exact .inr (by omega)
theorem upd_below {F : Nat → Prop} {w u : World} (b : Below w.heap.size w u) : Dk.Upd F w u := ⟨b.os, b.tape, b.output, b.size, fun k hk _ => b.block k hk⟩
theorem JTo.of_below {w u : World} {g dg : Nat} {J : JS} {xs : List Int} {D : Dk.DS} {F : Nat → Prop} (h : JD w g dg J xs D F) (b : Below w.heap.size w u) : JTo w F g dg J xs D u := ⟨F, h.below h.flt b b.size, fun _ hi => .inl hi, upd_below b⟩

/-- nothing stops the disk -/
def Calm (D : Dk.DS) : Prop := D.gone = false ∧ D.arm.set = false ∧ D.fail.set = false
theorem Calm.oper {D : Dk.DS} (h : Calm D) : D.oper = D := by
  obtain ⟨nb, dur, uf, n, gone, ⟨s1, l1⟩, ⟨s2, l2⟩⟩ := D
  obtain ⟨h1, h2, h3⟩ := h
  dsimp only at h1 h2 h3
  subst h1 h2 h3
  simp [Dk.DS.oper, Dk.Fuse.stops, Dk.Fuse.then]
theorem Calm.operE {D : Dk.DS} (h : Calm D) : D.operE = 0 := by
  obtain ⟨h1, h2, h3⟩ := h
  simp [Dk.DS.operE, Dk.Fuse.stops, h1, h2, h3]
theorem calm_new (nb : Nat) (d : List UInt8) : Calm (Dk.DS.new nb d) := ⟨rfl, rfl, rfl⟩
theorem Calm.flush {D : Dk.DS} (h : Calm D) : D.flush = { D with dur := D.image, uf := [] } ∧ Calm D.flush := by
  have e : D.flush = { D with dur := D.image, uf := [] } := by rw [Dk.DS.flush, if_pos h.operE, h.oper]
  exact ⟨e, by rw [e]; exact h⟩

/-- the writes of the first k blocks, from the place f on round the ring -/
def wrs (S f : Nat) (bs : List (List UInt8)) (k : Nat) : List (Nat × List UInt8) := (List.range k).map fun i => (2 + (f + i) % S, bs.getD i [])
theorem wrs_succ (S f : Nat) (bs : List (List UInt8)) (k : Nat) (h : k < bs.length) : wrs S f bs (k + 1) = wrs S f bs k ++ [(2 + (f + k) % S, bs[k])] := by simp [wrs, List.range_succ, h]
theorem wrs_length (S f : Nat) (bs : List (List UInt8)) (k : Nat) : (wrs S f bs k).length = k := by simp [wrs]
/-- the disk behind k of them -/
def grow (D : Dk.DS) (S f : Nat) (bs : List (List UInt8)) (k : Nat) : Dk.DS := { D with uf := D.uf ++ wrs S f bs k, n := D.n + k }
theorem grow_zero (D : Dk.DS) (S f : Nat) (bs : List (List UInt8)) : grow D S f bs 0 = D := by simp [grow, wrs]
theorem grow_calm {D : Dk.DS} (h : Calm D) (S f : Nat) (bs : List (List UInt8)) (k : Nat) : Calm (grow D S f bs k) := h
theorem grow_succ {D : Dk.DS} (hc : Calm D) (S f : Nat) (bs : List (List UInt8)) (k : Nat) (h : k < bs.length) :
    grow D S f bs (k + 1) = { (grow D S f bs k).oper with uf := (grow D S f bs k).uf ++ [(2 + (f + k) % S, bs[k])], n := (grow D S f bs k).n + 1 } := by
  rw [(grow_calm hc S f bs k).oper]
  simp only [grow, wrs_succ S f bs k h, List.append_assoc, Nat.add_assoc]

theorem box_ring {w : World} {g dg : Nat} {vs : Value} {J : JS} (h : Box w g (jC g dg vs J) 47) (S T U H : Int) :
    Box ((((w.setCell ⟨g, 6, none⟩ (.int .i64 S)).setCell ⟨g, 7, none⟩ (.int .i64 T)).setCell ⟨g, 8, none⟩ (.int .i64 U)).setCell ⟨g, 9, none⟩ (.int .i64 H)) g (jC g dg vs { J with S := S, T := T, U := U, H := H }) 47 := by
  have q := (((h.store 6 (.int .i64 S)).store 7 (.int .i64 T)).store 8 (.int .i64 U)).store 9 (.int .i64 H)
  simpa [jC] using q
theorem box_sizes {w : World} {g dg : Nat} {vs : Value} {J : JS} (h : Box w g (jC g dg vs J) 47) (v : Value) : Box (w.setCell ⟨g, 10, none⟩ v) g (jC g dg v J) 47 := by
  have q := h.store 10 v
  simpa [jC] using q
theorem box_next {w : World} {g dg : Nat} {vs : Value} {J : JS} (h : Box w g (jC g dg vs J) 47) (x : Int) : Box (w.setCell ⟨g, 4, none⟩ (.int .i64 x)) g (jC g dg vs { J with next := x }) 47 := by
  have q := h.store 4 (.int .i64 x)
  simpa [jC] using q
theorem box_synced {w : World} {g dg : Nat} {vs : Value} {J : JS} (h : Box w g (jC g dg vs J) 47) (x : Int) : Box (w.setCell ⟨g, 5, none⟩ (.int .i64 x)) g (jC g dg vs { J with synced := x }) 47 := by
  have q := h.store 5 (.int .i64 x)
  simpa [jC] using q
/-- a cell of g is written: the others stand -/
theorem upd_set {F : Nat → Prop} {w u : World} (h : Dk.Upd F w u) (g j : Nat) (hp : F g ∨ w.heap.size ≤ g) (v : Value) : Dk.Upd F w (u.setCell ⟨g, j, none⟩ v) := by
  have s := Dk.grown_store u g j v
  have hz := h.size
  refine ⟨s.os.trans h.os, s.tape.trans h.tape, s.output.trans h.output, Nat.le_trans hz s.size, fun k hk hf => (s.block k (by omega) (fun e => ?_)).trans (h.block k hk hf)⟩
  injection e with e
  subst e
  rcases hp with h1 | h1
  · exact hf h1
  · omega
end Go.Proofs.Ytglahlbponlepaa.J

/-
  Append that takes its places.
-/
namespace Go.Proofs.Ytglahlbponlepaa.J
open Go.RowKit
open Go.Proofs.Ytglahlbponlepaa.Dk (Box)

/-- what stands behind region 8 of Append -/
def A8 (w4 : World) (S T U H : Int) (v : Value) (u : World) : Prop := ∃ b, v = .pointer (some ⟨b, 0, none⟩) ∧ w4.heap.size ≤ b ∧ Box u b #[.int .i64 S, .int .i64 T, .int .i64 U, .int .i64 H] 37 ∧ Below w4.heap.size w4 u
theorem A8.ofSet {w4 W : World} (hb : Below w4.heap.size w4 W) (hx : Box W w4.heap.size #[.int .i64 0, .int .i64 0, .int .i64 0, .int .i64 0] 37) (S T U H : Int) :
    A8 w4 S T U H (.pointer (some ⟨w4.heap.size, 0, none⟩)) ((((W.setCell ⟨w4.heap.size, 0, none⟩ (.int .i64 S)).setCell ⟨w4.heap.size, 1, none⟩ (.int .i64 T)).setCell ⟨w4.heap.size, 2, none⟩ (.int .i64 U)).setCell ⟨w4.heap.size, 3, none⟩ (.int .i64 H)) :=
  ⟨_, rfl, Nat.le_refl _, by simpa using ((((hx.store 0 (.int .i64 S)).store 1 (.int .i64 T)).store 2 (.int .i64 U)).store 3 (.int .i64 H)), below_set4 hb (Nat.le_refl _) _ _ _ _⟩
theorem A8.ofNew {w4 W : World} (hb : Below w4.heap.size w4 W) (S T U H : Int) :
    A8 w4 S T U H (.pointer (some ⟨W.heap.size, 0, none⟩)) (W.alloc (.cells #[.int .i64 S, .int .i64 T, .int .i64 U, .int .i64 H] 37)) :=
  ⟨_, rfl, hb.size, Dk.Box.new W _ 37, hb.alloc hb.size _⟩

/-- what stands behind region 16 of Append -/
def A16 (w7 : World) (g dg : Nat) (vs : Value) (J : JS) (m : Nat) (ys : List Value) (u : World) : Prop :=
  ∃ vs', Box u g (jC g dg vs' J) 47 ∧ u.ownsRow 0 3 1 vs' m ys ∧ (∀ k, vs'.ownBlock = some k → vs.ownBlock = some k ∨ w7.heap.size ≤ k) ∧ Dk.Upd (fun k => k = g ∨ vs.ownBlock = some k) w7 u
theorem app_end {w w5 w6 w7 w8 : World} {g dg : Nat} {vs : Value} {J : JS} {F Fd F' : Nat → Prop} {D : Dk.DS} {ys : List Int} (hX : F g ∧ ¬ Fd g ∧ ∀ i, F i → i < w.heap.size) (hv : ∀ k, vs.ownBlock = some k → ¬ Fd k ∧ F k) (hFd : ∀ i, Fd i → F i)
    (B5 : Below w.heap.size w w5) (hF6 : ∀ i, F' i → Fd i ∨ w5.heap.size ≤ i) (hd6 : Dk.IsDisk w6 dg D F') (hu6 : Dk.Upd Fd w5 w6) (hu7 : Dk.Upd (· = g) w6 w7) (h8 : A16 w7 g dg vs J ys.length (ics ys) w8) (x : Int) :
    JTo w F g dg { J with next := x } ys D (w8.setCell ⟨g, 4, none⟩ (.int .i64 x)) := by
  obtain ⟨hFF, hFg, hFlt⟩ := hX
  obtain ⟨vs', hb8, hr8, hv8, hu8⟩ := h8
  have z1 := B5.size
  have z2 := hu6.size
  have z3 := hu7.size
  have z4 := hu8.size
  have s := Dk.grown_store w8 g 4 (.int .i64 x)
  have z5 := s.size
  have hg := hFlt g hFF
  have hF6lt : ∀ i, F' i → i < w6.heap.size := fun i hi => by
    obtain ⟨gd, cd, vu, ps, hl⟩ := hd6
    exact hl.flt i hi
  have hngF : ¬ F' g := fun h => by
    rcases hF6 g h with h1 | h1
    · exact hFg h1
    · omega
  have hnv : ∀ k, vs.ownBlock = some k → ¬ F' k ∧ k < w.heap.size := fun k hk => by
    obtain ⟨a1, a2⟩ := hv k hk
    have a3 := hFlt k a2
    refine ⟨fun h => ?_, a3⟩
    rcases hF6 k h with h1 | h1
    · exact a1 h1
    · omega
  have hr8ne : ∀ k, vs'.ownBlock = some k → k ≠ g ∧ k < w8.heap.size := fun k hk => by
    refine ⟨fun e => ?_, (hr8.lt k hk).2⟩
    subst e
    rcases hr8.2 with ⟨e1, _⟩ | ⟨q', cap', cur, e1, _, e2, _⟩
    · rw [e1] at hk; cases hk
    · rw [e1] at hk
      injection hk with hk
      have e' : q' = k := hk
      subst e'
      exact hb8.ne e2 (by decide) rfl
  have hother : ∀ k, k ≠ g → (w8.setCell ⟨g, 4, none⟩ (.int .i64 x)).heap[k]? = w8.heap[k]? := fun k hk => heap_setCell_other w8 ⟨g, 4, none⟩ k _ (by simpa using hk)
  refine ⟨fun i => (F i ∨ w.heap.size ≤ i) ∧ i < (w8.setCell ⟨g, 4, none⟩ (.int .i64 x)).heap.size, ⟨⟨vs', F', box_next hb8 x, disk_kept hd6 (fun i hi => ?_) (by omega), hngF, owns_kept hr8 (fun k hk => hother k (hr8ne k hk).1), fun k hk => ?_, fun i hi => ⟨?_, ?_⟩⟩, ⟨.inl hFF, by omega⟩, fun i hi => hi.2⟩, fun i hi => hi.1, ?_⟩
  · have hig : i ≠ g := fun e => hngF (e ▸ hi)
    have h6 := hF6lt i hi
    rw [hother i hig, hu8.block i (by omega) (fun h => ?_), hu7.block i h6 hig]
    rcases h with h | h
    · exact hig h
    · exact (hnv i h).1 hi
  · obtain ⟨a1, a2⟩ := hr8ne k hk
    rcases hv8 k hk with h | h
    · exact ⟨(hnv k h).1, .inl (hv k h).2, by omega⟩
    · exact ⟨fun hf => by have := hF6lt k hf; omega, .inr (by omega), by omega⟩
  · rcases hF6 i hi with h | h
    · exact .inl (hFd i h)
    · exact .inr (by omega)
  · have := hF6lt i hi
    omega
  · refine ⟨s.os.trans (hu8.os.trans (hu7.os.trans (hu6.os.trans B5.os))), s.tape.trans (hu8.tape.trans (hu7.tape.trans (hu6.tape.trans B5.tape))), s.output.trans (hu8.output.trans (hu7.output.trans (hu6.output.trans B5.output))), by omega, fun k hk hn => ?_⟩
    have hkg : k ≠ g := fun e => hn (e ▸ hFF)
    rw [hother k hkg, hu8.block k (by omega) (fun h => ?_), hu7.block k (by omega) hkg, hu6.block k (by omega) (fun h => hn (hFd k h)), B5.block k hk]
    rcases h with h | h
    · exact hkg h
    · exact hn (hv k h).2

set_option maxRecDepth 100000 in
set_option maxHeartbeats 4000000 in
theorem append_ok {w : World} {g dg n cap : Nat} {al : Option Addr} {J : JS} {is : List (Int × List UInt8)} {xs : List Int} {D : Dk.DS} {F : Nat → Prop} (hJ : JD w g dg J xs D F) (hb : J.broken = false) (hl : is.length = n) (hI : Rc.Imgs w al is)
    (hok : Rc.okGroup J.epoch J.next is) (hR : Rg.R J.S J.T J.U J.H) (h2 : ((n + 1 : Nat) : Int) ≤ Rg.fr J.S J.T J.U J.H)
    (hlog : J.log = 2) (hc : Calm D) (hS : J.S ≤ 64) (hnb : 2 + J.S ≤ D.nb) (hd1 : D.uf.length ≤ 900000) (hd2 : D.n ≤ 900000) (hx : xs.length ≤ 1000) :
    Calls Try.prog 6 #[.pointer (some ⟨g, 0, none⟩), .slice al n cap, .bool false] w fun r w' => r = .returned (.tuple #[.int .i64 J.next, .int .i64 0]) ∧
      JTo w F g dg { J with next := J.next + 1, U := J.U + (n + 1 : Nat), H := J.H - 0 } (xs ++ [((n + 1 : Nat) : Int)]) (grow D J.S.toNat ((J.T + J.U) % J.S).toNat (Rc.putL J.epoch.toNat J.next.toNat is) (n + 1)) w' := by
  obtain ⟨i0, hi, hz0, hz1, hz2⟩ := info_parts Dk.info3
  obtain ⟨⟨vs, Fd, h, hd, hFg, hrow, hFv, hFd⟩, hFF, hFlt⟩ := hJ
  have hn32 : n ≤ 32 := by have := hok.1.2.1; simp at this; omega
  have hst := (Rc.okStamp_iff _ _).1 hok.1.1
  have hfr : Rg.fr J.S J.T J.U J.H = J.S - J.U - J.H := by rw [Rg.fr, if_pos hR]
  rw [hfr] at h2
  have hR' := hR
  unfold Rg.R at hR'
  have hSn : ¬ J.S < (n + 1 : Nat) := by omega
  have ca := app_ahead_ok (cap := cap) h hb hl hI hok
  rw [if_neg hSn] at ca
  have cp := fun u => Rg.put_ok J.S J.T J.U J.H ((n + 1 : Nat) : Int) 0 u hR (by omega) ⟨by omega, by omega, by omega⟩ (by rw [hfr]; omega)
  unfold Rg.ri at cp
  -- the places
  obtain ⟨S, hSe⟩ : ∃ S : Nat, J.S = (S : Int) := ⟨J.S.toNat, by omega⟩
  have hS0 : 0 < S := by omega
  obtain ⟨f, hfe⟩ : ∃ f : Nat, (J.T + J.U) % J.S = (f : Int) := ⟨((J.T + J.U) % J.S).toNat, by have := Int.emod_nonneg (J.T + J.U) (b := J.S) (by omega); omega⟩
  have hfS : f < S := by have := Int.emod_lt_of_pos (J.T + J.U) (b := J.S) (by omega); omega
  have hSt : J.S.toNat = S := by omega
  have hft : ((J.T + J.U) % J.S).toNat = f := by omega
  rw [hSt, hft]
  rw [hfe] at cp
  obtain ⟨U', hU'⟩ : ∃ U', U' = J.U + ((n + 1 : Nat) : Int) := ⟨_, rfl⟩
  obtain ⟨H', hH'⟩ : ∃ H', H' = J.H - 0 := ⟨_, rfl⟩
  rw [← hU', ← hH'] at cp ⊢
  clear hU' hH'
  have hbl : Hid ((Rc.putL J.epoch.toNat J.next.toNat is).length = n + 1) := by show _ = _; rw [Rc.putL_length, hl]
  have hlt := h.lt
  have HW : Hid (∀ w5 cl gl, Below w.heap.size w w5 → New w.heap.size w5 gl (Rc.putL J.epoch.toNat J.next.toNat is) → Calls Try.prog 29 #[.pointer (some ⟨g, 0, none⟩), .slice (some ⟨gl, 0, none⟩) (n + 1) cl, .int .i64 (f : Int)] w5 fun r w' => r = .returned (.int .i64 0) ∧ Wr w5 dg Fd (grow D S f (Rc.putL J.epoch.toNat J.next.toNat is) (n + 1)) w') := fun w5 cl gl B5 hN => by
    have hFd' : ∀ i, w.heap.size ≤ i → ¬ Fd i := fun i hi hf => by have := hFlt i (hFd i hf); omega
    refine write_at (c := cl) (o := 0) (fun k => grow D S f (Rc.putL J.epoch.toNat J.next.toNat is) k) (Rc.putL J.epoch.toNat J.next.toNat is) S f (h.below B5) hFg hSe hlog (by rw [grow_zero]; exact disk_kept hd (fun i hi => B5.block i (hFlt i (hFd i hi))) B5.size) hbl.out (by omega) (fun k hk => ?_) (hFd' _ hN.1) hN.2.1 hS0 (by omega) hfS (fun k hk => ⟨grow_succ hc S f _ k hk, ?_, (grow_calm hc S f _ k).operE, ?_⟩)
    · obtain ⟨q, c, a1, a2, a3, a4, _⟩ := hN.2.2 k hk
      exact ⟨⟨q, 0, none⟩, c, by rw [Nat.zero_add]; exact a1, a2, a3, hFd' q a4⟩
    · have := Nat.mod_lt (f + k) hS0
      show _ < D.nb
      omega
    · have := hbl.out
      constructor
      · show (D.uf ++ wrs S f _ k).length ≤ _
        rw [List.length_append, wrs_length]
        omega
      · show D.n + k ≤ _
        omega
  have H0 : Hid (Box w g (jC g dg vs J) 47) := h
  have HD : Hid (∀ k, vs.ownBlock = some k → ¬ Fd k ∧ F k) := hFv
  have HF : Hid (∀ i, Fd i → F i) := hFd
  have HR : Hid (w.ownsRow 0 3 1 vs xs.length (ics xs)) := hrow
  have HX : Hid (F g ∧ ¬ Fd g ∧ ∀ i, F i → i < w.heap.size) := ⟨hFF, hFg, hFlt⟩
  generalize grow D S f (Rc.putL J.epoch.toNat J.next.toNat is) (n + 1) = D' at HW ⊢
  generalize Rc.putL J.epoch.toNat J.next.toNat is = bs at HW ca hbl
  have hn1 : J.next + 1 ≤ 549755813889 ∧ 1 ≤ J.next := by omega
  clear h hI hok hSn hR h2 hR' hd hFg hrow hFv hFd hFF hFlt hSe hS0 hfe hfS hSt hft hfr hlog hc hS hnb hd1 hd2 hst hb hl
  go_enter Try.func6, Try.ntmps6
  go_wp2_with fail
  refine Calls.mono ca ?_
  rintro r w4 ⟨e, rfl, rfl, hu, gl, cl, hbc, hN⟩
  have B4 := ap3_upd hu
  have z4 : w.heap.size + 3 ≤ w4.heap.size := by have := hu.size; rwa [ap3_size] at this
  have HA : Hid (Box w4 w.heap.size #[.pointer (some ⟨g, 0, none⟩)] 23) := (hu.block w.heap.size (by rw [ap3_size]; omega) (by show ¬ w.heap.size = w.heap.size + 2; omega)).trans (ap3_a w g al n cap)
  have HC : Hid (Box w4 (w.heap.size + 2) #[.slice (some ⟨gl, 0, none⟩) (n + 1) cl] 55) := hbc
  have HN : Hid (New w.heap.size w4 gl bs) := by
    obtain ⟨n1, n2, n3⟩ := hN
    rw [ap3_size] at n1
    refine ⟨by omega, n2, fun k hk => ?_⟩
    obtain ⟨q, c, a1, a2, a3, a4, a5⟩ := n3 k hk
    rw [ap3_size] at a4
    exact ⟨q, c, a1, a2, a3, by omega, a5⟩
  have HS : Hid (∀ u, Below w4.heap.size w4 u → R8 w g gl n cl J u) := fun u bu => by
    have hz := bu.size
    obtain ⟨_, _, _, _, _, _, c6, c7, c8, c9, _, _⟩ := box_cells (H0.out.below B4)
    have ca := HA.out.cell 0
    have cc := hbc.cell 0
    simp at ca cc
    have hg4 : g < w4.heap.size := by omega
    exact ⟨(bu.cell (p := ⟨w.heap.size, 0, none⟩) HA.out.lt).trans ca, (bu.cell (p := ⟨g, 6, none⟩) hg4).trans c6, (bu.cell (p := ⟨g, 7, none⟩) hg4).trans c7, (bu.cell (p := ⟨g, 8, none⟩) hg4).trans c8, (bu.cell (p := ⟨g, 9, none⟩) hg4).trans c9, (bu.cell (p := ⟨w.heap.size + 2, 0, none⟩) hbc.lt).trans cc⟩
  have ccx := hbc.cell 0
  simp at ccx
  clear hu hbc hN ca
  go_upto_region 8 with fail
  clear ccx
  go_cut [9, 11, 12] from 24 (fun v9 v11 v12 u => v9 = .int .i64 0 ∧ v12 = .int .i64 (f : Int) ∧ A8 w4 J.S J.T U' H' v11 u)
  case first =>
    go_region_held3 (fun u => u.cell? ⟨w.heap.size, 0, none⟩ = some (.pointer (some ⟨g, 0, none⟩)) ∧ u.cell? ⟨g, 6, none⟩ = some (.int .i64 J.S) ∧ u.cell? ⟨g, 7, none⟩ = some (.int .i64 J.T) ∧ u.cell? ⟨g, 8, none⟩ = some (.int .i64 J.U) ∧ u.cell? ⟨g, 9, none⟩ = some (.int .i64 J.H) ∧ u.cell? ⟨w.heap.size + 2, 0, none⟩ = some (.slice (some ⟨gl, 0, none⟩) (n + 1) cl))
      (first
        | with_reducible exact HS.out _ ((Below.refl w4.heap.size w4).drew)
        | with_reducible exact HS.out _ hb1
        | with_reducible exact HS.out _ (((Below.refl w4.heap.size w4).alloc (Nat.le_refl _) _).drew)
        | with_reducible exact HS.out _ (hb1.alloc hb1.size _)
        | with_reducible exact HS.out _ (below_set4 hb1 (Nat.le_refl _) _ _ _ _))
      (first
        | (go_at_call 28; refine Calls.mono (cp w4.drew) ?_; rintro r W ⟨rfl, hw1⟩; have hb1 : Below w4.heap.size w4 W := (Below.refl w4.heap.size w4).drew.trans hw1)
        | (go_at_call 28; refine Calls.mono (cp (w4.alloc (.cells #[.int .i64 0, .int .i64 0, .int .i64 0, .int .i64 0] 37)).drew) ?_; rintro r W ⟨rfl, hw1⟩; have hb1 : Below w4.heap.size w4 W := ((Below.refl w4.heap.size w4).alloc (Nat.le_refl _) _).drew.trans (hw1.mono (by simp)); have hnb := (hw1.block w4.heap.size (by simp)).trans (Dk.Box.new w4 #[.int .i64 0, .int .i64 0, .int .i64 0, .int .i64 0] 37); obtain ⟨⟨q0, q1, q2, q3⟩, p0, p1, p2, p3⟩ := box4 hnb))
    all_goals
      go_wp2_with fail
      go_meet
      case rel =>
        first
          | exact ⟨rfl, rfl, A8.ofSet hb1 hnb _ _ _ _⟩
          | exact ⟨rfl, rfl, A8.ofNew hb1 _ _ _ _⟩
  case rest =>
    obtain ⟨rfl, rfl, b5, rfl, hb5, hx5, B5⟩ := hcut
    have B5w : Below w.heap.size w wc := B4.trans (B5.mono B4.size)
    have hN5 : New w.heap.size wc gl bs := HN.out.kept B5.size (fun k h1 h2 => B5.block k h2)
    have cW := HW.out wc cl gl B5w hN5
    have ha5 := HA.out.below B5
    have hc5 := HC.out.below B5
    have y1 := ha5.cell 0
    have y2 := hc5.cell 0
    simp at y1 y2
    have HX5 : Hid (Box wc b5 #[.int .i64 J.S, .int .i64 J.T, .int .i64 U', .int .i64 H'] 37) := hx5
    clear HS hx5 HW
    go_wp2_with fail
    refine Calls.mono cW ?_
    rintro r w6 ⟨rfl, F', hd6, hF6, hu6⟩
    have HD6 : Hid (Dk.IsDisk w6 dg D' F') := hd6
    have HF6 : Hid (∀ i, F' i → Fd i ∨ wc.heap.size ≤ i) := hF6
    have HU6 : Hid (Dk.Upd Fd wc w6) := hu6
    have hFd' : ∀ i, w.heap.size ≤ i → ¬ Fd i := fun i hi hf => by have := HX.out.2.2 i (HF.out i hf); omega
    have g6 : Box w6 g (jC g dg vs J) 47 := (hu6.block g (Nat.lt_of_lt_of_le hlt B5w.size) HX.out.2.1).trans (H0.out.below B5w)
    have a6 : Box w6 w.heap.size #[.pointer (some ⟨g, 0, none⟩)] 23 := (hu6.block _ ha5.lt (hFd' _ (Nat.le_refl _))).trans ha5
    have c6 : Box w6 (w.heap.size + 2) #[.slice (some ⟨gl, 0, none⟩) (n + 1) cl] 55 := (hu6.block _ hc5.lt (hFd' _ (by omega))).trans hc5
    have x6 : Box w6 b5 #[.int .i64 J.S, .int .i64 J.T, .int .i64 U', .int .i64 H'] 37 := (hu6.block _ HX5.out.lt (hFd' _ (by omega))).trans HX5.out
    clear hd6 hF6 hu6 cW y1 y2 ha5 hc5 HX5 hN5 HN
    obtain ⟨g0, g1, g2, g3, g4, g5, g6c, g7, g8, g9, g10, g11⟩ := box_cells g6
    have f6 := g6.frozen 6
    have f7 := g6.frozen 7
    have f8 := g6.frozen 8
    have f9 := g6.frozen 9
    have y1 := a6.cell 0
    have y2 := c6.cell 0
    simp at y1 y2
    obtain ⟨⟨x0, x1, x2, x3⟩, _⟩ := box4 x6
    have g7b := box_ring g6 J.S J.T U' H'
    have hU7 := upd_set (upd_set (upd_set (upd_set (Dk.Upd.refl (· = g) w6) g 6 (.inl rfl) (.int .i64 J.S)) g 7 (.inl rfl) (.int .i64 J.T)) g 8 (.inl rfl) (.int .i64 U')) g 9 (.inl rfl) (.int .i64 H')
    go_upto_region 16 with fail
    generalize (((w6.setCell ⟨g, 6, none⟩ (.int .i64 J.S)).setCell ⟨g, 7, none⟩ (.int .i64 J.T)).setCell ⟨g, 8, none⟩ (.int .i64 U')).setCell ⟨g, 9, none⟩ (.int .i64 H') = w7 at g7b hU7 ⊢
    have hz67 := hU7.size
    have hne : ∀ q (cs : Array Value) (t : TypeId), Box w6 q cs t → t ≠ 47 → q ≠ g := fun q cs t hq ht e => (e ▸ hq : Box w6 g cs t).ne g6 ht rfl
    have a7 : Box w7 w.heap.size #[.pointer (some ⟨g, 0, none⟩)] 23 := (hU7.block _ a6.lt (hne _ _ _ a6 (by decide))).trans a6
    have c7 : Box w7 (w.heap.size + 2) #[.slice (some ⟨gl, 0, none⟩) (n + 1) cl] 55 := (hU7.block _ c6.lt (hne _ _ _ c6 (by decide))).trans c6
    have r7 : w7.ownsRow 0 3 1 vs xs.length (ics xs) := by
      have hr := HR.out
      have hv : ∀ k, vs.ownBlock = some k → k < w.heap.size ∧ ¬ Fd k := fun k hk => ⟨HX.out.2.2 k (HD.out k hk).2, (HD.out k hk).1⟩
      have r5 := owns_kept hr (fun k hk => B5w.block k (hv k hk).1)
      have r6 := owns_kept r5 (fun k hk => HU6.out.block k (Nat.lt_of_lt_of_le (hv k hk).1 B5w.size) (hv k hk).2)
      refine owns_kept r6 (fun k hk => hU7.block k ?_ (fun e => ?_))
      · exact Nat.lt_of_lt_of_le (Nat.lt_of_lt_of_le (hv k hk).1 B5w.size) HU6.out.size
      · subst e
        rcases r6.2 with ⟨q, _⟩ | ⟨q, cap', cur, q1, _, q2, _⟩
        · rw [q] at hk; cases hk
        · rw [q1] at hk
          injection hk with hk
          have hk' : q = k := hk
          subst hk'
          exact hne q _ 3 q2 (by decide) rfl
    clear g0 g1 g2 g3 g4 g5 g6c g7 g8 g9 g10 g11 f6 f7 f8 f9 y1 y2 x0 x1 x2 x3 x6 a6 c6
    have y1 := a7.cell 0
    have y2 := c7.cell 0
    simp at y1 y2
    obtain ⟨vp, vc, rfl⟩ : ∃ a c, vs = .slice a xs.length c := by
      rcases r7.2 with ⟨q, q0⟩ | ⟨q, cap', cur, q1, _⟩
      · exact ⟨none, 0, by rw [q, q0]⟩
      · exact ⟨_, _, q1⟩
    have HG7 : Hid (Box w7 g (jC g dg (.slice vp xs.length vc) { J with U := U', H := H' }) 47) := g7b
    have HR7 : Hid (w7.ownsRow 0 3 1 (.slice vp xs.length vc) xs.length (ics xs)) := r7
    have HU7 : Hid (Dk.Upd (· = g) w6 w7) := hU7
    have HA7 : Hid (Box w7 w.heap.size #[.pointer (some ⟨g, 0, none⟩)] 23) := a7
    have HC7 : Hid (Box w7 (w.heap.size + 2) #[.slice (some ⟨gl, 0, none⟩) (n + 1) cl] 55) := c7
    clear g7b r7 hU7 hne a7 c7 g6 y1 y2
    go_cut [] from 54 (fun u => A16 w7 g dg (.slice vp xs.length vc) { J with U := U', H := H' } (xs.length + 1) (ics xs ++ [.int .i64 ((n : Int) + 1)]) u)
    case first =>
      have l7a := HA7.out.lt
      have HS : Hid (∀ u : World, (∀ k, k < w7.heap.size → k ≠ g → (Value.slice vp xs.length vc).ownBlock ≠ some k → u.heap[k]? = w7.heap[k]?) → u.cell? ⟨w.heap.size, 0, none⟩ = some (.pointer (some ⟨g, 0, none⟩)) ∧ u.cell? ⟨w.heap.size + 2, 0, none⟩ = some (.slice (some ⟨gl, 0, none⟩) (n + 1) cl)) := fun u hu => by
        have hv : ∀ q (cs : Array Value) (t : TypeId), Box w7 q cs t → t ≠ 3 → (Value.slice vp xs.length vc).ownBlock ≠ some q := fun q cs t hq ht e => by
          rcases HR7.out.2 with ⟨e1, _⟩ | ⟨q', cap', cur, e1, _, e2, _⟩
          · rw [e1] at e; cases e
          · rw [e1] at e
            injection e with e
            have e' : q' = q := e
            subst e'
            exact hq.ne e2 ht rfl
        have y1 := HA7.out.cell 0
        have y2 := HC7.out.cell 0
        simp at y1 y2
        exact ⟨(World.cell?_of_block (a := ⟨w.heap.size, 0, none⟩) (hu _ HA7.out.lt (fun e => HA7.out.ne HG7.out (by decide) e) (hv _ _ _ HA7.out (by decide)))).trans y1,
          (World.cell?_of_block (a := ⟨w.heap.size + 2, 0, none⟩) (hu _ HC7.out.lt (fun e => HC7.out.ne HG7.out (by decide) e) (hv _ _ _ HC7.out (by decide)))).trans y2⟩
      have g10 := (box_cells HG7.out).2.2.2.2.2.2.2.2.2.2.1
      refine wp_region_noPanic ?_
      refine wp_region_held_drew (S := fun u => u.cell? ⟨w.heap.size, 0, none⟩ = some (.pointer (some ⟨g, 0, none⟩)) ∧ u.cell? ⟨w.heap.size + 2, 0, none⟩ = some (.slice (some ⟨gl, 0, none⟩) (n + 1) cl)) (by kernel_rfl) (HS.out _ (fun _ _ _ _ => rfl)) (fun hHeld => ?_)
      refine wpAnyH_take (i := 0) (v := ?_) rfl (by kernel_rfl) (by kernel_rfl) (by kernel_rfl) (fun _ _ _ h => h) (Or.inl ⟨by rfl, ?_⟩) (by assumption) ?_
      rotate_left
      · intro w hSw
        go_simp
        with_reducible rfl
      simp only [Act.put, List.setIfInBounds_toArray, List.set_cons_zero, List.set_cons_succ, List.getElem_toArray, List.getElem_cons_zero]
      refine wpAnyH_take (i := 1) (v := ?_) rfl (by kernel_rfl) (by kernel_rfl) (by kernel_rfl) (fun _ _ _ h => h) (Or.inl ⟨by rfl, ?_⟩) (by assumption) ?_
      rotate_left
      · intro w hSw
        go_simp
        with_reducible rfl
      simp only [Act.put, List.setIfInBounds_toArray, List.set_cons_zero, List.set_cons_succ, List.getElem_toArray, List.getElem_cons_zero, List.getElem_cons_succ]
      refine wpAnyH_take (i := 2) (v := ?_) rfl (by kernel_rfl) (by kernel_rfl) (by kernel_rfl) (fun _ _ _ h => h) (Or.inl ⟨by rfl, ?_⟩) (by assumption) ?_
      rotate_left
      · intro w hSw
        go_simp
        with_reducible rfl
      simp only [Act.put, List.setIfInBounds_toArray, List.set_cons_zero, List.set_cons_succ, List.getElem_toArray, List.getElem_cons_zero, List.getElem_cons_succ]
      refine wpAnyH_take (i := 3) (v := ?_) rfl (by kernel_rfl) (by kernel_rfl) (by kernel_rfl) (fun _ _ _ h => h) (Or.inl ⟨by rfl, ?_⟩) (by assumption) ?_
      rotate_left
      · intro w hSw
        go_simp
        with_reducible rfl
      simp only [Act.put, List.setIfInBounds_toArray, List.set_cons_zero, List.set_cons_succ, List.getElem_toArray, List.getElem_cons_zero, List.getElem_cons_succ]
      refine wpAnyH_take (i := 5) (v := ?_) rfl (by kernel_rfl) (by kernel_rfl) (by kernel_rfl) (fun _ _ _ h => h) (Or.inl ⟨by rfl, ?_⟩) (by assumption) ?_
      rotate_left
      · intro w hSw
        go_simp
        with_reducible rfl
      simp only [Act.put, List.setIfInBounds_toArray, List.set_cons_zero, List.set_cons_succ, List.getElem_toArray, List.getElem_cons_zero, List.getElem_cons_succ]
      refine wpAnyH_take (i := 6) (v := ?_) rfl (by kernel_rfl) (by kernel_rfl) (by kernel_rfl) (fun _ _ _ h => h) (Or.inl ⟨by rfl, ?_⟩) (by assumption) ?_
      rotate_left
      · intro w hSw
        go_simp
        with_reducible rfl
      simp only [Act.put, List.setIfInBounds_toArray, List.set_cons_zero, List.set_cons_succ, List.getElem_toArray, List.getElem_cons_zero, List.getElem_cons_succ]
      have g10a : ∀ o : Obj, (w7.alloc o).cell? ⟨g, 10, none⟩ = some (.slice vp xs.length vc) := fun o => (box_cells (HG7.out.alloc o)).2.2.2.2.2.2.2.2.2.2.1
      refine wpAnyH_ready (rs := [4, 7]) (by kernel_rfl) (by simp) ?_
      refine AllReadyH.cons rfl (fun K hK => ?_) (AllReadyH.cons rfl (fun K hK => ?_) AllReadyH.nil)
      · go_simp
        refine hK.out _ _ (HS.out _ (fun _ _ _ _ => rfl)) (fun hHeld => ?_)
        clear hK K
        refine wpAnyH_ready (rs := [7]) (by kernel_rfl) (by simp) ?_
        refine AllReadyH.cons rfl (fun K hK => ?_) AllReadyH.nil
        go_simp
        refine hK.out _ _ (HS.out _ (fun k hk _ _ => heap_alloc_old _ _ hk)) (fun hHeld => ?_)
        clear hK K
        refine wpAnyH_ready (rs := [8]) (by kernel_rfl) (by simp) ?_
        refine AllReadyH.cons rfl (fun K hK => ?_) AllReadyH.nil
        refine step_append_lies _ (by rfl) _ _ _ (by rfl) 0 3 i0 _ 1 8 Try.underlying31 hi hz0 hz1 hz2 rfl (by omega) (.slice vp xs.length vc) xs.length (ics xs) (by rfl) (owns_kept HR7.out (fun k hk => heap_alloc_old w7 _ (HR7.out.lt k hk).2))
          ⟨w7.heap.size, 0, none⟩ 1 1 [.int .i64 ((n : Int) + 1)] (by rfl) (by rfl) (World.news_of_block (cs := #[.int .i64 ((n : Int) + 1)]) (t := 3) (fr := (0, 0)) (heap_alloc_new w7 _)) (by intro u hu; simp at hu; subst hu; rfl)
          (by omega) (by unfold maxLen; omega) (by omega) (by omega) (w7.heap.size + 1) (by simp) ?_
        intro gg gc w8 hown8 hgrow hat hlt8
        have hz8 := hgrow.size
        have hzA : w7.heap.size + 1 ≤ w8.heap.size := by simpa using hz8
        have hk8 : ∀ k, k < w7.heap.size → (Value.slice vp xs.length vc).ownBlock ≠ some k → w8.heap[k]? = w7.heap[k]? := fun k hk hne => (hgrow.block k (by simp; omega) (fun e => hne e.symm)).trans (heap_alloc_old w7 _ hk)
        have hng : (Value.slice vp xs.length vc).ownBlock ≠ some g := fun e => by
          rcases HR7.out.2 with ⟨e1, _⟩ | ⟨q', cap', cur, e1, _, e2, _⟩
          · rw [e1] at e; cases e
          · rw [e1] at e
            injection e with e
            have e' : q' = g := e
            subst e'
            exact HG7.out.ne e2 (by decide) rfl
        have G8 : Hid (Box w8 g (jC g dg (.slice vp xs.length vc) { J with U := U', H := H' }) 47) := (hk8 g HG7.out.lt hng).trans HG7.out
        have R8' : Hid (w8.ownsRow 0 3 1 (.slice (some ⟨gg, 0, none⟩) (xs.length + 1) gc) (xs.length + 1) (ics xs ++ [.int .i64 ((n : Int) + 1)])) := hown8
        have g8c := (box_cells G8.out).2.2.2.2.2.2.2.2.2.2.1
        have g8f := G8.out.frozen 10
        have HT8 : Hid ((Value.slice vp xs.length vc).ownBlock = some gg ∨ gg = w7.heap.size + 1) := hat
        have HK8 : Hid (∀ k, k < w7.heap.size → (Value.slice vp xs.length vc).ownBlock ≠ some k → w8.heap[k]? = w7.heap[k]?) := hk8
        have HO8 : Hid (w8.os = w7.os ∧ w8.tape = w7.tape ∧ w8.output = w7.output) := ⟨hgrow.os, hgrow.tape, hgrow.output⟩
        have hgne : gg ≠ g := fun e => by
          subst e
          rcases hown8.2 with ⟨e1, _⟩ | ⟨q', cap', cur, e1, _, e2, _⟩
          · cases e1
          · injection e1 with e1
            injection e1 with e1
            injection e1 with e1
            subst e1
            exact G8.out.ne e2 (by decide) rfl
        refine hK.out _ _ (HS.out _ (fun k hk _ hv => hk8 k hk hv)) (fun hHeld => ?_)
        clear hK K hown8 hgrow hat hk8 hng hz8
        simp only [Act.put, List.setIfInBounds_toArray, List.set_cons_zero, List.set_cons_succ, List.getElem_toArray, List.getElem_cons_zero, List.getElem_cons_succ]
        refine wpAnyH_take (i := 9) (v := ?_) rfl (by kernel_rfl) (by kernel_rfl) (by kernel_rfl) (fun _ _ _ h => h) (Or.inl ⟨by rfl, ?_⟩) (by assumption) ?_
        rotate_left
        · intro w hSw
          go_simp
          with_reducible rfl
        simp only [Act.put, List.setIfInBounds_toArray, List.set_cons_zero, List.set_cons_succ, List.getElem_toArray, List.getElem_cons_zero, List.getElem_cons_succ]
        refine wpAnyH_take (i := 10) (v := ?_) rfl (by kernel_rfl) (by kernel_rfl) (by kernel_rfl) (fun _ _ _ h => h) (Or.inl ⟨by rfl, ?_⟩) (by assumption) ?_
        rotate_left
        · intro w hSw
          go_simp
          with_reducible rfl
        simp only [Act.put, List.setIfInBounds_toArray, List.set_cons_zero, List.set_cons_succ, List.getElem_toArray, List.getElem_cons_zero, List.getElem_cons_succ]
        refine wpAnyH_ready (rs := [11]) (by kernel_rfl) (by simp) ?_
        refine AllReadyH.cons rfl (fun K hK => ?_) AllReadyH.nil
        go_simp
        refine hK.out _ _ (HS.out _ (fun k hk hkg hv => (heap_setCell_other w8 ⟨g, 10, none⟩ k _ (by simpa using hkg)).trans (HK8.out k hk hv))) (fun hHeld => ?_)
        clear hK K
        refine wpAnyH_done (by kernel_rfl) ?_ _
        refine NoPanic.normal ?_
        go_wp2_with fail
        go_meet
        case rel =>
          refine ⟨_, box_sizes G8.out _, owns_kept R8'.out (fun k hk => ?_), fun k hk => ?_, ?_⟩
          · have : gg = k := by injection hk
            subst this
            exact heap_setCell_other w8 ⟨g, 10, none⟩ gg _ (by simpa using hgne)
          · have : gg = k := by injection hk
            subst this
            rcases HT8.out with h1 | h1
            · exact .inl h1
            · exact .inr (by omega)
          · obtain ⟨o1, o2, o3⟩ := HO8.out
            have s := Dk.grown_store w8 g 10 (.slice (some ⟨gg, 0, none⟩) (xs.length + 1) gc)
            have sz := s.size
            exact ⟨s.os.trans o1, s.tape.trans o2, s.output.trans o3, by omega, fun k hk hn => (heap_setCell_other w8 ⟨g, 10, none⟩ k _ (by simpa using fun e => hn (.inl e))).trans (HK8.out k hk (fun e => hn (.inr e)))⟩
      · go_simp
        refine hK.out _ _ (HS.out _ (fun k hk _ _ => heap_alloc_old _ _ hk)) (fun hHeld => ?_)
        clear hK K
        refine wpAnyH_ready (rs := [4]) (by kernel_rfl) (by simp) ?_
        refine AllReadyH.cons rfl (fun K hK => ?_) AllReadyH.nil
        go_simp
        refine hK.out _ _ (HS.out _ (fun k hk _ _ => heap_alloc_old _ _ hk)) (fun hHeld => ?_)
        clear hK K
        refine wpAnyH_ready (rs := [8]) (by kernel_rfl) (by simp) ?_
        refine AllReadyH.cons rfl (fun K hK => ?_) AllReadyH.nil
        refine step_append_lies _ (by rfl) _ _ _ (by rfl) 0 3 i0 _ 1 8 Try.underlying31 hi hz0 hz1 hz2 rfl (by omega) (.slice vp xs.length vc) xs.length (ics xs) (by rfl) (owns_kept HR7.out (fun k hk => heap_alloc_old w7 _ (HR7.out.lt k hk).2))
          ⟨w7.heap.size, 0, none⟩ 1 1 [.int .i64 ((n : Int) + 1)] (by rfl) (by rfl) (World.news_of_block (cs := #[.int .i64 ((n : Int) + 1)]) (t := 3) (fr := (0, 0)) (heap_alloc_new w7 _)) (by intro u hu; simp at hu; subst hu; rfl)
          (by omega) (by unfold maxLen; omega) (by omega) (by omega) (w7.heap.size + 1) (by simp) ?_
        intro gg gc w8 hown8 hgrow hat hlt8
        have hz8 := hgrow.size
        have hzA : w7.heap.size + 1 ≤ w8.heap.size := by simpa using hz8
        have hk8 : ∀ k, k < w7.heap.size → (Value.slice vp xs.length vc).ownBlock ≠ some k → w8.heap[k]? = w7.heap[k]? := fun k hk hne => (hgrow.block k (by simp; omega) (fun e => hne e.symm)).trans (heap_alloc_old w7 _ hk)
        have hng : (Value.slice vp xs.length vc).ownBlock ≠ some g := fun e => by
          rcases HR7.out.2 with ⟨e1, _⟩ | ⟨q', cap', cur, e1, _, e2, _⟩
          · rw [e1] at e; cases e
          · rw [e1] at e
            injection e with e
            have e' : q' = g := e
            subst e'
            exact HG7.out.ne e2 (by decide) rfl
        have G8 : Hid (Box w8 g (jC g dg (.slice vp xs.length vc) { J with U := U', H := H' }) 47) := (hk8 g HG7.out.lt hng).trans HG7.out
        have R8' : Hid (w8.ownsRow 0 3 1 (.slice (some ⟨gg, 0, none⟩) (xs.length + 1) gc) (xs.length + 1) (ics xs ++ [.int .i64 ((n : Int) + 1)])) := hown8
        have g8c := (box_cells G8.out).2.2.2.2.2.2.2.2.2.2.1
        have g8f := G8.out.frozen 10
        have HT8 : Hid ((Value.slice vp xs.length vc).ownBlock = some gg ∨ gg = w7.heap.size + 1) := hat
        have HK8 : Hid (∀ k, k < w7.heap.size → (Value.slice vp xs.length vc).ownBlock ≠ some k → w8.heap[k]? = w7.heap[k]?) := hk8
        have HO8 : Hid (w8.os = w7.os ∧ w8.tape = w7.tape ∧ w8.output = w7.output) := ⟨hgrow.os, hgrow.tape, hgrow.output⟩
        have hgne : gg ≠ g := fun e => by
          subst e
          rcases hown8.2 with ⟨e1, _⟩ | ⟨q', cap', cur, e1, _, e2, _⟩
          · cases e1
          · injection e1 with e1
            injection e1 with e1
            injection e1 with e1
            subst e1
            exact G8.out.ne e2 (by decide) rfl
        refine hK.out _ _ (HS.out _ (fun k hk _ hv => hk8 k hk hv)) (fun hHeld => ?_)
        clear hK K hown8 hgrow hat hk8 hng hz8
        simp only [Act.put, List.setIfInBounds_toArray, List.set_cons_zero, List.set_cons_succ, List.getElem_toArray, List.getElem_cons_zero, List.getElem_cons_succ]
        refine wpAnyH_take (i := 9) (v := ?_) rfl (by kernel_rfl) (by kernel_rfl) (by kernel_rfl) (fun _ _ _ h => h) (Or.inl ⟨by rfl, ?_⟩) (by assumption) ?_
        rotate_left
        · intro w hSw
          go_simp
          with_reducible rfl
        simp only [Act.put, List.setIfInBounds_toArray, List.set_cons_zero, List.set_cons_succ, List.getElem_toArray, List.getElem_cons_zero, List.getElem_cons_succ]
        refine wpAnyH_take (i := 10) (v := ?_) rfl (by kernel_rfl) (by kernel_rfl) (by kernel_rfl) (fun _ _ _ h => h) (Or.inl ⟨by rfl, ?_⟩) (by assumption) ?_
        rotate_left
        · intro w hSw
          go_simp
          with_reducible rfl
        simp only [Act.put, List.setIfInBounds_toArray, List.set_cons_zero, List.set_cons_succ, List.getElem_toArray, List.getElem_cons_zero, List.getElem_cons_succ]
        refine wpAnyH_ready (rs := [11]) (by kernel_rfl) (by simp) ?_
        refine AllReadyH.cons rfl (fun K hK => ?_) AllReadyH.nil
        go_simp
        refine hK.out _ _ (HS.out _ (fun k hk hkg hv => (heap_setCell_other w8 ⟨g, 10, none⟩ k _ (by simpa using hkg)).trans (HK8.out k hk hv))) (fun hHeld => ?_)
        clear hK K
        refine wpAnyH_done (by kernel_rfl) ?_ _
        refine NoPanic.normal ?_
        go_wp2_with fail
        go_meet
        case rel =>
          refine ⟨_, box_sizes G8.out _, owns_kept R8'.out (fun k hk => ?_), fun k hk => ?_, ?_⟩
          · have : gg = k := by injection hk
            subst this
            exact heap_setCell_other w8 ⟨g, 10, none⟩ gg _ (by simpa using hgne)
          · have : gg = k := by injection hk
            subst this
            rcases HT8.out with h1 | h1
            · exact .inl h1
            · exact .inr (by omega)
          · obtain ⟨o1, o2, o3⟩ := HO8.out
            have s := Dk.grown_store w8 g 10 (.slice (some ⟨gg, 0, none⟩) (xs.length + 1) gc)
            have sz := s.size
            exact ⟨s.os.trans o1, s.tape.trans o2, s.output.trans o3, by omega, fun k hk hn => (heap_setCell_other w8 ⟨g, 10, none⟩ k _ (by simpa using fun e => hn (.inl e))).trans (HK8.out k hk (fun e => hn (.inr e)))⟩
    case rest =>
      have h8 := hcut
      have A8' : A16 w7 g dg (.slice vp xs.length vc) { J with U := U', H := H' } (xs ++ [((n + 1 : Nat) : Int)]).length (ics (xs ++ [((n + 1 : Nat) : Int)])) wc := by
        rw [ics_snoc, List.length_append]
        exact hcut
      have fin := app_end HX.out HD.out HF.out B5w HF6.out HD6.out HU6.out HU7.out A8' (J.next + 1)
      obtain ⟨vs', hb8, hr8, hv8, hu8⟩ := h8
      have a8 : Box wc w.heap.size #[.pointer (some ⟨g, 0, none⟩)] 23 := (hu8.block _ HA7.out.lt (fun h => by
        rcases h with h | h
        · exact HA7.out.ne HG7.out (by decide) h
        · rcases HR7.out.2 with ⟨e1, _⟩ | ⟨q', cap', cur, e1, _, e2, _⟩
          · rw [e1] at h; cases h
          · rw [e1] at h
            injection h with h
            have e' : q' = w.heap.size := h
            rw [e'] at e2
            exact HA7.out.ne e2 (by decide) rfl)).trans HA7.out
      have y1 := a8.cell 0
      simp at y1
      have d4 := (box_cells hb8).2.2.2.2.1
      dsimp only at d4
      have f4 := hb8.frozen 4
      clear A8' hcut HA7 HC7 HR7 HG7 hu8 hv8 hr8 a8 HU6 HU7
      go_wp2_with fail
      exact bodyPost_ret (v := .tuple #[.int .i64 J.next, .int .i64 0]) (by simp [results, Try.results6, go_sem]) rfl ⟨rfl, fin⟩
end Go.Proofs.Ytglahlbponlepaa.J

/-
  Append into room that was kept.
-/
namespace Go.Proofs.Ytglahlbponlepaa.J
open Go.RowKit
open Go.Proofs.Ytglahlbponlepaa.Dk (Box)

set_option maxRecDepth 100000 in
set_option maxHeartbeats 4000000 in
theorem append_held {w : World} {g dg n cap : Nat} {al : Option Addr} {J : JS} {is : List (Int × List UInt8)} {xs : List Int} {D : Dk.DS} {F : Nat → Prop} (hJ : JD w g dg J xs D F) (hb : J.broken = false) (hl : is.length = n) (hI : Rc.Imgs w al is)
    (hok : Rc.okGroup J.epoch J.next is) (hR : Rg.R J.S J.T J.U J.H) (h2 : ((n + 1 : Nat) : Int) ≤ J.H)
    (hlog : J.log = 2) (hc : Calm D) (hS : J.S ≤ 64) (hnb : 2 + J.S ≤ D.nb) (hd1 : D.uf.length ≤ 900000) (hd2 : D.n ≤ 900000) (hx : xs.length ≤ 1000) :
    Calls Try.prog 6 #[.pointer (some ⟨g, 0, none⟩), .slice al n cap, .bool true] w fun r w' => r = .returned (.tuple #[.int .i64 J.next, .int .i64 0]) ∧
      JTo w F g dg { J with next := J.next + 1, U := J.U + (n + 1 : Nat), H := J.H - ((n + 1 : Nat) : Int) } (xs ++ [((n + 1 : Nat) : Int)]) (grow D J.S.toNat ((J.T + J.U) % J.S).toNat (Rc.putL J.epoch.toNat J.next.toNat is) (n + 1)) w' := by
  obtain ⟨i0, hi, hz0, hz1, hz2⟩ := info_parts Dk.info3
  obtain ⟨⟨vs, Fd, h, hd, hFg, hrow, hFv, hFd⟩, hFF, hFlt⟩ := hJ
  have hn32 : n ≤ 32 := by have := hok.1.2.1; simp at this; omega
  have hst := (Rc.okStamp_iff _ _).1 hok.1.1
  have hfr : Rg.fr J.S J.T J.U J.H = J.S - J.U - J.H := by rw [Rg.fr, if_pos hR]
  have hR' := hR
  unfold Rg.R at hR'
  have hSn : ¬ J.S < (n + 1 : Nat) := by omega
  have ca := app_ahead_ok (cap := cap) h hb hl hI hok
  rw [if_neg hSn] at ca
  have cp := fun u => Rg.put_ok J.S J.T J.U J.H ((n + 1 : Nat) : Int) ((n + 1 : Nat) : Int) u hR (by omega) ⟨by omega, by omega, by omega⟩ (by rw [hfr]; omega)
  unfold Rg.ri at cp
  -- the places
  obtain ⟨S, hSe⟩ : ∃ S : Nat, J.S = (S : Int) := ⟨J.S.toNat, by omega⟩
  have hS0 : 0 < S := by omega
  obtain ⟨f, hfe⟩ : ∃ f : Nat, (J.T + J.U) % J.S = (f : Int) := ⟨((J.T + J.U) % J.S).toNat, by have := Int.emod_nonneg (J.T + J.U) (b := J.S) (by omega); omega⟩
  have hfS : f < S := by have := Int.emod_lt_of_pos (J.T + J.U) (b := J.S) (by omega); omega
  have hSt : J.S.toNat = S := by omega
  have hft : ((J.T + J.U) % J.S).toNat = f := by omega
  rw [hSt, hft]
  rw [hfe] at cp
  obtain ⟨U', hU'⟩ : ∃ U', U' = J.U + ((n + 1 : Nat) : Int) := ⟨_, rfl⟩
  obtain ⟨H', hH'⟩ : ∃ H', H' = J.H - ((n + 1 : Nat) : Int) := ⟨_, rfl⟩
  rw [← hU', ← hH'] at cp ⊢
  clear hU' hH'
  have hbl : Hid ((Rc.putL J.epoch.toNat J.next.toNat is).length = n + 1) := by show _ = _; rw [Rc.putL_length, hl]
  have hlt := h.lt
  have HW : Hid (∀ w5 cl gl, Below w.heap.size w w5 → New w.heap.size w5 gl (Rc.putL J.epoch.toNat J.next.toNat is) → Calls Try.prog 29 #[.pointer (some ⟨g, 0, none⟩), .slice (some ⟨gl, 0, none⟩) (n + 1) cl, .int .i64 (f : Int)] w5 fun r w' => r = .returned (.int .i64 0) ∧ Wr w5 dg Fd (grow D S f (Rc.putL J.epoch.toNat J.next.toNat is) (n + 1)) w') := fun w5 cl gl B5 hN => by
    have hFd' : ∀ i, w.heap.size ≤ i → ¬ Fd i := fun i hi hf => by have := hFlt i (hFd i hf); omega
    refine write_at (c := cl) (o := 0) (fun k => grow D S f (Rc.putL J.epoch.toNat J.next.toNat is) k) (Rc.putL J.epoch.toNat J.next.toNat is) S f (h.below B5) hFg hSe hlog (by rw [grow_zero]; exact disk_kept hd (fun i hi => B5.block i (hFlt i (hFd i hi))) B5.size) hbl.out (by omega) (fun k hk => ?_) (hFd' _ hN.1) hN.2.1 hS0 (by omega) hfS (fun k hk => ⟨grow_succ hc S f _ k hk, ?_, (grow_calm hc S f _ k).operE, ?_⟩)
    · obtain ⟨q, c, a1, a2, a3, a4, _⟩ := hN.2.2 k hk
      exact ⟨⟨q, 0, none⟩, c, by rw [Nat.zero_add]; exact a1, a2, a3, hFd' q a4⟩
    · have := Nat.mod_lt (f + k) hS0
      show _ < D.nb
      omega
    · have := hbl.out
      constructor
      · show (D.uf ++ wrs S f _ k).length ≤ _
        rw [List.length_append, wrs_length]
        omega
      · show D.n + k ≤ _
        omega
  have H0 : Hid (Box w g (jC g dg vs J) 47) := h
  have HD : Hid (∀ k, vs.ownBlock = some k → ¬ Fd k ∧ F k) := hFv
  have HF : Hid (∀ i, Fd i → F i) := hFd
  have HR : Hid (w.ownsRow 0 3 1 vs xs.length (ics xs)) := hrow
  have HX : Hid (F g ∧ ¬ Fd g ∧ ∀ i, F i → i < w.heap.size) := ⟨hFF, hFg, hFlt⟩
  generalize grow D S f (Rc.putL J.epoch.toNat J.next.toNat is) (n + 1) = D' at HW ⊢
  generalize Rc.putL J.epoch.toNat J.next.toNat is = bs at HW ca hbl
  have hn1 : J.next + 1 ≤ 549755813889 ∧ 1 ≤ J.next := by omega
  clear h hI hok hSn hR h2 hR' hd hFg hrow hFv hFd hFF hFlt hSe hS0 hfe hfS hSt hft hfr hlog hc hS hnb hd1 hd2 hst hb hl
  go_enter Try.func6, Try.ntmps6
  go_wp2_with fail
  refine Calls.mono ca ?_
  rintro r w4 ⟨e, rfl, rfl, hu, gl, cl, hbc, hN⟩
  have B4 := ap3_upd hu
  have z4 : w.heap.size + 3 ≤ w4.heap.size := by have := hu.size; rwa [ap3_size] at this
  have HA : Hid (Box w4 w.heap.size #[.pointer (some ⟨g, 0, none⟩)] 23) := (hu.block w.heap.size (by rw [ap3_size]; omega) (by show ¬ w.heap.size = w.heap.size + 2; omega)).trans (ap3_a w g al n cap)
  have HC : Hid (Box w4 (w.heap.size + 2) #[.slice (some ⟨gl, 0, none⟩) (n + 1) cl] 55) := hbc
  have HN : Hid (New w.heap.size w4 gl bs) := by
    obtain ⟨n1, n2, n3⟩ := hN
    rw [ap3_size] at n1
    refine ⟨by omega, n2, fun k hk => ?_⟩
    obtain ⟨q, c, a1, a2, a3, a4, a5⟩ := n3 k hk
    rw [ap3_size] at a4
    exact ⟨q, c, a1, a2, a3, by omega, a5⟩
  have HS : Hid (∀ u, Below w4.heap.size w4 u → R8 w g gl n cl J u) := fun u bu => by
    have hz := bu.size
    obtain ⟨_, _, _, _, _, _, c6, c7, c8, c9, _, _⟩ := box_cells (H0.out.below B4)
    have ca := HA.out.cell 0
    have cc := hbc.cell 0
    simp at ca cc
    have hg4 : g < w4.heap.size := by omega
    exact ⟨(bu.cell (p := ⟨w.heap.size, 0, none⟩) HA.out.lt).trans ca, (bu.cell (p := ⟨g, 6, none⟩) hg4).trans c6, (bu.cell (p := ⟨g, 7, none⟩) hg4).trans c7, (bu.cell (p := ⟨g, 8, none⟩) hg4).trans c8, (bu.cell (p := ⟨g, 9, none⟩) hg4).trans c9, (bu.cell (p := ⟨w.heap.size + 2, 0, none⟩) hbc.lt).trans cc⟩
  have ccx := hbc.cell 0
  simp at ccx
  clear hu hbc hN ca
  go_upto_region 8 with fail
  clear ccx
  go_cut [9, 11, 12] from 24 (fun v9 v11 v12 u => v9 = .int .i64 0 ∧ v12 = .int .i64 (f : Int) ∧ A8 w4 J.S J.T U' H' v11 u)
  case first =>
    go_region_held3 (fun u => u.cell? ⟨w.heap.size, 0, none⟩ = some (.pointer (some ⟨g, 0, none⟩)) ∧ u.cell? ⟨g, 6, none⟩ = some (.int .i64 J.S) ∧ u.cell? ⟨g, 7, none⟩ = some (.int .i64 J.T) ∧ u.cell? ⟨g, 8, none⟩ = some (.int .i64 J.U) ∧ u.cell? ⟨g, 9, none⟩ = some (.int .i64 J.H) ∧ u.cell? ⟨w.heap.size + 2, 0, none⟩ = some (.slice (some ⟨gl, 0, none⟩) (n + 1) cl))
      (first
        | with_reducible exact HS.out _ ((Below.refl w4.heap.size w4).drew)
        | with_reducible exact HS.out _ hb1
        | with_reducible exact HS.out _ (((Below.refl w4.heap.size w4).alloc (Nat.le_refl _) _).drew)
        | with_reducible exact HS.out _ (hb1.alloc hb1.size _)
        | with_reducible exact HS.out _ (below_set4 hb1 (Nat.le_refl _) _ _ _ _))
      (first
        | (go_at_call 28; refine Calls.mono (cp w4.drew) ?_; rintro r W ⟨rfl, hw1⟩; have hb1 : Below w4.heap.size w4 W := (Below.refl w4.heap.size w4).drew.trans hw1)
        | (go_at_call 28; refine Calls.mono (cp (w4.alloc (.cells #[.int .i64 0, .int .i64 0, .int .i64 0, .int .i64 0] 37)).drew) ?_; rintro r W ⟨rfl, hw1⟩; have hb1 : Below w4.heap.size w4 W := ((Below.refl w4.heap.size w4).alloc (Nat.le_refl _) _).drew.trans (hw1.mono (by simp)); have hnb := (hw1.block w4.heap.size (by simp)).trans (Dk.Box.new w4 #[.int .i64 0, .int .i64 0, .int .i64 0, .int .i64 0] 37); obtain ⟨⟨q0, q1, q2, q3⟩, p0, p1, p2, p3⟩ := box4 hnb))
    all_goals
      go_wp2_with fail
      go_meet
      case rel =>
        first
          | exact ⟨rfl, rfl, A8.ofSet hb1 hnb _ _ _ _⟩
          | exact ⟨rfl, rfl, A8.ofNew hb1 _ _ _ _⟩
  case rest =>
    obtain ⟨rfl, rfl, b5, rfl, hb5, hx5, B5⟩ := hcut
    have B5w : Below w.heap.size w wc := B4.trans (B5.mono B4.size)
    have hN5 : New w.heap.size wc gl bs := HN.out.kept B5.size (fun k h1 h2 => B5.block k h2)
    have cW := HW.out wc cl gl B5w hN5
    have ha5 := HA.out.below B5
    have hc5 := HC.out.below B5
    have y1 := ha5.cell 0
    have y2 := hc5.cell 0
    simp at y1 y2
    have HX5 : Hid (Box wc b5 #[.int .i64 J.S, .int .i64 J.T, .int .i64 U', .int .i64 H'] 37) := hx5
    clear HS hx5 HW
    go_wp2_with fail
    refine Calls.mono cW ?_
    rintro r w6 ⟨rfl, F', hd6, hF6, hu6⟩
    have HD6 : Hid (Dk.IsDisk w6 dg D' F') := hd6
    have HF6 : Hid (∀ i, F' i → Fd i ∨ wc.heap.size ≤ i) := hF6
    have HU6 : Hid (Dk.Upd Fd wc w6) := hu6
    have hFd' : ∀ i, w.heap.size ≤ i → ¬ Fd i := fun i hi hf => by have := HX.out.2.2 i (HF.out i hf); omega
    have g6 : Box w6 g (jC g dg vs J) 47 := (hu6.block g (Nat.lt_of_lt_of_le hlt B5w.size) HX.out.2.1).trans (H0.out.below B5w)
    have a6 : Box w6 w.heap.size #[.pointer (some ⟨g, 0, none⟩)] 23 := (hu6.block _ ha5.lt (hFd' _ (Nat.le_refl _))).trans ha5
    have c6 : Box w6 (w.heap.size + 2) #[.slice (some ⟨gl, 0, none⟩) (n + 1) cl] 55 := (hu6.block _ hc5.lt (hFd' _ (by omega))).trans hc5
    have x6 : Box w6 b5 #[.int .i64 J.S, .int .i64 J.T, .int .i64 U', .int .i64 H'] 37 := (hu6.block _ HX5.out.lt (hFd' _ (by omega))).trans HX5.out
    clear hd6 hF6 hu6 cW y1 y2 ha5 hc5 HX5 hN5 HN
    obtain ⟨g0, g1, g2, g3, g4, g5, g6c, g7, g8, g9, g10, g11⟩ := box_cells g6
    have f6 := g6.frozen 6
    have f7 := g6.frozen 7
    have f8 := g6.frozen 8
    have f9 := g6.frozen 9
    have y1 := a6.cell 0
    have y2 := c6.cell 0
    simp at y1 y2
    obtain ⟨⟨x0, x1, x2, x3⟩, _⟩ := box4 x6
    have g7b := box_ring g6 J.S J.T U' H'
    have hU7 := upd_set (upd_set (upd_set (upd_set (Dk.Upd.refl (· = g) w6) g 6 (.inl rfl) (.int .i64 J.S)) g 7 (.inl rfl) (.int .i64 J.T)) g 8 (.inl rfl) (.int .i64 U')) g 9 (.inl rfl) (.int .i64 H')
    go_upto_region 16 with fail
    generalize (((w6.setCell ⟨g, 6, none⟩ (.int .i64 J.S)).setCell ⟨g, 7, none⟩ (.int .i64 J.T)).setCell ⟨g, 8, none⟩ (.int .i64 U')).setCell ⟨g, 9, none⟩ (.int .i64 H') = w7 at g7b hU7 ⊢
    have hz67 := hU7.size
    have hne : ∀ q (cs : Array Value) (t : TypeId), Box w6 q cs t → t ≠ 47 → q ≠ g := fun q cs t hq ht e => (e ▸ hq : Box w6 g cs t).ne g6 ht rfl
    have a7 : Box w7 w.heap.size #[.pointer (some ⟨g, 0, none⟩)] 23 := (hU7.block _ a6.lt (hne _ _ _ a6 (by decide))).trans a6
    have c7 : Box w7 (w.heap.size + 2) #[.slice (some ⟨gl, 0, none⟩) (n + 1) cl] 55 := (hU7.block _ c6.lt (hne _ _ _ c6 (by decide))).trans c6
    have r7 : w7.ownsRow 0 3 1 vs xs.length (ics xs) := by
      have hr := HR.out
      have hv : ∀ k, vs.ownBlock = some k → k < w.heap.size ∧ ¬ Fd k := fun k hk => ⟨HX.out.2.2 k (HD.out k hk).2, (HD.out k hk).1⟩
      have r5 := owns_kept hr (fun k hk => B5w.block k (hv k hk).1)
      have r6 := owns_kept r5 (fun k hk => HU6.out.block k (Nat.lt_of_lt_of_le (hv k hk).1 B5w.size) (hv k hk).2)
      refine owns_kept r6 (fun k hk => hU7.block k ?_ (fun e => ?_))
      · exact Nat.lt_of_lt_of_le (Nat.lt_of_lt_of_le (hv k hk).1 B5w.size) HU6.out.size
      · subst e
        rcases r6.2 with ⟨q, _⟩ | ⟨q, cap', cur, q1, _, q2, _⟩
        · rw [q] at hk; cases hk
        · rw [q1] at hk
          injection hk with hk
          have hk' : q = k := hk
          subst hk'
          exact hne q _ 3 q2 (by decide) rfl
    clear g0 g1 g2 g3 g4 g5 g6c g7 g8 g9 g10 g11 f6 f7 f8 f9 y1 y2 x0 x1 x2 x3 x6 a6 c6
    have y1 := a7.cell 0
    have y2 := c7.cell 0
    simp at y1 y2
    obtain ⟨vp, vc, rfl⟩ : ∃ a c, vs = .slice a xs.length c := by
      rcases r7.2 with ⟨q, q0⟩ | ⟨q, cap', cur, q1, _⟩
      · exact ⟨none, 0, by rw [q, q0]⟩
      · exact ⟨_, _, q1⟩
    have HG7 : Hid (Box w7 g (jC g dg (.slice vp xs.length vc) { J with U := U', H := H' }) 47) := g7b
    have HR7 : Hid (w7.ownsRow 0 3 1 (.slice vp xs.length vc) xs.length (ics xs)) := r7
    have HU7 : Hid (Dk.Upd (· = g) w6 w7) := hU7
    have HA7 : Hid (Box w7 w.heap.size #[.pointer (some ⟨g, 0, none⟩)] 23) := a7
    have HC7 : Hid (Box w7 (w.heap.size + 2) #[.slice (some ⟨gl, 0, none⟩) (n + 1) cl] 55) := c7
    clear g7b r7 hU7 hne a7 c7 g6 y1 y2
    go_cut [] from 54 (fun u => A16 w7 g dg (.slice vp xs.length vc) { J with U := U', H := H' } (xs.length + 1) (ics xs ++ [.int .i64 ((n : Int) + 1)]) u)
    case first =>
      have l7a := HA7.out.lt
      have HS : Hid (∀ u : World, (∀ k, k < w7.heap.size → k ≠ g → (Value.slice vp xs.length vc).ownBlock ≠ some k → u.heap[k]? = w7.heap[k]?) → u.cell? ⟨w.heap.size, 0, none⟩ = some (.pointer (some ⟨g, 0, none⟩)) ∧ u.cell? ⟨w.heap.size + 2, 0, none⟩ = some (.slice (some ⟨gl, 0, none⟩) (n + 1) cl)) := fun u hu => by
        have hv : ∀ q (cs : Array Value) (t : TypeId), Box w7 q cs t → t ≠ 3 → (Value.slice vp xs.length vc).ownBlock ≠ some q := fun q cs t hq ht e => by
          rcases HR7.out.2 with ⟨e1, _⟩ | ⟨q', cap', cur, e1, _, e2, _⟩
          · rw [e1] at e; cases e
          · rw [e1] at e
            injection e with e
            have e' : q' = q := e
            subst e'
            exact hq.ne e2 ht rfl
        have y1 := HA7.out.cell 0
        have y2 := HC7.out.cell 0
        simp at y1 y2
        exact ⟨(World.cell?_of_block (a := ⟨w.heap.size, 0, none⟩) (hu _ HA7.out.lt (fun e => HA7.out.ne HG7.out (by decide) e) (hv _ _ _ HA7.out (by decide)))).trans y1,
          (World.cell?_of_block (a := ⟨w.heap.size + 2, 0, none⟩) (hu _ HC7.out.lt (fun e => HC7.out.ne HG7.out (by decide) e) (hv _ _ _ HC7.out (by decide)))).trans y2⟩
      have g10 := (box_cells HG7.out).2.2.2.2.2.2.2.2.2.2.1
      refine wp_region_noPanic ?_
      refine wp_region_held_drew (S := fun u => u.cell? ⟨w.heap.size, 0, none⟩ = some (.pointer (some ⟨g, 0, none⟩)) ∧ u.cell? ⟨w.heap.size + 2, 0, none⟩ = some (.slice (some ⟨gl, 0, none⟩) (n + 1) cl)) (by kernel_rfl) (HS.out _ (fun _ _ _ _ => rfl)) (fun hHeld => ?_)
      refine wpAnyH_take (i := 0) (v := ?_) rfl (by kernel_rfl) (by kernel_rfl) (by kernel_rfl) (fun _ _ _ h => h) (Or.inl ⟨by rfl, ?_⟩) (by assumption) ?_
      rotate_left
      · intro w hSw
        go_simp
        with_reducible rfl
      simp only [Act.put, List.setIfInBounds_toArray, List.set_cons_zero, List.set_cons_succ, List.getElem_toArray, List.getElem_cons_zero]
      refine wpAnyH_take (i := 1) (v := ?_) rfl (by kernel_rfl) (by kernel_rfl) (by kernel_rfl) (fun _ _ _ h => h) (Or.inl ⟨by rfl, ?_⟩) (by assumption) ?_
      rotate_left
      · intro w hSw
        go_simp
        with_reducible rfl
      simp only [Act.put, List.setIfInBounds_toArray, List.set_cons_zero, List.set_cons_succ, List.getElem_toArray, List.getElem_cons_zero, List.getElem_cons_succ]
      refine wpAnyH_take (i := 2) (v := ?_) rfl (by kernel_rfl) (by kernel_rfl) (by kernel_rfl) (fun _ _ _ h => h) (Or.inl ⟨by rfl, ?_⟩) (by assumption) ?_
      rotate_left
      · intro w hSw
        go_simp
        with_reducible rfl
      simp only [Act.put, List.setIfInBounds_toArray, List.set_cons_zero, List.set_cons_succ, List.getElem_toArray, List.getElem_cons_zero, List.getElem_cons_succ]
      refine wpAnyH_take (i := 3) (v := ?_) rfl (by kernel_rfl) (by kernel_rfl) (by kernel_rfl) (fun _ _ _ h => h) (Or.inl ⟨by rfl, ?_⟩) (by assumption) ?_
      rotate_left
      · intro w hSw
        go_simp
        with_reducible rfl
      simp only [Act.put, List.setIfInBounds_toArray, List.set_cons_zero, List.set_cons_succ, List.getElem_toArray, List.getElem_cons_zero, List.getElem_cons_succ]
      refine wpAnyH_take (i := 5) (v := ?_) rfl (by kernel_rfl) (by kernel_rfl) (by kernel_rfl) (fun _ _ _ h => h) (Or.inl ⟨by rfl, ?_⟩) (by assumption) ?_
      rotate_left
      · intro w hSw
        go_simp
        with_reducible rfl
      simp only [Act.put, List.setIfInBounds_toArray, List.set_cons_zero, List.set_cons_succ, List.getElem_toArray, List.getElem_cons_zero, List.getElem_cons_succ]
      refine wpAnyH_take (i := 6) (v := ?_) rfl (by kernel_rfl) (by kernel_rfl) (by kernel_rfl) (fun _ _ _ h => h) (Or.inl ⟨by rfl, ?_⟩) (by assumption) ?_
      rotate_left
      · intro w hSw
        go_simp
        with_reducible rfl
      simp only [Act.put, List.setIfInBounds_toArray, List.set_cons_zero, List.set_cons_succ, List.getElem_toArray, List.getElem_cons_zero, List.getElem_cons_succ]
      have g10a : ∀ o : Obj, (w7.alloc o).cell? ⟨g, 10, none⟩ = some (.slice vp xs.length vc) := fun o => (box_cells (HG7.out.alloc o)).2.2.2.2.2.2.2.2.2.2.1
      refine wpAnyH_ready (rs := [4, 7]) (by kernel_rfl) (by simp) ?_
      refine AllReadyH.cons rfl (fun K hK => ?_) (AllReadyH.cons rfl (fun K hK => ?_) AllReadyH.nil)
      · go_simp
        refine hK.out _ _ (HS.out _ (fun _ _ _ _ => rfl)) (fun hHeld => ?_)
        clear hK K
        refine wpAnyH_ready (rs := [7]) (by kernel_rfl) (by simp) ?_
        refine AllReadyH.cons rfl (fun K hK => ?_) AllReadyH.nil
        go_simp
        refine hK.out _ _ (HS.out _ (fun k hk _ _ => heap_alloc_old _ _ hk)) (fun hHeld => ?_)
        clear hK K
        refine wpAnyH_ready (rs := [8]) (by kernel_rfl) (by simp) ?_
        refine AllReadyH.cons rfl (fun K hK => ?_) AllReadyH.nil
        refine step_append_lies _ (by rfl) _ _ _ (by rfl) 0 3 i0 _ 1 8 Try.underlying31 hi hz0 hz1 hz2 rfl (by omega) (.slice vp xs.length vc) xs.length (ics xs) (by rfl) (owns_kept HR7.out (fun k hk => heap_alloc_old w7 _ (HR7.out.lt k hk).2))
          ⟨w7.heap.size, 0, none⟩ 1 1 [.int .i64 ((n : Int) + 1)] (by rfl) (by rfl) (World.news_of_block (cs := #[.int .i64 ((n : Int) + 1)]) (t := 3) (fr := (0, 0)) (heap_alloc_new w7 _)) (by intro u hu; simp at hu; subst hu; rfl)
          (by omega) (by unfold maxLen; omega) (by omega) (by omega) (w7.heap.size + 1) (by simp) ?_
        intro gg gc w8 hown8 hgrow hat hlt8
        have hz8 := hgrow.size
        have hzA : w7.heap.size + 1 ≤ w8.heap.size := by simpa using hz8
        have hk8 : ∀ k, k < w7.heap.size → (Value.slice vp xs.length vc).ownBlock ≠ some k → w8.heap[k]? = w7.heap[k]? := fun k hk hne => (hgrow.block k (by simp; omega) (fun e => hne e.symm)).trans (heap_alloc_old w7 _ hk)
        have hng : (Value.slice vp xs.length vc).ownBlock ≠ some g := fun e => by
          rcases HR7.out.2 with ⟨e1, _⟩ | ⟨q', cap', cur, e1, _, e2, _⟩
          · rw [e1] at e; cases e
          · rw [e1] at e
            injection e with e
            have e' : q' = g := e
            subst e'
            exact HG7.out.ne e2 (by decide) rfl
        have G8 : Hid (Box w8 g (jC g dg (.slice vp xs.length vc) { J with U := U', H := H' }) 47) := (hk8 g HG7.out.lt hng).trans HG7.out
        have R8' : Hid (w8.ownsRow 0 3 1 (.slice (some ⟨gg, 0, none⟩) (xs.length + 1) gc) (xs.length + 1) (ics xs ++ [.int .i64 ((n : Int) + 1)])) := hown8
        have g8c := (box_cells G8.out).2.2.2.2.2.2.2.2.2.2.1
        have g8f := G8.out.frozen 10
        have HT8 : Hid ((Value.slice vp xs.length vc).ownBlock = some gg ∨ gg = w7.heap.size + 1) := hat
        have HK8 : Hid (∀ k, k < w7.heap.size → (Value.slice vp xs.length vc).ownBlock ≠ some k → w8.heap[k]? = w7.heap[k]?) := hk8
        have HO8 : Hid (w8.os = w7.os ∧ w8.tape = w7.tape ∧ w8.output = w7.output) := ⟨hgrow.os, hgrow.tape, hgrow.output⟩
        have hgne : gg ≠ g := fun e => by
          subst e
          rcases hown8.2 with ⟨e1, _⟩ | ⟨q', cap', cur, e1, _, e2, _⟩
          · cases e1
          · injection e1 with e1
            injection e1 with e1
            injection e1 with e1
            subst e1
            exact G8.out.ne e2 (by decide) rfl
        refine hK.out _ _ (HS.out _ (fun k hk _ hv => hk8 k hk hv)) (fun hHeld => ?_)
        clear hK K hown8 hgrow hat hk8 hng hz8
        simp only [Act.put, List.setIfInBounds_toArray, List.set_cons_zero, List.set_cons_succ, List.getElem_toArray, List.getElem_cons_zero, List.getElem_cons_succ]
        refine wpAnyH_take (i := 9) (v := ?_) rfl (by kernel_rfl) (by kernel_rfl) (by kernel_rfl) (fun _ _ _ h => h) (Or.inl ⟨by rfl, ?_⟩) (by assumption) ?_
        rotate_left
        · intro w hSw
          go_simp
          with_reducible rfl
        simp only [Act.put, List.setIfInBounds_toArray, List.set_cons_zero, List.set_cons_succ, List.getElem_toArray, List.getElem_cons_zero, List.getElem_cons_succ]
        refine wpAnyH_take (i := 10) (v := ?_) rfl (by kernel_rfl) (by kernel_rfl) (by kernel_rfl) (fun _ _ _ h => h) (Or.inl ⟨by rfl, ?_⟩) (by assumption) ?_
        rotate_left
        · intro w hSw
          go_simp
          with_reducible rfl
        simp only [Act.put, List.setIfInBounds_toArray, List.set_cons_zero, List.set_cons_succ, List.getElem_toArray, List.getElem_cons_zero, List.getElem_cons_succ]
        refine wpAnyH_ready (rs := [11]) (by kernel_rfl) (by simp) ?_
        refine AllReadyH.cons rfl (fun K hK => ?_) AllReadyH.nil
        go_simp
        refine hK.out _ _ (HS.out _ (fun k hk hkg hv => (heap_setCell_other w8 ⟨g, 10, none⟩ k _ (by simpa using hkg)).trans (HK8.out k hk hv))) (fun hHeld => ?_)
        clear hK K
        refine wpAnyH_done (by kernel_rfl) ?_ _
        refine NoPanic.normal ?_
        go_wp2_with fail
        go_meet
        case rel =>
          refine ⟨_, box_sizes G8.out _, owns_kept R8'.out (fun k hk => ?_), fun k hk => ?_, ?_⟩
          · have : gg = k := by injection hk
            subst this
            exact heap_setCell_other w8 ⟨g, 10, none⟩ gg _ (by simpa using hgne)
          · have : gg = k := by injection hk
            subst this
            rcases HT8.out with h1 | h1
            · exact .inl h1
            · exact .inr (by omega)
          · obtain ⟨o1, o2, o3⟩ := HO8.out
            have s := Dk.grown_store w8 g 10 (.slice (some ⟨gg, 0, none⟩) (xs.length + 1) gc)
            have sz := s.size
            exact ⟨s.os.trans o1, s.tape.trans o2, s.output.trans o3, by omega, fun k hk hn => (heap_setCell_other w8 ⟨g, 10, none⟩ k _ (by simpa using fun e => hn (.inl e))).trans (HK8.out k hk (fun e => hn (.inr e)))⟩
      · go_simp
        refine hK.out _ _ (HS.out _ (fun k hk _ _ => heap_alloc_old _ _ hk)) (fun hHeld => ?_)
        clear hK K
        refine wpAnyH_ready (rs := [4]) (by kernel_rfl) (by simp) ?_
        refine AllReadyH.cons rfl (fun K hK => ?_) AllReadyH.nil
        go_simp
        refine hK.out _ _ (HS.out _ (fun k hk _ _ => heap_alloc_old _ _ hk)) (fun hHeld => ?_)
        clear hK K
        refine wpAnyH_ready (rs := [8]) (by kernel_rfl) (by simp) ?_
        refine AllReadyH.cons rfl (fun K hK => ?_) AllReadyH.nil
        refine step_append_lies _ (by rfl) _ _ _ (by rfl) 0 3 i0 _ 1 8 Try.underlying31 hi hz0 hz1 hz2 rfl (by omega) (.slice vp xs.length vc) xs.length (ics xs) (by rfl) (owns_kept HR7.out (fun k hk => heap_alloc_old w7 _ (HR7.out.lt k hk).2))
          ⟨w7.heap.size, 0, none⟩ 1 1 [.int .i64 ((n : Int) + 1)] (by rfl) (by rfl) (World.news_of_block (cs := #[.int .i64 ((n : Int) + 1)]) (t := 3) (fr := (0, 0)) (heap_alloc_new w7 _)) (by intro u hu; simp at hu; subst hu; rfl)
          (by omega) (by unfold maxLen; omega) (by omega) (by omega) (w7.heap.size + 1) (by simp) ?_
        intro gg gc w8 hown8 hgrow hat hlt8
        have hz8 := hgrow.size
        have hzA : w7.heap.size + 1 ≤ w8.heap.size := by simpa using hz8
        have hk8 : ∀ k, k < w7.heap.size → (Value.slice vp xs.length vc).ownBlock ≠ some k → w8.heap[k]? = w7.heap[k]? := fun k hk hne => (hgrow.block k (by simp; omega) (fun e => hne e.symm)).trans (heap_alloc_old w7 _ hk)
        have hng : (Value.slice vp xs.length vc).ownBlock ≠ some g := fun e => by
          rcases HR7.out.2 with ⟨e1, _⟩ | ⟨q', cap', cur, e1, _, e2, _⟩
          · rw [e1] at e; cases e
          · rw [e1] at e
            injection e with e
            have e' : q' = g := e
            subst e'
            exact HG7.out.ne e2 (by decide) rfl
        have G8 : Hid (Box w8 g (jC g dg (.slice vp xs.length vc) { J with U := U', H := H' }) 47) := (hk8 g HG7.out.lt hng).trans HG7.out
        have R8' : Hid (w8.ownsRow 0 3 1 (.slice (some ⟨gg, 0, none⟩) (xs.length + 1) gc) (xs.length + 1) (ics xs ++ [.int .i64 ((n : Int) + 1)])) := hown8
        have g8c := (box_cells G8.out).2.2.2.2.2.2.2.2.2.2.1
        have g8f := G8.out.frozen 10
        have HT8 : Hid ((Value.slice vp xs.length vc).ownBlock = some gg ∨ gg = w7.heap.size + 1) := hat
        have HK8 : Hid (∀ k, k < w7.heap.size → (Value.slice vp xs.length vc).ownBlock ≠ some k → w8.heap[k]? = w7.heap[k]?) := hk8
        have HO8 : Hid (w8.os = w7.os ∧ w8.tape = w7.tape ∧ w8.output = w7.output) := ⟨hgrow.os, hgrow.tape, hgrow.output⟩
        have hgne : gg ≠ g := fun e => by
          subst e
          rcases hown8.2 with ⟨e1, _⟩ | ⟨q', cap', cur, e1, _, e2, _⟩
          · cases e1
          · injection e1 with e1
            injection e1 with e1
            injection e1 with e1
            subst e1
            exact G8.out.ne e2 (by decide) rfl
        refine hK.out _ _ (HS.out _ (fun k hk _ hv => hk8 k hk hv)) (fun hHeld => ?_)
        clear hK K hown8 hgrow hat hk8 hng hz8
        simp only [Act.put, List.setIfInBounds_toArray, List.set_cons_zero, List.set_cons_succ, List.getElem_toArray, List.getElem_cons_zero, List.getElem_cons_succ]
        refine wpAnyH_take (i := 9) (v := ?_) rfl (by kernel_rfl) (by kernel_rfl) (by kernel_rfl) (fun _ _ _ h => h) (Or.inl ⟨by rfl, ?_⟩) (by assumption) ?_
        rotate_left
        · intro w hSw
          go_simp
          with_reducible rfl
        simp only [Act.put, List.setIfInBounds_toArray, List.set_cons_zero, List.set_cons_succ, List.getElem_toArray, List.getElem_cons_zero, List.getElem_cons_succ]
        refine wpAnyH_take (i := 10) (v := ?_) rfl (by kernel_rfl) (by kernel_rfl) (by kernel_rfl) (fun _ _ _ h => h) (Or.inl ⟨by rfl, ?_⟩) (by assumption) ?_
        rotate_left
        · intro w hSw
          go_simp
          with_reducible rfl
        simp only [Act.put, List.setIfInBounds_toArray, List.set_cons_zero, List.set_cons_succ, List.getElem_toArray, List.getElem_cons_zero, List.getElem_cons_succ]
        refine wpAnyH_ready (rs := [11]) (by kernel_rfl) (by simp) ?_
        refine AllReadyH.cons rfl (fun K hK => ?_) AllReadyH.nil
        go_simp
        refine hK.out _ _ (HS.out _ (fun k hk hkg hv => (heap_setCell_other w8 ⟨g, 10, none⟩ k _ (by simpa using hkg)).trans (HK8.out k hk hv))) (fun hHeld => ?_)
        clear hK K
        refine wpAnyH_done (by kernel_rfl) ?_ _
        refine NoPanic.normal ?_
        go_wp2_with fail
        go_meet
        case rel =>
          refine ⟨_, box_sizes G8.out _, owns_kept R8'.out (fun k hk => ?_), fun k hk => ?_, ?_⟩
          · have : gg = k := by injection hk
            subst this
            exact heap_setCell_other w8 ⟨g, 10, none⟩ gg _ (by simpa using hgne)
          · have : gg = k := by injection hk
            subst this
            rcases HT8.out with h1 | h1
            · exact .inl h1
            · exact .inr (by omega)
          · obtain ⟨o1, o2, o3⟩ := HO8.out
            have s := Dk.grown_store w8 g 10 (.slice (some ⟨gg, 0, none⟩) (xs.length + 1) gc)
            have sz := s.size
            exact ⟨s.os.trans o1, s.tape.trans o2, s.output.trans o3, by omega, fun k hk hn => (heap_setCell_other w8 ⟨g, 10, none⟩ k _ (by simpa using fun e => hn (.inl e))).trans (HK8.out k hk (fun e => hn (.inr e)))⟩
    case rest =>
      have h8 := hcut
      have A8' : A16 w7 g dg (.slice vp xs.length vc) { J with U := U', H := H' } (xs ++ [((n + 1 : Nat) : Int)]).length (ics (xs ++ [((n + 1 : Nat) : Int)])) wc := by
        rw [ics_snoc, List.length_append]
        exact hcut
      have fin := app_end HX.out HD.out HF.out B5w HF6.out HD6.out HU6.out HU7.out A8' (J.next + 1)
      obtain ⟨vs', hb8, hr8, hv8, hu8⟩ := h8
      have a8 : Box wc w.heap.size #[.pointer (some ⟨g, 0, none⟩)] 23 := (hu8.block _ HA7.out.lt (fun h => by
        rcases h with h | h
        · exact HA7.out.ne HG7.out (by decide) h
        · rcases HR7.out.2 with ⟨e1, _⟩ | ⟨q', cap', cur, e1, _, e2, _⟩
          · rw [e1] at h; cases h
          · rw [e1] at h
            injection h with h
            have e' : q' = w.heap.size := h
            rw [e'] at e2
            exact HA7.out.ne e2 (by decide) rfl)).trans HA7.out
      have y1 := a8.cell 0
      simp at y1
      have d4 := (box_cells hb8).2.2.2.2.1
      dsimp only at d4
      have f4 := hb8.frozen 4
      clear A8' hcut HA7 HC7 HR7 HG7 hu8 hv8 hr8 a8 HU6 HU7
      go_wp2_with fail
      exact bodyPost_ret (v := .tuple #[.int .i64 J.next, .int .i64 0]) (by simp [results, Try.results6, go_sem]) rfl ⟨rfl, fin⟩
end Go.Proofs.Ytglahlbponlepaa.J
