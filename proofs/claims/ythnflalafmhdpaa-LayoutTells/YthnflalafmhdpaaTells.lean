/-
  LayoutTells: the program's calls answer as the document's.
-/
import Derived.Test.YthnflalafmhdpaaAwake
namespace Go.Proofs.Ythnflalafmhdpaa
open Go.RowKit

theorem of_both (n : Int) : ∃ a b c d e f g E : Int,
    (∀ w, Calls Try.prog 6 #[.int .i64 n] w fun r w' => r = .returned (.tuple #[.agg #[.int .i64 a, .int .i64 b, .int .i64 c, .int .i64 d, .int .i64 e, .int .i64 f, .int .i64 g], .int .i64 E]) ∧ Below w.heap.size w w') ∧
    (∀ w, Calls Try.prog 10 #[.int .i64 n] w fun r w' => r = .returned (.tuple #[.agg #[.int .i64 a, .int .i64 b, .int .i64 c, .int .i64 d, .int .i64 e, .int .i64 f, .int .i64 g], .int .i64 E]) ∧ Below w.heap.size w w') := by
  by_cases h : 64 ≤ n ∧ n ≤ 512
  · obtain ⟨m, rfl⟩ : ∃ m : Nat, n = m := ⟨n.toNat, by omega⟩
    exact ⟨_, _, _, _, _, _, _, _, fun w => of_good m w (by omega) (by omega), fun w => ref_good m w (by omega) (by omega)⟩
  · exact ⟨_, _, _, _, _, _, _, _, fun w => of_bad n w h, fun w => ref_bad n w h⟩

theorem inode_both (a b c d e f g n : Int) : ∃ A B E : Int,
    (∀ w, Calls Try.prog 7 #[.agg #[.int .i64 a, .int .i64 b, .int .i64 c, .int .i64 d, .int .i64 e, .int .i64 f, .int .i64 g], .int .i64 n] w fun r w' => r = .returned (.tuple #[.int .i64 A, .int .i64 B, .int .i64 E]) ∧ Below w.heap.size w w') ∧
    (∀ w, Calls Try.prog 11 #[.agg #[.int .i64 a, .int .i64 b, .int .i64 c, .int .i64 d, .int .i64 e, .int .i64 f, .int .i64 g], .int .i64 n] w fun r w' => r = .returned (.tuple #[.int .i64 A, .int .i64 B, .int .i64 E]) ∧ Below w.heap.size w w') := by
  by_cases h : IsLay a b c d e f g
  · obtain ⟨m, h0, h1, rfl, rfl, rfl, rfl, rfl, rfl, rfl⟩ := h
    by_cases hn : 1 ≤ n ∧ n ≤ (m / 16 : Nat) * 64
    · obtain ⟨k, rfl⟩ : ∃ m : Nat, n = m := ⟨n.toNat, by omega⟩
      refine ⟨_, _, _, fun w => inode_good m k w h0 h1 (by omega), fun w => ?_⟩
      refine (rinode_in m (m / 16) k w h0 h1 rfl).mono ?_
      rintro r w1 ⟨⟨i, j, hi, hj, e, rfl⟩ | ⟨hno, _⟩, b1⟩
      · refine ⟨?_, b1⟩
        have e1 : (k - 1) / 64 = i := by omega
        have e2 : (k - 1) % 64 * 64 = 64 * j := by omega
        rw [e1, e2]
      · omega
    · refine ⟨_, _, _, fun w => inode_bad m n w h0 h1 hn, fun w => ?_⟩
      refine (rinode_in m (m / 16) n w h0 h1 rfl).mono ?_
      rintro r w1 ⟨⟨i, j, hi, hj, e, rfl⟩ | ⟨hno, e⟩, b1⟩
      · omega
      · exact ⟨e, b1⟩
  · exact ⟨_, _, _, fun w => inode_no a b c d e f g n w h, fun w => rinode_no a b c d e f g n w h⟩

theorem bit_both (a b c d e f g n : Int) : ∃ A B E : Int,
    (∀ w, Calls Try.prog 8 #[.agg #[.int .i64 a, .int .i64 b, .int .i64 c, .int .i64 d, .int .i64 e, .int .i64 f, .int .i64 g], .int .i64 n] w fun r w' => r = .returned (.tuple #[.int .i64 A, .int .u8 B, .int .i64 E]) ∧ Below w.heap.size w w') ∧
    (∀ w, Calls Try.prog 12 #[.agg #[.int .i64 a, .int .i64 b, .int .i64 c, .int .i64 d, .int .i64 e, .int .i64 f, .int .i64 g], .int .i64 n] w fun r w' => r = .returned (.tuple #[.int .i64 A, .int .u8 B, .int .i64 E]) ∧ Below w.heap.size w w') := by
  by_cases h : IsLay a b c d e f g
  · obtain ⟨m, h0, h1, rfl, rfl, rfl, rfl, rfl, rfl, rfl⟩ := h
    by_cases hn : 0 ≤ n ∧ n ≤ (m : Int) - 1
    · obtain ⟨k, rfl⟩ : ∃ m : Nat, n = m := ⟨n.toNat, by omega⟩
      exact ⟨_, _, _, fun w => bit_good m k w h0 h1 (by omega), fun w => rbit_good m k w h0 h1 (by omega)⟩
    · exact ⟨_, _, _, fun w => bit_bad m n w h0 h1 hn, fun w => rbit_bad m n w h0 h1 hn⟩
  · exact ⟨_, _, _, fun w => bit_no a b c d e f g n w h, fun w => rbit_no a b c d e f g n w h⟩

set_option maxRecDepth 100000 in
theorem tells_at (m a b c d e f g n : Int) (w : World) :
    Calls Try.prog 4 #[.int .i64 m, .agg #[.int .i64 a, .int .i64 b, .int .i64 c, .int .i64 d, .int .i64 e, .int .i64 f, .int .i64 g], .int .i64 n] w fun r w' => r = .returned (.bool true) ∧ Below w.heap.size w w' := by
  obtain ⟨a', b', c', d', e', f', g', E, of1, of2⟩ := of_both m
  obtain ⟨A1, A2, A3, in1, in2⟩ := inode_both a b c d e f g n
  obtain ⟨B1, B2, B3, bi1, bi2⟩ := bit_both a b c d e f g n
  have g1 := guardE23
  have g2 : ∀ u, (binOp .eql 23 (.agg #[.int .i64 a', .int .i64 b', .int .i64 c', .int .i64 d', .int .i64 e', .int .i64 f', .int .i64 g']) (.agg #[.int .i64 a', .int .i64 b', .int .i64 c', .int .i64 d', .int .i64 e', .int .i64 f', .int .i64 g'])).run Try.prog u = .ok (.bool true) u := fun u => by rw [eql23]; simp [same7]
  go_enter Try.func4, Try.ntmps4
  go_wp2_with fail
  refine (of1 _).mono ?_
  rintro r w1 ⟨rfl, b1⟩
  have x1 := (Box.new w #[.int .i64 a, .int .i64 b, .int .i64 c, .int .i64 d, .int .i64 e, .int .i64 f, .int .i64 g] 23).below b1
  have K1 := keepA (Below.refl _ w) b1
  have x2 := x1.alloc (.cells #[.int .i64 a', .int .i64 b', .int .i64 c', .int .i64 d', .int .i64 e', .int .i64 f', .int .i64 g'] 23)
  have y2 := Box.new w1 #[.int .i64 a', .int .i64 b', .int .i64 c', .int .i64 d', .int .i64 e', .int .i64 f', .int .i64 g'] 23
  clear b1 x1
  go_wp2_with fail
  refine (of2 _).mono ?_
  rintro r w2 ⟨rfl, b2⟩
  have x3 := (x2.below b2).alloc (.cells #[.int .i64 a', .int .i64 b', .int .i64 c', .int .i64 d', .int .i64 e', .int .i64 f', .int .i64 g'] 23)
  have y3 := (y2.below b2).alloc (.cells #[.int .i64 a', .int .i64 b', .int .i64 c', .int .i64 d', .int .i64 e', .int .i64 f', .int .i64 g'] 23)
  have z3 := Box.new w2 #[.int .i64 a', .int .i64 b', .int .i64 c', .int .i64 d', .int .i64 e', .int .i64 f', .int .i64 g'] 23
  have K2 := keepA K1 b2
  clear b2 x2 y2 K1
  obtain ⟨c0, c1, c2, c3, c4, c5, c6⟩ := x3.all7
  go_wp2_with fail
  refine (in1 _).mono ?_
  rintro r w3 ⟨rfl, b3⟩
  have x4 := x3.below b3
  have y4 := y3.below b3
  have z4 := z3.below b3
  have K3 := keepA K2 b3
  clear b3 x3 y3 z3 K2 c0 c1 c2 c3 c4 c5 c6
  obtain ⟨c0, c1, c2, c3, c4, c5, c6⟩ := x4.all7
  go_wp2_with fail
  refine (in2 _).mono ?_
  rintro r w4 ⟨rfl, b4⟩
  have x5 := x4.below b4
  have y5 := y4.below b4
  have z5 := z4.below b4
  have K4 := keep K3 b4
  clear b4 x4 y4 z4 K3 c0 c1 c2 c3 c4 c5 c6
  obtain ⟨c0, c1, c2, c3, c4, c5, c6⟩ := x5.all7
  go_wp2_with fail
  refine (bi1 _).mono ?_
  rintro r w5 ⟨rfl, b5⟩
  have x6 := x5.below b5
  have y6 := y5.below b5
  have z6 := z5.below b5
  have K5 := keep K4 b5
  clear b5 x5 y5 z5 K4 c0 c1 c2 c3 c4 c5 c6
  obtain ⟨c0, c1, c2, c3, c4, c5, c6⟩ := x6.all7
  go_wp2_with fail
  refine (bi2 _).mono ?_
  rintro r w6 ⟨rfl, b6⟩
  have y7 := y6.below b6
  have z7 := z6.below b6
  have K6 := keep K5 b6
  clear b6 x6 y6 z6 K5 c0 c1 c2 c3 c4 c5 c6
  obtain ⟨c0, c1, c2, c3, c4, c5, c6⟩ := y7.all7
  obtain ⟨d0, d1, d2, d3, d4, d5, d6⟩ := z7.all7
  clear of1 of2 in1 in2 bi1 bi2
  go_wp2_with fail
  refine (awake_at _).mono ?_
  rintro r w7 ⟨rfl, b7⟩
  have K7 := keep K6 b7
  go_wp2_with fail
  go_ret
  exact ⟨rfl, K7⟩
end Go.Proofs.Ythnflalafmhdpaa
