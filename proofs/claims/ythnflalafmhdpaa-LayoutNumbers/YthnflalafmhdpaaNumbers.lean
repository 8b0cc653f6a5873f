/-
  LayoutNumbers: the chapter's examples.
-/
import Derived.Test.YthnflalafmhdpaaAwake
namespace Go.Proofs.Ythnflalafmhdpaa
open Go.RowKit

theorem bit_none (w : World) : Calls Try.prog 8 #[.agg #[.int .i64 0, .int .i64 0, .int .i64 0, .int .i64 0, .int .i64 0, .int .i64 0, .int .i64 0], .int .i64 0] w fun r w' => r = .returned (.tuple #[.int .i64 0, .int .u8 0, .int .i64 2]) ∧ Below w.heap.size w w' := by
  refine bit_no 0 0 0 0 0 0 0 0 w ?_
  rintro ⟨n, h, _, h', _⟩
  omega
theorem inode_turned (w : World) : Calls Try.prog 7 #[.agg #[.int .i64 64, .int .i64 2, .int .i64 16, .int .i64 18, .int .i64 19, .int .i64 4, .int .i64 24], .int .i64 1] w fun r w' => r = .returned (.tuple #[.int .i64 0, .int .i64 0, .int .i64 2]) ∧ Below w.heap.size w w' := by
  refine inode_no 64 2 16 18 19 4 24 1 w ?_
  rintro ⟨n, _, _, h, _, h2, _, _, h4, h5⟩
  omega
theorem of63 (w : World) : Calls Try.prog 6 #[.int .i64 63] w fun r w' => r = .returned (.tuple #[.agg #[.int .i64 0, .int .i64 0, .int .i64 0, .int .i64 0, .int .i64 0, .int .i64 0, .int .i64 0], .int .i64 2]) ∧ Below w.heap.size w w' := of_bad 63 w (by decide)
theorem of513 (w : World) : Calls Try.prog 6 #[.int .i64 513] w fun r w' => r = .returned (.tuple #[.agg #[.int .i64 0, .int .i64 0, .int .i64 0, .int .i64 0, .int .i64 0, .int .i64 0, .int .i64 0], .int .i64 2]) ∧ Below w.heap.size w w' := of_bad 513 w (by decide)

set_option maxRecDepth 100000 in
set_option maxHeartbeats 1000000 in
theorem numbers_at (w : World) : Calls Try.prog 3 #[] w fun r w' => r = .returned (.bool true) ∧ Below w.heap.size w w' := by
  have g1 := guardE23
  have g2 : ∀ u, (binOp .eql 23 (.agg #[.int .i64 512, .int .i64 2, .int .i64 64, .int .i64 66, .int .i64 67, .int .i64 32, .int .i64 99]) (.agg #[.int .i64 512, .int .i64 2, .int .i64 64, .int .i64 66, .int .i64 67, .int .i64 32, .int .i64 99])).run Try.prog u = .ok (.bool true) u := fun u => eql23 u 512 2 64 66 67 32 99 512 2 64 66 67 32 99
  go_enter Try.func3, Try.ntmps3
  go_wp2_with fail
  refine (of512 _).mono ?_
  rintro r w1 ⟨rfl, b1⟩
  have x1 := Box.new w1 #[.int .i64 512, .int .i64 2, .int .i64 64, .int .i64 66, .int .i64 67, .int .i64 32, .int .i64 99] 23
  go_wp2_with fail
  refine (of64 _).mono ?_
  rintro r w2 ⟨rfl, b2⟩
  have x2 := x1.below b2
  have B2 := keepA b1 b2
  have Hs : Hid (w.heap.size ≤ w2.heap.size) := B2.size
  clear x1 b1 b2
  have y2 := Box.new w2 #[.int .i64 64, .int .i64 2, .int .i64 16, .int .i64 18, .int .i64 19, .int .i64 4, .int .i64 23] 23
  have x3 := x2.alloc (.cells #[.int .i64 64, .int .i64 2, .int .i64 16, .int .i64 18, .int .i64 19, .int .i64 4, .int .i64 23] 23)
  go_wp2_with fail
  refine (of63 _).mono ?_
  rintro r w3 ⟨rfl, b3⟩
  have x4 := x3.below b3
  have y4 := y2.below b3
  have B3 := keepA B2 b3
  clear x2 x3 y2 b3 B2
  have x5 := x4.alloc (.cells #[.int .i64 0, .int .i64 0, .int .i64 0, .int .i64 0, .int .i64 0, .int .i64 0, .int .i64 0] 23)
  have y5 := y4.alloc (.cells #[.int .i64 0, .int .i64 0, .int .i64 0, .int .i64 0, .int .i64 0, .int .i64 0, .int .i64 0] 23)
  go_wp2_with fail
  refine (of513 _).mono ?_
  rintro r w4 ⟨rfl, b4⟩
  have x6 := x5.below b4
  have y6 := y5.below b4
  have B4 := keepA B3 b4
  clear x4 x5 y4 y5 b4 B3
  have x7 := x6.alloc (.cells #[.int .i64 0, .int .i64 0, .int .i64 0, .int .i64 0, .int .i64 0, .int .i64 0, .int .i64 0] 23)
  have y7 := y6.alloc (.cells #[.int .i64 0, .int .i64 0, .int .i64 0, .int .i64 0, .int .i64 0, .int .i64 0, .int .i64 0] 23)
  have B5 := B4.alloc B4.size (.cells #[.int .i64 0, .int .i64 0, .int .i64 0, .int .i64 0, .int .i64 0, .int .i64 0, .int .i64 0] 23)
  clear x6 y6 B4
  obtain ⟨c0, c1, c2, c3, c4, c5, c6⟩ := y7.all7
  go_wp2_with fail
  refine (inode64_1 _).mono ?_
  rintro r v8 ⟨rfl, b⟩
  have x8 := x7.below b
  have y8 := y7.below b
  have B8 := keep B5 b
  clear x7 y7 b B5 c0 c1 c2 c3 c4 c5 c6
  obtain ⟨c0, c1, c2, c3, c4, c5, c6⟩ := y8.all7
  go_wp2_with fail
  refine (inode64_65 _).mono ?_
  rintro r v9 ⟨rfl, b⟩
  have x9 := x8.below b
  have y9 := y8.below b
  have B9 := keep B8 b
  clear x8 y8 b B8 c0 c1 c2 c3 c4 c5 c6
  obtain ⟨c0, c1, c2, c3, c4, c5, c6⟩ := y9.all7
  go_wp2_with fail
  refine (inode64_257 _).mono ?_
  rintro r v10 ⟨rfl, b⟩
  have x10 := x9.below b
  have y10 := y9.below b
  have B10 := keep B9 b
  clear x9 y9 b B9 c0 c1 c2 c3 c4 c5 c6
  obtain ⟨c0, c1, c2, c3, c4, c5, c6⟩ := y10.all7
  go_wp2_with fail
  refine (bit64_64 _).mono ?_
  rintro r v11 ⟨rfl, b⟩
  have x11 := x10.below b
  have y11 := y10.below b
  have B11 := keep B10 b
  clear x10 y10 b B10 c0 c1 c2 c3 c4 c5 c6
  obtain ⟨c0, c1, c2, c3, c4, c5, c6⟩ := y11.all7
  go_wp2_with fail
  refine (bit_none _).mono ?_
  rintro r v12 ⟨rfl, b⟩
  have x12 := x11.below b
  have y12 := y11.below b
  have B12 := keep B11 b
  clear x11 y11 b B11 c0 c1 c2 c3 c4 c5 c6
  obtain ⟨c0, c1, c2, c3, c4, c5, c6⟩ := y12.all7
  go_wp2_with fail
  refine (inode64_0 _).mono ?_
  rintro r v13 ⟨rfl, b⟩
  have x13 := x12.below b
  have y13 := y12.below b
  have B13 := keep B12 b
  clear x12 y12 b B12 c0 c1 c2 c3 c4 c5 c6
  obtain ⟨c0, c1, c2, c3, c4, c5, c6⟩ := y13.all7
  have f6 := y13.frozen 6
  have hne : w1.heap.size ≠ w2.heap.size := by
    have := x13.lt
    have := y13.lt
    intro e
    unfold Box at x13 y13
    rw [e, y13] at x13
    simp at x13
  go_wp2_with fail
  refine (inode_turned _).mono ?_
  rintro r v14 ⟨rfl, b⟩
  have x14 : Box v14 w1.heap.size _ 23 := Box.below ((heap_setCell_other v13 ⟨w2.heap.size, 6, none⟩ w1.heap.size (.int .i64 24) hne).trans x13) b
  have B14 := keep (B13.setCell (p := ⟨w2.heap.size, 6, none⟩) Hs.out (.int .i64 24)) b
  clear x13 y13 b B13 c0 c1 c2 c3 c4 c5 c6 f6 hne
  obtain ⟨c0, c1, c2, c3, c4, c5, c6⟩ := x14.all7
  go_wp2_with fail
  refine (awake_at _).mono ?_
  rintro r v15 ⟨rfl, b⟩
  have B15 := keep B14 b
  go_wp2_with fail
  go_ret
  exact ⟨rfl, B15⟩
end Go.Proofs.Ythnflalafmhdpaa
