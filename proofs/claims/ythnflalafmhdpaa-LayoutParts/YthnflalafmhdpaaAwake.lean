/-
  The chapter's examples, as every statement asks them.
-/
import Derived.Test.YthnflalafmhdpaaRef
namespace Go.Proofs.Ythnflalafmhdpaa
open Go.RowKit

theorem keep {w wk w' : World} (B : Below w.heap.size w wk) (b : Below wk.heap.size wk w') : Below w.heap.size w w' := B.trans (b.mono B.size)
theorem keepA {w wk w' : World} {o : Obj} (B : Below w.heap.size w wk) (b : Below (wk.alloc o).heap.size (wk.alloc o) w') : Below w.heap.size w w' := keep (B.alloc B.size o) b

theorem of64 (w : World) : Calls Try.prog 6 #[.int .i64 64] w fun r w' => r = .returned (.tuple #[.agg #[.int .i64 64, .int .i64 2, .int .i64 16, .int .i64 18, .int .i64 19, .int .i64 4, .int .i64 23], .int .i64 0]) ∧ Below w.heap.size w w' := of_good 64 w (by decide) (by decide)
theorem of512 (w : World) : Calls Try.prog 6 #[.int .i64 512] w fun r w' => r = .returned (.tuple #[.agg #[.int .i64 512, .int .i64 2, .int .i64 64, .int .i64 66, .int .i64 67, .int .i64 32, .int .i64 99], .int .i64 0]) ∧ Below w.heap.size w w' := of_good 512 w (by decide) (by decide)
theorem inode64_256 (w : World) : Calls Try.prog 7 #[.agg #[.int .i64 64, .int .i64 2, .int .i64 16, .int .i64 18, .int .i64 19, .int .i64 4, .int .i64 23], .int .i64 256] w fun r w' => r = .returned (.tuple #[.int .i64 22, .int .i64 4032, .int .i64 0]) ∧ Below w.heap.size w w' := inode_good 64 256 w (by decide) (by decide) (by decide)
theorem inode64_1 (w : World) : Calls Try.prog 7 #[.agg #[.int .i64 64, .int .i64 2, .int .i64 16, .int .i64 18, .int .i64 19, .int .i64 4, .int .i64 23], .int .i64 1] w fun r w' => r = .returned (.tuple #[.int .i64 19, .int .i64 0, .int .i64 0]) ∧ Below w.heap.size w w' := inode_good 64 1 w (by decide) (by decide) (by decide)
theorem inode64_65 (w : World) : Calls Try.prog 7 #[.agg #[.int .i64 64, .int .i64 2, .int .i64 16, .int .i64 18, .int .i64 19, .int .i64 4, .int .i64 23], .int .i64 65] w fun r w' => r = .returned (.tuple #[.int .i64 20, .int .i64 0, .int .i64 0]) ∧ Below w.heap.size w w' := inode_good 64 65 w (by decide) (by decide) (by decide)
theorem inode64_257 (w : World) : Calls Try.prog 7 #[.agg #[.int .i64 64, .int .i64 2, .int .i64 16, .int .i64 18, .int .i64 19, .int .i64 4, .int .i64 23], .int .i64 257] w fun r w' => r = .returned (.tuple #[.int .i64 0, .int .i64 0, .int .i64 2]) ∧ Below w.heap.size w w' := inode_bad 64 257 w (by decide) (by decide) (by decide)
theorem inode64_0 (w : World) : Calls Try.prog 7 #[.agg #[.int .i64 64, .int .i64 2, .int .i64 16, .int .i64 18, .int .i64 19, .int .i64 4, .int .i64 23], .int .i64 0] w fun r w' => r = .returned (.tuple #[.int .i64 0, .int .i64 0, .int .i64 2]) ∧ Below w.heap.size w w' := inode_bad 64 0 w (by decide) (by decide) (by decide)
theorem bit64_23 (w : World) : Calls Try.prog 8 #[.agg #[.int .i64 64, .int .i64 2, .int .i64 16, .int .i64 18, .int .i64 19, .int .i64 4, .int .i64 23], .int .i64 23] w fun r w' => r = .returned (.tuple #[.int .i64 2, .int .u8 128, .int .i64 0]) ∧ Below w.heap.size w w' := bit_good 64 23 w (by decide) (by decide) (by decide)
theorem bit64_64 (w : World) : Calls Try.prog 8 #[.agg #[.int .i64 64, .int .i64 2, .int .i64 16, .int .i64 18, .int .i64 19, .int .i64 4, .int .i64 23], .int .i64 64] w fun r w' => r = .returned (.tuple #[.int .i64 0, .int .u8 0, .int .i64 70]) ∧ Below w.heap.size w w' := bit_bad 64 64 w (by decide) (by decide) (by decide)

theorem awake_at (w : World) : Calls Try.prog 9 #[] w fun r w' => r = .returned (.bool true) ∧ Below w.heap.size w w' := by
  have g1 := guardE23
  have g2 : ∀ u, (binOp .eql 23 (.agg #[.int .i64 64, .int .i64 2, .int .i64 16, .int .i64 18, .int .i64 19, .int .i64 4, .int .i64 23]) (.agg #[.int .i64 64, .int .i64 2, .int .i64 16, .int .i64 18, .int .i64 19, .int .i64 4, .int .i64 23])).run Try.prog u = .ok (.bool true) u := fun u => eql23 u 64 2 16 18 19 4 23 64 2 16 18 19 4 23
  go_enter Try.func9, Try.ntmps9
  go_wp2_with fail
  refine (of64 _).mono ?_
  rintro r w1 ⟨rfl, b1⟩
  have bx := Box.new w1 #[.int .i64 64, .int .i64 2, .int .i64 16, .int .i64 18, .int .i64 19, .int .i64 4, .int .i64 23] 23
  go_wp2_with fail
  refine (inode64_256 _).mono ?_
  rintro r w2 ⟨rfl, b2⟩
  have bx2 := bx.below b2
  have B2 := keepA b1 b2
  clear bx b1 b2
  obtain ⟨c0, c1, c2, c3, c4, c5, c6⟩ := bx2.all7
  go_wp2_with fail
  refine (bit64_23 _).mono ?_
  rintro r w3 ⟨rfl, b3⟩
  have bx3 := bx2.below b3
  have B3 := keep B2 b3
  clear bx2 b3 B2 c0 c1 c2 c3 c4 c5 c6
  obtain ⟨c0, c1, c2, c3, c4, c5, c6⟩ := bx3.all7
  go_wp2_with fail
  go_ret
  exact ⟨rfl, B3⟩
end Go.Proofs.Ythnflalafmhdpaa
