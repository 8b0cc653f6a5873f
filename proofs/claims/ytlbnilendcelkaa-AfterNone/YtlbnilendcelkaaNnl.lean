/-
  AfterNone, walked.
-/
import Derived.Test.YtlbnilendcelkaaNon
import Derived.Test.YtlbnilendcelkaaAwk
namespace Go.Proofs.Ytlbnilendcelkaa
open Go.RowKit
theorem no_nil (u : World) : NoQ u (.pointer none) := .inl rfl
set_option maxRecDepth 100000 in
set_option maxHeartbeats 8000000 in
theorem none_at (w : World) (o : Int) : Calls Try.prog 5 #[.int .i64 o] w fun r w' => r = .returned (.bool true) ∧ Below w.heap.size w w' := by
  have b0 := Box.new w #[.pointer none, .slice none 0 0, .slice none 0 0] 49
  have bel0 : Below w.heap.size w (w.alloc (.cells #[.pointer none, .slice none 0 0, .slice none 0 0] 49)) := (Below.refl _ _).alloc (Nat.le_refl _) _
  obtain ⟨w0, hw0⟩ : ∃ w0, w0 = w.alloc (.cells #[.pointer none, .slice none 0 0, .slice none 0 0] 49) := ⟨_, rfl⟩
  obtain ⟨z, hz⟩ : ∃ z, z = w.heap.size := ⟨_, rfl⟩
  have c0 := commit_no (no_nil (w.alloc (.cells #[.pointer none, .slice none 0 0, .slice none 0 0] 49))) o 1
  rw [← hw0] at bel0 b0
  rw [← hz] at b0
  have H0 : Hid (NoQ w0 (ptr z) ∧ Below w.heap.size w w0) := ⟨.inr ⟨z, rfl, b0⟩, bel0⟩
  have HW := hid (And.intro hw0 hz)
  clear b0 bel0 hw0 hz
  go_enter Try.func5, Try.ntmps5
  rw [← HW.out.1] at c0
  go_wp2_with fail
  rw [← HW.out.1, ← HW.out.2]
  refine Calls.mono c0 ?_
  rintro e w1 ⟨rfl, g1⟩
  have H1 := hid (And.intro (H0.out.1.below g1) (H0.out.2.trans (g1.mono H0.out.2.size)))
  clear c0 g1 H0
  have c1 := commit_no H1.out.1 o 1
  unfold ptr at *
  go_wp2_with fail
  refine Calls.mono c1 ?_
  rintro e w2 ⟨rfl, g2⟩
  have H2 := hid (And.intro (H1.out.1.below g2) (H1.out.2.trans (g2.mono H1.out.2.size)))
  clear c1 g2 H1
  have c2 := len_no (no_nil w2)
  unfold ptr at *
  go_wp2_with fail
  refine Calls.mono c2 ?_
  rintro e w3 ⟨rfl, g3⟩
  have H3 := hid (And.intro (H2.out.1.below g3) (H2.out.2.trans (g3.mono H2.out.2.size)))
  clear c2 g3 H2
  have c3 := later_no (no_nil w3) o 1
  unfold ptr at *
  go_wp2_with fail
  refine Calls.mono c3 ?_
  rintro e w4 ⟨rfl, g4⟩
  have H4 := hid (And.intro (H3.out.1.below g4) (H3.out.2.trans (g4.mono H3.out.2.size)))
  clear c3 g4 H3
  have c4 := later_no H4.out.1 o 1
  unfold ptr at *
  go_wp2_with fail
  refine Calls.mono c4 ?_
  rintro e w5 ⟨rfl, g5⟩
  have H5 := hid (And.intro (H4.out.1.below g5) (H4.out.2.trans (g5.mono H4.out.2.size)))
  clear c4 g5 H4
  have c5 := drop_no (no_nil w5) o
  unfold ptr at *
  go_wp2_with fail
  refine Calls.mono c5 ?_
  rintro e w6 ⟨rfl, g6⟩
  have H6 := hid (And.intro (H5.out.1.below g6) (H5.out.2.trans (g6.mono H5.out.2.size)))
  clear c5 g6 H5
  have c6 := mark_no H6.out.1 o
  unfold ptr at *
  go_wp2_with fail
  refine Calls.mono c6 ?_
  rintro e w7 ⟨rfl, g7⟩
  have H7 := hid (And.intro (H6.out.1.below g7) (H6.out.2.trans (g7.mono H6.out.2.size)))
  clear c6 g7 H6
  have c7 := back_no (no_nil w7) o 0
  unfold ptr at *
  go_wp2_with fail
  refine Calls.mono c7 ?_
  rintro e w8 ⟨rfl, g8⟩
  have H8 := hid (And.intro (H7.out.1.below g8) (H7.out.2.trans (g8.mono H7.out.2.size)))
  clear c7 g8 H7
  have c8 := take_no (no_nil w8) 9
  unfold ptr at *
  go_wp2_with fail
  refine Calls.mono c8 ?_
  rintro e w9 ⟨rfl, g9⟩
  have H9 := hid (And.intro (H8.out.1.below g9) (H8.out.2.trans (g9.mono H8.out.2.size)))
  clear c8 g9 H8
  have c9 := take_no H9.out.1 9
  unfold ptr at *
  go_wp2_with fail
  refine Calls.mono c9 ?_
  rintro e w10 ⟨rfl, g10⟩
  have H10 := hid (And.intro (H9.out.1.below g10) (H9.out.2.trans (g10.mono H9.out.2.size)))
  clear c9 g10 H9
  have ca := awake_at w10
  go_wp2_with fail
  refine Calls.mono ca ?_
  rintro e wz ⟨rfl, gz⟩
  have HF := hid (H10.out.2.trans (gz.mono H10.out.2.size))
  clear ca gz H10
  go_wp2_with fail
  go_ret
  exact ⟨rfl, HF.out⟩
end Go.Proofs.Ytlbnilendcelkaa
