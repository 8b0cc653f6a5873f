/-
  The example of the chapter.
-/
import Derived.Test.YtlbnilendcelkaaSit
namespace Go.Proofs.Ytlbnilendcelkaa
open Go.RowKit
theorem awk1 : (⟨[], []⟩ : QS ByteArray).later 1 ⟨#[97]⟩ = (0, ⟨[⟨0, 1, ⟨#[97]⟩⟩], []⟩) := by simp [QS.later]
theorem awk2 : (⟨[⟨0, 1, ⟨#[97]⟩⟩], []⟩ : QS ByteArray).later 2 ⟨#[98]⟩ = (0, ⟨[⟨0, 1, ⟨#[97]⟩⟩, ⟨0, 2, ⟨#[98]⟩⟩], []⟩) := by simp [QS.later]
theorem awk3 : (⟨[⟨0, 1, ⟨#[97]⟩⟩, ⟨0, 2, ⟨#[98]⟩⟩], []⟩ : QS ByteArray).later 1 ⟨#[99]⟩ = (0, ⟨[⟨0, 1, ⟨#[97]⟩⟩, ⟨0, 2, ⟨#[98]⟩⟩, ⟨0, 1, ⟨#[99]⟩⟩], []⟩) := by simp [QS.later]
theorem awk4 : (⟨[⟨0, 1, ⟨#[97]⟩⟩, ⟨0, 2, ⟨#[98]⟩⟩, ⟨0, 1, ⟨#[99]⟩⟩], []⟩ : QS ByteArray).commit 2 5 = (1, 0, ⟨[⟨0, 1, ⟨#[97]⟩⟩, ⟨0, 1, ⟨#[99]⟩⟩], [⟨5, 2, ⟨#[98]⟩⟩]⟩) := by simp [QS.commit, QS.mine, mrg]
theorem awk5 : (⟨[⟨0, 1, ⟨#[97]⟩⟩, ⟨0, 1, ⟨#[99]⟩⟩], [⟨5, 2, ⟨#[98]⟩⟩]⟩ : QS ByteArray).commit 1 4 = (2, 0, ⟨[], [⟨4, 1, ⟨#[97]⟩⟩, ⟨4, 1, ⟨#[99]⟩⟩, ⟨5, 2, ⟨#[98]⟩⟩]⟩) := by simp [QS.commit, QS.mine, mrg]
theorem awk6 : (⟨[], [⟨4, 1, ⟨#[97]⟩⟩, ⟨4, 1, ⟨#[99]⟩⟩, ⟨5, 2, ⟨#[98]⟩⟩]⟩ : QS ByteArray).take 4 = ([⟨4, 1, ⟨#[97]⟩⟩, ⟨4, 1, ⟨#[99]⟩⟩], ⟨[], [⟨5, 2, ⟨#[98]⟩⟩]⟩) := by simp [QS.take]
theorem awk7 : (⟨[], [⟨5, 2, ⟨#[98]⟩⟩]⟩ : QS ByteArray).take 9 = ([⟨5, 2, ⟨#[98]⟩⟩], ⟨[], []⟩) := by simp [QS.take]
theorem awk8 : (⟨[], []⟩ : QS ByteArray).later 3 ⟨#[100]⟩ = (0, ⟨[⟨0, 3, ⟨#[100]⟩⟩], []⟩) := by simp [QS.later]
theorem awk9 : (⟨[⟨0, 3, ⟨#[100]⟩⟩], []⟩ : QS ByteArray).back 3 0 = (1, ⟨[], []⟩) := by simp [QS.back, sel, bks]
set_option maxRecDepth 100000 in
set_option maxHeartbeats 8000000 in
theorem awake_at (w : World) : Calls Try.prog 12 #[] w fun r w' => r = .returned (.bool true) ∧ Below w.heap.size w w' := by
  have c0 := S.Sit.new w
  go_enter Try.func12, Try.ntmps12
  go_wp2_with fail
  refine Calls.mono c0 ?_
  rintro e w0 ⟨q, rfl, h0⟩
  clear c0
  have c1 := S.Sit.later h0 1 ⟨#[97]⟩
  rw [awk1] at c1
  unfold ptr at *
  go_wp2_with fail
  refine Calls.mono c1 ?_
  rintro e w1 ⟨rfl, h1⟩
  clear c1 h0
  have c2 := S.Sit.later h1 2 ⟨#[98]⟩
  rw [awk2] at c2
  unfold ptr at *
  go_wp2_with fail
  refine Calls.mono c2 ?_
  rintro e w2 ⟨rfl, h2⟩
  clear c2 h1
  have c3 := S.Sit.later h2 1 ⟨#[99]⟩
  rw [awk3] at c3
  unfold ptr at *
  go_wp2_with fail
  refine Calls.mono c3 ?_
  rintro e w3 ⟨rfl, h3⟩
  clear c3 h2
  have c4 := S.Sit.commit h3 (by simp) 2 5
  rw [awk4] at c4
  unfold ptr at *
  go_wp2_with fail
  refine Calls.mono c4 ?_
  rintro e w4 ⟨rfl, h4⟩
  clear c4 h3
  have c5 := S.Sit.commit h4 (by simp) 1 4
  rw [awk5] at c5
  unfold ptr at *
  go_wp2_with fail
  refine Calls.mono c5 ?_
  rintro e w5 ⟨rfl, h5⟩
  clear c5 h4
  have c6 := S.Sit.take h5 4
  rw [awk6] at c6
  unfold ptr at *
  go_wp2_with fail
  refine Calls.mono c6 ?_
  rintro e w6 ⟨v1, rfl, h6⟩
  clear c6 h5
  have c7 := S.Sit.take h6 9
  rw [awk7] at c7
  unfold ptr at *
  go_wp2_with fail
  refine Calls.mono c7 ?_
  rintro e w7 ⟨v2, rfl, h7⟩
  clear c7 h6
  have c8 := S.Sit.later h7 3 ⟨#[100]⟩
  rw [awk8] at c8
  unfold ptr at *
  go_wp2_with fail
  refine Calls.mono c8 ?_
  rintro e w8 ⟨rfl, h8⟩
  clear c8 h7
  obtain ⟨⟨F, g1, g2⟩, g3⟩ := h8
  have r1 : IsRow eS 67 w8 w.heap.size v1 [⟨4, 1, ⟨#[97]⟩⟩, ⟨4, 1, ⟨#[99]⟩⟩] := (g2 (v1, [⟨4, 1, ⟨#[97]⟩⟩, ⟨4, 1, ⟨#[99]⟩⟩]) (by simp)).1
  have r2 : IsRow eS 67 w8 w.heap.size v2 [⟨5, 2, ⟨#[98]⟩⟩] := (g2 (v2, [⟨5, 2, ⟨#[98]⟩⟩]) (by simp)).1
  have h8 : Sit eS 70 67 w q ⟨[⟨0, 3, ⟨#[100]⟩⟩], []⟩ ([(v1, [⟨4, 1, ⟨#[97]⟩⟩, ⟨4, 1, ⟨#[99]⟩⟩])] ++ [(v2, [⟨5, 2, ⟨#[98]⟩⟩])]) w8 := ⟨⟨F, g1, g2⟩, g3⟩
  rcases r1.lay with ⟨_, he⟩ | ⟨b1, cap1, rfl, _, l1⟩
  · cases he
  rcases r2.lay with ⟨_, he⟩ | ⟨b2, cap2, rfl, _, l2⟩
  · cases he
  have x1 := (l1.get (i := 0) rfl).2.2
  obtain ⟨x2, x3, x4⟩ := l1.get (i := 1) rfl
  have x5 := (l2.get (i := 0) rfl).2.2
  simp only [eS] at x1 x2 x3 x4 x5
  have c9 := S.Sit.drop h8 3
  rw [awk9] at c9
  clear g1 g2 g3 r1 r2 l1 l2 h8
  unfold ptr at *
  go_wp2_with fail
  refine Calls.mono c9 ?_
  rintro e w9 ⟨rfl, h9⟩
  have HB := hid h9.2
  clear c9 h9 x1 x2 x3 x4 x5
  go_wp2_with fail
  go_ret
  exact ⟨rfl, HB.out⟩
end Go.Proofs.Ytlbnilendcelkaa
