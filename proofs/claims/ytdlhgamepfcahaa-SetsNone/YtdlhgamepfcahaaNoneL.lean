/-
  SetsNone's walk.
-/
import Derived.Test.YtdlhgamepfcahaaAwake
namespace Go.Proofs.Ytdlhgamepfcahaa
open Go.RowKit
set_option maxRecDepth 100000 in
theorem none_at (i : Int) (w : World) : Calls Try.prog 4 #[.int .i64 i] w fun r w' => r = .returned (.bool true) ∧ Below w.heap.size w w' := by
  have x := Box.new w #[.pointer none, .map none, .map none, .slice none 0 0] 52
  have bb : Hid (Below w.heap.size w (w.alloc (.cells #[.pointer none, .map none, .map none, .slice none 0 0] 52))) := (Below.refl w.heap.size w).alloc (Nat.le_refl _) _
  have hN : ∀ u : World, NoS u none := fun u => isMade_nil u
  have hZ : Hid (NoS (w.alloc (.cells #[.pointer none, .map none, .map none, .slice none 0 0] 52)) (some ⟨w.heap.size, 0, none⟩)) := isMade_zero x
  obtain ⟨u, hu⟩ : ∃ u, u = w.alloc (.cells #[.pointer none, .map none, .map none, .slice none 0 0] 52) := ⟨_, rfl⟩
  rw [← hu] at bb hZ
  have HU : Hid (u = w.alloc (.cells #[.pointer none, .map none, .map none, .slice none 0 0] 52)) := hu
  have a1 := value_no (hN u) i
  have a2 := seen_no hZ.out i
  have a3 := read_no (hN u) i 0
  have a4 := write_no hZ.out i 1
  have a5 := mark_no (hN u)
  have a6 := keep_no hZ.out
  have a7 := undo_no (hN u)
  have a8 := depth_no hZ.out
  have a9 := reads_no (hN u)
  have a10 := writes_no hZ.out
  have a11 := awake_at u
  clear hu x hN
  go_enter Try.func4, Try.ntmps4
  go_wp2_with fail
  rw [← HU.out]
  refine Calls.mono a1 ?_
  rintro e w' ⟨rfl, rfl⟩
  clear HU
  go_wp2_with fail
  refine Calls.mono a2 ?_
  rintro e w' ⟨rfl, rfl⟩
  go_wp2_with fail
  refine Calls.mono a3 ?_
  rintro e w' ⟨rfl, rfl⟩
  go_wp2_with fail
  refine Calls.mono a4 ?_
  rintro e w' ⟨rfl, rfl⟩
  go_wp2_with fail
  refine Calls.mono a5 ?_
  rintro e w' ⟨rfl, rfl⟩
  go_wp2_with fail
  refine Calls.mono a6 ?_
  rintro e w' ⟨rfl, rfl⟩
  go_wp2_with fail
  refine Calls.mono a7 ?_
  rintro e w' ⟨rfl, rfl⟩
  go_wp2_with fail
  refine Calls.mono a8 ?_
  rintro e w' ⟨rfl, rfl⟩
  go_wp2_with fail
  refine Calls.mono a9 ?_
  rintro e w' ⟨rfl, rfl⟩
  go_wp2_with fail
  refine Calls.mono a10 ?_
  rintro e w' ⟨rfl, rfl⟩
  go_wp2_with fail
  refine Calls.mono a11 ?_
  rintro e w1 ⟨rfl, hb⟩
  go_wp2_with fail
  go_ret
  exact ⟨rfl, bb.out.trans (hb.mono bb.out.size)⟩
end Go.Proofs.Ytdlhgamepfcahaa
