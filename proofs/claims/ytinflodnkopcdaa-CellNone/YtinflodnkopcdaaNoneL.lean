/-
  CellNone's walk.
-/
import Derived.Test.YtinflodnkopcdaaNone
import Derived.Test.YtinflodnkopcdaaAwake
namespace Go.Proofs.Ytinflodnkopcdaa
open Go.RowKit
set_option maxRecDepth 100000 in
theorem none_at (i : Int) (w : World) : Calls Try.prog 5 #[.int .i64 i] w fun r w' => r = .returned (.bool true) ∧ Below w.heap.size w w' := by
  have x := Box.new w #[.pointer none, .slice none 0 0, .int .i64 0] 54
  have bb : Hid (Below w.heap.size w (w.alloc (.cells #[.pointer none, .slice none 0 0, .int .i64 0] 54))) := (Below.refl w.heap.size w).alloc (Nat.le_refl _) _
  have hN : ∀ u : World, NoM u (.pointer none) := fun u => .inl rfl
  have hZ : Hid (NoM (w.alloc (.cells #[.pointer none, .slice none 0 0, .int .i64 0] 54)) (.pointer (some ⟨w.heap.size, 0, none⟩))) := .inr ⟨w.heap.size, _, _, rfl, x⟩
  obtain ⟨u, hu⟩ : ∃ u, u = w.alloc (.cells #[.pointer none, .slice none 0 0, .int .i64 0] 54) := ⟨_, rfl⟩
  rw [← hu] at bb hZ
  have HU : Hid (u = w.alloc (.cells #[.pointer none, .slice none 0 0, .int .i64 0] 54)) := hu
  have a1 := adv_none (hN u)
  have a2 := load_none (hN u) i
  have a3 := adv_none hZ.out
  have a4 := load_none hZ.out i
  have a5 := fill_none (hN u) i 1
  have a6 := lock_none hZ.out i 1
  have a7 := unlock_none (hN u) i 1
  have a8 := publish_none hZ.out i 1 1 1
  have a9 := size_none (hN u)
  have a10 := clock_none hZ.out
  have a11 := owned_none (hN u) 1
  have a12 := awake_at u
  clear hu x hN
  go_enter Try.func5, Try.ntmps5
  go_wp2_with fail
  rw [← HU.out]
  refine Calls.mono a1 ?_
  rintro e w' ⟨rfl, rfl⟩
  clear HU
  go_wp2_with fail
  refine Calls.mono a2 ?_
  rintro e w' ⟨rfl, rfl⟩
  go_wp2_with fail
  refine Calls.mono a3 ?_
  rintro e w' ⟨rfl, rfl⟩
  go_wp2_with fail
  refine Calls.mono a4 ?_
  rintro e w' ⟨rfl, rfl⟩
  go_wp2_with fail
  refine Calls.mono a5 ?_
  rintro e w' ⟨rfl, rfl⟩
  go_wp2_with fail
  refine Calls.mono a6 ?_
  rintro e w' ⟨rfl, rfl⟩
  go_wp2_with fail
  refine Calls.mono a7 ?_
  rintro e w' ⟨rfl, rfl⟩
  go_wp2_with fail
  refine Calls.mono a8 ?_
  rintro e w' ⟨rfl, rfl⟩
  go_wp2_with fail
  refine Calls.mono a9 ?_
  rintro e w' ⟨rfl, rfl⟩
  go_wp2_with fail
  refine Calls.mono a10 ?_
  rintro e w' ⟨rfl, rfl⟩
  go_wp2_with fail
  refine Calls.mono a11 ?_
  rintro e w' ⟨rfl, rfl⟩
  go_wp2_with fail
  refine Calls.mono a12 ?_
  rintro e w' ⟨rfl, b12⟩
  go_wp2_with fail
  go_ret
  exact ⟨rfl, bb.out.trans (b12.mono bb.out.size)⟩
end Go.Proofs.Ytinflodnkopcdaa
