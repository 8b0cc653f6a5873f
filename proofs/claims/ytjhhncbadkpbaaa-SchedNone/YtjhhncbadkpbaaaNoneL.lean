/-
  SchedNone's walk.
-/
import Derived.Test.YtjhhncbadkpbaaaAwake
namespace Go.Proofs.Ytjhhncbadkpbaaa
open Go.RowKit
def zeroS : Array Value := #[.pointer none, .slice none 0 0, .slice none 0 0, .slice none 0 0, .pointer none, .bool false]
def zeroT : Array Value := #[.pointer none, .slice none 0 0, .int .i64 0, .pointer none, .pointer none]
set_option maxRecDepth 20000 in
set_option maxHeartbeats 4000000 in
theorem none_at (id : Int) (w : World) : Calls Try.prog 5 #[.int .i64 id] w fun r w' => r = .returned (.bool true) ∧ Below w.heap.size w w' := by
  obtain ⟨g, hg⟩ : ∃ g, g = w.heap.size := ⟨_, rfl⟩
  have x0 : Box (w.alloc (.cells zeroS 63)) g zeroS 63 := by rw [hg]; exact Box.new w zeroS 63
  have x1 := x0.alloc (.cells zeroT 51)
  have x2 := x1.alloc (.cells zeroT 51)
  have b2 : Below w.heap.size w (((w.alloc (.cells zeroS 63)).alloc (.cells zeroT 51)).alloc (.cells zeroT 51)) := (((Below.refl w.heap.size w).alloc (Nat.le_refl _) _).alloc (by simp) _).alloc (by simp; omega) _
  have HX : Hid (∀ u, Box u g zeroS 63 → NoS u (ptr g)) := fun u hu => .inr ⟨g, _, _, _, _, _, rfl, hu⟩
  have c1 : ∀ t, Calls Try.prog 9 #[.pointer none, t] ((w.alloc (.cells zeroS 63)).alloc (.cells zeroT 51)) fun r w' => r = .returned (.tuple #[.int .i64 0, .int .i64 1]) ∧ w' = ((w.alloc (.cells zeroS 63)).alloc (.cells zeroT 51)) := fun t => add_no (.inl rfl)
  have c2 : ∀ t, Calls Try.prog 9 #[ptr g, t] (((w.alloc (.cells zeroS 63)).alloc (.cells zeroT 51)).alloc (.cells zeroT 51)) fun r w' => r = .returned (.tuple #[.int .i64 0, .int .i64 1]) ∧ w' = (((w.alloc (.cells zeroS 63)).alloc (.cells zeroT 51)).alloc (.cells zeroT 51)) := fun t => add_no (HX.out _ x2)
  have c3 := new_at (((w.alloc (.cells zeroS 63)).alloc (.cells zeroT 51)).alloc (.cells zeroT 51))
  have H2 : Hid (Box (((w.alloc (.cells zeroS 63)).alloc (.cells zeroT 51)).alloc (.cells zeroT 51)) g zeroS 63) := x2
  have B2 : Hid (Below w.heap.size w (((w.alloc (.cells zeroS 63)).alloc (.cells zeroT 51)).alloc (.cells zeroT 51))) := b2
  have HG : Hid (g = w.heap.size) := hg
  clear x0 x1 x2 b2 hg
  unfold zeroS zeroT ptr at *
  go_enter Try.func5, Try.ntmps5
  go_wp2_with fail
  refine Calls.mono (c1 _) ?_
  rintro r wx ⟨rfl, hwx⟩
  subst wx
  rw [← HG.out]
  go_wp2_with fail
  refine Calls.mono (c2 _) ?_
  rintro r wx ⟨rfl, hwx⟩
  subst wx
  clear c1 c2
  go_wp2_with fail
  refine Calls.mono c3 ?_
  rintro r w3 ⟨rfl, i3, b3⟩
  have c4 := add_nil i3
  have H3 : Hid (Box w3 g #[.pointer none, .slice none 0 0, .slice none 0 0, .slice none 0 0, .pointer none, .bool false] 63) := H2.out.below b3 H2.out.lt
  have B3 : Hid (Below w.heap.size w w3) := B2.out.trans (b3.mono B2.out.size)
  clear c3 i3 b3 B2
  generalize (((w.alloc (.cells #[.pointer none, .slice none 0 0, .slice none 0 0, .slice none 0 0, .pointer none, .bool false] 63)).alloc (.cells #[.pointer none, .slice none 0 0, .int .i64 0, .pointer none, .pointer none] 51)).alloc (.cells #[.pointer none, .slice none 0 0, .int .i64 0, .pointer none, .pointer none] 51)).heap.size = sg at *
  clear H2
  have n0 : NoS w3 (.pointer none) := .inl rfl
  have n1 := HX.out w3 H3.out
  have d1 := pick_no n0 0
  have d2 := pick_no n1 0
  have d3 := wake_no (find_no n0 id)
  have d4 := wake_no (find_no n1 id)
  have d5 := status_no (find_no n0 id)
  have d6 := ready_no n0
  have d7 := blocked_no n1
  have d8 := steps_no (find_no n0 id)
  have d9 := awake_at w3
  clear n0 n1 HX
  unfold ptr at *
  go_wp2_with fail
  refine Calls.mono c4 ?_
  rintro r wx ⟨rfl, hwx⟩
  subst wx
  clear c4
  go_wp2_with fail
  refine Calls.mono d1 ?_
  rintro r wx ⟨rfl, hwx⟩
  subst wx
  go_wp2_with fail
  refine Calls.mono d2 ?_
  rintro r wx ⟨rfl, hwx⟩
  subst wx
  go_wp2_with fail
  refine Calls.mono d3 ?_
  rintro r wx ⟨rfl, hwx⟩
  subst wx
  go_wp2_with fail
  refine Calls.mono d4 ?_
  rintro r wx ⟨rfl, hwx⟩
  subst wx
  go_wp2_with fail
  refine Calls.mono d5 ?_
  rintro r wx ⟨rfl, hwx⟩
  subst wx
  go_wp2_with fail
  refine Calls.mono d6 ?_
  rintro r wx ⟨rfl, hwx⟩
  subst wx
  go_wp2_with fail
  refine Calls.mono d7 ?_
  rintro r wx ⟨rfl, hwx⟩
  subst wx
  go_wp2_with fail
  refine Calls.mono d8 ?_
  rintro r wx ⟨rfl, hwx⟩
  subst wx
  go_wp2_with fail
  refine Calls.mono d9 ?_
  rintro r w9 ⟨rfl, b9⟩
  have B9 : Hid (Below w.heap.size w w9) := B3.out.trans (b9.mono B3.out.size)
  clear d1 d2 d3 d4 d5 d6 d7 d8 d9 b9
  go_wp2_with fail
  go_ret
  exact ⟨rfl, B9.out⟩
end Go.Proofs.Ytjhhncbadkpbaaa
