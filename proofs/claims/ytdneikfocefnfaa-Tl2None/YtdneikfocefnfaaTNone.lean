/-
  Tl2None's walk.
-/
import Derived.Test.YtdneikfocefnfaaTAwake
namespace Go.Proofs.Ytdneikfocefnfaa.T
open Go.RowKit Go.Proofs.Ytdneikfocefnfaa.C
set_option maxRecDepth 100000 in
set_option maxHeartbeats 8000000 in
theorem none_at (i o : Int) (ho2 : o < 9223372036854775808) (w : World) : Calls Try.prog 4 #[.int .i64 i, .int .i64 o] w fun r w' => r = .returned (.bool true) ∧ Below w.heap.size w w' := by
  obtain ⟨u0, hu0⟩ : ∃ u0, u0 = w.alloc (.cells #[.pointer none, .pointer none, .int .i64 0, .int .i64 0, .pointer none, .int .u8 0, .slice none 0 0, .int .i64 0, .bool false] 53) := ⟨_, rfl⟩
  have HU0 : Hid (u0 = w.alloc (.cells #[.pointer none, .pointer none, .int .i64 0, .int .i64 0, .pointer none, .int .u8 0, .slice none 0 0, .int .i64 0, .bool false] 53)) := hu0
  have b0 : Hid (Below w.heap.size w u0) := by unfold Hid; rw [hu0]; exact (Below.refl w.heap.size w).alloc (Nat.le_refl _) _
  have x0 : Box u0 w.heap.size #[.pointer none, .pointer none, .int .i64 0, .int .i64 0, .pointer none, .int .u8 0, .slice none 0 0, .int .i64 0, .bool false] 53 := by rw [hu0]; exact Box.new w _ 53
  have hZ : Hid (∀ u, Below u0.heap.size u0 u → NoT u (some ⟨w.heap.size, 0, none⟩)) := fun u hu => noT_zero (x0.below hu x0.lt) rfl
  obtain ⟨u1, hu1⟩ : ∃ u1, u1 = u0.alloc (.cells #[.pointer none, .slice none 0 0, .int .i64 0] 58) := ⟨_, rfl⟩
  have HU1 : Hid (u1 = u0.alloc (.cells #[.pointer none, .slice none 0 0, .int .i64 0] 58)) := hu1
  have b1 : Hid (Below u0.heap.size u0 u1) := by unfold Hid; rw [hu1]; exact (Below.refl u0.heap.size u0).alloc (Nat.le_refl _) _
  have x1 : Box u1 u0.heap.size #[.pointer none, .slice none 0 0, .int .i64 0] 58 := by rw [hu1]; exact Box.new u0 _ 58
  have q1 := begin_nil (w := u0) (v := .pointer none) (.inl rfl) o
  have q2 := begin_nil (w := u1) (v := .pointer (some ⟨u0.heap.size, 0, none⟩)) (.inr ⟨_, _, _, rfl, x1⟩) o
  have q3 := has_new (n := 1) (Below.refl u1.heap.size u1) (by omega) (by omega)
  have sz : Hid (w.heap.size ≤ u0.heap.size ∧ u0.heap.size ≤ u1.heap.size) := ⟨b0.out.size, b1.out.size⟩
  clear hu0 hu1 x0 x1
  unfold ptr at *
  go_enter Try.func4, Try.ntmps4
  go_wp2_with fail
  rw [← HU0.out]
  refine Calls.mono q1 ?_
  rintro e wx ⟨rfl, hwx⟩
  subst wx
  clear q1 HU0
  go_wp2_with fail
  rw [← HU1.out]
  refine Calls.mono q2 ?_
  rintro e wx ⟨rfl, hwx⟩
  subst wx
  clear q2 HU1
  go_wp2_with fail
  refine Calls.mono q3 ?_
  rintro e w2 ⟨m, gm, rfl, h⟩
  have H2 : Hid (Has u1 w2 m gm (C.M0 1) []) := h
  clear h q3
  by_cases ho : o < 1
  · have ho' : ¬ 1 ≤ o := by omega
    have hd : decide (1 ≤ o) = false := decide_eq_false ho'
    obtain ⟨p, X, hS, _⟩ := H2.out
    have q4 := begin_arg hS.mm o ho
    unfold ptr at q4
    clear hS
    go_wp2_with fail
    refine Calls.mono q4 ?_
    rintro e w3 ⟨rfl, hwx⟩
    subst w3
    obtain ⟨w3, hw3⟩ : ∃ w3, w3 = w2 := ⟨_, rfl⟩
    rw [← hw3] at H2 ⊢
    clear hw3 q4
    have H3 : Hid (Has u1 w3 m gm (C.M0 1) []) := H2
    clear H2
    have hbel : Hid (Below u0.heap.size u0 w3) := (b1.out.trans (H3.out.bel.mono sz.out.2))
    have hz := hZ.out w3 hbel.out
    have hn := noT_nil w3
    have r0 := read_no hn i
    go_wp2_with fail
    refine Calls.mono r0 ?_
    rintro e wx ⟨rfl, hwx⟩
    subst wx
    clear r0
    have r1 := step_no hz 
    go_wp2_with fail
    refine Calls.mono r1 ?_
    rintro e wx ⟨rfl, hwx⟩
    subst wx
    clear r1
    have r2 := seen_no hn i
    go_wp2_with fail
    refine Calls.mono r2 ?_
    rintro e wx ⟨rfl, hwx⟩
    subst wx
    clear r2
    have r3 := value_no hz i
    go_wp2_with fail
    refine Calls.mono r3 ?_
    rintro e wx ⟨rfl, hwx⟩
    subst wx
    clear r3
    have r4 := write_no hn i 1
    go_wp2_with fail
    refine Calls.mono r4 ?_
    rintro e wx ⟨rfl, hwx⟩
    subst wx
    clear r4
    have r5 := mark_no hz 
    go_wp2_with fail
    refine Calls.mono r5 ?_
    rintro e wx ⟨rfl, hwx⟩
    subst wx
    clear r5
    have r6 := keep_no hn 
    go_wp2_with fail
    refine Calls.mono r6 ?_
    rintro e wx ⟨rfl, hwx⟩
    subst wx
    clear r6
    have r7 := undo_no hz 
    go_wp2_with fail
    refine Calls.mono r7 ?_
    rintro e wx ⟨rfl, hwx⟩
    subst wx
    clear r7
    have r8 := abort_no hn 
    go_wp2_with fail
    refine Calls.mono r8 ?_
    rintro e wx ⟨rfl, hwx⟩
    subst wx
    clear r8
    have r9 := status_no hn 
    go_wp2_with fail
    refine Calls.mono r9 ?_
    rintro e wx ⟨rfl, hwx⟩
    subst wx
    clear r9
    have r10 := depth_no hn 
    go_wp2_with fail
    refine Calls.mono r10 ?_
    rintro e wx ⟨rfl, hwx⟩
    subst wx
    clear r10
    have r11 := depth_no hz 
    go_wp2_with fail
    refine Calls.mono r11 ?_
    rintro e wx ⟨rfl, hwx⟩
    subst wx
    clear r11
    have r12 := cells_no hn 
    go_wp2_with fail
    refine Calls.mono r12 ?_
    rintro e wx ⟨rfl, hwx⟩
    subst wx
    clear r12
    have r13 := cells_no hz 
    go_wp2_with fail
    refine Calls.mono r13 ?_
    rintro e wx ⟨rfl, hwx⟩
    subst wx
    clear r13
    have r14 := claimed_no hn 
    go_wp2_with fail
    refine Calls.mono r14 ?_
    rintro e wx ⟨rfl, hwx⟩
    subst wx
    clear r14
    have r15 := claimed_no hz 
    go_wp2_with fail
    refine Calls.mono r15 ?_
    rintro e wx ⟨rfl, hwx⟩
    subst wx
    clear r15
    have r16 := version_no hz 
    go_wp2_with fail
    refine Calls.mono r16 ?_
    rintro e wx ⟨rfl, hwx⟩
    subst wx
    clear r16
    have r17 := reads_no hn 
    go_wp2_with fail
    refine Calls.mono r17 ?_
    rintro e wx ⟨rfl, hwx⟩
    subst wx
    clear r17
    have r18 := writes_no hz 
    go_wp2_with fail
    refine Calls.mono r18 ?_
    rintro e wx ⟨rfl, hwx⟩
    subst wx
    clear r18
    have ra := awake_at w3
    go_wp2_with fail
    refine Calls.mono ra ?_
    rintro e w9 ⟨rfl, hb9⟩
    have HB9 : Hid (Below w.heap.size w w9) := (b0.out.trans (hbel.out.mono sz.out.1)).trans (hb9.mono (Nat.le_trans sz.out.1 hbel.out.size))
    clear hb9 ra
    go_wp2
    go_ret
    first
      | exact ⟨rfl, HB9.out⟩
      | (refine ⟨?_, HB9.out⟩; simp [ho'])
  · have ho' : 1 ≤ o := by omega
    have q4 := H2.out.begin o ho' ho2
    unfold ptr at q4
    go_wp2_with fail
    refine Calls.mono q4 ?_
    rintro e w3 ⟨g, rfl, h⟩
    have H3 : Hid (Has u1 w3 m gm (C.M0 1) ([] ++ [(g, X0 o (C.M0 1).k)])) := h
    clear h q4 H2
    have hbel : Hid (Below u0.heap.size u0 w3) := (b1.out.trans (H3.out.bel.mono sz.out.2))
    have hz := hZ.out w3 hbel.out
    have hn := noT_nil w3
    have r0 := read_no hn i
    go_wp2_with fail
    refine Calls.mono r0 ?_
    rintro e wx ⟨rfl, hwx⟩
    subst wx
    clear r0
    have r1 := step_no hz 
    go_wp2_with fail
    refine Calls.mono r1 ?_
    rintro e wx ⟨rfl, hwx⟩
    subst wx
    clear r1
    have r2 := seen_no hn i
    go_wp2_with fail
    refine Calls.mono r2 ?_
    rintro e wx ⟨rfl, hwx⟩
    subst wx
    clear r2
    have r3 := value_no hz i
    go_wp2_with fail
    refine Calls.mono r3 ?_
    rintro e wx ⟨rfl, hwx⟩
    subst wx
    clear r3
    have r4 := write_no hn i 1
    go_wp2_with fail
    refine Calls.mono r4 ?_
    rintro e wx ⟨rfl, hwx⟩
    subst wx
    clear r4
    have r5 := mark_no hz 
    go_wp2_with fail
    refine Calls.mono r5 ?_
    rintro e wx ⟨rfl, hwx⟩
    subst wx
    clear r5
    have r6 := keep_no hn 
    go_wp2_with fail
    refine Calls.mono r6 ?_
    rintro e wx ⟨rfl, hwx⟩
    subst wx
    clear r6
    have r7 := undo_no hz 
    go_wp2_with fail
    refine Calls.mono r7 ?_
    rintro e wx ⟨rfl, hwx⟩
    subst wx
    clear r7
    have r8 := abort_no hn 
    go_wp2_with fail
    refine Calls.mono r8 ?_
    rintro e wx ⟨rfl, hwx⟩
    subst wx
    clear r8
    have r9 := status_no hn 
    go_wp2_with fail
    refine Calls.mono r9 ?_
    rintro e wx ⟨rfl, hwx⟩
    subst wx
    clear r9
    have r10 := depth_no hn 
    go_wp2_with fail
    refine Calls.mono r10 ?_
    rintro e wx ⟨rfl, hwx⟩
    subst wx
    clear r10
    have r11 := depth_no hz 
    go_wp2_with fail
    refine Calls.mono r11 ?_
    rintro e wx ⟨rfl, hwx⟩
    subst wx
    clear r11
    have r12 := cells_no hn 
    go_wp2_with fail
    refine Calls.mono r12 ?_
    rintro e wx ⟨rfl, hwx⟩
    subst wx
    clear r12
    have r13 := cells_no hz 
    go_wp2_with fail
    refine Calls.mono r13 ?_
    rintro e wx ⟨rfl, hwx⟩
    subst wx
    clear r13
    have r14 := claimed_no hn 
    go_wp2_with fail
    refine Calls.mono r14 ?_
    rintro e wx ⟨rfl, hwx⟩
    subst wx
    clear r14
    have r15 := claimed_no hz 
    go_wp2_with fail
    refine Calls.mono r15 ?_
    rintro e wx ⟨rfl, hwx⟩
    subst wx
    clear r15
    have r16 := version_no hz 
    go_wp2_with fail
    refine Calls.mono r16 ?_
    rintro e wx ⟨rfl, hwx⟩
    subst wx
    clear r16
    have r17 := reads_no hn 
    go_wp2_with fail
    refine Calls.mono r17 ?_
    rintro e wx ⟨rfl, hwx⟩
    subst wx
    clear r17
    have r18 := writes_no hz 
    go_wp2_with fail
    refine Calls.mono r18 ?_
    rintro e wx ⟨rfl, hwx⟩
    subst wx
    clear r18
    have ra := awake_at w3
    go_wp2_with fail
    refine Calls.mono ra ?_
    rintro e w9 ⟨rfl, hb9⟩
    have HB9 : Hid (Below w.heap.size w w9) := (b0.out.trans (hbel.out.mono sz.out.1)).trans (hb9.mono (Nat.le_trans sz.out.1 hbel.out.size))
    clear hb9 ra
    go_wp2
    go_ret
    first
      | exact ⟨rfl, HB9.out⟩
      | (refine ⟨?_, HB9.out⟩; simp [ho'])
end Go.Proofs.Ytdneikfocefnfaa.T
