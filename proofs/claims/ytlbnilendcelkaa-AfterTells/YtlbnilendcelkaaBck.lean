/-
  Back, Drop.
-/
import Derived.Test.YtlbnilendcelkaaTkq
namespace Go.Proofs.Ytlbnilendcelkaa
open Go.RowKit
namespace I
set_option maxRecDepth 100000 in
set_option maxHeartbeats 4000000 in
theorem back_at {w : World} {B q : Nat} {S : QS Int} {F : Nat → Prop} (h0 : HasQ eI 49 33 w B q S F) (o m : Int) :
    Calls Try.prog 20 #[ptr q, .int .i64 o, .int .i64 m] w fun r w' => r = .returned (.int .i64 (S.back o m).1) ∧ ToQ eI 49 33 w B q (S.back o m).2 F w' := by
  obtain ⟨vw, vd, h, hri⟩ := h0
  have bw := ((Below.refl w.heap.size w).alloc (Nat.le_refl _) (.cells #[.int .i64 o] 3)).alloc (by simp) (.cells #[.int .i64 m] 3)
  have h1 := h.below bw
  have cm := isMade_at h1.box
  by_cases hm : m < 0
  · have e : S.back o m = (0, S) := by unfold QS.back; rw [if_pos hm]
    rw [e]
    have HF := hid (ToQ.same (X := eI) (tQ := 49) (tE := 33) ⟨vw, vd, h, hri⟩ bw)
    clear h h1 hri bw e
    unfold ptr at *
    go_enter Try.func20, Try.ntmps20
    go_wp2_with (go_at_call 24; refine cm.mono ?_; rintro e w' ⟨rfl, rfl⟩)
    go_ret
    exact ⟨rfl, HF.out⟩
  · have e : S.back o m = (((sel (bks S.wait o m) S.wait).length : Int), ⟨sel (fun k => !bks S.wait o m k) S.wait, S.due⟩) := by unfold QS.back; rw [if_neg hm]
    rw [e]
    clear e
    have bw2 := bw.alloc (by simp; omega) (.cells #[.int .i64 0] 3)
    have h2 := h.below bw2
    have x1 := Box.alloc (Box.alloc (Box.new w #[.int .i64 o] 3) (.cells #[.int .i64 m] 3)) (.cells #[.int .i64 0] 3)
    have x3 := Box.alloc (Box.new (w.alloc (.cells #[.int .i64 o] 3)) #[.int .i64 m] 3) (.cells #[.int .i64 0] 3)
    have x2 := Box.new ((w.alloc (.cells #[.int .i64 o] 3)).alloc (.cells #[.int .i64 m] 3)) #[.int .i64 0] 3
    have s1 : (w.alloc (.cells #[.int .i64 o] 3)).heap.size = w.heap.size + 1 := by simp
    have s2 : ((w.alloc (.cells #[.int .i64 o] 3)).alloc (.cells #[.int .i64 m] 3)).heap.size = w.heap.size + 2 := by simp
    rw [s1] at x3
    rw [s2] at x2
    obtain ⟨w1, hw1⟩ : ∃ w1, w1 = ((w.alloc (.cells #[.int .i64 o] 3)).alloc (.cells #[.int .i64 m] 3)).alloc (.cells #[.int .i64 0] 3) := ⟨_, rfl⟩
    have hfq := h.fB
    have hsz : w1.heap.size = w.heap.size + 3 := by rw [hw1]; simp
    have hrm := h.rm
    rw [← hw1] at bw2 h2 x1 x2 x3
    have cp := pickW_at h2 36 #[ptr w.heap.size, ptr (w.heap.size + 2), ptr (w.heap.size + 1)] enters36 (bks S.wait o m) (fun k => [(w.heap.size, #[.int .i64 o], 3), (w.heap.size + 2, #[.int .i64 (((S.wait.take k).filter fun e => e.own = o).length : Int)], 3), (w.heap.size + 1, #[.int .i64 m], 3)]) (fun i => i = w.heap.size + 2)
      (fun x hx => by simp at hx; rcases hx with rfl | rfl | rfl; exact x1; exact x2; exact x3) (fun k x hx => by
        simp at hx
        have hh : ∀ j, w.heap.size ≤ j → ¬ F j := fun j hj hf => by have := (hfq j hf).2; omega
        rcases hx with rfl | rfl | rfl
        · exact ⟨hh _ (Nat.le_refl _), by show w.heap.size < _; omega⟩
        · exact ⟨hh _ (by show w.heap.size ≤ w.heap.size + 2; omega), by show w.heap.size + 2 < _; omega⟩
        · exact ⟨hh _ (by show w.heap.size ≤ w.heap.size + 1; omega), by show w.heap.size + 1 < _; omega⟩)
      (fun k hk => by subst hk; exact ⟨fun hf => by have := (hfq _ hf).2; omega, by omega⟩)
      (fun k hk u hu => cnt_at hk (by omega) (hu (w.heap.size, #[.int .i64 o], 3) (by simp)) (hu (w.heap.size + 2, #[.int .i64 (((S.wait.take k).filter fun e => e.own = o).length : Int)], 3) (by simp)) (hu (w.heap.size + 1, #[.int .i64 m], 3) (by simp)) (by omega) (by omega))
    have HF : Hid (∀ u vw', IsQ eI 49 33 u B q ⟨sel (fun k => !bks S.wait o m k) S.wait, S.due⟩ F vw' vd → Chg (fun k => k = w.heap.size + 2 ∨ F k) w1 u → ToQ eI 49 33 w B q ⟨sel (fun k => !bks S.wait o m k) S.wait, S.due⟩ F u) := fun u vw' g1 g2 =>
      ⟨⟨F, fun k hk => .inl hk, vw', vd, g1, hri⟩, (Chg.ofBelow (S := F) bw2).trans g2 (fun i hi e => by rcases e with e | e; omega; exact e)⟩
    subst hw1
    clear h h1 h2 x1 x2 x3 hfq hsz hri bw bw2 s1 s2 hrm
    unfold ptr at *
    go_enter Try.func20, Try.ntmps20
    go_wp2_with (first | (go_at_call 24; refine cm.mono ?_; rintro e w' ⟨rfl, rfl⟩) | (go_at_call 25; refine cp.mono ?_; rintro e w' ⟨vo, vw', rfl, g1, g2, g3⟩; have hf := HF.out _ vw' g2 g3; have HF2 := hid hf; obtain ⟨ao, co, hvo⟩ := ownsRow_slice g1; subst hvo; clear hf g1 g2 g3 HF cp))
    go_ret
    exact ⟨rfl, HF2.out⟩
theorem drop_at {w : World} {B q : Nat} {S : QS Int} {F : Nat → Prop} (h0 : HasQ eI 49 33 w B q S F) (o : Int) :
    Calls Try.prog 15 #[ptr q, .int .i64 o] w fun r w' => r = .returned (.int .i64 (S.back o 0).1) ∧ ToQ eI 49 33 w B q (S.back o 0).2 F w' := by
  have c0 := back_at h0 o 0
  clear h0
  generalize (S.back o 0) = z at *
  unfold ptr at *
  go_enter Try.func15, Try.ntmps15
  go_wp2_with (go_at_call 20; refine c0.mono ?_; rintro e w' ⟨rfl, hT⟩; have hT := hid hT)
  go_ret
  exact ⟨rfl, hT.out⟩
end I
namespace S
set_option maxRecDepth 100000 in
set_option maxHeartbeats 4000000 in
theorem back_at {w : World} {B q : Nat} {S : QS ByteArray} {F : Nat → Prop} (h0 : HasQ eS 70 67 w B q S F) (o m : Int) :
    Calls Try.prog 45 #[ptr q, .int .i64 o, .int .i64 m] w fun r w' => r = .returned (.int .i64 (S.back o m).1) ∧ ToQ eS 70 67 w B q (S.back o m).2 F w' := by
  obtain ⟨vw, vd, h, hri⟩ := h0
  have bw := ((Below.refl w.heap.size w).alloc (Nat.le_refl _) (.cells #[.int .i64 o] 3)).alloc (by simp) (.cells #[.int .i64 m] 3)
  have h1 := h.below bw
  have cm := isMade_at h1.box
  by_cases hm : m < 0
  · have e : S.back o m = (0, S) := by unfold QS.back; rw [if_pos hm]
    rw [e]
    have HF := hid (ToQ.same (X := eS) (tQ := 70) (tE := 67) ⟨vw, vd, h, hri⟩ bw)
    clear h h1 hri bw e
    unfold ptr at *
    go_enter Try.func45, Try.ntmps45
    go_wp2_with (go_at_call 39; refine cm.mono ?_; rintro e w' ⟨rfl, rfl⟩)
    go_ret
    exact ⟨rfl, HF.out⟩
  · have e : S.back o m = (((sel (bks S.wait o m) S.wait).length : Int), ⟨sel (fun k => !bks S.wait o m k) S.wait, S.due⟩) := by unfold QS.back; rw [if_neg hm]
    rw [e]
    clear e
    have bw2 := bw.alloc (by simp; omega) (.cells #[.int .i64 0] 3)
    have h2 := h.below bw2
    have x1 := Box.alloc (Box.alloc (Box.new w #[.int .i64 o] 3) (.cells #[.int .i64 m] 3)) (.cells #[.int .i64 0] 3)
    have x3 := Box.alloc (Box.new (w.alloc (.cells #[.int .i64 o] 3)) #[.int .i64 m] 3) (.cells #[.int .i64 0] 3)
    have x2 := Box.new ((w.alloc (.cells #[.int .i64 o] 3)).alloc (.cells #[.int .i64 m] 3)) #[.int .i64 0] 3
    have s1 : (w.alloc (.cells #[.int .i64 o] 3)).heap.size = w.heap.size + 1 := by simp
    have s2 : ((w.alloc (.cells #[.int .i64 o] 3)).alloc (.cells #[.int .i64 m] 3)).heap.size = w.heap.size + 2 := by simp
    rw [s1] at x3
    rw [s2] at x2
    obtain ⟨w1, hw1⟩ : ∃ w1, w1 = ((w.alloc (.cells #[.int .i64 o] 3)).alloc (.cells #[.int .i64 m] 3)).alloc (.cells #[.int .i64 0] 3) := ⟨_, rfl⟩
    have hfq := h.fB
    have hsz : w1.heap.size = w.heap.size + 3 := by rw [hw1]; simp
    have hrm := h.rm
    rw [← hw1] at bw2 h2 x1 x2 x3
    have cp := pickW_at h2 49 #[ptr w.heap.size, ptr (w.heap.size + 2), ptr (w.heap.size + 1)] enters36 (bks S.wait o m) (fun k => [(w.heap.size, #[.int .i64 o], 3), (w.heap.size + 2, #[.int .i64 (((S.wait.take k).filter fun e => e.own = o).length : Int)], 3), (w.heap.size + 1, #[.int .i64 m], 3)]) (fun i => i = w.heap.size + 2)
      (fun x hx => by simp at hx; rcases hx with rfl | rfl | rfl; exact x1; exact x2; exact x3) (fun k x hx => by
        simp at hx
        have hh : ∀ j, w.heap.size ≤ j → ¬ F j := fun j hj hf => by have := (hfq j hf).2; omega
        rcases hx with rfl | rfl | rfl
        · exact ⟨hh _ (Nat.le_refl _), by show w.heap.size < _; omega⟩
        · exact ⟨hh _ (by show w.heap.size ≤ w.heap.size + 2; omega), by show w.heap.size + 2 < _; omega⟩
        · exact ⟨hh _ (by show w.heap.size ≤ w.heap.size + 1; omega), by show w.heap.size + 1 < _; omega⟩)
      (fun k hk => by subst hk; exact ⟨fun hf => by have := (hfq _ hf).2; omega, by omega⟩)
      (fun k hk u hu => cnt_at hk (by omega) (hu (w.heap.size, #[.int .i64 o], 3) (by simp)) (hu (w.heap.size + 2, #[.int .i64 (((S.wait.take k).filter fun e => e.own = o).length : Int)], 3) (by simp)) (hu (w.heap.size + 1, #[.int .i64 m], 3) (by simp)) (by omega) (by omega))
    have HF : Hid (∀ u vw', IsQ eS 70 67 u B q ⟨sel (fun k => !bks S.wait o m k) S.wait, S.due⟩ F vw' vd → Chg (fun k => k = w.heap.size + 2 ∨ F k) w1 u → ToQ eS 70 67 w B q ⟨sel (fun k => !bks S.wait o m k) S.wait, S.due⟩ F u) := fun u vw' g1 g2 =>
      ⟨⟨F, fun k hk => .inl hk, vw', vd, g1, hri⟩, (Chg.ofBelow (S := F) bw2).trans g2 (fun i hi e => by rcases e with e | e; omega; exact e)⟩
    subst hw1
    clear h h1 h2 x1 x2 x3 hfq hsz hri bw bw2 s1 s2 hrm
    unfold ptr at *
    go_enter Try.func45, Try.ntmps45
    go_wp2_with (first | (go_at_call 39; refine cm.mono ?_; rintro e w' ⟨rfl, rfl⟩) | (go_at_call 40; refine cp.mono ?_; rintro e w' ⟨vo, vw', rfl, g1, g2, g3⟩; have hf := HF.out _ vw' g2 g3; have HF2 := hid hf; obtain ⟨ao, co, hvo⟩ := ownsRow_slice g1; subst hvo; clear hf g1 g2 g3 HF cp))
    go_ret
    exact ⟨rfl, HF2.out⟩
theorem drop_at {w : World} {B q : Nat} {S : QS ByteArray} {F : Nat → Prop} (h0 : HasQ eS 70 67 w B q S F) (o : Int) :
    Calls Try.prog 35 #[ptr q, .int .i64 o] w fun r w' => r = .returned (.int .i64 (S.back o 0).1) ∧ ToQ eS 70 67 w B q (S.back o 0).2 F w' := by
  have c0 := back_at h0 o 0
  clear h0
  generalize (S.back o 0) = z at *
  unfold ptr at *
  go_enter Try.func35, Try.ntmps35
  go_wp2_with (go_at_call 45; refine c0.mono ?_; rintro e w' ⟨rfl, hT⟩; have hT := hid hT)
  go_ret
  exact ⟨rfl, hT.out⟩
end S
end Go.Proofs.Ytlbnilendcelkaa
