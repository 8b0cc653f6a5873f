/-
  VNoneL: put together.
-/
import Derived.Test.YtnldkpckojhbhaaGreatG8
/-
  VolumeNone: a volume that Mount did not make.
-/
namespace Go.Proofs.YtnldkpckojhbhaaGreat.V
open Go.RowKit
open Go.Proofs.YtnldkpckojhbhaaGreat.Dk (Box)

theorem neqL (u : World) : (binOp .neq 57 (.agg #[.int .i64 0, .int .i64 0, .int .i64 0, .int .i64 0, .int .i64 0, .int .i64 0, .int .i64 0]) (.agg #[.int .i64 0, .int .i64 0, .int .i64 0, .int .i64 0, .int .i64 0, .int .i64 0, .int .i64 0])).run Tryz.prog u = .ok (.bool false) u := by
  have h := La.eq23 u 0 0 0 0 0 0 0 0 0 0 0 0 0 0
  simp [La.same7] at h
  simp only [binOp]
  simp [Op.equal, Op.maxDepth, h]
set_option maxRecDepth 100000 in
set_option maxHeartbeats 4000000 in
theorem none_at (n : Int) (w : World) : Calls Tryz.prog 6 #[.int .i64 n] w fun r w' => r = .returned (.bool true) ∧ Below w.heap.size w w' := by
  have hq := neqL
  have HA : Hid (∀ u, Calls Tryz.prog 32 #[] u fun r w' => r = .returned (.bool true) ∧ Below u.heap.size u w') := awake_at
  have B0 := ((Below.refl w.heap.size w).alloc (Nat.le_refl _) (.cells #[.pointer none, .pointer none, .int .i64 0, .int .i64 0, .int .i64 0, .int .i64 0, .int .i64 0, .int .i64 0, .int .i64 0, .int .i64 0, .pointer none, .map none, .bool false] 80)).alloc (by simp) (.cells #[.pointer none, .pointer (some ⟨w.heap.size, 0, none⟩)] 23)
  have x0 := (Dk.Box.new w #[.pointer none, .pointer none, .int .i64 0, .int .i64 0, .int .i64 0, .int .i64 0, .int .i64 0, .int .i64 0, .int .i64 0, .int .i64 0, .pointer none, .map none, .bool false] 80).alloc (.cells #[.pointer none, .pointer (some ⟨w.heap.size, 0, none⟩)] 23)
  have x1 : Box ((w.alloc (.cells #[.pointer none, .pointer none, .int .i64 0, .int .i64 0, .int .i64 0, .int .i64 0, .int .i64 0, .int .i64 0, .int .i64 0, .int .i64 0, .pointer none, .map none, .bool false] 80)).alloc (.cells #[.pointer none, .pointer (some ⟨w.heap.size, 0, none⟩)] 23)) (w.heap.size + 1) #[.pointer none, .pointer (some ⟨w.heap.size, 0, none⟩)] 23 := Rg.Box.next w _ _ 23
  go_enter Tryz.func6, Tryz.ntmps6
  go_wp2_with fail
  generalize (w.alloc (.cells #[.pointer none, .pointer none, .int .i64 0, .int .i64 0, .int .i64 0, .int .i64 0, .int .i64 0, .int .i64 0, .int .i64 0, .int .i64 0, .pointer none, .map none, .bool false] 80)).alloc (.cells #[.pointer none, .pointer (some ⟨w.heap.size, 0, none⟩)] 23) = w0 at B0 x0 x1 ⊢
  have HP : Hid (∀ (u : World) (k : Nat), Below w0.heap.size w0 u → k < 2 → ∃ p, u.cell? ⟨w.heap.size + 1, k, none⟩ = some (.pointer p) ∧ NoV u p) := fun u k bu hk => by
    have y := x1.below bu
    match k, hk with
    | 0, _ => exact ⟨none, y.cell 0, .inl rfl⟩
    | 1, _ => exact ⟨some ⟨w.heap.size, 0, none⟩, y.cell 1, .inr ⟨_, rfl, (x0.below bu).cell 0⟩⟩
    | k + 2, h => omega
  clear x0 x1
  go_loopw [15] (fun i wr => ∃ k : Nat, k ≤ 2 ∧ i = .int .i64 (k : Int) ∧ Below w0.heap.size w0 wr) (fun i _ => 2 - (intOf i).toNat)
  case atStart => exact ⟨0, by omega, rfl, Below.refl _ _⟩
  case round =>
    obtain ⟨k, hk, rfl, B⟩ := hrel
    by_cases hlt : k < 2
    · obtain ⟨p, hc, hN⟩ := HP.out wr k B hlt
      have hk0 : (0 : Int) ≤ (k : Int) := by omega
      have hki : (k : Int) < 2 := by omega
      go_wp2_with fail
      refine (read_no hN n).mono ?_
      rintro r wv0 ⟨rfl, rfl⟩
      clear hc
      go_wp2_with fail
      refine (commit_no hN _).mono ?_
      rintro r wv1 ⟨rfl, rfl⟩
      go_wp2_with fail
      refine (sync_no hN).mono ?_
      rintro r wv2 ⟨rfl, rfl⟩
      go_wp2_with fail
      refine (checkpoint_no hN).mono ?_
      rintro r wv3 ⟨rfl, rfl⟩
      go_wp2_with fail
      refine (next_no hN).mono ?_
      rintro r wv4 ⟨rfl, rfl⟩
      go_wp2_with fail
      refine (synced_no hN).mono ?_
      rintro r wv5 ⟨rfl, rfl⟩
      go_wp2_with fail
      refine (fits_no hN 1).mono ?_
      rintro r wv6 ⟨rfl, b1⟩
      replace hN := hN.below b1
      replace B := B.trans (b1.mono B.size)
      clear b1
      go_wp2_with fail
      refine (broken_no hN).mono ?_
      rintro r wv7 ⟨rfl, rfl⟩
      go_wp2_with fail
      refine (layout_no hN).mono ?_
      rintro r wv8 ⟨rfl, b1⟩
      replace hN := hN.below b1
      replace B := B.trans (b1.mono B.size)
      clear b1
      clear hN
      go_wp2_with fail
      go_roundw
      case rel => exact ⟨k + 1, by omega, by push_cast; rfl, B⟩
      case measure => simp [intOf]; omega
    · obtain rfl : k = 2 := by omega
      go_wp2_with fail
      refine (HA.out _).mono ?_
      rintro r w1 ⟨rfl, b1⟩
      go_wp2_with fail
      go_ret
      exact ⟨rfl, B0.trans ((B.trans (b1.mono B.size)).mono B0.size)⟩
end Go.Proofs.YtnldkpckojhbhaaGreat.V
