/-
  JNoneL: put together.
-/
import Derived.Test.YtglahlbponlepaaG8
/-
  JournalNone: a journal that Open did not make.
-/
namespace Go.Proofs.Ytglahlbponlepaa.J
open Go.RowKit
open Go.Proofs.Ytglahlbponlepaa.Dk (Box)

theorem fields37 : Try.prog.underlying 37 = some (.struct (Try.prog.fieldsOf 37)) := by kernel_rfl
theorem held37 : Try.prog.stoodInHeld 37 = false := by kernel_rfl
theorem eq37 (u : World) (a b c d : Int) : (Op.equalIn 10000 37 (.agg #[.int .i64 a, .int .i64 b, .int .i64 c, .int .i64 d]) (.agg #[.int .i64 a, .int .i64 b, .int .i64 c, .int .i64 d])).run Try.prog u = .ok true u := by
  rw [run_equalIn_agg u 9999 37 _ _ fields37 held37]
  simp only [Program.fieldsOf, Try.underlying37]
  simp [go_sem, Op.eqFields, Try.underlying3]
theorem neq37 (u : World) (a b c d : Int) : (binOp .neq 37 (.agg #[.int .i64 a, .int .i64 b, .int .i64 c, .int .i64 d]) (.agg #[.int .i64 a, .int .i64 b, .int .i64 c, .int .i64 d])).run Try.prog u = .ok (.bool false) u := by
  simp only [binOp]
  simp [Op.equal, Op.maxDepth, eq37]
theorem eql37 (u : World) (a b c d : Int) : (binOp .eql 37 (.agg #[.int .i64 a, .int .i64 b, .int .i64 c, .int .i64 d]) (.agg #[.int .i64 a, .int .i64 b, .int .i64 c, .int .i64 d])).run Try.prog u = .ok (.bool true) u := by
  simp only [binOp]
  simp [Op.equal, Op.maxDepth, eq37]

set_option maxRecDepth 100000 in
set_option maxHeartbeats 4000000 in
theorem none_at (n : Int) (w : World) : Calls Try.prog 4 #[.int .i64 n] w fun r w' => r = .returned (.bool true) ∧ Below w.heap.size w w' := by
  have hq := fun u => neq37 u 0 0 0 0
  have HA : Hid (∀ u, Calls Try.prog 20 #[] u fun r w' => r = .returned (.bool true) ∧ Below u.heap.size u w') := awake_at
  have B0 := ((Below.refl w.heap.size w).alloc (Nat.le_refl _) (.cells #[.pointer none, .pointer none, .int .i64 0, .int .i64 0, .int .i64 0, .int .i64 0, .int .i64 0, .int .i64 0, .int .i64 0, .int .i64 0, .slice none 0 0, .bool false] 47)).alloc (by simp) (.cells #[.pointer none, .pointer (some ⟨w.heap.size, 0, none⟩)] 23)
  have x0 := (Dk.Box.new w #[.pointer none, .pointer none, .int .i64 0, .int .i64 0, .int .i64 0, .int .i64 0, .int .i64 0, .int .i64 0, .int .i64 0, .int .i64 0, .slice none 0 0, .bool false] 47).alloc (.cells #[.pointer none, .pointer (some ⟨w.heap.size, 0, none⟩)] 23)
  have x1 : Box ((w.alloc (.cells #[.pointer none, .pointer none, .int .i64 0, .int .i64 0, .int .i64 0, .int .i64 0, .int .i64 0, .int .i64 0, .int .i64 0, .int .i64 0, .slice none 0 0, .bool false] 47)).alloc (.cells #[.pointer none, .pointer (some ⟨w.heap.size, 0, none⟩)] 23)) (w.heap.size + 1) #[.pointer none, .pointer (some ⟨w.heap.size, 0, none⟩)] 23 := Rg.Box.next w _ _ 23
  go_enter Try.func4, Try.ntmps4
  go_wp2_with fail
  generalize (w.alloc (.cells #[.pointer none, .pointer none, .int .i64 0, .int .i64 0, .int .i64 0, .int .i64 0, .int .i64 0, .int .i64 0, .int .i64 0, .int .i64 0, .slice none 0 0, .bool false] 47)).alloc (.cells #[.pointer none, .pointer (some ⟨w.heap.size, 0, none⟩)] 23) = w0 at B0 x0 x1 ⊢
  have HP : Hid (∀ (u : World) (k : Nat), Below w0.heap.size w0 u → k < 2 → ∃ p, u.cell? ⟨w.heap.size + 1, k, none⟩ = some (.pointer p) ∧ NotMade u (.pointer p)) := fun u k bu hk => by
    have z := bu.size
    have y := x1.below bu
    match k, hk with
    | 0, _ => exact ⟨none, y.cell 0, .inl rfl⟩
    | 1, _ => exact ⟨some ⟨w.heap.size, 0, none⟩, y.cell 1, .inr ⟨_, rfl, (x0.below bu).cell 0, by have := x0.lt; omega⟩⟩
    | k + 2, h => omega
  clear x0 x1
  go_loopw [15] (fun i wr => ∃ k : Nat, k ≤ 2 ∧ i = .int .i64 (k : Int) ∧ Below w0.heap.size w0 wr) (fun i _ => 2 - (intOf i).toNat)
  case atStart => exact ⟨0, by omega, rfl, Below.refl _ _⟩
  case round =>
    obtain ⟨k, hk, rfl, B⟩ := hrel
    by_cases hlt : k < 2
    · obtain ⟨p, hc, hN⟩ := HP.out wr k B hlt
      have hk0 : (0 : Int) ≤ (k : Int) := by omega
      have hki : (k : Int) < 2 := by omega
      go_wp2_with fail
      refine (append_no hN _ _ _ _).mono ?_
      rintro r w1 ⟨rfl, b1⟩
      replace hN := hN.below b1
      replace B := B.trans (b1.mono B.size)
      clear b1 hc
      go_wp2_with fail
      refine (tail_no hN).mono ?_
      rintro r w2 ⟨rfl, rfl⟩
      go_wp2_with fail
      refine (reserve_no hN n).mono ?_
      rintro r w3 ⟨rfl, b3⟩
      replace hN := hN.below b3
      replace B := B.trans (b3.mono B.size)
      clear b3
      go_wp2_with fail
      refine (cancel_no hN n).mono ?_
      rintro r w4 ⟨rfl, b4⟩
      replace hN := hN.below b4
      replace B := B.trans (b4.mono B.size)
      clear b4
      go_wp2_with fail
      refine (flush_no hN).mono ?_
      rintro r w5 ⟨rfl, rfl⟩
      go_wp2_with fail
      refine (release_no hN n).mono ?_
      rintro r w6 ⟨rfl, b6⟩
      replace hN := hN.below b6
      replace B := B.trans (b6.mono B.size)
      clear b6
      go_wp2_with fail
      refine (next_no hN).mono ?_
      rintro r w7 ⟨rfl, rfl⟩
      go_wp2_with fail
      refine (synced_no hN).mono ?_
      rintro r w8 ⟨rfl, rfl⟩
      go_wp2_with fail
      refine (groups_no hN).mono ?_
      rintro r w9 ⟨rfl, rfl⟩
      go_wp2_with fail
      refine (broken_no hN).mono ?_
      rintro r w10 ⟨rfl, rfl⟩
      go_wp2_with fail
      refine (ring_no hN).mono ?_
      rintro r w11 ⟨rfl, b11⟩
      replace B := B.trans (b11.mono B.size)
      clear b11 hN
      go_wp2_with fail
      go_roundw
      case rel => exact ⟨k + 1, by omega, by push_cast; rfl, B⟩
      case measure => simp [intOf]; omega
    · obtain rfl : k = 2 := by omega
      go_wp2_with fail
      refine (HA.out _).mono ?_
      rintro r w1 ⟨rfl, b1⟩
      go_wp2_with fail
      go_ret
      exact ⟨rfl, B0.trans ((B.trans (b1.mono B.size)).mono B0.size)⟩
end Go.Proofs.Ytglahlbponlepaa.J
