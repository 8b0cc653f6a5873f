/-
  RingNumbers: the chapter's examples.
-/
import Derived.Test.YtoopdooepnojhaaTells
namespace Go.Proofs.Ytoopdooepnojhaa
open Go.RowKit

theorem m1 (w : World) : Calls Try.prog 6 #[.agg #[.int .i64 5, .int .i64 3, .int .i64 3, .int .i64 0], .int .i64 (-1)] w fun r w' => r = .returned (.tuple #[.agg #[.int .i64 0, .int .i64 0, .int .i64 0, .int .i64 0], .int .i64 2]) ∧ Below w.heap.size w w' := reserve_no 5 3 3 0 (-1) 2 w (.inl ⟨by decide, rfl⟩)
theorem m2 (w : World) : Calls Try.prog 7 #[.agg #[.int .i64 5, .int .i64 3, .int .i64 3, .int .i64 0], .int .i64 6] w fun r w' => r = .returned (.tuple #[.agg #[.int .i64 0, .int .i64 0, .int .i64 0, .int .i64 0], .int .i64 2]) ∧ Below w.heap.size w w' := drop_no 5 3 3 0 6 2 w (.inr ⟨by decide, rfl⟩)
theorem m3 (w : World) : Calls Try.prog 8 #[.agg #[.int .i64 5, .int .i64 3, .int .i64 3, .int .i64 0], .int .i64 1] w fun r w' => r = .returned (.tuple #[.agg #[.int .i64 0, .int .i64 0, .int .i64 0, .int .i64 0], .int .i64 2]) ∧ Below w.heap.size w w' := release_no 5 3 3 0 1 2 w (.inr ⟨by decide, rfl⟩)
theorem m4 (w : World) : Calls Try.prog 9 #[.agg #[.int .i64 5, .int .i64 3, .int .i64 3, .int .i64 0], .int .i64 1, .int .i64 1] w fun r w' => r = .returned (.tuple #[.agg #[.int .i64 0, .int .i64 0, .int .i64 0, .int .i64 0], .int .i64 0, .int .i64 2]) ∧ Below w.heap.size w w' := put_no 5 3 3 0 1 1 w (by decide)
theorem m5 (w : World) : Calls Try.prog 9 #[.agg #[.int .i64 5, .int .i64 3, .int .i64 3, .int .i64 0], .int .i64 1, .int .i64 (-1)] w fun r w' => r = .returned (.tuple #[.agg #[.int .i64 0, .int .i64 0, .int .i64 0, .int .i64 0], .int .i64 0, .int .i64 2]) ∧ Below w.heap.size w w' := put_no 5 3 3 0 1 (-1) w (by decide)
theorem m6 (w : World) : Calls Try.prog 10 #[.agg #[.int .i64 5, .int .i64 3, .int .i64 3, .int .i64 0], .int .i64 5] w fun r w' => r = .returned (.tuple #[.int .i64 0, .int .i64 2]) ∧ Below w.heap.size w w' := at_no 5 3 3 0 5 w (by decide)

def lit : Array Value := #[.int .i64 0, .int .i64 0, .int .i64 0, .int .i64 0, .int .i64 513, .int .i64 0, .int .i64 0, .int .i64 0, .int .i64 5, .int .i64 5, .int .i64 0, .int .i64 0, .int .i64 5, .int .i64 0, .int .i64 6, .int .i64 0, .int .i64 5, .int .i64 0, .int .i64 3, .int .i64 3, .int .i64 5, .int .i64 0, .int .i64 (-1), .int .i64 0, .int .i64 5, .int .i64 (-1), .int .i64 0, .int .i64 0, .int .i64 5, .int .i64 0, .int .i64 0, .int .i64 (-1), .int .i64 5, .int .i64 0, .int .i64 9223372036854775807, .int .i64 9223372036854775807]
theorem lit_row (k g : Nat) (hk : k < 9) : ∃ S T U H : Int, ¬ R S T U H ∧ ∀ W : World, Box W g lit 23 → W.cell? ⟨g, k * 4, none⟩ = some (.int .i64 S) ∧ W.cell? ⟨g, k * 4 + 1, none⟩ = some (.int .i64 T) ∧ W.cell? ⟨g, k * 4 + 2, none⟩ = some (.int .i64 U) ∧ W.cell? ⟨g, k * 4 + 3, none⟩ = some (.int .i64 H) := by
  have : k = 0 ∨ k = 1 ∨ k = 2 ∨ k = 3 ∨ k = 4 ∨ k = 5 ∨ k = 6 ∨ k = 7 ∨ k = 8 := by omega
  rcases this with rfl | rfl | rfl | rfl | rfl | rfl | rfl | rfl | rfl
  · exact ⟨0, 0, 0, 0, by decide, fun W x => ⟨x.cell 0, x.cell 1, x.cell 2, x.cell 3⟩⟩
  · exact ⟨513, 0, 0, 0, by decide, fun W x => ⟨x.cell 4, x.cell 5, x.cell 6, x.cell 7⟩⟩
  · exact ⟨5, 5, 0, 0, by decide, fun W x => ⟨x.cell 8, x.cell 9, x.cell 10, x.cell 11⟩⟩
  · exact ⟨5, 0, 6, 0, by decide, fun W x => ⟨x.cell 12, x.cell 13, x.cell 14, x.cell 15⟩⟩
  · exact ⟨5, 0, 3, 3, by decide, fun W x => ⟨x.cell 16, x.cell 17, x.cell 18, x.cell 19⟩⟩
  · exact ⟨5, 0, (-1), 0, by decide, fun W x => ⟨x.cell 20, x.cell 21, x.cell 22, x.cell 23⟩⟩
  · exact ⟨5, (-1), 0, 0, by decide, fun W x => ⟨x.cell 24, x.cell 25, x.cell 26, x.cell 27⟩⟩
  · exact ⟨5, 0, 0, (-1), by decide, fun W x => ⟨x.cell 28, x.cell 29, x.cell 30, x.cell 31⟩⟩
  · exact ⟨5, 0, 9223372036854775807, 9223372036854775807, by decide, fun W x => ⟨x.cell 32, x.cell 33, x.cell 34, x.cell 35⟩⟩
set_option maxRecDepth 100000 in
set_option maxHeartbeats 4000000 in
theorem numbers_at (w : World) : Calls Try.prog 3 #[] w fun r w' => r = .returned (.bool true) ∧ Below w.heap.size w w' := by
  have x := Box.new w #[.int .i64 5, .int .i64 3, .int .i64 3, .int .i64 0] 23
  have B := (Below.refl w.heap.size w).alloc (Nat.le_refl _) (.cells #[.int .i64 5, .int .i64 3, .int .i64 3, .int .i64 0] 23)
  obtain ⟨c0, c1, c2, c3⟩ := x.all4
  go_enter Try.func3, Try.ntmps3
  go_wp2_with fail
  refine (m1 _).mono ?_
  rintro r w1 ⟨rfl, b⟩
  replace x := x.below b
  replace B := keep B b
  clear b c0 c1 c2 c3
  replace x := x.alloc (.cells #[.int .i64 0, .int .i64 0, .int .i64 0, .int .i64 0] 23)
  replace B := B.alloc B.size (.cells #[.int .i64 0, .int .i64 0, .int .i64 0, .int .i64 0] 23)
  obtain ⟨c0, c1, c2, c3⟩ := x.all4
  go_wp2_with fail
  refine (m2 _).mono ?_
  rintro r w2 ⟨rfl, b⟩
  replace x := x.below b
  replace B := keep B b
  clear b c0 c1 c2 c3
  replace x := x.alloc (.cells #[.int .i64 0, .int .i64 0, .int .i64 0, .int .i64 0] 23)
  replace B := B.alloc B.size (.cells #[.int .i64 0, .int .i64 0, .int .i64 0, .int .i64 0] 23)
  obtain ⟨c0, c1, c2, c3⟩ := x.all4
  go_wp2_with fail
  refine (m3 _).mono ?_
  rintro r w3 ⟨rfl, b⟩
  replace x := x.below b
  replace B := keep B b
  clear b c0 c1 c2 c3
  replace x := x.alloc (.cells #[.int .i64 0, .int .i64 0, .int .i64 0, .int .i64 0] 23)
  replace B := B.alloc B.size (.cells #[.int .i64 0, .int .i64 0, .int .i64 0, .int .i64 0] 23)
  obtain ⟨c0, c1, c2, c3⟩ := x.all4
  go_wp2_with fail
  refine (m4 _).mono ?_
  rintro r w4 ⟨rfl, b⟩
  replace x := x.below b
  replace B := keep B b
  clear b c0 c1 c2 c3
  replace x := x.alloc (.cells #[.int .i64 0, .int .i64 0, .int .i64 0, .int .i64 0] 23)
  replace B := B.alloc B.size (.cells #[.int .i64 0, .int .i64 0, .int .i64 0, .int .i64 0] 23)
  obtain ⟨c0, c1, c2, c3⟩ := x.all4
  go_wp2_with fail
  refine (m5 _).mono ?_
  rintro r w5 ⟨rfl, b⟩
  replace x := x.below b
  replace B := keep B b
  clear b c0 c1 c2 c3
  replace x := x.alloc (.cells #[.int .i64 0, .int .i64 0, .int .i64 0, .int .i64 0] 23)
  replace B := B.alloc B.size (.cells #[.int .i64 0, .int .i64 0, .int .i64 0, .int .i64 0] 23)
  obtain ⟨c0, c1, c2, c3⟩ := x.all4
  go_wp2_with fail
  refine (m6 _).mono ?_
  rintro r w6 ⟨rfl, b⟩
  replace x := x.below b
  replace B := keep B b
  clear b c0 c1 c2 c3
  obtain ⟨c0, c1, c2, c3⟩ := x.all4
  go_wp2_with fail
  have y := Box.new w6 lit 23
  replace x := x.alloc (.cells lit 23)
  replace B := B.alloc B.size (.cells lit 23)
  clear c0 c1 c2 c3
  have rr : ∀ S T U H, ¬ R S T U H → ∀ u, Calls Try.prog 6 #[.agg #[.int .i64 S, .int .i64 T, .int .i64 U, .int .i64 H], .int .i64 0] u fun r w' => r = .returned (.tuple #[.agg #[.int .i64 0, .int .i64 0, .int .i64 0, .int .i64 0], .int .i64 2]) ∧ Below u.heap.size u w' := fun S T U H h u => reserve_no S T U H 0 2 u (.inl ⟨fun q => h q.1, rfl⟩)
  have rg : ∀ S T U H, ¬ R S T U H → ∀ u, Calls Try.prog 11 #[.agg #[.int .i64 S, .int .i64 T, .int .i64 U, .int .i64 H]] u fun r w' => r = .returned (.bool false) ∧ Below u.heap.size u w' := fun S T U H h u => by
    have := right_at S T U H u
    rw [decide_eq_false h] at this
    exact this
  have rf : ∀ S T U H, ¬ R S T U H → ∀ u, Calls Try.prog 12 #[.agg #[.int .i64 S, .int .i64 T, .int .i64 U, .int .i64 H]] u fun r w' => r = .returned (.int .i64 0) ∧ Below u.heap.size u w' := fun S T U H h u => by
    have := free_at S T U H u
    rw [fr, if_neg h] at this
    exact this
  have Hrr : Hid _ := rr
  have Hrg : Hid _ := rg
  have Hrf : Hid _ := rf
  clear rr rg rf
  generalize hgg : w6.heap.size = gg at y ⊢
  clear hgg
  go_loopw [64] (fun i wr => ∃ k : Nat, k ≤ 9 ∧ i = .int .i64 (k : Int) ∧ Box wr gg lit 23 ∧ Box wr w.heap.size #[.int .i64 5, .int .i64 3, .int .i64 3, .int .i64 0] 23 ∧ Below w.heap.size w wr) (fun i _ => 9 - (intOf i).toNat)
  case atStart => exact ⟨0, by omega, rfl, y, x, B⟩
  case round =>
    obtain ⟨k, hk, rfl, y1, x1, B1⟩ := hrel
    clear y x B
    by_cases hlt : k < 9
    · obtain ⟨S, T, U, H, hR, hc⟩ := lit_row k gg hlt
      obtain ⟨c0, c1, c2, c3⟩ := hc _ y1
      clear hc
      have z1 := Box.new wr #[.int .i64 S, .int .i64 T, .int .i64 U, .int .i64 H] 23
      go_wp2_with fail
      refine (Hrr.out S T U H hR _).mono ?_
      rintro r v1 ⟨rfl, b⟩
      replace y1 := (y1.alloc _).below b
      replace x1 := (x1.alloc _).below b
      replace z1 := z1.below b
      replace B1 := keepA B1 b
      replace y1 := y1.alloc (.cells #[.int .i64 0, .int .i64 0, .int .i64 0, .int .i64 0] 23)
      replace x1 := x1.alloc (.cells #[.int .i64 0, .int .i64 0, .int .i64 0, .int .i64 0] 23)
      replace z1 := z1.alloc (.cells #[.int .i64 0, .int .i64 0, .int .i64 0, .int .i64 0] 23)
      replace B1 := B1.alloc B1.size (.cells #[.int .i64 0, .int .i64 0, .int .i64 0, .int .i64 0] 23)
      clear b c0 c1 c2 c3
      obtain ⟨c0, c1, c2, c3⟩ := z1.all4
      go_wp2_with fail
      refine (Hrg.out S T U H hR _).mono ?_
      rintro r v2 ⟨rfl, b⟩
      replace y1 := y1.below b
      replace x1 := x1.below b
      replace z1 := z1.below b
      replace B1 := keep B1 b
      clear b c0 c1 c2 c3
      obtain ⟨c0, c1, c2, c3⟩ := z1.all4
      go_wp2_with fail
      refine (Hrf.out S T U H hR _).mono ?_
      rintro r v3 ⟨rfl, b⟩
      replace y1 := y1.below b
      replace x1 := x1.below b
      replace B1 := keep B1 b
      clear b c0 c1 c2 c3 z1
      go_wp2_with fail
      go_roundw
      case rel => exact ⟨k + 1, by omega, by push_cast; rfl, y1, x1, B1⟩
      case measure => simp [intOf]; omega
    · obtain rfl : k = 9 := by omega
      clear Hrr Hrg Hrf y1
      obtain ⟨c0, c1, c2, c3⟩ := x1.all4
      go_wp2_with fail
      refine (free_at 5 3 3 0 _).mono ?_
      rintro r v1 ⟨rfl, b⟩
      replace B1 := keep B1 b
      clear b c0 c1 c2 c3
      rw [show fr 5 3 3 0 = 2 by decide]
      go_wp2_with fail
      refine (right_at 512 511 500 12 _).mono ?_
      rintro r v2 ⟨rfl, b⟩
      replace B1 := keep B1 b
      clear b
      rw [decide_eq_true (show R 512 511 500 12 by decide)]
      go_wp2_with fail
      refine (awake_at _).mono ?_
      rintro r v3 ⟨rfl, b⟩
      replace B1 := keep B1 b
      clear b
      go_wp2_with fail
      go_ret
      exact ⟨rfl, B1⟩
end Go.Proofs.Ytoopdooepnojhaa
