/-
  The chapter's examples, as every statement asks them; RingTells.
-/
import Derived.Test.YtoopdooepnojhaaRefDrop
namespace Go.Proofs.Ytoopdooepnojhaa
open Go.RowKit

theorem Box.via {w w' : World} {g : Nat} {cs : Array Value} {t : TypeId} (hb : Below w.heap.size w w') (h : Box w g cs t) : Box w' g cs t := h.below hb
theorem fields23 : Try.prog.underlying 23 = some (.struct (Try.prog.fieldsOf 23)) := by kernel_rfl
theorem held23 : Try.prog.stoodInHeld 23 = false := by kernel_rfl
theorem guard23 : Try.prog.eqGuardType Try.prog.depth 23 = false := by kernel_rfl
theorem eqs23 (u : World) (a b c d : Int) : (Op.equalIn 10000 23 (.agg #[.int .i64 a, .int .i64 b, .int .i64 c, .int .i64 d]) (.agg #[.int .i64 a, .int .i64 b, .int .i64 c, .int .i64 d])).run Try.prog u = .ok true u := by
  rw [run_equalIn_agg u 9999 23 _ _ fields23 held23]
  simp only [Program.fieldsOf, Try.underlying23]
  simp [go_sem, Op.eqFields, Try.underlying3]
theorem eql23 (u : World) (a b c d : Int) : (binOp .eql 23 (.agg #[.int .i64 a, .int .i64 b, .int .i64 c, .int .i64 d]) (.agg #[.int .i64 a, .int .i64 b, .int .i64 c, .int .i64 d])).run Try.prog u = .ok (.bool true) u := by
  rw [run_eql_struct, eqs23]
  rfl
theorem neq23 (u : World) (a b c d : Int) : (binOp .neq 23 (.agg #[.int .i64 a, .int .i64 b, .int .i64 c, .int .i64 d]) (.agg #[.int .i64 a, .int .i64 b, .int .i64 c, .int .i64 d])).run Try.prog u = .ok (.bool false) u := by
  rw [run_neq_struct, eqs23]
  rfl
theorem guardE23 (u : World) (x y : Operand) (xs ys : Array Value) : (eqGuard .eql 23 x y (.agg xs) (.agg ys)).run Try.prog u = .ok () u := run_eqGuard_agg u .eql 23 x y xs ys guard23
theorem guardN23 (u : World) (x y : Operand) (xs ys : Array Value) : (eqGuard .neq 23 x y (.agg xs) (.agg ys)).run Try.prog u = .ok () u := run_eqGuard_agg u .neq 23 x y xs ys guard23

theorem k1 (w : World) : Calls Try.prog 9 #[.agg #[.int .i64 5, .int .i64 3, .int .i64 0, .int .i64 0], .int .i64 3, .int .i64 0] w fun r w' => r = .returned (.tuple #[.agg #[.int .i64 5, .int .i64 3, .int .i64 3, .int .i64 0], .int .i64 3, .int .i64 0]) ∧ Below w.heap.size w w' := put_ok 5 3 0 0 3 0 w (by decide) (by decide) (by decide) (by decide)
theorem k2 (w : World) : Calls Try.prog 10 #[.agg #[.int .i64 5, .int .i64 3, .int .i64 3, .int .i64 0], .int .i64 2] w fun r w' => r = .returned (.tuple #[.int .i64 0, .int .i64 0]) ∧ Below w.heap.size w w' := at_ok 5 3 3 0 2 w (by decide) (by decide) (by decide)
theorem k3 (w : World) : Calls Try.prog 6 #[.agg #[.int .i64 5, .int .i64 3, .int .i64 3, .int .i64 0], .int .i64 2] w fun r w' => r = .returned (.tuple #[.agg #[.int .i64 5, .int .i64 3, .int .i64 3, .int .i64 2], .int .i64 0]) ∧ Below w.heap.size w w' := reserve_ok 5 3 3 0 2 w (by decide) (by decide) (by decide)
theorem k4 (w : World) : Calls Try.prog 9 #[.agg #[.int .i64 5, .int .i64 3, .int .i64 3, .int .i64 2], .int .i64 1, .int .i64 0] w fun r w' => r = .returned (.tuple #[.agg #[.int .i64 0, .int .i64 0, .int .i64 0, .int .i64 0], .int .i64 0, .int .i64 5]) ∧ Below w.heap.size w w' := put_full 5 3 3 2 1 0 w (by decide) (by decide) (by decide) (by decide) (by decide)
theorem k5 (w : World) : Calls Try.prog 9 #[.agg #[.int .i64 5, .int .i64 3, .int .i64 3, .int .i64 2], .int .i64 2, .int .i64 1] w fun r w' => r = .returned (.tuple #[.agg #[.int .i64 0, .int .i64 0, .int .i64 0, .int .i64 0], .int .i64 0, .int .i64 5]) ∧ Below w.heap.size w w' := put_full 5 3 3 2 2 1 w (by decide) (by decide) (by decide) (by decide) (by decide)
theorem k6 (w : World) : Calls Try.prog 9 #[.agg #[.int .i64 5, .int .i64 3, .int .i64 3, .int .i64 2], .int .i64 2, .int .i64 2] w fun r w' => r = .returned (.tuple #[.agg #[.int .i64 5, .int .i64 3, .int .i64 5, .int .i64 0], .int .i64 1, .int .i64 0]) ∧ Below w.heap.size w w' := put_ok 5 3 3 2 2 2 w (by decide) (by decide) (by decide) (by decide)
theorem k7 (w : World) : Calls Try.prog 7 #[.agg #[.int .i64 5, .int .i64 3, .int .i64 5, .int .i64 0], .int .i64 4] w fun r w' => r = .returned (.tuple #[.agg #[.int .i64 5, .int .i64 2, .int .i64 1, .int .i64 0], .int .i64 0]) ∧ Below w.heap.size w w' := drop_ok 5 3 5 0 4 w (by decide) (by decide) (by decide)

theorem awake_at (w : World) : Calls Try.prog 13 #[] w fun r w' => r = .returned (.bool true) ∧ Below w.heap.size w w' := by
  have g1 := guardE23
  have g2 := eql23
  go_enter Try.func13, Try.ntmps13
  go_wp2_with fail
  refine (k1 _).mono ?_
  rintro r w1 ⟨rfl, b⟩
  have B := b
  clear b
  have x1 := Box.new w1 #[.int .i64 5, .int .i64 3, .int .i64 3, .int .i64 0] 23
  have y10 := x1.all4
  obtain ⟨a10, b10, c10, d10⟩ := y10
  go_wp2_with fail
  refine (k2 _).mono ?_
  rintro r w2 ⟨rfl, b⟩
  have B1 := keepA B b
  clear B
  have B := B1
  clear B1
  replace x1 := x1.below b
  clear b
  have y11 := x1.all4
  obtain ⟨a11, b11, c11, d11⟩ := y11
  go_wp2_with fail
  refine (k3 _).mono ?_
  rintro r w3 ⟨rfl, b⟩
  have B2 := keep B b
  clear B
  have B := B2
  clear B2
  replace x1 := x1.below b
  clear b
  replace x1 := x1.alloc (.cells #[.int .i64 5, .int .i64 3, .int .i64 3, .int .i64 2] 23)
  have x3 := Box.new w3 #[.int .i64 5, .int .i64 3, .int .i64 3, .int .i64 2] 23
  have y12 := x1.all4
  obtain ⟨a12, b12, c12, d12⟩ := y12
  have y32 := x3.all4
  obtain ⟨a32, b32, c32, d32⟩ := y32
  go_wp2_with fail
  refine (k4 _).mono ?_
  rintro r w4 ⟨rfl, b⟩
  have B3 := keepA B b
  clear B
  have B := B3
  clear B3
  replace x1 := x1.below b
  replace x3 := x3.below b
  clear b
  replace x1 := x1.alloc (.cells #[.int .i64 0, .int .i64 0, .int .i64 0, .int .i64 0] 23)
  replace x3 := x3.alloc (.cells #[.int .i64 0, .int .i64 0, .int .i64 0, .int .i64 0] 23)
  have x4 := Box.new w4 #[.int .i64 0, .int .i64 0, .int .i64 0, .int .i64 0] 23
  have y13 := x1.all4
  obtain ⟨a13, b13, c13, d13⟩ := y13
  have y33 := x3.all4
  obtain ⟨a33, b33, c33, d33⟩ := y33
  have y43 := x4.all4
  obtain ⟨a43, b43, c43, d43⟩ := y43
  go_wp2_with fail
  refine (k5 _).mono ?_
  rintro r w5 ⟨rfl, b⟩
  have B4 := keepA B b
  clear B
  have B := B4
  clear B4
  replace x1 := x1.below b
  replace x3 := x3.below b
  replace x4 := x4.below b
  clear b
  replace x1 := x1.alloc (.cells #[.int .i64 0, .int .i64 0, .int .i64 0, .int .i64 0] 23)
  replace x3 := x3.alloc (.cells #[.int .i64 0, .int .i64 0, .int .i64 0, .int .i64 0] 23)
  replace x4 := x4.alloc (.cells #[.int .i64 0, .int .i64 0, .int .i64 0, .int .i64 0] 23)
  have x5 := Box.new w5 #[.int .i64 0, .int .i64 0, .int .i64 0, .int .i64 0] 23
  have y14 := x1.all4
  obtain ⟨a14, b14, c14, d14⟩ := y14
  have y34 := x3.all4
  obtain ⟨a34, b34, c34, d34⟩ := y34
  have y44 := x4.all4
  obtain ⟨a44, b44, c44, d44⟩ := y44
  have y54 := x5.all4
  obtain ⟨a54, b54, c54, d54⟩ := y54
  go_wp2_with fail
  refine (k6 _).mono ?_
  rintro r w6 ⟨rfl, b⟩
  have B5 := keepA B b
  clear B
  have B := B5
  clear B5
  replace x1 := x1.below b
  replace x3 := x3.below b
  replace x4 := x4.below b
  replace x5 := x5.below b
  clear b
  replace x1 := x1.alloc (.cells #[.int .i64 5, .int .i64 3, .int .i64 5, .int .i64 0] 23)
  replace x3 := x3.alloc (.cells #[.int .i64 5, .int .i64 3, .int .i64 5, .int .i64 0] 23)
  replace x4 := x4.alloc (.cells #[.int .i64 5, .int .i64 3, .int .i64 5, .int .i64 0] 23)
  replace x5 := x5.alloc (.cells #[.int .i64 5, .int .i64 3, .int .i64 5, .int .i64 0] 23)
  have x6 := Box.new w6 #[.int .i64 5, .int .i64 3, .int .i64 5, .int .i64 0] 23
  have y15 := x1.all4
  obtain ⟨a15, b15, c15, d15⟩ := y15
  have y35 := x3.all4
  obtain ⟨a35, b35, c35, d35⟩ := y35
  have y45 := x4.all4
  obtain ⟨a45, b45, c45, d45⟩ := y45
  have y55 := x5.all4
  obtain ⟨a55, b55, c55, d55⟩ := y55
  have y65 := x6.all4
  obtain ⟨a65, b65, c65, d65⟩ := y65
  go_wp2_with fail
  refine (k7 _).mono ?_
  rintro r w7 ⟨rfl, b⟩
  have B6 := keepA B b
  clear B
  have B := B6
  clear B6
  replace x1 := x1.below b
  replace x3 := x3.below b
  replace x4 := x4.below b
  replace x5 := x5.below b
  replace x6 := x6.below b
  clear b
  replace x1 := x1.alloc (.cells #[.int .i64 5, .int .i64 2, .int .i64 1, .int .i64 0] 23)
  replace x3 := x3.alloc (.cells #[.int .i64 5, .int .i64 2, .int .i64 1, .int .i64 0] 23)
  replace x4 := x4.alloc (.cells #[.int .i64 5, .int .i64 2, .int .i64 1, .int .i64 0] 23)
  replace x5 := x5.alloc (.cells #[.int .i64 5, .int .i64 2, .int .i64 1, .int .i64 0] 23)
  replace x6 := x6.alloc (.cells #[.int .i64 5, .int .i64 2, .int .i64 1, .int .i64 0] 23)
  have x7 := Box.new w7 #[.int .i64 5, .int .i64 2, .int .i64 1, .int .i64 0] 23
  have y16 := x1.all4
  obtain ⟨a16, b16, c16, d16⟩ := y16
  have y36 := x3.all4
  obtain ⟨a36, b36, c36, d36⟩ := y36
  have y46 := x4.all4
  obtain ⟨a46, b46, c46, d46⟩ := y46
  have y56 := x5.all4
  obtain ⟨a56, b56, c56, d56⟩ := y56
  have y66 := x6.all4
  obtain ⟨a66, b66, c66, d66⟩ := y66
  have y76 := x7.all4
  obtain ⟨a76, b76, c76, d76⟩ := y76
  replace B := B.alloc B.size (.cells #[.int .i64 5, .int .i64 2, .int .i64 1, .int .i64 0] 23)
  go_wp2_with fail
  go_ret
  exact ⟨rfl, B⟩

end Go.Proofs.Ytoopdooepnojhaa
