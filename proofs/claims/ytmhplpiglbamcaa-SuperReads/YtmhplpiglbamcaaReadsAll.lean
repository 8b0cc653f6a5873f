/-
  SuperReads' walk.
-/
import Derived.Test.YtmhplpiglbamcaaTells
namespace Go.Proofs.Ytmhplpiglbamcaa
open Go.RowKit

theorem f27 : Try.prog.underlying 27 = some (.struct (Try.prog.fieldsOf 27)) := by kernel_rfl
theorem h27 : Try.prog.stoodInHeld 27 = false := by kernel_rfl
theorem g27 : Try.prog.eqGuardType Try.prog.depth 27 = false := by kernel_rfl
theorem eql27 (u : World) (a b c d : Int) : (binOp .eql 27 (.agg #[.int .i64 a, .int .i64 b, .int .i64 c, .int .i64 d]) (.agg #[.int .i64 a, .int .i64 b, .int .i64 c, .int .i64 d])).run Try.prog u = .ok (.bool true) u := by
  rw [run_eql_struct, run_equalIn_agg u 9999 27 _ _ f27 h27]
  simp only [Program.fieldsOf, Try.underlying27]
  simp [go_sem, Op.eqFields, Try.underlying3]
theorem guardE27 (u : World) (x y : Operand) (xs ys : Array Value) : (eqGuard .eql 27 x y (.agg xs) (.agg ys)).run Try.prog u = .ok () u := run_eqGuard_agg u .eql 27 x y xs ys g27

theorem reads_long (a : Option Addr) (n cap : Nat) (w : World) (h1 : n ≤ 9223372036854775807) (h : 10000 < n) :
    Calls Try.prog 5 #[.slice a n cap] w fun r w' => r = .returned (.bool true) ∧ Below w.heap.size w w' := by
  go_enter Try.func5, Try.ntmps5
  go_wp2_with fail
  refine (awake_any _).mono ?_
  rintro r w1 ⟨rfl, c1⟩
  go_wp2
  go_ret
  exact ⟨rfl, c1⟩

set_option maxRecDepth 100000 in
set_option maxHeartbeats 4000000 in
theorem reads_any (a : Option Addr) (n cap : Nat) (xs : List UInt8) (w : World) (h1 : n ≤ 10000) (hl : Hid (xs.length = n)) (hr : Rd w a xs) (hnil : a = none → cap = 0) :
    Calls Try.prog 5 #[.slice a n cap] w fun r w' => r = .returned (.bool true) ∧ Below w.heap.size w w' := by
  have ge := guardE27
  have el := eql27
  go_enter Try.func5, Try.ntmps5
  go_wp2_with fail
  refine (lent_at cap n a xs w hl.out (by omega) hr hnil).mono ?_
  rintro r w1 ⟨g, c1, rfl, hc1, hm1, hg, p1, B⟩
  obtain ⟨S, hS⟩ : ∃ S, S = (getSuper xs).getD zeroS := ⟨_, rfl⟩
  obtain ⟨I, hI⟩ : ∃ I, I = (getInode xs).getD zeroI := ⟨_, rfl⟩
  obtain ⟨N, hN⟩ : ∃ N, N = (getNode xs).getD [] := ⟨_, rfl⟩
  have HS : Hid _ := hS
  have HI : Hid _ := hI
  have HN : Hid _ := hN
  clear hS hI hN
  go_wp2_with fail
  refine (getSuper_at n c1 (some ⟨g, 0, none⟩) xs w1 hl.out (by omega) hm1 p1.head).mono ?_
  rintro r w2 ⟨rfl, bn⟩
  rw [← HS.out]
  replace p1 := p1.below bn (Nat.le_refl _)
  replace B := B.trans (bn.mono B.size)
  clear bn
  unfold supV
  have bn := (Below.refl w2.heap.size w2).alloc (Nat.le_refl _) (.cells #[.int .i64 S.b, .int .i64 S.e, .int .i64 S.q, .int .i64 S.t] 27)
  have x0 := Box.new w2 #[.int .i64 S.b, .int .i64 S.e, .int .i64 S.q, .int .i64 S.t] 27
  replace p1 := p1.below bn (Nat.le_refl _)
  replace B := B.trans (bn.mono B.size)
  clear bn
  obtain ⟨w3, hw3⟩ : ∃ u, u = w2.alloc (.cells #[.int .i64 S.b, .int .i64 S.e, .int .i64 S.q, .int .i64 S.t] 27) := ⟨_, rfl⟩
  rw [← hw3] at p1 x0 B
  obtain ⟨Gx0, hG⟩ : ∃ G, G = w2.heap.size := ⟨_, rfl⟩
  rw [← hG] at x0
  have H3 : Hid _ := hw3
  have HG : Hid _ := hG
  clear hw3 hG
  go_upto_region 5 with fail
  rw [← H3.out, ← HG.out]
  clear H3 HG
  go_wp2_with fail
  refine (refGetSuper_at n cap a xs w3 hl.out (by omega) (hr.below B (Nat.le_refl _))).mono ?_
  rintro r w4 ⟨rfl, bn⟩
  rw [← HS.out]
  replace p1 := p1.below bn (Nat.le_refl _)
  replace x0 := x0.below bn
  replace B := B.trans (bn.mono B.size)
  clear bn
  unfold supV
  have bn := (Below.refl w4.heap.size w4).alloc (Nat.le_refl _) (.cells #[.int .i64 S.b, .int .i64 S.e, .int .i64 S.q, .int .i64 S.t] 27)
  have x1 := Box.new w4 #[.int .i64 S.b, .int .i64 S.e, .int .i64 S.q, .int .i64 S.t] 27
  replace p1 := p1.below bn (Nat.le_refl _)
  replace x0 := x0.below bn
  replace B := B.trans (bn.mono B.size)
  clear bn
  obtain ⟨w5, hw5⟩ : ∃ u, u = w4.alloc (.cells #[.int .i64 S.b, .int .i64 S.e, .int .i64 S.q, .int .i64 S.t] 27) := ⟨_, rfl⟩
  rw [← hw5] at p1 x0 x1 B
  obtain ⟨Gx1, hG⟩ : ∃ G, G = w4.heap.size := ⟨_, rfl⟩
  rw [← hG] at x1
  have H3 : Hid _ := hw5
  have HG : Hid _ := hG
  clear hw5 hG
  go_upto_region 6 with fail
  rw [← H3.out, ← HG.out]
  clear H3 HG
  go_wp2_with fail
  refine (getInode_at n c1 (some ⟨g, 0, none⟩) xs w5 hl.out (by omega) hm1 p1.head).mono ?_
  rintro r w6 ⟨v0, rfl, o0, bn⟩
  rw [← HI.out] at o0 ⊢
  obtain ⟨ai0, ci0, rfl, _, hI1, hI2, ri0, _, _⟩ := ownsE_parts o0
  have hIm0 : I.d.length ≤ 9223372036854775807 := by omega
  clear hI1 hI2
  clear o0
  replace p1 := p1.below bn (Nat.le_refl _)
  replace x0 := x0.below bn
  replace x1 := x1.below bn
  replace B := B.trans (bn.mono B.size)
  clear bn
  unfold inoV
  have bn := (Below.refl w6.heap.size w6).alloc (Nat.le_refl _) (.cells #[.int .u8 (I.k : Int), .int .i64 I.l, .int .i64 I.s, .slice ai0 I.d.length ci0, .int .i64 I.n] 32)
  have y0 := Box.new w6 #[.int .u8 (I.k : Int), .int .i64 I.l, .int .i64 I.s, .slice ai0 I.d.length ci0, .int .i64 I.n] 32
  replace p1 := p1.below bn (Nat.le_refl _)
  replace x0 := x0.below bn
  replace x1 := x1.below bn
  replace ri0 := ri0.below bn (Nat.le_refl _)
  replace B := B.trans (bn.mono B.size)
  clear bn
  obtain ⟨w7, hw7⟩ : ∃ u, u = w6.alloc (.cells #[.int .u8 (I.k : Int), .int .i64 I.l, .int .i64 I.s, .slice ai0 I.d.length ci0, .int .i64 I.n] 32) := ⟨_, rfl⟩
  rw [← hw7] at p1 x0 x1 ri0 y0 B
  obtain ⟨Gy0, hG⟩ : ∃ G, G = w6.heap.size := ⟨_, rfl⟩
  rw [← hG] at y0
  have H3 : Hid _ := hw7
  have HG : Hid _ := hG
  clear hw7 hG
  go_upto_region 7 with fail
  rw [← H3.out, ← HG.out]
  clear H3 HG
  go_wp2_with fail
  refine (refGetInode_at n cap a xs w7 hl.out (hr.below B (Nat.le_refl _))).mono ?_
  rintro r w8 ⟨v1, rfl, o1, bn⟩
  rw [← HI.out] at o1 ⊢
  obtain ⟨ai1, ci1, rfl, _, _, _, ri1, _, _⟩ := ownsE_parts o1
  clear o1
  replace p1 := p1.below bn (Nat.le_refl _)
  replace x0 := x0.below bn
  replace x1 := x1.below bn
  replace ri0 := ri0.below bn (Nat.le_refl _)
  replace y0 := y0.below bn
  replace B := B.trans (bn.mono B.size)
  clear bn
  unfold inoV
  have bn := (Below.refl w8.heap.size w8).alloc (Nat.le_refl _) (.cells #[.int .u8 (I.k : Int), .int .i64 I.l, .int .i64 I.s, .slice ai1 I.d.length ci1, .int .i64 I.n] 32)
  have y1 := Box.new w8 #[.int .u8 (I.k : Int), .int .i64 I.l, .int .i64 I.s, .slice ai1 I.d.length ci1, .int .i64 I.n] 32
  replace p1 := p1.below bn (Nat.le_refl _)
  replace x0 := x0.below bn
  replace x1 := x1.below bn
  replace ri0 := ri0.below bn (Nat.le_refl _)
  replace y0 := y0.below bn
  replace ri1 := ri1.below bn (Nat.le_refl _)
  replace B := B.trans (bn.mono B.size)
  clear bn
  obtain ⟨w9, hw9⟩ : ∃ u, u = w8.alloc (.cells #[.int .u8 (I.k : Int), .int .i64 I.l, .int .i64 I.s, .slice ai1 I.d.length ci1, .int .i64 I.n] 32) := ⟨_, rfl⟩
  rw [← hw9] at p1 x0 x1 ri0 y0 ri1 y1 B
  obtain ⟨Gy1, hG⟩ : ∃ G, G = w8.heap.size := ⟨_, rfl⟩
  rw [← hG] at y1
  have H3 : Hid _ := hw9
  have HG : Hid _ := hG
  clear hw9 hG
  go_upto_region 8 with fail
  rw [← H3.out, ← HG.out]
  clear H3 HG
  go_wp2_with fail
  refine (getNode_at n c1 (some ⟨g, 0, none⟩) xs w9 hl.out (by omega) hm1 p1.head).mono ?_
  rintro r w10 ⟨v0, rfl, o0, bn⟩
  rw [← HN.out] at o0
  obtain ⟨an0, cn0, rfl, _, hcn0, hmn0, rn0, _, _⟩ := ownsE_parts o0
  clear o0
  replace p1 := p1.below bn (Nat.le_refl _)
  replace x0 := x0.below bn
  replace x1 := x1.below bn
  replace ri0 := ri0.below bn (Nat.le_refl _)
  replace y0 := y0.below bn
  replace ri1 := ri1.below bn (Nat.le_refl _)
  replace y1 := y1.below bn
  replace B := B.trans (bn.mono B.size)
  clear bn
  go_wp2_with fail
  refine (refGetNode_at n cap a xs w10 hl.out (by omega) (hr.below B (Nat.le_refl _))).mono ?_
  rintro r w11 ⟨v1, rfl, o1, bn⟩
  rw [← HN.out] at o1
  obtain ⟨an1, cn1, rfl, _, hcn1, hmn1, rn1, _, _⟩ := ownsE_parts o1
  clear o1
  replace p1 := p1.below bn (Nat.le_refl _)
  replace x0 := x0.below bn
  replace x1 := x1.below bn
  replace ri0 := ri0.below bn (Nat.le_refl _)
  replace y0 := y0.below bn
  replace ri1 := ri1.below bn (Nat.le_refl _)
  replace y1 := y1.below bn
  replace rn0 := rn0.below bn (Nat.le_refl _)
  replace B := B.trans (bn.mono B.size)
  clear bn
  generalize erG (getSuper xs).isSome = E1
  generalize erG (getInode xs).isSome = E2
  generalize erG (getNode xs).isSome = E3
  have q0 := x0.cell 0
  have q1 := x0.cell 1
  have q2 := x0.cell 2
  have q3 := x0.cell 3
  simp only [List.getElem?_toArray, List.getElem?_cons_zero, List.getElem?_cons_succ] at q0 q1 q2 q3
  have g0 := x1.cell 0
  have g1 := x1.cell 1
  have g2 := x1.cell 2
  have g3 := x1.cell 3
  simp only [List.getElem?_toArray, List.getElem?_cons_zero, List.getElem?_cons_succ] at g0 g1 g2 g3
  have s0 := y0.cell 0
  have s1 := y0.cell 1
  have s2 := y0.cell 2
  have s3 := y0.cell 3
  have s4 := y0.cell 4
  simp only [List.getElem?_toArray, List.getElem?_cons_zero, List.getElem?_cons_succ] at s0 s1 s2 s3 s4
  have t0 := y1.cell 0
  have t1 := y1.cell 1
  have t2 := y1.cell 2
  have t3 := y1.cell 3
  have t4 := y1.cell 4
  simp only [List.getElem?_toArray, List.getElem?_cons_zero, List.getElem?_cons_succ] at t0 t1 t2 t3 t4
  have hIl : I.d.length ≤ 9223372036854775807 := by exact hIm0
  go_wp2_with fail
  refine (sameInode_at ci0 ci1 I.d.length I.d.length ai0 ai1 I I w11 rfl rfl hIl ri0 ri1).mono ?_
  rintro r w12 ⟨rfl, bn⟩
  rw [sameI_self]
  clear q0 q1 q2 q3
  clear g0 g1 g2 g3
  clear s0 s1 s2 s3 s4
  clear t0 t1 t2 t3 t4
  replace p1 := p1.below bn (Nat.le_refl _)
  replace x0 := x0.below bn
  replace x1 := x1.below bn
  replace ri0 := ri0.below bn (Nat.le_refl _)
  replace y0 := y0.below bn
  replace ri1 := ri1.below bn (Nat.le_refl _)
  replace y1 := y1.below bn
  replace rn0 := rn0.below bn (Nat.le_refl _)
  replace rn1 := rn1.below bn (Nat.le_refl _)
  replace B := B.trans (bn.mono B.size)
  clear bn
  go_wp2_with fail
  refine (sameExtents_at cn0 cn1 N.length N.length an0 an1 N N w12 rfl rfl (by omega) rn0 rn1).mono ?_
  rintro r w13 ⟨rfl, bn⟩
  rw [decide_eq_true rfl]
  replace p1 := p1.below bn (Nat.le_refl _)
  replace x0 := x0.below bn
  replace x1 := x1.below bn
  replace ri0 := ri0.below bn (Nat.le_refl _)
  replace y0 := y0.below bn
  replace ri1 := ri1.below bn (Nat.le_refl _)
  replace y1 := y1.below bn
  replace rn0 := rn0.below bn (Nat.le_refl _)
  replace rn1 := rn1.below bn (Nat.le_refl _)
  replace B := B.trans (bn.mono B.size)
  clear bn
  go_wp2_with fail
  refine (kept_at g c1 cap n a xs w13 hl.out (by omega) hc1 p1 (hr.below B (Nat.le_refl _))).mono ?_
  rintro r w14 ⟨rfl, rfl⟩
  go_wp2_with fail
  refine (awake_any w13).mono ?_
  rintro r w15 ⟨rfl, bn⟩
  replace B := B.trans (bn.mono B.size)
  clear bn x0 x1 y0 y1 ri0 ri1 rn0 rn1 p1
  go_wp2
  go_ret
  exact ⟨rfl, B⟩
end Go.Proofs.Ytmhplpiglbamcaa
