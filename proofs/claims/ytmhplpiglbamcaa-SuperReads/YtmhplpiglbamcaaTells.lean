/-
  SuperTells' walk.
-/
import Derived.Test.YtmhplpiglbamcaaCopies
import Derived.Test.YtmhplpiglbamcaaAwake
namespace Go.Proofs.Ytmhplpiglbamcaa
open Go.RowKit

set_option maxRecDepth 100000 in
set_option maxHeartbeats 2000000 in
theorem tells_long (b e q t : Int) (k : Nat) (l s d : Int) (ai : Option Addr) (m ci : Nat) (a : Option Addr) (n cap : Nat) (w : World) (h1 : n ≤ 9223372036854775807) (h2 : m ≤ 9223372036854775807) (h : 600 < n ∨ (n ≤ 600 ∧ 600 < m)) :
    Calls Try.prog 4 #[.agg #[.int .i64 b, .int .i64 e, .int .i64 q, .int .i64 t], .agg #[.int .u8 (k : Int), .int .i64 l, .int .i64 s, .slice ai m ci, .int .i64 d], .slice a n cap] w fun r w' => r = .returned (.bool true) ∧ Below w.heap.size w w' := by
  have b1 := (Below.refl w.heap.size w).alloc (Nat.le_refl _) (.cells #[.int .i64 b, .int .i64 e, .int .i64 q, .int .i64 t] 27)
  obtain ⟨u1, hu1⟩ : ∃ u, u = w.alloc (.cells #[.int .i64 b, .int .i64 e, .int .i64 q, .int .i64 t] 27) := ⟨_, rfl⟩
  rw [← hu1] at b1
  have B0 := b1.alloc b1.size (.cells #[.int .u8 (k : Int), .int .i64 l, .int .i64 s, .slice ai m ci, .int .i64 d] 32)
  rcases h with h | ⟨ha, h⟩
  all_goals
    go_enter Try.func4, Try.ntmps4
    go_wp2_with fail
    rw [← hu1]
    refine (awake_any _).mono ?_
    rintro r w1 ⟨rfl, c1⟩
    have B1 := B0.trans (c1.mono B0.size)
    go_wp2
    go_ret
    exact ⟨rfl, B1⟩

set_option maxRecDepth 100000 in
set_option maxHeartbeats 4000000 in
theorem tells_any (b e q t : Int) (k : Nat) (l s d : Int) (ai : Option Addr) (m ci : Nat) (is : List Ext) (a : Option Addr) (n cap : Nat) (es : List Ext) (w : World) (h1 : n ≤ 600) (h2 : m ≤ 600) (hli : Hid (is.length = m)) (hwi : ∀ e ∈ is, wfE e) (hri : RdE w ai is) (hni : ai = none → ci = 0) (hl : Hid (es.length = n)) (hwe : ∀ e ∈ es, wfE e) (hre : RdE w a es) (hne : a = none → cap = 0) :
    Calls Try.prog 4 #[.agg #[.int .i64 b, .int .i64 e, .int .i64 q, .int .i64 t], .agg #[.int .u8 (k : Int), .int .i64 l, .int .i64 s, .slice ai m ci, .int .i64 d], .slice a n cap] w fun r w' => r = .returned (.bool true) ∧ Below w.heap.size w w' := by
  have b1 := (Below.refl w.heap.size w).alloc (Nat.le_refl _) (.cells #[.int .i64 b, .int .i64 e, .int .i64 q, .int .i64 t] 27)
  have x1 := Box.new w #[.int .i64 b, .int .i64 e, .int .i64 q, .int .i64 t] 27
  obtain ⟨u1, hu1⟩ : ∃ u, u = w.alloc (.cells #[.int .i64 b, .int .i64 e, .int .i64 q, .int .i64 t] 27) := ⟨_, rfl⟩
  have s1 : u1.heap.size = w.heap.size + 1 := by rw [hu1]; simp
  rw [← hu1] at b1 x1
  have b2 := (Below.refl u1.heap.size u1).alloc (Nat.le_refl _) (.cells #[.int .u8 (k : Int), .int .i64 l, .int .i64 s, .slice ai m ci, .int .i64 d] 32)
  have y := Box.new u1 #[.int .u8 (k : Int), .int .i64 l, .int .i64 s, .slice ai m ci, .int .i64 d] 32
  have x := x1.below b2
  have B := b1.trans (b2.mono b1.size)
  rw [s1] at y
  obtain ⟨u2, hu2⟩ : ∃ u, u = u1.alloc (.cells #[.int .u8 (k : Int), .int .i64 l, .int .i64 s, .slice ai m ci, .int .i64 d] 32) := ⟨_, rfl⟩
  rw [← hu2] at x y B
  rw [hu1] at hu2
  have Hu2 : Hid _ := hu2
  clear x1 b1 b2 s1 hu1 hu2
  go_enter Try.func4, Try.ntmps4
  go_wp2_with fail
  rw [← Hu2.out]
  refine (copyInode_at k ci m l s d ai is u2 hli.out (by omega) (hri.below B (Nat.le_refl _)) hni).mono ?_
  rintro r w1 ⟨a1, c1, rfl, o1, bn⟩
  obtain ⟨_, _, hh, _, _, _, r1, _, _⟩ := ownsE_parts o1
  simp only [Value.slice.injEq] at hh
  obtain ⟨rfl, _, rfl⟩ := hh
  clear o1
  replace x := x.below bn
  replace y := y.below bn
  replace B := B.trans (bn.mono B.size)
  clear bn
  go_wp2_with fail
  refine (copyExtents_at cap n a es w1 hl.out (by omega) (hre.below B (Nat.le_refl _)) hne).mono ?_
  rintro r w2 ⟨v2, rfl, o2, bn⟩
  obtain ⟨a2, c2, rfl, _, _, _, r2, _, _⟩ := ownsE_parts o2
  clear o2
  replace x := x.below bn
  replace y := y.below bn
  replace r1 := r1.below bn (Nat.le_refl _)
  replace B := B.trans (bn.mono B.size)
  clear bn
  have bn := (Below.refl w2.heap.size w2).alloc (Nat.le_refl _) (.cells #[.int .u8 (k : Int), .int .i64 l, .int .i64 s, .slice a1 m c1, .int .i64 d] 32)
  have z := Box.new w2 #[.int .u8 (k : Int), .int .i64 l, .int .i64 s, .slice a1 m c1, .int .i64 d] 32
  replace x := x.below bn
  replace y := y.below bn
  replace r1 := r1.below bn (Nat.le_refl _)
  replace r2 := r2.below bn (Nat.le_refl _)
  replace B := B.trans (bn.mono B.size)
  clear bn
  obtain ⟨w3, hw3⟩ : ∃ u, u = w2.alloc (.cells #[.int .u8 (k : Int), .int .i64 l, .int .i64 s, .slice a1 m c1, .int .i64 d] 32) := ⟨_, rfl⟩
  rw [← hw3] at x y z B r1 r2
  obtain ⟨G, hG⟩ : ∃ G, G = w2.heap.size := ⟨_, rfl⟩
  rw [← hG] at z
  have H3 : Hid _ := hw3
  have HG : Hid _ := hG
  clear hw3 hG
  go_upto_region 4 with fail
  rw [← H3.out, ← HG.out]
  clear H3 HG
  have q0 := x.cell 0
  have q1 := x.cell 1
  have q2 := x.cell 2
  have q3 := x.cell 3
  simp only [List.getElem?_toArray, List.getElem?_cons_zero, List.getElem?_cons_succ] at q0 q1 q2 q3
  go_wp2_with fail
  refine (putSuper_at b e q t w3).mono ?_
  clear q0 q1 q2 q3
  rintro r w4 ⟨v4, rfl, o4, bn⟩
  obtain ⟨a14, c14, rfl, _, _, _, p4, _, _⟩ := owns_parts o4
  clear o4
  replace x := x.below bn
  replace y := y.below bn
  replace r1 := r1.below bn (Nat.le_refl _)
  replace r2 := r2.below bn (Nat.le_refl _)
  replace z := z.below bn
  replace B := B.trans (bn.mono B.size)
  clear bn
  have q0 := x.cell 0
  have q1 := x.cell 1
  have q2 := x.cell 2
  have q3 := x.cell 3
  simp only [List.getElem?_toArray, List.getElem?_cons_zero, List.getElem?_cons_succ] at q0 q1 q2 q3
  go_wp2_with fail
  refine (refPutSuper_at b e q t w4).mono ?_
  clear q0 q1 q2 q3
  rintro r w5 ⟨v5, rfl, o5, bn⟩
  obtain ⟨a15, c15, rfl, _, _, _, p5, _, _⟩ := owns_parts o5
  clear o5
  replace x := x.below bn
  replace y := y.below bn
  replace r1 := r1.below bn (Nat.le_refl _)
  replace r2 := r2.below bn (Nat.le_refl _)
  replace z := z.below bn
  replace p4 := p4.below bn (Nat.le_refl _)
  replace B := B.trans (bn.mono B.size)
  clear bn
  have q0 := z.cell 0
  have q1 := z.cell 1
  have q2 := z.cell 2
  have q3 := z.cell 3
  have q4 := z.cell 4
  simp only [List.getElem?_toArray, List.getElem?_cons_zero, List.getElem?_cons_succ] at q0 q1 q2 q3 q4
  go_wp2_with fail
  refine (putInode_at k m c1 l s d a1 is w5 hli.out (by omega) hwi r1).mono ?_
  clear q0 q1 q2 q3 q4
  rintro r w6 ⟨v6, rfl, o6, bn⟩
  obtain ⟨a16, c16, rfl, _, _, _, p6, _, _⟩ := owns_parts o6
  clear o6
  replace x := x.below bn
  replace y := y.below bn
  replace r1 := r1.below bn (Nat.le_refl _)
  replace r2 := r2.below bn (Nat.le_refl _)
  replace z := z.below bn
  replace p4 := p4.below bn (Nat.le_refl _)
  replace p5 := p5.below bn (Nat.le_refl _)
  replace B := B.trans (bn.mono B.size)
  clear bn
  have q0 := y.cell 0
  have q1 := y.cell 1
  have q2 := y.cell 2
  have q3 := y.cell 3
  have q4 := y.cell 4
  simp only [List.getElem?_toArray, List.getElem?_cons_zero, List.getElem?_cons_succ] at q0 q1 q2 q3 q4
  go_wp2_with fail
  refine (refPutInode_at k m ci l s d ai is w6 hli.out (by omega) hwi (hri.below B (Nat.le_refl _))).mono ?_
  clear q0 q1 q2 q3 q4
  rintro r w7 ⟨v7, rfl, o7, bn⟩
  obtain ⟨a17, c17, rfl, _, _, _, p7, _, _⟩ := owns_parts o7
  clear o7
  replace x := x.below bn
  replace y := y.below bn
  replace r1 := r1.below bn (Nat.le_refl _)
  replace r2 := r2.below bn (Nat.le_refl _)
  replace z := z.below bn
  replace p4 := p4.below bn (Nat.le_refl _)
  replace p5 := p5.below bn (Nat.le_refl _)
  replace p6 := p6.below bn (Nat.le_refl _)
  replace B := B.trans (bn.mono B.size)
  clear bn
  go_wp2_with fail
  refine (putNode_at c2 n a2 es w7 hl.out (by omega) hwe r2).mono ?_
  rintro r w8 ⟨v8, rfl, o8, bn⟩
  obtain ⟨a18, c18, rfl, _, _, _, p8, _, _⟩ := owns_parts o8
  clear o8
  replace x := x.below bn
  replace y := y.below bn
  replace r1 := r1.below bn (Nat.le_refl _)
  replace r2 := r2.below bn (Nat.le_refl _)
  replace z := z.below bn
  replace p4 := p4.below bn (Nat.le_refl _)
  replace p5 := p5.below bn (Nat.le_refl _)
  replace p6 := p6.below bn (Nat.le_refl _)
  replace p7 := p7.below bn (Nat.le_refl _)
  replace B := B.trans (bn.mono B.size)
  clear bn
  go_wp2_with fail
  refine (refPutNode_at cap n a es w8 hl.out (by omega) hwe (hre.below B (Nat.le_refl _))).mono ?_
  rintro r w9 ⟨v9, rfl, o9, bn⟩
  obtain ⟨a19, c19, rfl, _, _, _, p9, _, _⟩ := owns_parts o9
  clear o9
  replace x := x.below bn
  replace y := y.below bn
  replace r1 := r1.below bn (Nat.le_refl _)
  replace r2 := r2.below bn (Nat.le_refl _)
  replace z := z.below bn
  replace p4 := p4.below bn (Nat.le_refl _)
  replace p5 := p5.below bn (Nat.le_refl _)
  replace p6 := p6.below bn (Nat.le_refl _)
  replace p7 := p7.below bn (Nat.le_refl _)
  replace p8 := p8.below bn (Nat.le_refl _)
  replace B := B.trans (bn.mono B.size)
  clear bn
  generalize putSuper b e q t = O1 at *
  generalize putInode k l s is d = O2 at *
  generalize putNode es = O3 at *
  generalize erP O1 = E1
  generalize erP O2 = E2
  generalize erP O3 = E3
  go_wp2_with fail
  refine (same_at _ _ _ _ _ _ (O1.getD []) (O1.getD []) w9 rfl rfl p4 p5).mono ?_
  rintro r w' ⟨rfl, rfl⟩
  rw [beq_self_eq_true]
  go_wp2_with fail
  refine (same_at _ _ _ _ _ _ (O2.getD []) (O2.getD []) w9 rfl rfl p6 p7).mono ?_
  rintro r w' ⟨rfl, rfl⟩
  rw [beq_self_eq_true]
  go_wp2_with fail
  refine (same_at _ _ _ _ _ _ (O3.getD []) (O3.getD []) w9 rfl rfl p8 p9).mono ?_
  rintro r w' ⟨rfl, rfl⟩
  rw [beq_self_eq_true]
  clear p4 p5 p6 p7 p8 p9
  go_wp2_with fail
  refine (right_at c2 n a2 es w9 hl.out (by omega) hwe r2).mono ?_
  rintro r w10 ⟨rfl, bn⟩
  replace x := x.below bn
  replace y := y.below bn
  replace r1 := r1.below bn (Nat.le_refl _)
  replace r2 := r2.below bn (Nat.le_refl _)
  replace z := z.below bn
  replace B := B.trans (bn.mono B.size)
  clear bn
  go_wp2_with fail
  refine (refRight_at cap n a es w10 hl.out (by omega) hwe (hre.below B (Nat.le_refl _))).mono ?_
  rintro r w11 ⟨rfl, bn⟩
  replace x := x.below bn
  replace y := y.below bn
  replace r1 := r1.below bn (Nat.le_refl _)
  replace r2 := r2.below bn (Nat.le_refl _)
  replace z := z.below bn
  replace B := B.trans (bn.mono B.size)
  clear bn
  generalize rightFrom 0 es = R
  have hR : (R == R) = true := beq_self_eq_true R
  have q0 := z.cell 0
  have q1 := z.cell 1
  have q2 := z.cell 2
  have q3 := z.cell 3
  have q4 := z.cell 4
  simp only [List.getElem?_toArray, List.getElem?_cons_zero, List.getElem?_cons_succ] at q0 q1 q2 q3 q4
  have g0 := y.cell 0
  have g1 := y.cell 1
  have g2 := y.cell 2
  have g3 := y.cell 3
  have g4 := y.cell 4
  simp only [List.getElem?_toArray, List.getElem?_cons_zero, List.getElem?_cons_succ] at g0 g1 g2 g3 g4
  go_wp2_with fail
  refine (sameInode_at c1 ci m m a1 ai ⟨k, l, s, is, d⟩ ⟨k, l, s, is, d⟩ w11 hli.out hli.out (by omega) r1 (hri.below B (Nat.le_refl _))).mono ?_
  rintro r w12 ⟨rfl, bn⟩
  rw [sameI_self]
  clear q0 q1 q2 q3 q4
  clear g0 g1 g2 g3 g4
  replace x := x.below bn
  replace y := y.below bn
  replace r1 := r1.below bn (Nat.le_refl _)
  replace r2 := r2.below bn (Nat.le_refl _)
  replace z := z.below bn
  replace B := B.trans (bn.mono B.size)
  clear bn
  go_wp2_with fail
  refine (sameExtents_at c2 cap n n a2 a es es w12 hl.out hl.out (by omega) r2 (hre.below B (Nat.le_refl _))).mono ?_
  rintro r w13 ⟨rfl, bn⟩
  rw [decide_eq_true rfl]
  replace x := x.below bn
  replace y := y.below bn
  replace r1 := r1.below bn (Nat.le_refl _)
  replace r2 := r2.below bn (Nat.le_refl _)
  replace z := z.below bn
  replace B := B.trans (bn.mono B.size)
  clear bn
  go_wp2_with fail
  refine (awake_any w13).mono ?_
  rintro r w14 ⟨rfl, bn⟩
  replace B := B.trans (bn.mono B.size)
  clear bn x y z r1 r2
  go_wp2
  go_ret
  exact ⟨rfl, B⟩
end Go.Proofs.Ytmhplpiglbamcaa
