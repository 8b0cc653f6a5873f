/-
  The walk of SuperBack.
-/
import Derived.Test.YtmhplpiglbamcaaAgain
namespace Go.Proofs.Ytmhplpiglbamcaa
open Go.RowKit

theorem getSuper_nil : getSuper [] = none := by
  have n : ∀ i : Int, 0 ≤ i → num [] i 8 = 0 := fun i hi => by
    unfold num
    rw [numAt_none (by simp; omega)]
    rfl
  have h : readS [] = ⟨0, 0, 0, 0⟩ := by
    unfold readS
    rw [n 8 (by omega), n 16 (by omega), n 24 (by omega), n 32 (by omega), i64_in 0 (by omega)]
    rfl
  unfold getSuper
  rw [h]
  rfl
theorem getInode_nil : getInode [] = none := by decide
theorem getNode_nil : getNode [] = none := by decide

set_option maxRecDepth 100000 in
set_option maxHeartbeats 2000000 in
theorem back_long (b e q t : Int) (k : Nat) (l s d : Int) (ai : Option Addr) (m ci : Nat) (a : Option Addr) (n cap : Nat) (ab : Option Addr) (nb cb : Nat) (w : World) (h1 : n ≤ 9223372036854775807) (h2 : m ≤ 9223372036854775807) (h3 : nb ≤ 9223372036854775807) (h : 600 < n ∨ (n ≤ 600 ∧ 600 < m) ∨ (n ≤ 600 ∧ m ≤ 600 ∧ 10000 < nb)) :
    Calls Try.prog 6 #[.agg #[.int .i64 b, .int .i64 e, .int .i64 q, .int .i64 t], .agg #[.int .u8 (k : Int), .int .i64 l, .int .i64 s, .slice ai m ci, .int .i64 d], .slice a n cap, .slice ab nb cb] w fun r w' => r = .returned (.bool true) ∧ Below w.heap.size w w' := by
  have b1 := (Below.refl w.heap.size w).alloc (Nat.le_refl _) (.cells #[.int .i64 b, .int .i64 e, .int .i64 q, .int .i64 t] 27)
  have x1 := Box.new w #[.int .i64 b, .int .i64 e, .int .i64 q, .int .i64 t] 27
  obtain ⟨u1, hu1⟩ : ∃ u, u = w.alloc (.cells #[.int .i64 b, .int .i64 e, .int .i64 q, .int .i64 t] 27) := ⟨_, rfl⟩
  have s1 : u1.heap.size = w.heap.size + 1 := by rw [hu1]; simp
  rw [← hu1] at b1 x1
  have b2 := (Below.refl u1.heap.size u1).alloc (Nat.le_refl _) (.cells #[.int .u8 (k : Int), .int .i64 l, .int .i64 s, .slice ai m ci, .int .i64 d] 32)
  have y2 := Box.new u1 #[.int .u8 (k : Int), .int .i64 l, .int .i64 s, .slice ai m ci, .int .i64 d] 32
  have x2 := x1.below b2
  have B0 := b1.trans (b2.mono b1.size)
  rw [s1] at y2
  clear x1 x2 y2
  rcases h with h | ⟨ha, h⟩ | ⟨ha, hb, h⟩
  · go_enter Try.func6, Try.ntmps6
    go_wp2_with fail
    rw [← hu1]
    refine (awake_any _).mono ?_
    rintro r w1 ⟨rfl, c1⟩
    have B1 := B0.trans (c1.mono B0.size)
    go_wp2
    go_ret
    exact ⟨rfl, B1⟩
  · go_enter Try.func6, Try.ntmps6
    go_wp2_with fail
    rw [← hu1]
    refine (awake_any _).mono ?_
    rintro r w1 ⟨rfl, c1⟩
    have B1 := B0.trans (c1.mono B0.size)
    go_wp2
    go_ret
    exact ⟨rfl, B1⟩
  · go_enter Try.func6, Try.ntmps6
    go_wp2_with fail
    rw [← hu1]
    refine (awake_any _).mono ?_
    rintro r w1 ⟨rfl, c1⟩
    have B1 := B0.trans (c1.mono B0.size)
    go_wp2
    go_ret
    exact ⟨rfl, B1⟩

set_option maxRecDepth 100000 in
set_option maxHeartbeats 2000000 in
theorem back_000 (b e q t : Int) (k : Nat) (l s d : Int) (ai : Option Addr) (m ci : Nat) (is : List Ext) (a : Option Addr) (n cap : Nat) (es : List Ext) (ab : Option Addr) (nb cb : Nat) (xs : List UInt8) (w : World) (h1 : n ≤ 600) (h2 : m ≤ 600) (h3 : nb ≤ 10000) (hli : Hid (is.length = m)) (hwi : ∀ e ∈ is, wfE e) (hri : RdE w ai is) (hl : Hid (es.length = n)) (hwe : ∀ e ∈ es, wfE e) (hre : RdE w a es) (hlb : Hid (xs.length = nb)) (hcb : nb ≤ cb) (hmb : cb ≤ 9223372036854775807) (hrb : Rd w ab xs) (HS : Hid (putSuper b e q t = none)) (HI : Hid (putInode k l s is d = none)) (HN : Hid (putNode es = none)) :
    Calls Try.prog 6 #[.agg #[.int .i64 b, .int .i64 e, .int .i64 q, .int .i64 t], .agg #[.int .u8 (k : Int), .int .i64 l, .int .i64 s, .slice ai m ci, .int .i64 d], .slice a n cap, .slice ab nb cb] w fun r w' => r = .returned (.bool true) ∧ Below w.heap.size w w' := by
  have b1 := (Below.refl w.heap.size w).alloc (Nat.le_refl _) (.cells #[.int .i64 b, .int .i64 e, .int .i64 q, .int .i64 t] 27)
  have x1 := Box.new w #[.int .i64 b, .int .i64 e, .int .i64 q, .int .i64 t] 27
  obtain ⟨u1, hu1⟩ : ∃ u, u = w.alloc (.cells #[.int .i64 b, .int .i64 e, .int .i64 q, .int .i64 t] 27) := ⟨_, rfl⟩
  have s1 : u1.heap.size = w.heap.size + 1 := by rw [hu1]; simp
  rw [← hu1] at b1 x1
  have b2 := (Below.refl u1.heap.size u1).alloc (Nat.le_refl _) (.cells #[.int .u8 (k : Int), .int .i64 l, .int .i64 s, .slice ai m ci, .int .i64 d] 32)
  have y2 := Box.new u1 #[.int .u8 (k : Int), .int .i64 l, .int .i64 s, .slice ai m ci, .int .i64 d] 32
  have x2 := x1.below b2
  have B0 := b1.trans (b2.mono b1.size)
  rw [s1] at y2
  have hn6 : ¬ (600 < (n : Int)) := by omega
  have hm6 : ¬ (600 < (m : Int)) := by omega
  have hb6 : ¬ (10000 < (nb : Int)) := by omega
  go_enter Try.func6, Try.ntmps6
  go_wp2_with fail
  rw [← hu1]
  obtain ⟨U, hU⟩ : ∃ U, U = u1.alloc (.cells #[.int .u8 (k : Int), .int .i64 l, .int .i64 s, .slice ai m ci, .int .i64 d] 32) := ⟨_, rfl⟩
  rw [← hU] at x2 y2 B0 ⊢
  clear hU hu1 s1 b1 b2 x1
  refine (putSuper_at b e q t U).mono ?_
  rintro r w1 h4
  obtain ⟨v1, rfl, o1, b2⟩ := puts_none h4 HS.out
  have B3 := B0.trans (b2.mono B0.size)
  have x2 := x2.below b2
  have y2 := y2.below b2
  obtain ⟨a1, cap1, rfl, _, hc1, hx1, r1, _, _⟩ := owns_parts o1
  clear o1
  clear h4 b2 B0
  go_wp2_with fail
  refine (getSuper_at 0 cap1 a1 [] w1 rfl hc1 hx1 r1).mono ?_
  rintro r w5 h8
  obtain ⟨rfl, b6⟩ := getsS_none h8 getSuper_nil
  have B7 := B3.trans (b6.mono B3.size)
  have x2 := x2.below b6
  have y2 := y2.below b6
  clear r1
  clear h8 b6 B3
  have B10 := B7.alloc B7.size (.cells #[.int .i64 0, .int .i64 0, .int .i64 0, .int .i64 0] 27)
  have bA := (Below.refl w5.heap.size w5).alloc (Nat.le_refl _) (.cells #[.int .i64 0, .int .i64 0, .int .i64 0, .int .i64 0] 27)
  have x2 := x2.below bA
  have y2 := y2.below bA
  have k0 := y2.cell 0
  have k1 := y2.cell 1
  have k2 := y2.cell 2
  have k3 := y2.cell 3
  have k4 := y2.cell 4
  simp only [List.getElem?_toArray, List.getElem?_cons_zero, List.getElem?_cons_succ] at k0 k1 k2 k3 k4
  go_wp2_with fail
  obtain ⟨V9, hV⟩ : ∃ V, V = w5.alloc (.cells #[.int .i64 0, .int .i64 0, .int .i64 0, .int .i64 0] 27) := ⟨_, rfl⟩
  rw [← hV] at B10 x2 y2 ⊢
  clear k0 k1 k2 k3 k4
  clear hV bA B7
  clear x2
  refine (putInode_at k m ci l s d ai is V9 hli.out (by omega) hwi (hri.below B10 (Nat.le_refl _))).mono ?_
  rintro r w11 h14
  obtain ⟨v3, rfl, o3, b12⟩ := puts_none h14 HI.out
  have B13 := B10.trans (b12.mono B10.size)
  have y2 := y2.below b12
  obtain ⟨a3, cap3, rfl, _, hc3, hx3, r3, _, _⟩ := owns_parts o3
  clear o3
  clear h14 b12 B10
  go_wp2_with fail
  refine (getInode_at 0 cap3 a3 [] w11 rfl hc3 hx3 r3).mono ?_
  rintro r w15 h18
  obtain ⟨v4, rfl, o4, b16⟩ := getsI_none h18 getInode_nil
  have B17 := B13.trans (b16.mono B13.size)
  have y2 := y2.below b16
  obtain ⟨a4, cap4, rfl, _, _, _, _, _, _⟩ := ownsE_parts o4
  clear r3 o4
  clear h18 b16 B13
  have B20 := B17.alloc B17.size (.cells #[.int .u8 0, .int .i64 0, .int .i64 0, .slice a4 0 cap4, .int .i64 0] 32)
  clear y2
  go_wp2_with fail
  obtain ⟨V19, hV⟩ : ∃ V, V = w15.alloc (.cells #[.int .u8 0, .int .i64 0, .int .i64 0, .slice a4 0 cap4, .int .i64 0] 32) := ⟨_, rfl⟩
  rw [← hV] at B20 ⊢
  clear hV B17
  refine (putNode_at cap n a es V19 hl.out (by omega) hwe (hre.below B20 (Nat.le_refl _))).mono ?_
  rintro r w21 h24
  obtain ⟨v7, rfl, o7, b22⟩ := puts_none h24 HN.out
  have B23 := B20.trans (b22.mono B20.size)
  obtain ⟨a7, cap7, rfl, _, hc7, hx7, r7, _, _⟩ := owns_parts o7
  clear o7
  clear h24 b22 B20
  go_wp2_with fail
  refine (getNode_at 0 cap7 a7 [] w21 rfl hc7 hx7 r7).mono ?_
  rintro r w25 h28
  obtain ⟨v8, rfl, o8, b26⟩ := getsN_none h28 getNode_nil
  have B27 := B23.trans (b26.mono B23.size)
  obtain ⟨a8, cap8, rfl, _, _, _, _, _, _⟩ := ownsE_parts o8
  clear r7 o8
  clear h28 b26 B23
  go_wp2_with fail
  refine (again_at nb cb ab xs w25 hlb.out hcb hmb (hrb.below B27 (Nat.le_refl _))).mono ?_
  rintro r w29 ⟨rfl, bx⟩
  have B30 := B27.trans (bx.mono B27.size)
  clear bx B27
  go_wp2_with fail
  refine (awake_any w29).mono ?_
  rintro r w31 ⟨rfl, by'⟩
  have B32 := B30.trans (by'.mono B30.size)
  clear by' B30
  go_wp2
  go_ret
  exact ⟨rfl, B32⟩

set_option maxRecDepth 100000 in
set_option maxHeartbeats 2000000 in
theorem back_001 (b e q t : Int) (k : Nat) (l s d : Int) (ai : Option Addr) (m ci : Nat) (is : List Ext) (a : Option Addr) (n cap : Nat) (es : List Ext) (ab : Option Addr) (nb cb : Nat) (xs : List UInt8) (w : World) (h1 : n ≤ 600) (h2 : m ≤ 600) (h3 : nb ≤ 10000) (hli : Hid (is.length = m)) (hwi : ∀ e ∈ is, wfE e) (hri : RdE w ai is) (hl : Hid (es.length = n)) (hwe : ∀ e ∈ es, wfE e) (hre : RdE w a es) (hlb : Hid (xs.length = nb)) (hcb : nb ≤ cb) (hmb : cb ≤ 9223372036854775807) (hrb : Rd w ab xs) (HS : Hid (putSuper b e q t = none)) (HI : Hid (putInode k l s is d = none)) (N : List UInt8) (HN : Hid (putNode es = some N)) (HNl : Hid (N.length = 4096)) (HNg : Hid (getNode N = some es)) :
    Calls Try.prog 6 #[.agg #[.int .i64 b, .int .i64 e, .int .i64 q, .int .i64 t], .agg #[.int .u8 (k : Int), .int .i64 l, .int .i64 s, .slice ai m ci, .int .i64 d], .slice a n cap, .slice ab nb cb] w fun r w' => r = .returned (.bool true) ∧ Below w.heap.size w w' := by
  have b1 := (Below.refl w.heap.size w).alloc (Nat.le_refl _) (.cells #[.int .i64 b, .int .i64 e, .int .i64 q, .int .i64 t] 27)
  have x1 := Box.new w #[.int .i64 b, .int .i64 e, .int .i64 q, .int .i64 t] 27
  obtain ⟨u1, hu1⟩ : ∃ u, u = w.alloc (.cells #[.int .i64 b, .int .i64 e, .int .i64 q, .int .i64 t] 27) := ⟨_, rfl⟩
  have s1 : u1.heap.size = w.heap.size + 1 := by rw [hu1]; simp
  rw [← hu1] at b1 x1
  have b2 := (Below.refl u1.heap.size u1).alloc (Nat.le_refl _) (.cells #[.int .u8 (k : Int), .int .i64 l, .int .i64 s, .slice ai m ci, .int .i64 d] 32)
  have y2 := Box.new u1 #[.int .u8 (k : Int), .int .i64 l, .int .i64 s, .slice ai m ci, .int .i64 d] 32
  have x2 := x1.below b2
  have B0 := b1.trans (b2.mono b1.size)
  rw [s1] at y2
  have hn6 : ¬ (600 < (n : Int)) := by omega
  have hm6 : ¬ (600 < (m : Int)) := by omega
  have hb6 : ¬ (10000 < (nb : Int)) := by omega
  go_enter Try.func6, Try.ntmps6
  go_wp2_with fail
  rw [← hu1]
  obtain ⟨U, hU⟩ : ∃ U, U = u1.alloc (.cells #[.int .u8 (k : Int), .int .i64 l, .int .i64 s, .slice ai m ci, .int .i64 d] 32) := ⟨_, rfl⟩
  rw [← hU] at x2 y2 B0 ⊢
  clear hU hu1 s1 b1 b2 x1
  refine (putSuper_at b e q t U).mono ?_
  rintro r w1 h4
  obtain ⟨v1, rfl, o1, b2⟩ := puts_none h4 HS.out
  have B3 := B0.trans (b2.mono B0.size)
  have x2 := x2.below b2
  have y2 := y2.below b2
  obtain ⟨a1, cap1, rfl, _, hc1, hx1, r1, _, _⟩ := owns_parts o1
  clear o1
  clear h4 b2 B0
  go_wp2_with fail
  refine (getSuper_at 0 cap1 a1 [] w1 rfl hc1 hx1 r1).mono ?_
  rintro r w5 h8
  obtain ⟨rfl, b6⟩ := getsS_none h8 getSuper_nil
  have B7 := B3.trans (b6.mono B3.size)
  have x2 := x2.below b6
  have y2 := y2.below b6
  clear r1
  clear h8 b6 B3
  have B10 := B7.alloc B7.size (.cells #[.int .i64 0, .int .i64 0, .int .i64 0, .int .i64 0] 27)
  have bA := (Below.refl w5.heap.size w5).alloc (Nat.le_refl _) (.cells #[.int .i64 0, .int .i64 0, .int .i64 0, .int .i64 0] 27)
  have x2 := x2.below bA
  have y2 := y2.below bA
  have k0 := y2.cell 0
  have k1 := y2.cell 1
  have k2 := y2.cell 2
  have k3 := y2.cell 3
  have k4 := y2.cell 4
  simp only [List.getElem?_toArray, List.getElem?_cons_zero, List.getElem?_cons_succ] at k0 k1 k2 k3 k4
  go_wp2_with fail
  obtain ⟨V9, hV⟩ : ∃ V, V = w5.alloc (.cells #[.int .i64 0, .int .i64 0, .int .i64 0, .int .i64 0] 27) := ⟨_, rfl⟩
  rw [← hV] at B10 x2 y2 ⊢
  clear k0 k1 k2 k3 k4
  clear hV bA B7
  clear x2
  refine (putInode_at k m ci l s d ai is V9 hli.out (by omega) hwi (hri.below B10 (Nat.le_refl _))).mono ?_
  rintro r w11 h14
  obtain ⟨v3, rfl, o3, b12⟩ := puts_none h14 HI.out
  have B13 := B10.trans (b12.mono B10.size)
  have y2 := y2.below b12
  obtain ⟨a3, cap3, rfl, _, hc3, hx3, r3, _, _⟩ := owns_parts o3
  clear o3
  clear h14 b12 B10
  go_wp2_with fail
  refine (getInode_at 0 cap3 a3 [] w11 rfl hc3 hx3 r3).mono ?_
  rintro r w15 h18
  obtain ⟨v4, rfl, o4, b16⟩ := getsI_none h18 getInode_nil
  have B17 := B13.trans (b16.mono B13.size)
  have y2 := y2.below b16
  obtain ⟨a4, cap4, rfl, _, _, _, _, _, _⟩ := ownsE_parts o4
  clear r3 o4
  clear h18 b16 B13
  have B20 := B17.alloc B17.size (.cells #[.int .u8 0, .int .i64 0, .int .i64 0, .slice a4 0 cap4, .int .i64 0] 32)
  clear y2
  go_wp2_with fail
  obtain ⟨V19, hV⟩ : ∃ V, V = w15.alloc (.cells #[.int .u8 0, .int .i64 0, .int .i64 0, .slice a4 0 cap4, .int .i64 0] 32) := ⟨_, rfl⟩
  rw [← hV] at B20 ⊢
  clear hV B17
  refine (putNode_at cap n a es V19 hl.out (by omega) hwe (hre.below B20 (Nat.le_refl _))).mono ?_
  rintro r w21 h24
  obtain ⟨g7, cap7, rfl, o7, _, _, hc7, hx7, b22⟩ := puts_block h24 HN.out HNl.out (by omega)
  have B23 := B20.trans (b22.mono B20.size)
  have r7 := owns_rd_at o7
  clear o7
  clear h24 b22 B20
  go_wp2_with fail
  refine (getNode_at 4096 cap7 _ N w21 HNl.out hc7 hx7 r7).mono ?_
  rintro r w25 h28
  obtain ⟨v8, rfl, o8, b26⟩ := getsN_some h28 HNg.out
  have B27 := B23.trans (b26.mono B23.size)
  obtain ⟨a8, cap8, rfl, l8, _, _, r8, _, _⟩ := ownsE_parts o8
  have L8 : Hid _ := l8
  clear r7 o8 l8
  clear h28 b26 B23
  go_wp2_with fail
  refine (sameExtents_at cap8 cap es.length n a8 a es es w25 rfl hl.out (by have := hl.out; omega) r8 (hre.below B27 (Nat.le_refl _))).mono ?_
  rintro r w29 ⟨rfl, b9⟩
  rw [decide_eq_true (rfl : es = es)]
  have B30 := B27.trans (b9.mono B27.size)
  clear b9 r8 B27
  go_wp2_with fail
  refine (again_at nb cb ab xs w29 hlb.out hcb hmb (hrb.below B30 (Nat.le_refl _))).mono ?_
  rintro r w31 ⟨rfl, bx⟩
  have B32 := B30.trans (bx.mono B30.size)
  clear bx B30
  go_wp2_with fail
  refine (awake_any w31).mono ?_
  rintro r w33 ⟨rfl, by'⟩
  have B34 := B32.trans (by'.mono B32.size)
  clear by' B32
  go_wp2
  go_ret
  exact ⟨rfl, B34⟩

set_option maxRecDepth 100000 in
set_option maxHeartbeats 2000000 in
theorem back_010 (b e q t : Int) (k : Nat) (l s d : Int) (ai : Option Addr) (m ci : Nat) (is : List Ext) (a : Option Addr) (n cap : Nat) (es : List Ext) (ab : Option Addr) (nb cb : Nat) (xs : List UInt8) (w : World) (h1 : n ≤ 600) (h2 : m ≤ 600) (h3 : nb ≤ 10000) (hli : Hid (is.length = m)) (hwi : ∀ e ∈ is, wfE e) (hri : RdE w ai is) (hl : Hid (es.length = n)) (hwe : ∀ e ∈ es, wfE e) (hre : RdE w a es) (hlb : Hid (xs.length = nb)) (hcb : nb ≤ cb) (hmb : cb ≤ 9223372036854775807) (hrb : Rd w ab xs) (HS : Hid (putSuper b e q t = none)) (I : List UInt8) (HI : Hid (putInode k l s is d = some I)) (HIl : Hid (I.length = 64)) (HIg : Hid (getInode I = some ⟨k, l, s, is, d⟩)) (HN : Hid (putNode es = none)) :
    Calls Try.prog 6 #[.agg #[.int .i64 b, .int .i64 e, .int .i64 q, .int .i64 t], .agg #[.int .u8 (k : Int), .int .i64 l, .int .i64 s, .slice ai m ci, .int .i64 d], .slice a n cap, .slice ab nb cb] w fun r w' => r = .returned (.bool true) ∧ Below w.heap.size w w' := by
  have b1 := (Below.refl w.heap.size w).alloc (Nat.le_refl _) (.cells #[.int .i64 b, .int .i64 e, .int .i64 q, .int .i64 t] 27)
  have x1 := Box.new w #[.int .i64 b, .int .i64 e, .int .i64 q, .int .i64 t] 27
  obtain ⟨u1, hu1⟩ : ∃ u, u = w.alloc (.cells #[.int .i64 b, .int .i64 e, .int .i64 q, .int .i64 t] 27) := ⟨_, rfl⟩
  have s1 : u1.heap.size = w.heap.size + 1 := by rw [hu1]; simp
  rw [← hu1] at b1 x1
  have b2 := (Below.refl u1.heap.size u1).alloc (Nat.le_refl _) (.cells #[.int .u8 (k : Int), .int .i64 l, .int .i64 s, .slice ai m ci, .int .i64 d] 32)
  have y2 := Box.new u1 #[.int .u8 (k : Int), .int .i64 l, .int .i64 s, .slice ai m ci, .int .i64 d] 32
  have x2 := x1.below b2
  have B0 := b1.trans (b2.mono b1.size)
  rw [s1] at y2
  have hn6 : ¬ (600 < (n : Int)) := by omega
  have hm6 : ¬ (600 < (m : Int)) := by omega
  have hb6 : ¬ (10000 < (nb : Int)) := by omega
  go_enter Try.func6, Try.ntmps6
  go_wp2_with fail
  rw [← hu1]
  obtain ⟨U, hU⟩ : ∃ U, U = u1.alloc (.cells #[.int .u8 (k : Int), .int .i64 l, .int .i64 s, .slice ai m ci, .int .i64 d] 32) := ⟨_, rfl⟩
  rw [← hU] at x2 y2 B0 ⊢
  clear hU hu1 s1 b1 b2 x1
  refine (putSuper_at b e q t U).mono ?_
  rintro r w1 h4
  obtain ⟨v1, rfl, o1, b2⟩ := puts_none h4 HS.out
  have B3 := B0.trans (b2.mono B0.size)
  have x2 := x2.below b2
  have y2 := y2.below b2
  obtain ⟨a1, cap1, rfl, _, hc1, hx1, r1, _, _⟩ := owns_parts o1
  clear o1
  clear h4 b2 B0
  go_wp2_with fail
  refine (getSuper_at 0 cap1 a1 [] w1 rfl hc1 hx1 r1).mono ?_
  rintro r w5 h8
  obtain ⟨rfl, b6⟩ := getsS_none h8 getSuper_nil
  have B7 := B3.trans (b6.mono B3.size)
  have x2 := x2.below b6
  have y2 := y2.below b6
  clear r1
  clear h8 b6 B3
  have B10 := B7.alloc B7.size (.cells #[.int .i64 0, .int .i64 0, .int .i64 0, .int .i64 0] 27)
  have bA := (Below.refl w5.heap.size w5).alloc (Nat.le_refl _) (.cells #[.int .i64 0, .int .i64 0, .int .i64 0, .int .i64 0] 27)
  have x2 := x2.below bA
  have y2 := y2.below bA
  have k0 := y2.cell 0
  have k1 := y2.cell 1
  have k2 := y2.cell 2
  have k3 := y2.cell 3
  have k4 := y2.cell 4
  simp only [List.getElem?_toArray, List.getElem?_cons_zero, List.getElem?_cons_succ] at k0 k1 k2 k3 k4
  go_wp2_with fail
  obtain ⟨V9, hV⟩ : ∃ V, V = w5.alloc (.cells #[.int .i64 0, .int .i64 0, .int .i64 0, .int .i64 0] 27) := ⟨_, rfl⟩
  rw [← hV] at B10 x2 y2 ⊢
  clear k0 k1 k2 k3 k4
  clear hV bA B7
  clear x2
  refine (putInode_at k m ci l s d ai is V9 hli.out (by omega) hwi (hri.below B10 (Nat.le_refl _))).mono ?_
  rintro r w11 h14
  obtain ⟨g3, cap3, rfl, o3, _, _, hc3, hx3, b12⟩ := puts_block h14 HI.out HIl.out (by omega)
  have B13 := B10.trans (b12.mono B10.size)
  have y2 := y2.below b12
  have r3 := owns_rd_at o3
  clear o3
  clear h14 b12 B10
  go_wp2_with fail
  refine (getInode_at 64 cap3 _ I w11 HIl.out hc3 hx3 r3).mono ?_
  rintro r w15 h18
  obtain ⟨v4, rfl, o4, b16⟩ := getsI_some h18 HIg.out
  have B17 := B13.trans (b16.mono B13.size)
  have y2 := y2.below b16
  obtain ⟨a4, cap4, rfl, l4, _, _, r4, _, _⟩ := ownsE_parts o4
  have L4 : Hid _ := l4
  clear r3 o4 l4
  clear h18 b16 B13
  have B20 := B17.alloc B17.size (.cells #[.int .u8 (k : Int), .int .i64 l, .int .i64 s, .slice a4 is.length cap4, .int .i64 d] 32)
  have bA := (Below.refl w15.heap.size w15).alloc (Nat.le_refl _) (.cells #[.int .u8 (k : Int), .int .i64 l, .int .i64 s, .slice a4 is.length cap4, .int .i64 d] 32)
  have y2 := y2.below bA
  have r5 := r4.below bA (Nat.le_refl _)
  have c0 := y2.cell 0
  have c1 := y2.cell 1
  have c2 := y2.cell 2
  have c3 := y2.cell 3
  have c4 := y2.cell 4
  simp only [List.getElem?_toArray, List.getElem?_cons_zero, List.getElem?_cons_succ] at c0 c1 c2 c3 c4
  go_wp2_with fail
  obtain ⟨V19, hV⟩ : ∃ V, V = w15.alloc (.cells #[.int .u8 (k : Int), .int .i64 l, .int .i64 s, .slice a4 is.length cap4, .int .i64 d] 32) := ⟨_, rfl⟩
  rw [← hV] at B20 y2 r5 ⊢
  clear c0 c1 c2 c3 c4
  clear hV bA r4 B17
  refine (sameInode_at cap4 ci is.length m a4 ai ⟨k, l, s, is, d⟩ ⟨k, l, s, is, d⟩ V19 rfl hli.out (by have := hli.out; omega) r5 (hri.below B20 (Nat.le_refl _))).mono ?_
  rintro r w21 ⟨rfl, b6⟩
  rw [sameI_self]
  have B22 := B20.trans (b6.mono B20.size)
  clear b6 r5 y2 B20
  go_wp2_with fail
  refine (putNode_at cap n a es w21 hl.out (by omega) hwe (hre.below B22 (Nat.le_refl _))).mono ?_
  rintro r w23 h26
  obtain ⟨v7, rfl, o7, b24⟩ := puts_none h26 HN.out
  have B25 := B22.trans (b24.mono B22.size)
  obtain ⟨a7, cap7, rfl, _, hc7, hx7, r7, _, _⟩ := owns_parts o7
  clear o7
  clear h26 b24 B22
  go_wp2_with fail
  refine (getNode_at 0 cap7 a7 [] w23 rfl hc7 hx7 r7).mono ?_
  rintro r w27 h30
  obtain ⟨v8, rfl, o8, b28⟩ := getsN_none h30 getNode_nil
  have B29 := B25.trans (b28.mono B25.size)
  obtain ⟨a8, cap8, rfl, _, _, _, _, _, _⟩ := ownsE_parts o8
  clear r7 o8
  clear h30 b28 B25
  go_wp2_with fail
  refine (again_at nb cb ab xs w27 hlb.out hcb hmb (hrb.below B29 (Nat.le_refl _))).mono ?_
  rintro r w31 ⟨rfl, bx⟩
  have B32 := B29.trans (bx.mono B29.size)
  clear bx B29
  go_wp2_with fail
  refine (awake_any w31).mono ?_
  rintro r w33 ⟨rfl, by'⟩
  have B34 := B32.trans (by'.mono B32.size)
  clear by' B32
  go_wp2
  go_ret
  exact ⟨rfl, B34⟩

set_option maxRecDepth 100000 in
set_option maxHeartbeats 2000000 in
theorem back_011 (b e q t : Int) (k : Nat) (l s d : Int) (ai : Option Addr) (m ci : Nat) (is : List Ext) (a : Option Addr) (n cap : Nat) (es : List Ext) (ab : Option Addr) (nb cb : Nat) (xs : List UInt8) (w : World) (h1 : n ≤ 600) (h2 : m ≤ 600) (h3 : nb ≤ 10000) (hli : Hid (is.length = m)) (hwi : ∀ e ∈ is, wfE e) (hri : RdE w ai is) (hl : Hid (es.length = n)) (hwe : ∀ e ∈ es, wfE e) (hre : RdE w a es) (hlb : Hid (xs.length = nb)) (hcb : nb ≤ cb) (hmb : cb ≤ 9223372036854775807) (hrb : Rd w ab xs) (HS : Hid (putSuper b e q t = none)) (I : List UInt8) (HI : Hid (putInode k l s is d = some I)) (HIl : Hid (I.length = 64)) (HIg : Hid (getInode I = some ⟨k, l, s, is, d⟩)) (N : List UInt8) (HN : Hid (putNode es = some N)) (HNl : Hid (N.length = 4096)) (HNg : Hid (getNode N = some es)) :
    Calls Try.prog 6 #[.agg #[.int .i64 b, .int .i64 e, .int .i64 q, .int .i64 t], .agg #[.int .u8 (k : Int), .int .i64 l, .int .i64 s, .slice ai m ci, .int .i64 d], .slice a n cap, .slice ab nb cb] w fun r w' => r = .returned (.bool true) ∧ Below w.heap.size w w' := by
  have b1 := (Below.refl w.heap.size w).alloc (Nat.le_refl _) (.cells #[.int .i64 b, .int .i64 e, .int .i64 q, .int .i64 t] 27)
  have x1 := Box.new w #[.int .i64 b, .int .i64 e, .int .i64 q, .int .i64 t] 27
  obtain ⟨u1, hu1⟩ : ∃ u, u = w.alloc (.cells #[.int .i64 b, .int .i64 e, .int .i64 q, .int .i64 t] 27) := ⟨_, rfl⟩
  have s1 : u1.heap.size = w.heap.size + 1 := by rw [hu1]; simp
  rw [← hu1] at b1 x1
  have b2 := (Below.refl u1.heap.size u1).alloc (Nat.le_refl _) (.cells #[.int .u8 (k : Int), .int .i64 l, .int .i64 s, .slice ai m ci, .int .i64 d] 32)
  have y2 := Box.new u1 #[.int .u8 (k : Int), .int .i64 l, .int .i64 s, .slice ai m ci, .int .i64 d] 32
  have x2 := x1.below b2
  have B0 := b1.trans (b2.mono b1.size)
  rw [s1] at y2
  have hn6 : ¬ (600 < (n : Int)) := by omega
  have hm6 : ¬ (600 < (m : Int)) := by omega
  have hb6 : ¬ (10000 < (nb : Int)) := by omega
  go_enter Try.func6, Try.ntmps6
  go_wp2_with fail
  rw [← hu1]
  obtain ⟨U, hU⟩ : ∃ U, U = u1.alloc (.cells #[.int .u8 (k : Int), .int .i64 l, .int .i64 s, .slice ai m ci, .int .i64 d] 32) := ⟨_, rfl⟩
  rw [← hU] at x2 y2 B0 ⊢
  clear hU hu1 s1 b1 b2 x1
  refine (putSuper_at b e q t U).mono ?_
  rintro r w1 h4
  obtain ⟨v1, rfl, o1, b2⟩ := puts_none h4 HS.out
  have B3 := B0.trans (b2.mono B0.size)
  have x2 := x2.below b2
  have y2 := y2.below b2
  obtain ⟨a1, cap1, rfl, _, hc1, hx1, r1, _, _⟩ := owns_parts o1
  clear o1
  clear h4 b2 B0
  go_wp2_with fail
  refine (getSuper_at 0 cap1 a1 [] w1 rfl hc1 hx1 r1).mono ?_
  rintro r w5 h8
  obtain ⟨rfl, b6⟩ := getsS_none h8 getSuper_nil
  have B7 := B3.trans (b6.mono B3.size)
  have x2 := x2.below b6
  have y2 := y2.below b6
  clear r1
  clear h8 b6 B3
  have B10 := B7.alloc B7.size (.cells #[.int .i64 0, .int .i64 0, .int .i64 0, .int .i64 0] 27)
  have bA := (Below.refl w5.heap.size w5).alloc (Nat.le_refl _) (.cells #[.int .i64 0, .int .i64 0, .int .i64 0, .int .i64 0] 27)
  have x2 := x2.below bA
  have y2 := y2.below bA
  have k0 := y2.cell 0
  have k1 := y2.cell 1
  have k2 := y2.cell 2
  have k3 := y2.cell 3
  have k4 := y2.cell 4
  simp only [List.getElem?_toArray, List.getElem?_cons_zero, List.getElem?_cons_succ] at k0 k1 k2 k3 k4
  go_wp2_with fail
  obtain ⟨V9, hV⟩ : ∃ V, V = w5.alloc (.cells #[.int .i64 0, .int .i64 0, .int .i64 0, .int .i64 0] 27) := ⟨_, rfl⟩
  rw [← hV] at B10 x2 y2 ⊢
  clear k0 k1 k2 k3 k4
  clear hV bA B7
  clear x2
  refine (putInode_at k m ci l s d ai is V9 hli.out (by omega) hwi (hri.below B10 (Nat.le_refl _))).mono ?_
  rintro r w11 h14
  obtain ⟨g3, cap3, rfl, o3, _, _, hc3, hx3, b12⟩ := puts_block h14 HI.out HIl.out (by omega)
  have B13 := B10.trans (b12.mono B10.size)
  have y2 := y2.below b12
  have r3 := owns_rd_at o3
  clear o3
  clear h14 b12 B10
  go_wp2_with fail
  refine (getInode_at 64 cap3 _ I w11 HIl.out hc3 hx3 r3).mono ?_
  rintro r w15 h18
  obtain ⟨v4, rfl, o4, b16⟩ := getsI_some h18 HIg.out
  have B17 := B13.trans (b16.mono B13.size)
  have y2 := y2.below b16
  obtain ⟨a4, cap4, rfl, l4, _, _, r4, _, _⟩ := ownsE_parts o4
  have L4 : Hid _ := l4
  clear r3 o4 l4
  clear h18 b16 B13
  have B20 := B17.alloc B17.size (.cells #[.int .u8 (k : Int), .int .i64 l, .int .i64 s, .slice a4 is.length cap4, .int .i64 d] 32)
  have bA := (Below.refl w15.heap.size w15).alloc (Nat.le_refl _) (.cells #[.int .u8 (k : Int), .int .i64 l, .int .i64 s, .slice a4 is.length cap4, .int .i64 d] 32)
  have y2 := y2.below bA
  have r5 := r4.below bA (Nat.le_refl _)
  have c0 := y2.cell 0
  have c1 := y2.cell 1
  have c2 := y2.cell 2
  have c3 := y2.cell 3
  have c4 := y2.cell 4
  simp only [List.getElem?_toArray, List.getElem?_cons_zero, List.getElem?_cons_succ] at c0 c1 c2 c3 c4
  go_wp2_with fail
  obtain ⟨V19, hV⟩ : ∃ V, V = w15.alloc (.cells #[.int .u8 (k : Int), .int .i64 l, .int .i64 s, .slice a4 is.length cap4, .int .i64 d] 32) := ⟨_, rfl⟩
  rw [← hV] at B20 y2 r5 ⊢
  clear c0 c1 c2 c3 c4
  clear hV bA r4 B17
  refine (sameInode_at cap4 ci is.length m a4 ai ⟨k, l, s, is, d⟩ ⟨k, l, s, is, d⟩ V19 rfl hli.out (by have := hli.out; omega) r5 (hri.below B20 (Nat.le_refl _))).mono ?_
  rintro r w21 ⟨rfl, b6⟩
  rw [sameI_self]
  have B22 := B20.trans (b6.mono B20.size)
  clear b6 r5 y2 B20
  go_wp2_with fail
  refine (putNode_at cap n a es w21 hl.out (by omega) hwe (hre.below B22 (Nat.le_refl _))).mono ?_
  rintro r w23 h26
  obtain ⟨g7, cap7, rfl, o7, _, _, hc7, hx7, b24⟩ := puts_block h26 HN.out HNl.out (by omega)
  have B25 := B22.trans (b24.mono B22.size)
  have r7 := owns_rd_at o7
  clear o7
  clear h26 b24 B22
  go_wp2_with fail
  refine (getNode_at 4096 cap7 _ N w23 HNl.out hc7 hx7 r7).mono ?_
  rintro r w27 h30
  obtain ⟨v8, rfl, o8, b28⟩ := getsN_some h30 HNg.out
  have B29 := B25.trans (b28.mono B25.size)
  obtain ⟨a8, cap8, rfl, l8, _, _, r8, _, _⟩ := ownsE_parts o8
  have L8 : Hid _ := l8
  clear r7 o8 l8
  clear h30 b28 B25
  go_wp2_with fail
  refine (sameExtents_at cap8 cap es.length n a8 a es es w27 rfl hl.out (by have := hl.out; omega) r8 (hre.below B29 (Nat.le_refl _))).mono ?_
  rintro r w31 ⟨rfl, b9⟩
  rw [decide_eq_true (rfl : es = es)]
  have B32 := B29.trans (b9.mono B29.size)
  clear b9 r8 B29
  go_wp2_with fail
  refine (again_at nb cb ab xs w31 hlb.out hcb hmb (hrb.below B32 (Nat.le_refl _))).mono ?_
  rintro r w33 ⟨rfl, bx⟩
  have B34 := B32.trans (bx.mono B32.size)
  clear bx B32
  go_wp2_with fail
  refine (awake_any w33).mono ?_
  rintro r w35 ⟨rfl, by'⟩
  have B36 := B34.trans (by'.mono B34.size)
  clear by' B34
  go_wp2
  go_ret
  exact ⟨rfl, B36⟩

set_option maxRecDepth 100000 in
set_option maxHeartbeats 2000000 in
theorem back_100 (b e q t : Int) (k : Nat) (l s d : Int) (ai : Option Addr) (m ci : Nat) (is : List Ext) (a : Option Addr) (n cap : Nat) (es : List Ext) (ab : Option Addr) (nb cb : Nat) (xs : List UInt8) (w : World) (h1 : n ≤ 600) (h2 : m ≤ 600) (h3 : nb ≤ 10000) (hli : Hid (is.length = m)) (hwi : ∀ e ∈ is, wfE e) (hri : RdE w ai is) (hl : Hid (es.length = n)) (hwe : ∀ e ∈ es, wfE e) (hre : RdE w a es) (hlb : Hid (xs.length = nb)) (hcb : nb ≤ cb) (hmb : cb ≤ 9223372036854775807) (hrb : Rd w ab xs) (S : List UInt8) (HS : Hid (putSuper b e q t = some S)) (HSl : Hid (S.length = 4096)) (HSg : Hid (getSuper S = some ⟨b, e, q, t⟩)) (HI : Hid (putInode k l s is d = none)) (HN : Hid (putNode es = none)) :
    Calls Try.prog 6 #[.agg #[.int .i64 b, .int .i64 e, .int .i64 q, .int .i64 t], .agg #[.int .u8 (k : Int), .int .i64 l, .int .i64 s, .slice ai m ci, .int .i64 d], .slice a n cap, .slice ab nb cb] w fun r w' => r = .returned (.bool true) ∧ Below w.heap.size w w' := by
  have b1 := (Below.refl w.heap.size w).alloc (Nat.le_refl _) (.cells #[.int .i64 b, .int .i64 e, .int .i64 q, .int .i64 t] 27)
  have x1 := Box.new w #[.int .i64 b, .int .i64 e, .int .i64 q, .int .i64 t] 27
  obtain ⟨u1, hu1⟩ : ∃ u, u = w.alloc (.cells #[.int .i64 b, .int .i64 e, .int .i64 q, .int .i64 t] 27) := ⟨_, rfl⟩
  have s1 : u1.heap.size = w.heap.size + 1 := by rw [hu1]; simp
  rw [← hu1] at b1 x1
  have b2 := (Below.refl u1.heap.size u1).alloc (Nat.le_refl _) (.cells #[.int .u8 (k : Int), .int .i64 l, .int .i64 s, .slice ai m ci, .int .i64 d] 32)
  have y2 := Box.new u1 #[.int .u8 (k : Int), .int .i64 l, .int .i64 s, .slice ai m ci, .int .i64 d] 32
  have x2 := x1.below b2
  have B0 := b1.trans (b2.mono b1.size)
  rw [s1] at y2
  have hn6 : ¬ (600 < (n : Int)) := by omega
  have hm6 : ¬ (600 < (m : Int)) := by omega
  have hb6 : ¬ (10000 < (nb : Int)) := by omega
  go_enter Try.func6, Try.ntmps6
  go_wp2_with fail
  rw [← hu1]
  obtain ⟨U, hU⟩ : ∃ U, U = u1.alloc (.cells #[.int .u8 (k : Int), .int .i64 l, .int .i64 s, .slice ai m ci, .int .i64 d] 32) := ⟨_, rfl⟩
  rw [← hU] at x2 y2 B0 ⊢
  clear hU hu1 s1 b1 b2 x1
  refine (putSuper_at b e q t U).mono ?_
  rintro r w1 h4
  obtain ⟨g1, cap1, rfl, o1, _, _, hc1, hx1, b2⟩ := puts_block h4 HS.out HSl.out (by omega)
  have B3 := B0.trans (b2.mono B0.size)
  have x2 := x2.below b2
  have y2 := y2.below b2
  have r1 := owns_rd_at o1
  clear o1
  clear h4 b2 B0
  go_wp2_with fail
  refine (getSuper_at 4096 cap1 _ S w1 HSl.out hc1 hx1 r1).mono ?_
  rintro r w5 h8
  obtain ⟨rfl, b6⟩ := getsS_some h8 HSg.out
  have B7 := B3.trans (b6.mono B3.size)
  have x2 := x2.below b6
  have y2 := y2.below b6
  clear r1
  clear h8 b6 B3
  have B11 := B7.alloc B7.size (.cells #[.int .i64 b, .int .i64 e, .int .i64 q, .int .i64 t] 27)
  have bA := (Below.refl w5.heap.size w5).alloc (Nat.le_refl _) (.cells #[.int .i64 b, .int .i64 e, .int .i64 q, .int .i64 t] 27)
  have x2 := x2.below bA
  have y2 := y2.below bA
  have c0 := x2.cell 0
  have c1 := x2.cell 1
  have c2 := x2.cell 2
  have c3 := x2.cell 3
  simp only [List.getElem?_toArray, List.getElem?_cons_zero, List.getElem?_cons_succ] at c0 c1 c2 c3
  have hne := fun u => neq27 u b e q t
  have hgu := guardN27
  have k0 := y2.cell 0
  have k1 := y2.cell 1
  have k2 := y2.cell 2
  have k3 := y2.cell 3
  have k4 := y2.cell 4
  simp only [List.getElem?_toArray, List.getElem?_cons_zero, List.getElem?_cons_succ] at k0 k1 k2 k3 k4
  go_wp2_with fail
  obtain ⟨V10, hV⟩ : ∃ V, V = w5.alloc (.cells #[.int .i64 b, .int .i64 e, .int .i64 q, .int .i64 t] 27) := ⟨_, rfl⟩
  rw [← hV] at B11 x2 y2 ⊢
  clear c0 c1 c2 c3
  clear k0 k1 k2 k3 k4
  clear hV bA hne hgu B7
  clear x2
  refine (putInode_at k m ci l s d ai is V10 hli.out (by omega) hwi (hri.below B11 (Nat.le_refl _))).mono ?_
  rintro r w12 h15
  obtain ⟨v3, rfl, o3, b13⟩ := puts_none h15 HI.out
  have B14 := B11.trans (b13.mono B11.size)
  have y2 := y2.below b13
  obtain ⟨a3, cap3, rfl, _, hc3, hx3, r3, _, _⟩ := owns_parts o3
  clear o3
  clear h15 b13 B11
  go_wp2_with fail
  refine (getInode_at 0 cap3 a3 [] w12 rfl hc3 hx3 r3).mono ?_
  rintro r w16 h19
  obtain ⟨v4, rfl, o4, b17⟩ := getsI_none h19 getInode_nil
  have B18 := B14.trans (b17.mono B14.size)
  have y2 := y2.below b17
  obtain ⟨a4, cap4, rfl, _, _, _, _, _, _⟩ := ownsE_parts o4
  clear r3 o4
  clear h19 b17 B14
  have B21 := B18.alloc B18.size (.cells #[.int .u8 0, .int .i64 0, .int .i64 0, .slice a4 0 cap4, .int .i64 0] 32)
  clear y2
  go_wp2_with fail
  obtain ⟨V20, hV⟩ : ∃ V, V = w16.alloc (.cells #[.int .u8 0, .int .i64 0, .int .i64 0, .slice a4 0 cap4, .int .i64 0] 32) := ⟨_, rfl⟩
  rw [← hV] at B21 ⊢
  clear hV B18
  refine (putNode_at cap n a es V20 hl.out (by omega) hwe (hre.below B21 (Nat.le_refl _))).mono ?_
  rintro r w22 h25
  obtain ⟨v7, rfl, o7, b23⟩ := puts_none h25 HN.out
  have B24 := B21.trans (b23.mono B21.size)
  obtain ⟨a7, cap7, rfl, _, hc7, hx7, r7, _, _⟩ := owns_parts o7
  clear o7
  clear h25 b23 B21
  go_wp2_with fail
  refine (getNode_at 0 cap7 a7 [] w22 rfl hc7 hx7 r7).mono ?_
  rintro r w26 h29
  obtain ⟨v8, rfl, o8, b27⟩ := getsN_none h29 getNode_nil
  have B28 := B24.trans (b27.mono B24.size)
  obtain ⟨a8, cap8, rfl, _, _, _, _, _, _⟩ := ownsE_parts o8
  clear r7 o8
  clear h29 b27 B24
  go_wp2_with fail
  refine (again_at nb cb ab xs w26 hlb.out hcb hmb (hrb.below B28 (Nat.le_refl _))).mono ?_
  rintro r w30 ⟨rfl, bx⟩
  have B31 := B28.trans (bx.mono B28.size)
  clear bx B28
  go_wp2_with fail
  refine (awake_any w30).mono ?_
  rintro r w32 ⟨rfl, by'⟩
  have B33 := B31.trans (by'.mono B31.size)
  clear by' B31
  go_wp2
  go_ret
  exact ⟨rfl, B33⟩

set_option maxRecDepth 100000 in
set_option maxHeartbeats 2000000 in
theorem back_101 (b e q t : Int) (k : Nat) (l s d : Int) (ai : Option Addr) (m ci : Nat) (is : List Ext) (a : Option Addr) (n cap : Nat) (es : List Ext) (ab : Option Addr) (nb cb : Nat) (xs : List UInt8) (w : World) (h1 : n ≤ 600) (h2 : m ≤ 600) (h3 : nb ≤ 10000) (hli : Hid (is.length = m)) (hwi : ∀ e ∈ is, wfE e) (hri : RdE w ai is) (hl : Hid (es.length = n)) (hwe : ∀ e ∈ es, wfE e) (hre : RdE w a es) (hlb : Hid (xs.length = nb)) (hcb : nb ≤ cb) (hmb : cb ≤ 9223372036854775807) (hrb : Rd w ab xs) (S : List UInt8) (HS : Hid (putSuper b e q t = some S)) (HSl : Hid (S.length = 4096)) (HSg : Hid (getSuper S = some ⟨b, e, q, t⟩)) (HI : Hid (putInode k l s is d = none)) (N : List UInt8) (HN : Hid (putNode es = some N)) (HNl : Hid (N.length = 4096)) (HNg : Hid (getNode N = some es)) :
    Calls Try.prog 6 #[.agg #[.int .i64 b, .int .i64 e, .int .i64 q, .int .i64 t], .agg #[.int .u8 (k : Int), .int .i64 l, .int .i64 s, .slice ai m ci, .int .i64 d], .slice a n cap, .slice ab nb cb] w fun r w' => r = .returned (.bool true) ∧ Below w.heap.size w w' := by
  have b1 := (Below.refl w.heap.size w).alloc (Nat.le_refl _) (.cells #[.int .i64 b, .int .i64 e, .int .i64 q, .int .i64 t] 27)
  have x1 := Box.new w #[.int .i64 b, .int .i64 e, .int .i64 q, .int .i64 t] 27
  obtain ⟨u1, hu1⟩ : ∃ u, u = w.alloc (.cells #[.int .i64 b, .int .i64 e, .int .i64 q, .int .i64 t] 27) := ⟨_, rfl⟩
  have s1 : u1.heap.size = w.heap.size + 1 := by rw [hu1]; simp
  rw [← hu1] at b1 x1
  have b2 := (Below.refl u1.heap.size u1).alloc (Nat.le_refl _) (.cells #[.int .u8 (k : Int), .int .i64 l, .int .i64 s, .slice ai m ci, .int .i64 d] 32)
  have y2 := Box.new u1 #[.int .u8 (k : Int), .int .i64 l, .int .i64 s, .slice ai m ci, .int .i64 d] 32
  have x2 := x1.below b2
  have B0 := b1.trans (b2.mono b1.size)
  rw [s1] at y2
  have hn6 : ¬ (600 < (n : Int)) := by omega
  have hm6 : ¬ (600 < (m : Int)) := by omega
  have hb6 : ¬ (10000 < (nb : Int)) := by omega
  go_enter Try.func6, Try.ntmps6
  go_wp2_with fail
  rw [← hu1]
  obtain ⟨U, hU⟩ : ∃ U, U = u1.alloc (.cells #[.int .u8 (k : Int), .int .i64 l, .int .i64 s, .slice ai m ci, .int .i64 d] 32) := ⟨_, rfl⟩
  rw [← hU] at x2 y2 B0 ⊢
  clear hU hu1 s1 b1 b2 x1
  refine (putSuper_at b e q t U).mono ?_
  rintro r w1 h4
  obtain ⟨g1, cap1, rfl, o1, _, _, hc1, hx1, b2⟩ := puts_block h4 HS.out HSl.out (by omega)
  have B3 := B0.trans (b2.mono B0.size)
  have x2 := x2.below b2
  have y2 := y2.below b2
  have r1 := owns_rd_at o1
  clear o1
  clear h4 b2 B0
  go_wp2_with fail
  refine (getSuper_at 4096 cap1 _ S w1 HSl.out hc1 hx1 r1).mono ?_
  rintro r w5 h8
  obtain ⟨rfl, b6⟩ := getsS_some h8 HSg.out
  have B7 := B3.trans (b6.mono B3.size)
  have x2 := x2.below b6
  have y2 := y2.below b6
  clear r1
  clear h8 b6 B3
  have B11 := B7.alloc B7.size (.cells #[.int .i64 b, .int .i64 e, .int .i64 q, .int .i64 t] 27)
  have bA := (Below.refl w5.heap.size w5).alloc (Nat.le_refl _) (.cells #[.int .i64 b, .int .i64 e, .int .i64 q, .int .i64 t] 27)
  have x2 := x2.below bA
  have y2 := y2.below bA
  have c0 := x2.cell 0
  have c1 := x2.cell 1
  have c2 := x2.cell 2
  have c3 := x2.cell 3
  simp only [List.getElem?_toArray, List.getElem?_cons_zero, List.getElem?_cons_succ] at c0 c1 c2 c3
  have hne := fun u => neq27 u b e q t
  have hgu := guardN27
  have k0 := y2.cell 0
  have k1 := y2.cell 1
  have k2 := y2.cell 2
  have k3 := y2.cell 3
  have k4 := y2.cell 4
  simp only [List.getElem?_toArray, List.getElem?_cons_zero, List.getElem?_cons_succ] at k0 k1 k2 k3 k4
  go_wp2_with fail
  obtain ⟨V10, hV⟩ : ∃ V, V = w5.alloc (.cells #[.int .i64 b, .int .i64 e, .int .i64 q, .int .i64 t] 27) := ⟨_, rfl⟩
  rw [← hV] at B11 x2 y2 ⊢
  clear c0 c1 c2 c3
  clear k0 k1 k2 k3 k4
  clear hV bA hne hgu B7
  clear x2
  refine (putInode_at k m ci l s d ai is V10 hli.out (by omega) hwi (hri.below B11 (Nat.le_refl _))).mono ?_
  rintro r w12 h15
  obtain ⟨v3, rfl, o3, b13⟩ := puts_none h15 HI.out
  have B14 := B11.trans (b13.mono B11.size)
  have y2 := y2.below b13
  obtain ⟨a3, cap3, rfl, _, hc3, hx3, r3, _, _⟩ := owns_parts o3
  clear o3
  clear h15 b13 B11
  go_wp2_with fail
  refine (getInode_at 0 cap3 a3 [] w12 rfl hc3 hx3 r3).mono ?_
  rintro r w16 h19
  obtain ⟨v4, rfl, o4, b17⟩ := getsI_none h19 getInode_nil
  have B18 := B14.trans (b17.mono B14.size)
  have y2 := y2.below b17
  obtain ⟨a4, cap4, rfl, _, _, _, _, _, _⟩ := ownsE_parts o4
  clear r3 o4
  clear h19 b17 B14
  have B21 := B18.alloc B18.size (.cells #[.int .u8 0, .int .i64 0, .int .i64 0, .slice a4 0 cap4, .int .i64 0] 32)
  clear y2
  go_wp2_with fail
  obtain ⟨V20, hV⟩ : ∃ V, V = w16.alloc (.cells #[.int .u8 0, .int .i64 0, .int .i64 0, .slice a4 0 cap4, .int .i64 0] 32) := ⟨_, rfl⟩
  rw [← hV] at B21 ⊢
  clear hV B18
  refine (putNode_at cap n a es V20 hl.out (by omega) hwe (hre.below B21 (Nat.le_refl _))).mono ?_
  rintro r w22 h25
  obtain ⟨g7, cap7, rfl, o7, _, _, hc7, hx7, b23⟩ := puts_block h25 HN.out HNl.out (by omega)
  have B24 := B21.trans (b23.mono B21.size)
  have r7 := owns_rd_at o7
  clear o7
  clear h25 b23 B21
  go_wp2_with fail
  refine (getNode_at 4096 cap7 _ N w22 HNl.out hc7 hx7 r7).mono ?_
  rintro r w26 h29
  obtain ⟨v8, rfl, o8, b27⟩ := getsN_some h29 HNg.out
  have B28 := B24.trans (b27.mono B24.size)
  obtain ⟨a8, cap8, rfl, l8, _, _, r8, _, _⟩ := ownsE_parts o8
  have L8 : Hid _ := l8
  clear r7 o8 l8
  clear h29 b27 B24
  go_wp2_with fail
  refine (sameExtents_at cap8 cap es.length n a8 a es es w26 rfl hl.out (by have := hl.out; omega) r8 (hre.below B28 (Nat.le_refl _))).mono ?_
  rintro r w30 ⟨rfl, b9⟩
  rw [decide_eq_true (rfl : es = es)]
  have B31 := B28.trans (b9.mono B28.size)
  clear b9 r8 B28
  go_wp2_with fail
  refine (again_at nb cb ab xs w30 hlb.out hcb hmb (hrb.below B31 (Nat.le_refl _))).mono ?_
  rintro r w32 ⟨rfl, bx⟩
  have B33 := B31.trans (bx.mono B31.size)
  clear bx B31
  go_wp2_with fail
  refine (awake_any w32).mono ?_
  rintro r w34 ⟨rfl, by'⟩
  have B35 := B33.trans (by'.mono B33.size)
  clear by' B33
  go_wp2
  go_ret
  exact ⟨rfl, B35⟩

set_option maxRecDepth 100000 in
set_option maxHeartbeats 2000000 in
theorem back_110 (b e q t : Int) (k : Nat) (l s d : Int) (ai : Option Addr) (m ci : Nat) (is : List Ext) (a : Option Addr) (n cap : Nat) (es : List Ext) (ab : Option Addr) (nb cb : Nat) (xs : List UInt8) (w : World) (h1 : n ≤ 600) (h2 : m ≤ 600) (h3 : nb ≤ 10000) (hli : Hid (is.length = m)) (hwi : ∀ e ∈ is, wfE e) (hri : RdE w ai is) (hl : Hid (es.length = n)) (hwe : ∀ e ∈ es, wfE e) (hre : RdE w a es) (hlb : Hid (xs.length = nb)) (hcb : nb ≤ cb) (hmb : cb ≤ 9223372036854775807) (hrb : Rd w ab xs) (S : List UInt8) (HS : Hid (putSuper b e q t = some S)) (HSl : Hid (S.length = 4096)) (HSg : Hid (getSuper S = some ⟨b, e, q, t⟩)) (I : List UInt8) (HI : Hid (putInode k l s is d = some I)) (HIl : Hid (I.length = 64)) (HIg : Hid (getInode I = some ⟨k, l, s, is, d⟩)) (HN : Hid (putNode es = none)) :
    Calls Try.prog 6 #[.agg #[.int .i64 b, .int .i64 e, .int .i64 q, .int .i64 t], .agg #[.int .u8 (k : Int), .int .i64 l, .int .i64 s, .slice ai m ci, .int .i64 d], .slice a n cap, .slice ab nb cb] w fun r w' => r = .returned (.bool true) ∧ Below w.heap.size w w' := by
  have b1 := (Below.refl w.heap.size w).alloc (Nat.le_refl _) (.cells #[.int .i64 b, .int .i64 e, .int .i64 q, .int .i64 t] 27)
  have x1 := Box.new w #[.int .i64 b, .int .i64 e, .int .i64 q, .int .i64 t] 27
  obtain ⟨u1, hu1⟩ : ∃ u, u = w.alloc (.cells #[.int .i64 b, .int .i64 e, .int .i64 q, .int .i64 t] 27) := ⟨_, rfl⟩
  have s1 : u1.heap.size = w.heap.size + 1 := by rw [hu1]; simp
  rw [← hu1] at b1 x1
  have b2 := (Below.refl u1.heap.size u1).alloc (Nat.le_refl _) (.cells #[.int .u8 (k : Int), .int .i64 l, .int .i64 s, .slice ai m ci, .int .i64 d] 32)
  have y2 := Box.new u1 #[.int .u8 (k : Int), .int .i64 l, .int .i64 s, .slice ai m ci, .int .i64 d] 32
  have x2 := x1.below b2
  have B0 := b1.trans (b2.mono b1.size)
  rw [s1] at y2
  have hn6 : ¬ (600 < (n : Int)) := by omega
  have hm6 : ¬ (600 < (m : Int)) := by omega
  have hb6 : ¬ (10000 < (nb : Int)) := by omega
  go_enter Try.func6, Try.ntmps6
  go_wp2_with fail
  rw [← hu1]
  obtain ⟨U, hU⟩ : ∃ U, U = u1.alloc (.cells #[.int .u8 (k : Int), .int .i64 l, .int .i64 s, .slice ai m ci, .int .i64 d] 32) := ⟨_, rfl⟩
  rw [← hU] at x2 y2 B0 ⊢
  clear hU hu1 s1 b1 b2 x1
  refine (putSuper_at b e q t U).mono ?_
  rintro r w1 h4
  obtain ⟨g1, cap1, rfl, o1, _, _, hc1, hx1, b2⟩ := puts_block h4 HS.out HSl.out (by omega)
  have B3 := B0.trans (b2.mono B0.size)
  have x2 := x2.below b2
  have y2 := y2.below b2
  have r1 := owns_rd_at o1
  clear o1
  clear h4 b2 B0
  go_wp2_with fail
  refine (getSuper_at 4096 cap1 _ S w1 HSl.out hc1 hx1 r1).mono ?_
  rintro r w5 h8
  obtain ⟨rfl, b6⟩ := getsS_some h8 HSg.out
  have B7 := B3.trans (b6.mono B3.size)
  have x2 := x2.below b6
  have y2 := y2.below b6
  clear r1
  clear h8 b6 B3
  have B11 := B7.alloc B7.size (.cells #[.int .i64 b, .int .i64 e, .int .i64 q, .int .i64 t] 27)
  have bA := (Below.refl w5.heap.size w5).alloc (Nat.le_refl _) (.cells #[.int .i64 b, .int .i64 e, .int .i64 q, .int .i64 t] 27)
  have x2 := x2.below bA
  have y2 := y2.below bA
  have c0 := x2.cell 0
  have c1 := x2.cell 1
  have c2 := x2.cell 2
  have c3 := x2.cell 3
  simp only [List.getElem?_toArray, List.getElem?_cons_zero, List.getElem?_cons_succ] at c0 c1 c2 c3
  have hne := fun u => neq27 u b e q t
  have hgu := guardN27
  have k0 := y2.cell 0
  have k1 := y2.cell 1
  have k2 := y2.cell 2
  have k3 := y2.cell 3
  have k4 := y2.cell 4
  simp only [List.getElem?_toArray, List.getElem?_cons_zero, List.getElem?_cons_succ] at k0 k1 k2 k3 k4
  go_wp2_with fail
  obtain ⟨V10, hV⟩ : ∃ V, V = w5.alloc (.cells #[.int .i64 b, .int .i64 e, .int .i64 q, .int .i64 t] 27) := ⟨_, rfl⟩
  rw [← hV] at B11 x2 y2 ⊢
  clear c0 c1 c2 c3
  clear k0 k1 k2 k3 k4
  clear hV bA hne hgu B7
  clear x2
  refine (putInode_at k m ci l s d ai is V10 hli.out (by omega) hwi (hri.below B11 (Nat.le_refl _))).mono ?_
  rintro r w12 h15
  obtain ⟨g3, cap3, rfl, o3, _, _, hc3, hx3, b13⟩ := puts_block h15 HI.out HIl.out (by omega)
  have B14 := B11.trans (b13.mono B11.size)
  have y2 := y2.below b13
  have r3 := owns_rd_at o3
  clear o3
  clear h15 b13 B11
  go_wp2_with fail
  refine (getInode_at 64 cap3 _ I w12 HIl.out hc3 hx3 r3).mono ?_
  rintro r w16 h19
  obtain ⟨v4, rfl, o4, b17⟩ := getsI_some h19 HIg.out
  have B18 := B14.trans (b17.mono B14.size)
  have y2 := y2.below b17
  obtain ⟨a4, cap4, rfl, l4, _, _, r4, _, _⟩ := ownsE_parts o4
  have L4 : Hid _ := l4
  clear r3 o4 l4
  clear h19 b17 B14
  have B21 := B18.alloc B18.size (.cells #[.int .u8 (k : Int), .int .i64 l, .int .i64 s, .slice a4 is.length cap4, .int .i64 d] 32)
  have bA := (Below.refl w16.heap.size w16).alloc (Nat.le_refl _) (.cells #[.int .u8 (k : Int), .int .i64 l, .int .i64 s, .slice a4 is.length cap4, .int .i64 d] 32)
  have y2 := y2.below bA
  have r5 := r4.below bA (Nat.le_refl _)
  have c0 := y2.cell 0
  have c1 := y2.cell 1
  have c2 := y2.cell 2
  have c3 := y2.cell 3
  have c4 := y2.cell 4
  simp only [List.getElem?_toArray, List.getElem?_cons_zero, List.getElem?_cons_succ] at c0 c1 c2 c3 c4
  go_wp2_with fail
  obtain ⟨V20, hV⟩ : ∃ V, V = w16.alloc (.cells #[.int .u8 (k : Int), .int .i64 l, .int .i64 s, .slice a4 is.length cap4, .int .i64 d] 32) := ⟨_, rfl⟩
  rw [← hV] at B21 y2 r5 ⊢
  clear c0 c1 c2 c3 c4
  clear hV bA r4 B18
  refine (sameInode_at cap4 ci is.length m a4 ai ⟨k, l, s, is, d⟩ ⟨k, l, s, is, d⟩ V20 rfl hli.out (by have := hli.out; omega) r5 (hri.below B21 (Nat.le_refl _))).mono ?_
  rintro r w22 ⟨rfl, b6⟩
  rw [sameI_self]
  have B23 := B21.trans (b6.mono B21.size)
  clear b6 r5 y2 B21
  go_wp2_with fail
  refine (putNode_at cap n a es w22 hl.out (by omega) hwe (hre.below B23 (Nat.le_refl _))).mono ?_
  rintro r w24 h27
  obtain ⟨v7, rfl, o7, b25⟩ := puts_none h27 HN.out
  have B26 := B23.trans (b25.mono B23.size)
  obtain ⟨a7, cap7, rfl, _, hc7, hx7, r7, _, _⟩ := owns_parts o7
  clear o7
  clear h27 b25 B23
  go_wp2_with fail
  refine (getNode_at 0 cap7 a7 [] w24 rfl hc7 hx7 r7).mono ?_
  rintro r w28 h31
  obtain ⟨v8, rfl, o8, b29⟩ := getsN_none h31 getNode_nil
  have B30 := B26.trans (b29.mono B26.size)
  obtain ⟨a8, cap8, rfl, _, _, _, _, _, _⟩ := ownsE_parts o8
  clear r7 o8
  clear h31 b29 B26
  go_wp2_with fail
  refine (again_at nb cb ab xs w28 hlb.out hcb hmb (hrb.below B30 (Nat.le_refl _))).mono ?_
  rintro r w32 ⟨rfl, bx⟩
  have B33 := B30.trans (bx.mono B30.size)
  clear bx B30
  go_wp2_with fail
  refine (awake_any w32).mono ?_
  rintro r w34 ⟨rfl, by'⟩
  have B35 := B33.trans (by'.mono B33.size)
  clear by' B33
  go_wp2
  go_ret
  exact ⟨rfl, B35⟩

set_option maxRecDepth 100000 in
set_option maxHeartbeats 2000000 in
theorem back_111 (b e q t : Int) (k : Nat) (l s d : Int) (ai : Option Addr) (m ci : Nat) (is : List Ext) (a : Option Addr) (n cap : Nat) (es : List Ext) (ab : Option Addr) (nb cb : Nat) (xs : List UInt8) (w : World) (h1 : n ≤ 600) (h2 : m ≤ 600) (h3 : nb ≤ 10000) (hli : Hid (is.length = m)) (hwi : ∀ e ∈ is, wfE e) (hri : RdE w ai is) (hl : Hid (es.length = n)) (hwe : ∀ e ∈ es, wfE e) (hre : RdE w a es) (hlb : Hid (xs.length = nb)) (hcb : nb ≤ cb) (hmb : cb ≤ 9223372036854775807) (hrb : Rd w ab xs) (S : List UInt8) (HS : Hid (putSuper b e q t = some S)) (HSl : Hid (S.length = 4096)) (HSg : Hid (getSuper S = some ⟨b, e, q, t⟩)) (I : List UInt8) (HI : Hid (putInode k l s is d = some I)) (HIl : Hid (I.length = 64)) (HIg : Hid (getInode I = some ⟨k, l, s, is, d⟩)) (N : List UInt8) (HN : Hid (putNode es = some N)) (HNl : Hid (N.length = 4096)) (HNg : Hid (getNode N = some es)) :
    Calls Try.prog 6 #[.agg #[.int .i64 b, .int .i64 e, .int .i64 q, .int .i64 t], .agg #[.int .u8 (k : Int), .int .i64 l, .int .i64 s, .slice ai m ci, .int .i64 d], .slice a n cap, .slice ab nb cb] w fun r w' => r = .returned (.bool true) ∧ Below w.heap.size w w' := by
  have b1 := (Below.refl w.heap.size w).alloc (Nat.le_refl _) (.cells #[.int .i64 b, .int .i64 e, .int .i64 q, .int .i64 t] 27)
  have x1 := Box.new w #[.int .i64 b, .int .i64 e, .int .i64 q, .int .i64 t] 27
  obtain ⟨u1, hu1⟩ : ∃ u, u = w.alloc (.cells #[.int .i64 b, .int .i64 e, .int .i64 q, .int .i64 t] 27) := ⟨_, rfl⟩
  have s1 : u1.heap.size = w.heap.size + 1 := by rw [hu1]; simp
  rw [← hu1] at b1 x1
  have b2 := (Below.refl u1.heap.size u1).alloc (Nat.le_refl _) (.cells #[.int .u8 (k : Int), .int .i64 l, .int .i64 s, .slice ai m ci, .int .i64 d] 32)
  have y2 := Box.new u1 #[.int .u8 (k : Int), .int .i64 l, .int .i64 s, .slice ai m ci, .int .i64 d] 32
  have x2 := x1.below b2
  have B0 := b1.trans (b2.mono b1.size)
  rw [s1] at y2
  have hn6 : ¬ (600 < (n : Int)) := by omega
  have hm6 : ¬ (600 < (m : Int)) := by omega
  have hb6 : ¬ (10000 < (nb : Int)) := by omega
  go_enter Try.func6, Try.ntmps6
  go_wp2_with fail
  rw [← hu1]
  obtain ⟨U, hU⟩ : ∃ U, U = u1.alloc (.cells #[.int .u8 (k : Int), .int .i64 l, .int .i64 s, .slice ai m ci, .int .i64 d] 32) := ⟨_, rfl⟩
  rw [← hU] at x2 y2 B0 ⊢
  clear hU hu1 s1 b1 b2 x1
  refine (putSuper_at b e q t U).mono ?_
  rintro r w1 h4
  obtain ⟨g1, cap1, rfl, o1, _, _, hc1, hx1, b2⟩ := puts_block h4 HS.out HSl.out (by omega)
  have B3 := B0.trans (b2.mono B0.size)
  have x2 := x2.below b2
  have y2 := y2.below b2
  have r1 := owns_rd_at o1
  clear o1
  clear h4 b2 B0
  go_wp2_with fail
  refine (getSuper_at 4096 cap1 _ S w1 HSl.out hc1 hx1 r1).mono ?_
  rintro r w5 h8
  obtain ⟨rfl, b6⟩ := getsS_some h8 HSg.out
  have B7 := B3.trans (b6.mono B3.size)
  have x2 := x2.below b6
  have y2 := y2.below b6
  clear r1
  clear h8 b6 B3
  have B11 := B7.alloc B7.size (.cells #[.int .i64 b, .int .i64 e, .int .i64 q, .int .i64 t] 27)
  have bA := (Below.refl w5.heap.size w5).alloc (Nat.le_refl _) (.cells #[.int .i64 b, .int .i64 e, .int .i64 q, .int .i64 t] 27)
  have x2 := x2.below bA
  have y2 := y2.below bA
  have c0 := x2.cell 0
  have c1 := x2.cell 1
  have c2 := x2.cell 2
  have c3 := x2.cell 3
  simp only [List.getElem?_toArray, List.getElem?_cons_zero, List.getElem?_cons_succ] at c0 c1 c2 c3
  have hne := fun u => neq27 u b e q t
  have hgu := guardN27
  have k0 := y2.cell 0
  have k1 := y2.cell 1
  have k2 := y2.cell 2
  have k3 := y2.cell 3
  have k4 := y2.cell 4
  simp only [List.getElem?_toArray, List.getElem?_cons_zero, List.getElem?_cons_succ] at k0 k1 k2 k3 k4
  go_wp2_with fail
  obtain ⟨V10, hV⟩ : ∃ V, V = w5.alloc (.cells #[.int .i64 b, .int .i64 e, .int .i64 q, .int .i64 t] 27) := ⟨_, rfl⟩
  rw [← hV] at B11 x2 y2 ⊢
  clear c0 c1 c2 c3
  clear k0 k1 k2 k3 k4
  clear hV bA hne hgu B7
  clear x2
  refine (putInode_at k m ci l s d ai is V10 hli.out (by omega) hwi (hri.below B11 (Nat.le_refl _))).mono ?_
  rintro r w12 h15
  obtain ⟨g3, cap3, rfl, o3, _, _, hc3, hx3, b13⟩ := puts_block h15 HI.out HIl.out (by omega)
  have B14 := B11.trans (b13.mono B11.size)
  have y2 := y2.below b13
  have r3 := owns_rd_at o3
  clear o3
  clear h15 b13 B11
  go_wp2_with fail
  refine (getInode_at 64 cap3 _ I w12 HIl.out hc3 hx3 r3).mono ?_
  rintro r w16 h19
  obtain ⟨v4, rfl, o4, b17⟩ := getsI_some h19 HIg.out
  have B18 := B14.trans (b17.mono B14.size)
  have y2 := y2.below b17
  obtain ⟨a4, cap4, rfl, l4, _, _, r4, _, _⟩ := ownsE_parts o4
  have L4 : Hid _ := l4
  clear r3 o4 l4
  clear h19 b17 B14
  have B21 := B18.alloc B18.size (.cells #[.int .u8 (k : Int), .int .i64 l, .int .i64 s, .slice a4 is.length cap4, .int .i64 d] 32)
  have bA := (Below.refl w16.heap.size w16).alloc (Nat.le_refl _) (.cells #[.int .u8 (k : Int), .int .i64 l, .int .i64 s, .slice a4 is.length cap4, .int .i64 d] 32)
  have y2 := y2.below bA
  have r5 := r4.below bA (Nat.le_refl _)
  have c0 := y2.cell 0
  have c1 := y2.cell 1
  have c2 := y2.cell 2
  have c3 := y2.cell 3
  have c4 := y2.cell 4
  simp only [List.getElem?_toArray, List.getElem?_cons_zero, List.getElem?_cons_succ] at c0 c1 c2 c3 c4
  go_wp2_with fail
  obtain ⟨V20, hV⟩ : ∃ V, V = w16.alloc (.cells #[.int .u8 (k : Int), .int .i64 l, .int .i64 s, .slice a4 is.length cap4, .int .i64 d] 32) := ⟨_, rfl⟩
  rw [← hV] at B21 y2 r5 ⊢
  clear c0 c1 c2 c3 c4
  clear hV bA r4 B18
  refine (sameInode_at cap4 ci is.length m a4 ai ⟨k, l, s, is, d⟩ ⟨k, l, s, is, d⟩ V20 rfl hli.out (by have := hli.out; omega) r5 (hri.below B21 (Nat.le_refl _))).mono ?_
  rintro r w22 ⟨rfl, b6⟩
  rw [sameI_self]
  have B23 := B21.trans (b6.mono B21.size)
  clear b6 r5 y2 B21
  go_wp2_with fail
  refine (putNode_at cap n a es w22 hl.out (by omega) hwe (hre.below B23 (Nat.le_refl _))).mono ?_
  rintro r w24 h27
  obtain ⟨g7, cap7, rfl, o7, _, _, hc7, hx7, b25⟩ := puts_block h27 HN.out HNl.out (by omega)
  have B26 := B23.trans (b25.mono B23.size)
  have r7 := owns_rd_at o7
  clear o7
  clear h27 b25 B23
  go_wp2_with fail
  refine (getNode_at 4096 cap7 _ N w24 HNl.out hc7 hx7 r7).mono ?_
  rintro r w28 h31
  obtain ⟨v8, rfl, o8, b29⟩ := getsN_some h31 HNg.out
  have B30 := B26.trans (b29.mono B26.size)
  obtain ⟨a8, cap8, rfl, l8, _, _, r8, _, _⟩ := ownsE_parts o8
  have L8 : Hid _ := l8
  clear r7 o8 l8
  clear h31 b29 B26
  go_wp2_with fail
  refine (sameExtents_at cap8 cap es.length n a8 a es es w28 rfl hl.out (by have := hl.out; omega) r8 (hre.below B30 (Nat.le_refl _))).mono ?_
  rintro r w32 ⟨rfl, b9⟩
  rw [decide_eq_true (rfl : es = es)]
  have B33 := B30.trans (b9.mono B30.size)
  clear b9 r8 B30
  go_wp2_with fail
  refine (again_at nb cb ab xs w32 hlb.out hcb hmb (hrb.below B33 (Nat.le_refl _))).mono ?_
  rintro r w34 ⟨rfl, bx⟩
  have B35 := B33.trans (bx.mono B33.size)
  clear bx B33
  go_wp2_with fail
  refine (awake_any w34).mono ?_
  rintro r w36 ⟨rfl, by'⟩
  have B37 := B35.trans (by'.mono B35.size)
  clear by' B35
  go_wp2
  go_ret
  exact ⟨rfl, B37⟩

theorem putSuper_or (b e q t : Int) : putSuper b e q t = none ∨ ∃ S, putSuper b e q t = some S ∧ S.length = 4096 ∧ getSuper S = some ⟨b, e, q, t⟩ := by
  unfold putSuper
  cases h : rightS b e q t
  · exact .inl rfl
  · exact .inr ⟨_, rfl, superB_length _ _ _ _, getSuper_put b e q t h⟩
theorem putNode_or (es : List Ext) : putNode es = none ∨ ∃ N, putNode es = some N ∧ N.length = 4096 ∧ getNode N = some es := by
  unfold putNode
  cases hc : (decide (es.length ≤ 250) && rightFrom 0 es)
  · exact .inl rfl
  · simp only [Bool.and_eq_true, decide_eq_true_eq] at hc
    exact .inr ⟨_, rfl, nodeB_length _ hc.1, getNode_put es hc.1 hc.2⟩
theorem putInode_or (k : Nat) (l s : Int) (is : List Ext) (d : Int) : putInode k l s is d = none ∨ ∃ I, putInode k l s is d = some I ∧ I.length = 64 ∧ getInode I = some ⟨k, l, s, is, d⟩ := by
  unfold putInode
  cases hu : unusedI k l s is.length d
  · cases h : usedI k l s is d
    · exact .inl rfl
    · obtain ⟨_, _, _, h3, _, _⟩ := usedI_nat h
      exact .inr ⟨_, rfl, inodeB_length _ _ _ _ _ h3, getInode_put k l s is d h⟩
  · refine .inr ⟨_, rfl, noughts_length _, ?_⟩
    simp only [unusedI, Bool.and_eq_true, beq_iff_eq] at hu
    obtain ⟨h1, h2, h3, h4, h5⟩ := hu
    obtain rfl : k = 0 := by omega
    obtain rfl : is = [] := List.eq_nil_of_length_eq_zero (by omega)
    subst h2 h3 h5
    exact getInode_zero

theorem back_any (b e q t : Int) (k : Nat) (l s d : Int) (ai : Option Addr) (m ci : Nat) (is : List Ext) (a : Option Addr) (n cap : Nat) (es : List Ext) (ab : Option Addr) (nb cb : Nat) (xs : List UInt8) (w : World) (h1 : n ≤ 600) (h2 : m ≤ 600) (h3 : nb ≤ 10000) (hli : Hid (is.length = m)) (hwi : ∀ e ∈ is, wfE e) (hri : RdE w ai is) (hl : Hid (es.length = n)) (hwe : ∀ e ∈ es, wfE e) (hre : RdE w a es) (hlb : Hid (xs.length = nb)) (hcb : nb ≤ cb) (hmb : cb ≤ 9223372036854775807) (hrb : Rd w ab xs) :
    Calls Try.prog 6 #[.agg #[.int .i64 b, .int .i64 e, .int .i64 q, .int .i64 t], .agg #[.int .u8 (k : Int), .int .i64 l, .int .i64 s, .slice ai m ci, .int .i64 d], .slice a n cap, .slice ab nb cb] w fun r w' => r = .returned (.bool true) ∧ Below w.heap.size w w' := by
  rcases putSuper_or b e q t with hS | ⟨S, hS, hS1, hS2⟩
  · rcases putInode_or k l s is d with hI | ⟨I, hI, hI1, hI2⟩
    · rcases putNode_or es with hN | ⟨N, hN, hN1, hN2⟩
      · exact back_000 b e q t k l s d ai m ci is a n cap es ab nb cb xs w h1 h2 h3 hli hwi hri hl hwe hre hlb hcb hmb hrb hS hI hN
      · exact back_001 b e q t k l s d ai m ci is a n cap es ab nb cb xs w h1 h2 h3 hli hwi hri hl hwe hre hlb hcb hmb hrb hS hI N hN hN1 hN2
    · rcases putNode_or es with hN | ⟨N, hN, hN1, hN2⟩
      · exact back_010 b e q t k l s d ai m ci is a n cap es ab nb cb xs w h1 h2 h3 hli hwi hri hl hwe hre hlb hcb hmb hrb hS I hI hI1 hI2 hN
      · exact back_011 b e q t k l s d ai m ci is a n cap es ab nb cb xs w h1 h2 h3 hli hwi hri hl hwe hre hlb hcb hmb hrb hS I hI hI1 hI2 N hN hN1 hN2
  · rcases putInode_or k l s is d with hI | ⟨I, hI, hI1, hI2⟩
    · rcases putNode_or es with hN | ⟨N, hN, hN1, hN2⟩
      · exact back_100 b e q t k l s d ai m ci is a n cap es ab nb cb xs w h1 h2 h3 hli hwi hri hl hwe hre hlb hcb hmb hrb S hS hS1 hS2 hI hN
      · exact back_101 b e q t k l s d ai m ci is a n cap es ab nb cb xs w h1 h2 h3 hli hwi hri hl hwe hre hlb hcb hmb hrb S hS hS1 hS2 hI N hN hN1 hN2
    · rcases putNode_or es with hN | ⟨N, hN, hN1, hN2⟩
      · exact back_110 b e q t k l s d ai m ci is a n cap es ab nb cb xs w h1 h2 h3 hli hwi hri hl hwe hre hlb hcb hmb hrb S hS hS1 hS2 I hI hI1 hI2 hN
      · exact back_111 b e q t k l s d ai m ci is a n cap es ab nb cb xs w h1 h2 h3 hli hwi hri hl hwe hre hlb hcb hmb hrb S hS hS1 hS2 I hI hI1 hI2 N hN hN1 hN2
end Go.Proofs.Ytmhplpiglbamcaa
