/-
  What is got is put the same, what is put is got back: the walks of again and of SuperBack.
-/
import Derived.Test.YtmhplpiglbamcaaBursts
namespace Go.Proofs.Ytmhplpiglbamcaa
open Go.RowKit

theorem fields27 : Try.prog.underlying 27 = some (.struct (Try.prog.fieldsOf 27)) := by kernel_rfl
theorem held27 : Try.prog.stoodInHeld 27 = false := by kernel_rfl
theorem guard27 : Try.prog.eqGuardType Try.prog.depth 27 = false := by kernel_rfl
theorem neq27 (u : World) (a b c d : Int) : (binOp .neq 27 (.agg #[.int .i64 a, .int .i64 b, .int .i64 c, .int .i64 d]) (.agg #[.int .i64 a, .int .i64 b, .int .i64 c, .int .i64 d])).run Try.prog u = .ok (.bool false) u := by
  rw [run_neq_struct, run_equalIn_agg u 9999 27 _ _ fields27 held27]
  simp only [Program.fieldsOf, Try.underlying27]
  simp [go_sem, Op.eqFields, Try.underlying3]
theorem guardN27 (u : World) (x y : Operand) (xs ys : Array Value) : (eqGuard .neq 27 x y (.agg xs) (.agg ys)).run Try.prog u = .ok () u := run_eqGuard_agg u .neq 27 x y xs ys guard27

set_option maxRecDepth 100000 in
set_option maxHeartbeats 2000000 in
theorem again_000 (n cap : Nat) (a : Option Addr) (xs : List UInt8) (w : World) (hn : Hid (xs.length = n)) (hc : n ≤ cap) (hm : cap ≤ 9223372036854775807) (hr : Rd w a xs) (HS : Hid (getSuper xs = none)) (HI : Hid (getInode xs = none)) (HN : Hid (getNode xs = none)) :
    Calls Try.prog 33 #[.slice a n cap] w fun r w' => r = .returned (.bool true) ∧ Below w.heap.size w w' := by
  have B0 := Below.refl w.heap.size w
  go_enter Try.func33, Try.ntmps33
  go_wp2_with fail
  refine (getSuper_at n cap a xs w hn.out hc hm (hr.below B0 (Nat.le_refl _))).mono ?_
  rintro r w1 h4
  obtain ⟨rfl, b2⟩ := getsS_none h4 HS.out
  have B3 := B0.trans (b2.mono B0.size)
  clear h4 b2 B0
  have B6 := B3.alloc B3.size (.cells #[.int .i64 0, .int .i64 0, .int .i64 0, .int .i64 0] 27)
  go_wp2_with fail
  obtain ⟨V5, hV5⟩ : ∃ V, V = w1.alloc (.cells #[.int .i64 0, .int .i64 0, .int .i64 0, .int .i64 0] 27) := ⟨_, rfl⟩
  rw [← hV5] at B6 ⊢
  clear hV5 B3
  refine (getInode_at n cap a xs V5 hn.out hc hm (hr.below B6 (Nat.le_refl _))).mono ?_
  rintro r w7 h10
  obtain ⟨v2, rfl, o2, b8⟩ := getsI_none h10 HI.out
  have B9 := B6.trans (b8.mono B6.size)
  obtain ⟨a2, cap2, rfl, _, _, _, _, _, _⟩ := ownsE_parts o2
  clear o2
  clear h10 b8 B6
  have B12 := B9.alloc B9.size (.cells #[.int .u8 0, .int .i64 0, .int .i64 0, .slice a2 0 cap2, .int .i64 0] 32)
  go_wp2_with fail
  obtain ⟨V11, hV11⟩ : ∃ V, V = w7.alloc (.cells #[.int .u8 0, .int .i64 0, .int .i64 0, .slice a2 0 cap2, .int .i64 0] 32) := ⟨_, rfl⟩
  rw [← hV11] at B12 ⊢
  clear hV11 B9
  refine (getNode_at n cap a xs V11 hn.out hc hm (hr.below B12 (Nat.le_refl _))).mono ?_
  rintro r w13 h16
  obtain ⟨v5, rfl, o5, b14⟩ := getsN_none h16 HN.out
  have B15 := B12.trans (b14.mono B12.size)
  obtain ⟨a5, cap5, rfl, _, _, _, _, _, _⟩ := ownsE_parts o5
  clear o5
  clear h16 b14 B12
  go_wp2
  go_ret
  exact ⟨rfl, B15⟩

set_option maxRecDepth 100000 in
set_option maxHeartbeats 2000000 in
theorem again_100 (n cap : Nat) (a : Option Addr) (xs : List UInt8) (w : World) (hn : Hid (xs.length = n)) (hc : n ≤ cap) (hm : cap ≤ 9223372036854775807) (h0 : 0 < n) (hr : Rd w a xs) (s : Sup) (HS : Hid (getSuper xs = some s)) (HSp : Hid (putSuper s.b s.e s.q s.t = some xs)) (HI : Hid (getInode xs = none)) (HN : Hid (getNode xs = none)) :
    Calls Try.prog 33 #[.slice a n cap] w fun r w' => r = .returned (.bool true) ∧ Below w.heap.size w w' := by
  have B0 := Below.refl w.heap.size w
  go_enter Try.func33, Try.ntmps33
  go_wp2_with fail
  refine (getSuper_at n cap a xs w hn.out hc hm (hr.below B0 (Nat.le_refl _))).mono ?_
  rintro r w1 h4
  obtain ⟨rfl, b2⟩ := getsS_some h4 HS.out
  have B3 := B0.trans (b2.mono B0.size)
  clear h4 b2 B0
  have B6 := B3.alloc B3.size (.cells #[.int .i64 s.b, .int .i64 s.e, .int .i64 s.q, .int .i64 s.t] 27)
  go_wp2_with fail
  obtain ⟨V5, hV5⟩ : ∃ V, V = w1.alloc (.cells #[.int .i64 s.b, .int .i64 s.e, .int .i64 s.q, .int .i64 s.t] 27) := ⟨_, rfl⟩
  rw [← hV5] at B6 ⊢
  clear hV5 B3
  refine (putSuper_at s.b s.e s.q s.t V5).mono ?_
  rintro r w7 h10
  obtain ⟨g1, cap1, rfl, o1, _, _, _, _, b8⟩ := puts_block h10 HSp.out hn.out h0
  have B9 := B6.trans (b8.mono B6.size)
  have r1 := owns_rd_at o1
  clear o1
  clear h10 b8 B6
  go_wp2_with fail
  refine (same_at _ _ n n _ a xs xs w7 hn.out hn.out r1 (hr.below B9 (Nat.le_refl _))).mono ?_
  rintro r w' ⟨rfl, rfl⟩
  clear r1
  go_wp2_with fail
  refine (getInode_at n cap a xs w7 hn.out hc hm (hr.below B9 (Nat.le_refl _))).mono ?_
  rintro r w11 h14
  obtain ⟨v2, rfl, o2, b12⟩ := getsI_none h14 HI.out
  have B13 := B9.trans (b12.mono B9.size)
  obtain ⟨a2, cap2, rfl, _, _, _, _, _, _⟩ := ownsE_parts o2
  clear o2
  clear h14 b12 B9
  have B16 := B13.alloc B13.size (.cells #[.int .u8 0, .int .i64 0, .int .i64 0, .slice a2 0 cap2, .int .i64 0] 32)
  go_wp2_with fail
  obtain ⟨V15, hV15⟩ : ∃ V, V = w11.alloc (.cells #[.int .u8 0, .int .i64 0, .int .i64 0, .slice a2 0 cap2, .int .i64 0] 32) := ⟨_, rfl⟩
  rw [← hV15] at B16 ⊢
  clear hV15 B13
  refine (getNode_at n cap a xs V15 hn.out hc hm (hr.below B16 (Nat.le_refl _))).mono ?_
  rintro r w17 h20
  obtain ⟨v5, rfl, o5, b18⟩ := getsN_none h20 HN.out
  have B19 := B16.trans (b18.mono B16.size)
  obtain ⟨a5, cap5, rfl, _, _, _, _, _, _⟩ := ownsE_parts o5
  clear o5
  clear h20 b18 B16
  go_wp2
  go_ret
  exact ⟨rfl, B19⟩

set_option maxRecDepth 100000 in
set_option maxHeartbeats 2000000 in
theorem again_010 (n cap : Nat) (a : Option Addr) (xs : List UInt8) (w : World) (hn : Hid (xs.length = n)) (hc : n ≤ cap) (hm : cap ≤ 9223372036854775807) (h0 : 0 < n) (hr : Rd w a xs) (HS : Hid (getSuper xs = none)) (i : Ino) (HI : Hid (getInode xs = some i)) (HIp : Hid (putInode i.k i.l i.s i.d i.n = some xs)) (hil : i.d.length ≤ 9223372036854775807) (hwi : ∀ e ∈ i.d, wfE e) (HN : Hid (getNode xs = none)) :
    Calls Try.prog 33 #[.slice a n cap] w fun r w' => r = .returned (.bool true) ∧ Below w.heap.size w w' := by
  have B0 := Below.refl w.heap.size w
  go_enter Try.func33, Try.ntmps33
  go_wp2_with fail
  refine (getSuper_at n cap a xs w hn.out hc hm (hr.below B0 (Nat.le_refl _))).mono ?_
  rintro r w1 h4
  obtain ⟨rfl, b2⟩ := getsS_none h4 HS.out
  have B3 := B0.trans (b2.mono B0.size)
  clear h4 b2 B0
  have B6 := B3.alloc B3.size (.cells #[.int .i64 0, .int .i64 0, .int .i64 0, .int .i64 0] 27)
  go_wp2_with fail
  obtain ⟨V5, hV5⟩ : ∃ V, V = w1.alloc (.cells #[.int .i64 0, .int .i64 0, .int .i64 0, .int .i64 0] 27) := ⟨_, rfl⟩
  rw [← hV5] at B6 ⊢
  clear hV5 B3
  refine (getInode_at n cap a xs V5 hn.out hc hm (hr.below B6 (Nat.le_refl _))).mono ?_
  rintro r w7 h10
  obtain ⟨v2, rfl, o2, b8⟩ := getsI_some h10 HI.out
  have B9 := B6.trans (b8.mono B6.size)
  obtain ⟨a2, cap2, rfl, l2, _, _, r2, _, _⟩ := ownsE_parts o2
  have L2 : Hid _ := l2
  clear o2 l2
  clear h10 b8 B6
  have B12 := B9.alloc B9.size (.cells #[.int .u8 (i.k : Int), .int .i64 i.l, .int .i64 i.s, .slice a2 i.d.length cap2, .int .i64 i.n] 32)
  have bA := (Below.refl w7.heap.size w7).alloc (Nat.le_refl _) (.cells #[.int .u8 (i.k : Int), .int .i64 i.l, .int .i64 i.s, .slice a2 i.d.length cap2, .int .i64 i.n] 32)
  have r3 := r2.below bA (Nat.le_refl _)
  go_wp2_with fail
  obtain ⟨V11, hV⟩ : ∃ V, V = w7.alloc (.cells #[.int .u8 (i.k : Int), .int .i64 i.l, .int .i64 i.s, .slice a2 i.d.length cap2, .int .i64 i.n] 32) := ⟨_, rfl⟩
  rw [← hV] at B12 r3 ⊢
  clear hV bA r2 B9
  refine (putInode_at i.k i.d.length cap2 i.l i.s i.n a2 i.d V11 rfl hil hwi r3).mono ?_
  rintro r w13 h16
  obtain ⟨g3, cap3, rfl, o3, _, _, _, _, b14⟩ := puts_block h16 HIp.out hn.out h0
  have B15 := B12.trans (b14.mono B12.size)
  have r4 := owns_rd_at o3
  clear o3 r3
  clear h16 b14 B12
  go_wp2_with fail
  refine (same_at _ _ n n _ a xs xs w13 hn.out hn.out r4 (hr.below B15 (Nat.le_refl _))).mono ?_
  rintro r w' ⟨rfl, rfl⟩
  clear r4
  go_wp2_with fail
  refine (getNode_at n cap a xs w13 hn.out hc hm (hr.below B15 (Nat.le_refl _))).mono ?_
  rintro r w17 h20
  obtain ⟨v5, rfl, o5, b18⟩ := getsN_none h20 HN.out
  have B19 := B15.trans (b18.mono B15.size)
  obtain ⟨a5, cap5, rfl, _, _, _, _, _, _⟩ := ownsE_parts o5
  clear o5
  clear h20 b18 B15
  go_wp2
  go_ret
  exact ⟨rfl, B19⟩

set_option maxRecDepth 100000 in
set_option maxHeartbeats 2000000 in
theorem again_001 (n cap : Nat) (a : Option Addr) (xs : List UInt8) (w : World) (hn : Hid (xs.length = n)) (hc : n ≤ cap) (hm : cap ≤ 9223372036854775807) (h0 : 0 < n) (hr : Rd w a xs) (HS : Hid (getSuper xs = none)) (HI : Hid (getInode xs = none)) (es : List Ext) (HN : Hid (getNode xs = some es)) (HNp : Hid (putNode es = some xs)) (HNr : Hid (rightFrom 0 es = true)) (hel : es.length ≤ 9223372036854775807) (hwe : ∀ e ∈ es, wfE e) :
    Calls Try.prog 33 #[.slice a n cap] w fun r w' => r = .returned (.bool true) ∧ Below w.heap.size w w' := by
  have B0 := Below.refl w.heap.size w
  go_enter Try.func33, Try.ntmps33
  go_wp2_with fail
  refine (getSuper_at n cap a xs w hn.out hc hm (hr.below B0 (Nat.le_refl _))).mono ?_
  rintro r w1 h4
  obtain ⟨rfl, b2⟩ := getsS_none h4 HS.out
  have B3 := B0.trans (b2.mono B0.size)
  clear h4 b2 B0
  have B6 := B3.alloc B3.size (.cells #[.int .i64 0, .int .i64 0, .int .i64 0, .int .i64 0] 27)
  go_wp2_with fail
  obtain ⟨V5, hV5⟩ : ∃ V, V = w1.alloc (.cells #[.int .i64 0, .int .i64 0, .int .i64 0, .int .i64 0] 27) := ⟨_, rfl⟩
  rw [← hV5] at B6 ⊢
  clear hV5 B3
  refine (getInode_at n cap a xs V5 hn.out hc hm (hr.below B6 (Nat.le_refl _))).mono ?_
  rintro r w7 h10
  obtain ⟨v2, rfl, o2, b8⟩ := getsI_none h10 HI.out
  have B9 := B6.trans (b8.mono B6.size)
  obtain ⟨a2, cap2, rfl, _, _, _, _, _, _⟩ := ownsE_parts o2
  clear o2
  clear h10 b8 B6
  have B12 := B9.alloc B9.size (.cells #[.int .u8 0, .int .i64 0, .int .i64 0, .slice a2 0 cap2, .int .i64 0] 32)
  go_wp2_with fail
  obtain ⟨V11, hV11⟩ : ∃ V, V = w7.alloc (.cells #[.int .u8 0, .int .i64 0, .int .i64 0, .slice a2 0 cap2, .int .i64 0] 32) := ⟨_, rfl⟩
  rw [← hV11] at B12 ⊢
  clear hV11 B9
  refine (getNode_at n cap a xs V11 hn.out hc hm (hr.below B12 (Nat.le_refl _))).mono ?_
  rintro r w13 h16
  obtain ⟨v5, rfl, o5, b14⟩ := getsN_some h16 HN.out
  have B15 := B12.trans (b14.mono B12.size)
  obtain ⟨a5, cap5, rfl, l5, _, _, r5, _, _⟩ := ownsE_parts o5
  have L5 : Hid _ := l5
  clear o5 l5
  clear h16 b14 B12
  go_wp2_with fail
  refine (putNode_at cap5 es.length a5 es w13 rfl hel hwe r5).mono ?_
  rintro r w17 h20
  obtain ⟨g6, cap6, rfl, o6, _, _, _, _, b18⟩ := puts_block h20 HNp.out hn.out h0
  have B19 := B15.trans (b18.mono B15.size)
  have r6 := owns_rd_at o6
  have r5 := r5.below b18 (Nat.le_refl _)
  clear o6
  clear h20 b18 B15
  go_wp2_with fail
  refine (right_at cap5 es.length a5 es w17 rfl hel hwe r5).mono ?_
  rintro r w21 ⟨rfl, b7⟩
  have B22 := B19.trans (b7.mono B19.size)
  have r7 := r6.below b7 (Nat.le_refl _)
  rw [HNr.out]
  clear b7 r5 r6 B19
  go_wp2_with fail
  refine (same_at _ _ n n _ a xs xs w21 hn.out hn.out r7 (hr.below B22 (Nat.le_refl _))).mono ?_
  rintro r w' ⟨rfl, rfl⟩
  clear r7
  go_wp2
  go_ret
  exact ⟨rfl, B22⟩

set_option maxRecDepth 100000 in
set_option maxHeartbeats 2000000 in
theorem again_101 (n cap : Nat) (a : Option Addr) (xs : List UInt8) (w : World) (hn : Hid (xs.length = n)) (hc : n ≤ cap) (hm : cap ≤ 9223372036854775807) (h0 : 0 < n) (hr : Rd w a xs) (s : Sup) (HS : Hid (getSuper xs = some s)) (HSp : Hid (putSuper s.b s.e s.q s.t = some xs)) (HI : Hid (getInode xs = none)) (es : List Ext) (HN : Hid (getNode xs = some es)) (HNp : Hid (putNode es = some xs)) (HNr : Hid (rightFrom 0 es = true)) (hel : es.length ≤ 9223372036854775807) (hwe : ∀ e ∈ es, wfE e) :
    Calls Try.prog 33 #[.slice a n cap] w fun r w' => r = .returned (.bool true) ∧ Below w.heap.size w w' := by
  have B0 := Below.refl w.heap.size w
  go_enter Try.func33, Try.ntmps33
  go_wp2_with fail
  refine (getSuper_at n cap a xs w hn.out hc hm (hr.below B0 (Nat.le_refl _))).mono ?_
  rintro r w1 h4
  obtain ⟨rfl, b2⟩ := getsS_some h4 HS.out
  have B3 := B0.trans (b2.mono B0.size)
  clear h4 b2 B0
  have B6 := B3.alloc B3.size (.cells #[.int .i64 s.b, .int .i64 s.e, .int .i64 s.q, .int .i64 s.t] 27)
  go_wp2_with fail
  obtain ⟨V5, hV5⟩ : ∃ V, V = w1.alloc (.cells #[.int .i64 s.b, .int .i64 s.e, .int .i64 s.q, .int .i64 s.t] 27) := ⟨_, rfl⟩
  rw [← hV5] at B6 ⊢
  clear hV5 B3
  refine (putSuper_at s.b s.e s.q s.t V5).mono ?_
  rintro r w7 h10
  obtain ⟨g1, cap1, rfl, o1, _, _, _, _, b8⟩ := puts_block h10 HSp.out hn.out h0
  have B9 := B6.trans (b8.mono B6.size)
  have r1 := owns_rd_at o1
  clear o1
  clear h10 b8 B6
  go_wp2_with fail
  refine (same_at _ _ n n _ a xs xs w7 hn.out hn.out r1 (hr.below B9 (Nat.le_refl _))).mono ?_
  rintro r w' ⟨rfl, rfl⟩
  clear r1
  go_wp2_with fail
  refine (getInode_at n cap a xs w7 hn.out hc hm (hr.below B9 (Nat.le_refl _))).mono ?_
  rintro r w11 h14
  obtain ⟨v2, rfl, o2, b12⟩ := getsI_none h14 HI.out
  have B13 := B9.trans (b12.mono B9.size)
  obtain ⟨a2, cap2, rfl, _, _, _, _, _, _⟩ := ownsE_parts o2
  clear o2
  clear h14 b12 B9
  have B16 := B13.alloc B13.size (.cells #[.int .u8 0, .int .i64 0, .int .i64 0, .slice a2 0 cap2, .int .i64 0] 32)
  go_wp2_with fail
  obtain ⟨V15, hV15⟩ : ∃ V, V = w11.alloc (.cells #[.int .u8 0, .int .i64 0, .int .i64 0, .slice a2 0 cap2, .int .i64 0] 32) := ⟨_, rfl⟩
  rw [← hV15] at B16 ⊢
  clear hV15 B13
  refine (getNode_at n cap a xs V15 hn.out hc hm (hr.below B16 (Nat.le_refl _))).mono ?_
  rintro r w17 h20
  obtain ⟨v5, rfl, o5, b18⟩ := getsN_some h20 HN.out
  have B19 := B16.trans (b18.mono B16.size)
  obtain ⟨a5, cap5, rfl, l5, _, _, r5, _, _⟩ := ownsE_parts o5
  have L5 : Hid _ := l5
  clear o5 l5
  clear h20 b18 B16
  go_wp2_with fail
  refine (putNode_at cap5 es.length a5 es w17 rfl hel hwe r5).mono ?_
  rintro r w21 h24
  obtain ⟨g6, cap6, rfl, o6, _, _, _, _, b22⟩ := puts_block h24 HNp.out hn.out h0
  have B23 := B19.trans (b22.mono B19.size)
  have r6 := owns_rd_at o6
  have r5 := r5.below b22 (Nat.le_refl _)
  clear o6
  clear h24 b22 B19
  go_wp2_with fail
  refine (right_at cap5 es.length a5 es w21 rfl hel hwe r5).mono ?_
  rintro r w25 ⟨rfl, b7⟩
  have B26 := B23.trans (b7.mono B23.size)
  have r7 := r6.below b7 (Nat.le_refl _)
  rw [HNr.out]
  clear b7 r5 r6 B23
  go_wp2_with fail
  refine (same_at _ _ n n _ a xs xs w25 hn.out hn.out r7 (hr.below B26 (Nat.le_refl _))).mono ?_
  rintro r w' ⟨rfl, rfl⟩
  clear r7
  go_wp2
  go_ret
  exact ⟨rfl, B26⟩

theorem getNode_wf {xs : List UInt8} {es : List Ext} (h : getNode xs = some es) : (es.length ≤ 250 ∧ rightFrom 0 es = true) ∧ putNode es = some xs ∧ ∀ e ∈ es, wfE e := by
  obtain ⟨⟨h1, h2⟩, h3⟩ := getNode_some h
  refine ⟨⟨h1, h2⟩, ?_, natE_wf (natE_of_right es 0 (by omega) h2)⟩
  unfold putNode
  rw [decide_eq_true h1, h2, h3]
  rfl
theorem getInode_wf {xs : List UInt8} {i : Ino} (h : getInode xs = some i) : xs.length = 64 ∧ i.d.length ≤ 9223372036854775807 ∧ ∀ e ∈ i.d, wfE e := by
  unfold getInode at h
  by_cases hl : xs.length = 64
  · rw [if_neg (by omega)] at h
    refine ⟨hl, ?_⟩
    cases hz : xs.all (· == 0)
    · rw [hz] at h
      obtain ⟨hc, hx⟩ := if_some h
      subst hx
      have k1 := num_lt xs 1 1
      have : (readI xs).d.length = num xs 1 1 := readE_length _ _ _
      exact ⟨by omega, natE_wf (readE_nat xs 8 _)⟩
    · rw [hz] at h
      have hx : zeroI = i := by simpa using h
      subst hx
      exact ⟨by simp [zeroI], by simp [zeroI]⟩
  · rw [if_pos (by omega)] at h
    simp at h

/-- again: what bytes are is put as these bytes -/
theorem again_at (n cap : Nat) (a : Option Addr) (xs : List UInt8) (w : World) (hn : xs.length = n) (hc : n ≤ cap) (hm : cap ≤ 9223372036854775807) (hr : Rd w a xs) :
    Calls Try.prog 33 #[.slice a n cap] w fun r w' => r = .returned (.bool true) ∧ Below w.heap.size w w' := by
  have hSl : ∀ s, getSuper xs = some s → xs.length = 4096 ∧ putSuper s.b s.e s.q s.t = some xs := by
    intro s h
    obtain ⟨h1, h2⟩ := getSuper_some h
    refine ⟨by rw [← h2]; exact superB_length _ _ _ _, ?_⟩
    unfold putSuper
    rw [h1, h2]
    rfl
  have hNl : ∀ es, getNode xs = some es → xs.length = 4096 := by
    intro es h
    obtain ⟨⟨h1, _⟩, h3⟩ := getNode_some h
    rw [← h3]
    exact nodeB_length es h1
  cases hI : getInode xs with
  | some i =>
    obtain ⟨h64, hil, hwi⟩ := getInode_wf hI
    have hS : getSuper xs = none := by
      cases h : getSuper xs with
      | none => rfl
      | some s => have := (hSl s h).1; omega
    have hN : getNode xs = none := by
      cases h : getNode xs with
      | none => rfl
      | some s => have := hNl s h; omega
    exact again_010 n cap a xs w hn hc hm (by omega) hr hS i hI (getInode_some hI) hil hwi hN
  | none =>
    cases hS : getSuper xs with
    | none =>
      cases hN : getNode xs with
      | none => exact again_000 n cap a xs w hn hc hm hr hS hI hN
      | some es =>
        obtain ⟨⟨h1, h2⟩, h3, h4⟩ := getNode_wf hN
        exact again_001 n cap a xs w hn hc hm (by have := hNl es hN; omega) hr hS hI es hN h3 h2 (by omega) h4
    | some s =>
      obtain ⟨h5, h6⟩ := hSl s hS
      cases hN : getNode xs with
      | none => exact again_100 n cap a xs w hn hc hm (by omega) hr s hS h6 hI hN
      | some es =>
        obtain ⟨⟨h1, h2⟩, h3, h4⟩ := getNode_wf hN
        exact again_101 n cap a xs w hn hc hm (by omega) hr s hS h6 hI es hN h3 h2 (by omega) h4

end Go.Proofs.Ytmhplpiglbamcaa
