/-
  A change within four bytes: the walk of SuperBursts.
-/
import Derived.Test.YtmhplpiglbamcaaArgs
namespace Go.Proofs.Ytmhplpiglbamcaa
open Go.RowKit

theorem bursts_long (b e q t x : Int) (a : Option Addr) (n cap ch : Nat) (w : World) (hn : n ≤ 9223372036854775807) (h : 600 < n ∨ ch = 0) :
    Calls Try.prog 7 #[.agg #[.int .i64 b, .int .i64 e, .int .i64 q, .int .i64 t], .slice a n cap, .int .i64 x, .int .u32 ch] w fun r w' => r = .returned (.bool true) ∧ Below w.heap.size w w' := by
  have hb := (Below.refl w.heap.size w).alloc (Nat.le_refl _) (.cells #[.int .i64 b, .int .i64 e, .int .i64 q, .int .i64 t] 27)
  rcases h with h | rfl
  · go_enter Try.func7, Try.ntmps7
    go_wp2_with fail
    refine (awake_any _).mono ?_
    rintro r w1 ⟨rfl, b1⟩
    have B1 := hb.trans (b1.mono hb.size)
    go_wp2
    go_ret
    exact ⟨rfl, B1⟩
  · by_cases hn6 : 600 < n
    · go_enter Try.func7, Try.ntmps7
      go_wp2_with fail
      refine (awake_any _).mono ?_
      rintro r w1 ⟨rfl, b1⟩
      have B1 := hb.trans (b1.mono hb.size)
      go_wp2
      go_ret
      exact ⟨rfl, B1⟩
    · go_enter Try.func7, Try.ntmps7
      go_wp2_with fail
      refine (awake_any _).mono ?_
      rintro r w1 ⟨rfl, b1⟩
      have B1 := hb.trans (b1.mono hb.size)
      go_wp2
      go_ret
      exact ⟨rfl, B1⟩

/-- a Put that goes well, with the block it lies in -/
theorem puts_block {w w' : World} {o : Option (List UInt8)} {r : Ending} {xs : List UInt8} {n : Nat} (h : Puts w w' o r) (ho : o = some xs) (hl : xs.length = n) (h0 : 0 < n) :
    ∃ g cap, r = .returned (.tuple #[.slice (some ⟨g, 0, none⟩) n cap, .int .i64 0]) ∧ w'.ownsRow w.heap.size 5 1 (.slice (some ⟨g, 0, none⟩) n cap) n (bcs xs) ∧ w.heap.size ≤ g ∧ g < w'.heap.size ∧ n ≤ cap ∧ cap ≤ 9223372036854775807 ∧ Below w.heap.size w w' := by
  obtain ⟨v, hr, ho', hb⟩ := puts_some h ho
  rw [hl] at ho'
  obtain ⟨a, cap, rfl, _, hc, hx, _, hnil, hblk⟩ := owns_parts ho'
  cases a with
  | none => have := hnil rfl; omega
  | some ad =>
    rcases ho'.2 with ⟨h1, h2⟩ | ⟨g, cap', cur, hv, hB, hg, _⟩
    · omega
    · simp only [Value.slice.injEq, Option.some.injEq, true_and] at hv
      obtain ⟨rfl, rfl⟩ := hv
      exact ⟨g, cap, hr, ho', hB, (hblk _ rfl).2, hc, hx, hb⟩

set_option maxRecDepth 100000 in
set_option maxHeartbeats 2000000 in
theorem bursts_11 (b e q t x : Int) (a : Option Addr) (n cap ch : Nat) (es : List Ext) (w : World) (hl : es.length = n) (hn : n ≤ 600) (h0 : 0 < ch) (h4 : ch < 4294967296) (hw : ∀ e ∈ es, wfE e) (hr : RdE w a es) (S : List UInt8) (HS : Hid (putSuper b e q t = some S)) (HSl : Hid (S.length = 4096)) (HSt : Hid (∀ p, p < 37 → getSuper (chg S p ch 4) = none)) (N : List UInt8) (HN : Hid (putNode es = some N)) (HNl : Hid (N.length = 4096)) (HNt : Hid (∀ p, p < 4085 → getNode (chg N (8 + p) ch 4) = none)) :
    Calls Try.prog 7 #[.agg #[.int .i64 b, .int .i64 e, .int .i64 q, .int .i64 t], .slice a n cap, .int .i64 x, .int .u32 ch] w fun r w' => r = .returned (.bool true) ∧ Below w.heap.size w w' := by
  have hb := (Below.refl w.heap.size w).alloc (Nat.le_refl _) (.cells #[.int .i64 b, .int .i64 e, .int .i64 q, .int .i64 t] 27)
  have hsz : w.heap.size ≤ w.heap.size := Nat.le_refl _
  have hn6 : ¬ (600 < (n : Int)) := by omega
  have hc0 : ((ch : Int) == 0) = false := by simp; omega
  have Hl : Hid _ := hl
  clear hl
  go_enter Try.func7, Try.ntmps7
  go_wp2_with fail
  obtain ⟨W, hW⟩ : ∃ W, W = w.alloc (.cells #[.int .i64 b, .int .i64 e, .int .i64 q, .int .i64 t] 27) := ⟨_, rfl⟩
  rw [← hW] at hb ⊢
  clear hW
  refine (putSuper_at b e q t W).mono ?_
  rintro r w1 h1
  obtain ⟨g1, cap1, rfl, o1, hg1, hl1, hc1, hx1, b1⟩ := puts_block h1 HS.out HSl.out (by omega)
  have B1 := hb.trans (b1.mono hb.size)
  have z1 := hb.size
  clear h1 b1 hb
  go_wp2_with fail
  refine (putNode_at cap n a es w1 Hl.out (by omega) hw (hr.below B1 (Nat.le_refl _))).mono ?_
  rintro r w2 h2
  obtain ⟨g2, cap2, rfl, o2, hg2, hl2, hc2, hx2, b2⟩ := puts_block h2 HN.out HNl.out (by omega)
  have B2 := B1.trans (b2.mono B1.size)
  have z2 := B1.size
  have p1 := owns_below o1 b2
  clear o1
  clear h2 b2 B1
  go_wp2_with fail
  refine (pick_at x 37 w2 (by omega) (by omega)).mono ?_
  rintro r w9 ⟨p, hp, rfl, rfl⟩
  go_wp2_with fail
  refine (turned_at g1 cap1 4096 p ch W.heap.size S w2 (by omega) (by omega) hg1 p1).mono ?_
  rintro r w3 ⟨rfl, o3, g3⟩
  have B3 := B2.grown g3 B2.size (fun k hk => by have := Option.some.inj hk; omega)
  have p2 := o2.kept g3 (.inr (by intro e; simp only [Value.ownBlock, Option.some.injEq] at e; omega))
  clear o2
  have hl3 : Hid ((chg S p ch 4).length = 4096) := by rw [chg_length]; exact HSl.out
  have r3 := owns_rd_at o3
  have t3 : getSuper (chg S p ch 4) = none := HSt.out p hp
  clear p1 o3 g3 B2
  go_wp2_with fail
  refine (getSuper_at 4096 cap1 _ (chg S p ch 4) w3 hl3.out hc1 hx1 r3).mono ?_
  rintro r w4 h4
  obtain ⟨rfl, b4⟩ := getsS_none h4 t3
  have B4 := B3.trans (b4.mono B3.size)
  have q2 := owns_below p2 b4
  have q2 := q2.alloc (.cells #[.int .i64 0, .int .i64 0, .int .i64 0, .int .i64 0] 27)
  clear p2
  have B5 := B4.alloc B4.size (.cells #[.int .i64 0, .int .i64 0, .int .i64 0, .int .i64 0] 27)
  clear h4 r3 t3 b4 B3
  go_wp2_with fail
  obtain ⟨V, hV⟩ : ∃ V, V = w4.alloc (.cells #[.int .i64 0, .int .i64 0, .int .i64 0, .int .i64 0] 27) := ⟨_, rfl⟩
  rw [← hV] at B5 ⊢
  rw [← hV] at q2
  clear hV B4
  refine (pick_at x 4085 V (by omega) (by omega)).mono ?_
  rintro r w9 ⟨p', hp', rfl, rfl⟩
  go_wp2_with fail
  have hpp : (8 : Int) + (p' : Int) = ((8 + p' : Nat) : Int) := by omega
  rw [hpp]
  refine (turned_at g2 cap2 4096 (8 + p') ch w1.heap.size N V (by omega) (by omega) hg2 q2).mono ?_
  rintro r w6 ⟨rfl, o6, g6⟩
  have B6 := B5.grown g6 B5.size (fun k hk => by have := Option.some.inj hk; omega)
  have hl6 : Hid ((chg N (8 + p') ch 4).length = 4096) := by rw [chg_length]; exact HNl.out
  have r6 := owns_rd_at o6
  have t6 : getNode (chg N (8 + p') ch 4) = none := HNt.out p' hp'
  clear q2 o6 g6 B5 hpp
  go_wp2_with fail
  refine (getNode_at 4096 cap2 _ (chg N (8 + p') ch 4) w6 hl6.out hc2 hx2 r6).mono ?_
  rintro r w7 h7
  obtain ⟨v7, rfl, _, b7⟩ := getsN_none h7 t6
  have B7 := B6.trans (b7.mono B6.size)
  clear h7 r6 t6 b7 B6
  go_wp2_with fail
  refine (awake_any w7).mono ?_
  rintro r w8 ⟨rfl, b8⟩
  have B8 := B7.trans (b8.mono B7.size)
  clear b8
  go_wp2
  go_ret
  exact ⟨rfl, B8⟩

set_option maxRecDepth 100000 in
set_option maxHeartbeats 2000000 in
theorem bursts_10 (b e q t x : Int) (a : Option Addr) (n cap ch : Nat) (es : List Ext) (w : World) (hl : es.length = n) (hn : n ≤ 600) (h0 : 0 < ch) (h4 : ch < 4294967296) (hw : ∀ e ∈ es, wfE e) (hr : RdE w a es) (S : List UInt8) (HS : Hid (putSuper b e q t = some S)) (HSl : Hid (S.length = 4096)) (HSt : Hid (∀ p, p < 37 → getSuper (chg S p ch 4) = none)) (HN : Hid (putNode es = none)) :
    Calls Try.prog 7 #[.agg #[.int .i64 b, .int .i64 e, .int .i64 q, .int .i64 t], .slice a n cap, .int .i64 x, .int .u32 ch] w fun r w' => r = .returned (.bool true) ∧ Below w.heap.size w w' := by
  have hb := (Below.refl w.heap.size w).alloc (Nat.le_refl _) (.cells #[.int .i64 b, .int .i64 e, .int .i64 q, .int .i64 t] 27)
  have hsz : w.heap.size ≤ w.heap.size := Nat.le_refl _
  have hn6 : ¬ (600 < (n : Int)) := by omega
  have hc0 : ((ch : Int) == 0) = false := by simp; omega
  have Hl : Hid _ := hl
  clear hl
  go_enter Try.func7, Try.ntmps7
  go_wp2_with fail
  obtain ⟨W, hW⟩ : ∃ W, W = w.alloc (.cells #[.int .i64 b, .int .i64 e, .int .i64 q, .int .i64 t] 27) := ⟨_, rfl⟩
  rw [← hW] at hb ⊢
  clear hW
  refine (putSuper_at b e q t W).mono ?_
  rintro r w1 h1
  obtain ⟨g1, cap1, rfl, o1, hg1, hl1, hc1, hx1, b1⟩ := puts_block h1 HS.out HSl.out (by omega)
  have B1 := hb.trans (b1.mono hb.size)
  have z1 := hb.size
  clear h1 b1 hb
  go_wp2_with fail
  refine (putNode_at cap n a es w1 Hl.out (by omega) hw (hr.below B1 (Nat.le_refl _))).mono ?_
  rintro r w2 h2
  obtain ⟨v2, rfl, o2, b2⟩ := puts_none h2 HN.out
  obtain ⟨a2, cap2, rfl, _, hc2, hx2, _, _, _⟩ := owns_parts o2
  clear o2
  have B2 := B1.trans (b2.mono B1.size)
  have z2 := B1.size
  have p1 := owns_below o1 b2
  clear o1
  clear h2 b2 B1
  go_wp2_with fail
  refine (pick_at x 37 w2 (by omega) (by omega)).mono ?_
  rintro r w9 ⟨p, hp, rfl, rfl⟩
  go_wp2_with fail
  refine (turned_at g1 cap1 4096 p ch W.heap.size S w2 (by omega) (by omega) hg1 p1).mono ?_
  rintro r w3 ⟨rfl, o3, g3⟩
  have B3 := B2.grown g3 B2.size (fun k hk => by have := Option.some.inj hk; omega)
  have hl3 : Hid ((chg S p ch 4).length = 4096) := by rw [chg_length]; exact HSl.out
  have r3 := owns_rd_at o3
  have t3 : getSuper (chg S p ch 4) = none := HSt.out p hp
  clear p1 o3 g3 B2
  go_wp2_with fail
  refine (getSuper_at 4096 cap1 _ (chg S p ch 4) w3 hl3.out hc1 hx1 r3).mono ?_
  rintro r w4 h4
  obtain ⟨rfl, b4⟩ := getsS_none h4 t3
  have B4 := B3.trans (b4.mono B3.size)
  have B5 := B4.alloc B4.size (.cells #[.int .i64 0, .int .i64 0, .int .i64 0, .int .i64 0] 27)
  clear h4 r3 t3 b4 B3
  go_wp2_with fail
  obtain ⟨V, hV⟩ : ∃ V, V = w4.alloc (.cells #[.int .i64 0, .int .i64 0, .int .i64 0, .int .i64 0] 27) := ⟨_, rfl⟩
  rw [← hV] at B5 ⊢
  clear hV B4
  refine (awake_any V).mono ?_
  rintro r w8 ⟨rfl, b8⟩
  have B8 := B5.trans (b8.mono B5.size)
  clear b8
  go_wp2
  go_ret
  exact ⟨rfl, B8⟩

set_option maxRecDepth 100000 in
set_option maxHeartbeats 2000000 in
theorem bursts_01 (b e q t x : Int) (a : Option Addr) (n cap ch : Nat) (es : List Ext) (w : World) (hl : es.length = n) (hn : n ≤ 600) (h0 : 0 < ch) (h4 : ch < 4294967296) (hw : ∀ e ∈ es, wfE e) (hr : RdE w a es) (HS : Hid (putSuper b e q t = none)) (N : List UInt8) (HN : Hid (putNode es = some N)) (HNl : Hid (N.length = 4096)) (HNt : Hid (∀ p, p < 4085 → getNode (chg N (8 + p) ch 4) = none)) :
    Calls Try.prog 7 #[.agg #[.int .i64 b, .int .i64 e, .int .i64 q, .int .i64 t], .slice a n cap, .int .i64 x, .int .u32 ch] w fun r w' => r = .returned (.bool true) ∧ Below w.heap.size w w' := by
  have hb := (Below.refl w.heap.size w).alloc (Nat.le_refl _) (.cells #[.int .i64 b, .int .i64 e, .int .i64 q, .int .i64 t] 27)
  have hsz : w.heap.size ≤ w.heap.size := Nat.le_refl _
  have hn6 : ¬ (600 < (n : Int)) := by omega
  have hc0 : ((ch : Int) == 0) = false := by simp; omega
  have Hl : Hid _ := hl
  clear hl
  go_enter Try.func7, Try.ntmps7
  go_wp2_with fail
  obtain ⟨W, hW⟩ : ∃ W, W = w.alloc (.cells #[.int .i64 b, .int .i64 e, .int .i64 q, .int .i64 t] 27) := ⟨_, rfl⟩
  rw [← hW] at hb ⊢
  clear hW
  refine (putSuper_at b e q t W).mono ?_
  rintro r w1 h1
  obtain ⟨v1, rfl, o1, b1⟩ := puts_none h1 HS.out
  obtain ⟨a1, cap1, rfl, _, hc1, hx1, _, _, _⟩ := owns_parts o1
  clear o1
  have B1 := hb.trans (b1.mono hb.size)
  have z1 := hb.size
  clear h1 b1 hb
  go_wp2_with fail
  refine (putNode_at cap n a es w1 Hl.out (by omega) hw (hr.below B1 (Nat.le_refl _))).mono ?_
  rintro r w2 h2
  obtain ⟨g2, cap2, rfl, o2, hg2, hl2, hc2, hx2, b2⟩ := puts_block h2 HN.out HNl.out (by omega)
  have B2 := B1.trans (b2.mono B1.size)
  have z2 := B1.size
  clear h2 b2 B1
  go_wp2_with fail
  refine (pick_at x 4085 w2 (by omega) (by omega)).mono ?_
  rintro r w9 ⟨p', hp', rfl, rfl⟩
  go_wp2_with fail
  have hpp : (8 : Int) + (p' : Int) = ((8 + p' : Nat) : Int) := by omega
  rw [hpp]
  refine (turned_at g2 cap2 4096 (8 + p') ch w1.heap.size N w2 (by omega) (by omega) hg2 o2).mono ?_
  rintro r w6 ⟨rfl, o6, g6⟩
  have B6 := B2.grown g6 B2.size (fun k hk => by have := Option.some.inj hk; omega)
  have hl6 : Hid ((chg N (8 + p') ch 4).length = 4096) := by rw [chg_length]; exact HNl.out
  have r6 := owns_rd_at o6
  have t6 : getNode (chg N (8 + p') ch 4) = none := HNt.out p' hp'
  clear o2 o6 g6 B2 hpp
  go_wp2_with fail
  refine (getNode_at 4096 cap2 _ (chg N (8 + p') ch 4) w6 hl6.out hc2 hx2 r6).mono ?_
  rintro r w7 h7
  obtain ⟨v7, rfl, _, b7⟩ := getsN_none h7 t6
  have B7 := B6.trans (b7.mono B6.size)
  clear h7 r6 t6 b7 B6
  go_wp2_with fail
  refine (awake_any w7).mono ?_
  rintro r w8 ⟨rfl, b8⟩
  have B8 := B7.trans (b8.mono B7.size)
  clear b8
  go_wp2
  go_ret
  exact ⟨rfl, B8⟩

set_option maxRecDepth 100000 in
set_option maxHeartbeats 2000000 in
theorem bursts_00 (b e q t x : Int) (a : Option Addr) (n cap ch : Nat) (es : List Ext) (w : World) (hl : es.length = n) (hn : n ≤ 600) (h0 : 0 < ch) (h4 : ch < 4294967296) (hw : ∀ e ∈ es, wfE e) (hr : RdE w a es) (HS : Hid (putSuper b e q t = none)) (HN : Hid (putNode es = none)) :
    Calls Try.prog 7 #[.agg #[.int .i64 b, .int .i64 e, .int .i64 q, .int .i64 t], .slice a n cap, .int .i64 x, .int .u32 ch] w fun r w' => r = .returned (.bool true) ∧ Below w.heap.size w w' := by
  have hb := (Below.refl w.heap.size w).alloc (Nat.le_refl _) (.cells #[.int .i64 b, .int .i64 e, .int .i64 q, .int .i64 t] 27)
  have hsz : w.heap.size ≤ w.heap.size := Nat.le_refl _
  have hn6 : ¬ (600 < (n : Int)) := by omega
  have hc0 : ((ch : Int) == 0) = false := by simp; omega
  have Hl : Hid _ := hl
  clear hl
  go_enter Try.func7, Try.ntmps7
  go_wp2_with fail
  obtain ⟨W, hW⟩ : ∃ W, W = w.alloc (.cells #[.int .i64 b, .int .i64 e, .int .i64 q, .int .i64 t] 27) := ⟨_, rfl⟩
  rw [← hW] at hb ⊢
  clear hW
  refine (putSuper_at b e q t W).mono ?_
  rintro r w1 h1
  obtain ⟨v1, rfl, o1, b1⟩ := puts_none h1 HS.out
  obtain ⟨a1, cap1, rfl, _, hc1, hx1, _, _, _⟩ := owns_parts o1
  clear o1
  have B1 := hb.trans (b1.mono hb.size)
  have z1 := hb.size
  clear h1 b1 hb
  go_wp2_with fail
  refine (putNode_at cap n a es w1 Hl.out (by omega) hw (hr.below B1 (Nat.le_refl _))).mono ?_
  rintro r w2 h2
  obtain ⟨v2, rfl, o2, b2⟩ := puts_none h2 HN.out
  obtain ⟨a2, cap2, rfl, _, hc2, hx2, _, _, _⟩ := owns_parts o2
  clear o2
  have B2 := B1.trans (b2.mono B1.size)
  have z2 := B1.size
  clear h2 b2 B1
  go_wp2_with fail
  refine (awake_any w2).mono ?_
  rintro r w8 ⟨rfl, b8⟩
  have B8 := B2.trans (b8.mono B2.size)
  clear b8
  go_wp2
  go_ret
  exact ⟨rfl, B8⟩

theorem bursts_any (b e q t x : Int) (a : Option Addr) (n cap ch : Nat) (es : List Ext) (w : World) (hl : es.length = n) (hn : n ≤ 600) (h0 : 0 < ch) (h4 : ch < 4294967296) (hw : ∀ e ∈ es, wfE e) (hr : RdE w a es) :
    Calls Try.prog 7 #[.agg #[.int .i64 b, .int .i64 e, .int .i64 q, .int .i64 t], .slice a n cap, .int .i64 x, .int .u32 ch] w fun r w' => r = .returned (.bool true) ∧ Below w.heap.size w w' := by
  have hS : putSuper b e q t = none ∨ ∃ S, putSuper b e q t = some S ∧ S.length = 4096 ∧ ∀ p, p < 37 → getSuper (chg S p ch 4) = none := by
    unfold putSuper
    cases rightS b e q t
    · exact .inl rfl
    · exact .inr ⟨_, rfl, superB_length _ _ _ _, fun p hp => getSuper_turned _ _ _ _ p ch hp h0 h4⟩
  have hN : putNode es = none ∨ ∃ N, putNode es = some N ∧ N.length = 4096 ∧ ∀ p, p < 4085 → getNode (chg N (8 + p) ch 4) = none := by
    unfold putNode
    cases hc : (decide (es.length ≤ 250) && rightFrom 0 es)
    · exact .inl rfl
    · simp only [Bool.and_eq_true, decide_eq_true_eq] at hc
      exact .inr ⟨_, rfl, nodeB_length _ hc.1, fun p hp => getNode_turned _ p ch hc.1 hp h0 h4⟩
  rcases hS with hS | ⟨S, hS, hSl, hSt⟩
  · rcases hN with hN | ⟨N, hN, hNl, hNt⟩
    · exact bursts_00 b e q t x a n cap ch es w hl hn h0 h4 hw hr hS hN
    · exact bursts_01 b e q t x a n cap ch es w hl hn h0 h4 hw hr hS N hN hNl hNt
  · rcases hN with hN | ⟨N, hN, hNl, hNt⟩
    · exact bursts_10 b e q t x a n cap ch es w hl hn h0 h4 hw hr S hS hSl hSt hN
    · exact bursts_11 b e q t x a n cap ch es w hl hn h0 h4 hw hr S hS hSl hSt N hN hNl hNt
end Go.Proofs.Ytmhplpiglbamcaa
