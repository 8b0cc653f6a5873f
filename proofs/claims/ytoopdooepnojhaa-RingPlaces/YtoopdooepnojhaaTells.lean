/-
  RingTells: the program's calls answer as the document's.
-/
import Derived.Test.YtoopdooepnojhaaAwake
import Derived.Deep.Cut
import Derived.Test.YtoopdooepnojhaaClass
import Derived.Deep.QuietTactic
namespace Go.Proofs.Ytoopdooepnojhaa
open Go.RowKit
theorem Box.other4 {w : World} {g k : Nat} {cs : Array Value} {t : TypeId} (h : Box w g cs t) (u0 u1 u2 u3 : Value) (hn : g ≠ k) : Box (set4 w k u0 u1 u2 u3) g cs t := (((h.other 0 u0 hn).other 1 u1 hn).other 2 u2 hn).other 3 u3 hn

theorem at_both (S T U H n : Int) : ∃ i E : Int,
    (∀ w, Calls Try.prog 10 #[.agg #[.int .i64 S, .int .i64 T, .int .i64 U, .int .i64 H], .int .i64 n] w fun r w' => r = .returned (.tuple #[.int .i64 i, .int .i64 E]) ∧ Below w.heap.size w w') ∧
    (∀ w, Calls Try.prog 14 #[.agg #[.int .i64 S, .int .i64 T, .int .i64 U, .int .i64 H], .int .i64 n] w fun r w' => r = .returned (.tuple #[.int .i64 i, .int .i64 E]) ∧ Below w.heap.size w w') := by
  by_cases h : R S T U H ∧ 0 ≤ n ∧ n < S
  · obtain ⟨m, rfl⟩ : ∃ m : Nat, n = m := ⟨n.toNat, by omega⟩
    exact ⟨_, _, fun w => at_ok S T U H m w h.1 h.2.1 h.2.2, fun w => rat_ok S T U H m w h.1 h.2.2⟩
  · exact ⟨_, _, fun w => at_no S T U H n w h, fun w => rat_no S T U H n w h⟩

theorem reserve_both (S T U H n : Int) : ∃ x0 x1 x2 x3 E : Int,
    (∀ w, Calls Try.prog 6 #[.agg #[.int .i64 S, .int .i64 T, .int .i64 U, .int .i64 H], .int .i64 n] w fun r w' => r = .returned (.tuple #[.agg #[.int .i64 x0, .int .i64 x1, .int .i64 x2, .int .i64 x3], .int .i64 E]) ∧ Below w.heap.size w w') ∧
    (∀ w, Calls Try.prog 15 #[.agg #[.int .i64 S, .int .i64 T, .int .i64 U, .int .i64 H], .int .i64 n] w fun r w' => r = .returned (.tuple #[.agg #[.int .i64 x0, .int .i64 x1, .int .i64 x2, .int .i64 x3], .int .i64 E]) ∧ Below w.heap.size w w') := by
  by_cases hR : R S T U H
  · by_cases hn : 0 ≤ n
    · by_cases hf : n ≤ fr S T U H
      · exact ⟨_, _, _, _, _, fun w => reserve_ok S T U H n w hR hn hf, fun w => rreserve_ok S T U H n w hR hn hf⟩
      · exact ⟨_, _, _, _, _, fun w => reserve_no S T U H n 5 w (.inr ⟨⟨hR, hn, hf⟩, rfl⟩), fun w => rreserve_full S T U H n w hR hn (by omega)⟩
    · exact ⟨_, _, _, _, _, fun w => reserve_no S T U H n 2 w (.inl ⟨fun q => hn q.2, rfl⟩), fun w => rreserve_neg S T U H n w hR (by omega)⟩
  · exact ⟨_, _, _, _, _, fun w => reserve_no S T U H n 2 w (.inl ⟨fun q => hR q.1, rfl⟩), fun w => rreserve_wrong S T U H n w hR⟩

theorem release_both (S T U H n : Int) : ∃ x0 x1 x2 x3 E : Int,
    (∀ w, Calls Try.prog 8 #[.agg #[.int .i64 S, .int .i64 T, .int .i64 U, .int .i64 H], .int .i64 n] w fun r w' => r = .returned (.tuple #[.agg #[.int .i64 x0, .int .i64 x1, .int .i64 x2, .int .i64 x3], .int .i64 E]) ∧ Below w.heap.size w w') ∧
    (∀ w, Calls Try.prog 16 #[.agg #[.int .i64 S, .int .i64 T, .int .i64 U, .int .i64 H], .int .i64 n] w fun r w' => r = .returned (.tuple #[.agg #[.int .i64 x0, .int .i64 x1, .int .i64 x2, .int .i64 x3], .int .i64 E]) ∧ Below w.heap.size w w') := by
  by_cases hR : R S T U H
  · by_cases hn : 0 ≤ n
    · by_cases hf : n ≤ H
      · exact ⟨_, _, _, _, _, fun w => release_ok S T U H n w hR hn hf, fun w => rrelease_ok S T U H n w hR hn hf⟩
      · exact ⟨_, _, _, _, _, fun w => release_no S T U H n 2 w (.inr ⟨⟨hR, hn, hf⟩, rfl⟩), fun w => rrelease_more S T U H n w hR hn (by omega)⟩
    · exact ⟨_, _, _, _, _, fun w => release_no S T U H n 2 w (.inl ⟨fun q => hn q.2, rfl⟩), fun w => rrelease_neg S T U H n w hR (by omega)⟩
  · exact ⟨_, _, _, _, _, fun w => release_no S T U H n 2 w (.inl ⟨fun q => hR q.1, rfl⟩), fun w => rrelease_wrong S T U H n w hR⟩

theorem drop_both (S T U H n : Int) : ∃ x0 x1 x2 x3 E : Int,
    (∀ w, Calls Try.prog 7 #[.agg #[.int .i64 S, .int .i64 T, .int .i64 U, .int .i64 H], .int .i64 n] w fun r w' => r = .returned (.tuple #[.agg #[.int .i64 x0, .int .i64 x1, .int .i64 x2, .int .i64 x3], .int .i64 E]) ∧ Below w.heap.size w w') ∧
    (∀ w, Calls Try.prog 18 #[.agg #[.int .i64 S, .int .i64 T, .int .i64 U, .int .i64 H], .int .i64 n] w fun r w' => r = .returned (.tuple #[.agg #[.int .i64 x0, .int .i64 x1, .int .i64 x2, .int .i64 x3], .int .i64 E]) ∧ Below w.heap.size w w') := by
  by_cases hR : R S T U H
  · by_cases hn : 0 ≤ n
    · by_cases hf : n ≤ U
      · obtain ⟨m, rfl⟩ : ∃ m : Nat, n = m := ⟨n.toNat, by omega⟩
        exact ⟨_, _, _, _, _, fun w => drop_ok S T U H m w hR hn hf, fun w => rdrop_ok S T U H m w hR hf⟩
      · exact ⟨_, _, _, _, _, fun w => drop_no S T U H n 2 w (.inr ⟨⟨hR, hn, hf⟩, rfl⟩), fun w => rdrop_more S T U H n w hR hn (by omega)⟩
    · exact ⟨_, _, _, _, _, fun w => drop_no S T U H n 2 w (.inl ⟨fun q => hn q.2, rfl⟩), fun w => rdrop_neg S T U H n w hR (by omega)⟩
  · exact ⟨_, _, _, _, _, fun w => drop_no S T U H n 2 w (.inl ⟨fun q => hR q.1, rfl⟩), fun w => rdrop_wrong S T U H n w hR⟩

theorem put_both (S T U H n k : Int) (hnm : n ≤ 9223372036854775807) : ∃ x0 x1 x2 x3 i E : Int,
    (∀ w, Calls Try.prog 9 #[.agg #[.int .i64 S, .int .i64 T, .int .i64 U, .int .i64 H], .int .i64 n, .int .i64 k] w fun r w' => r = .returned (.tuple #[.agg #[.int .i64 x0, .int .i64 x1, .int .i64 x2, .int .i64 x3], .int .i64 i, .int .i64 E]) ∧ Below w.heap.size w w') ∧
    (∀ w, Calls Try.prog 17 #[.agg #[.int .i64 S, .int .i64 T, .int .i64 U, .int .i64 H], .int .i64 n, .int .i64 k] w fun r w' => r = .returned (.tuple #[.agg #[.int .i64 x0, .int .i64 x1, .int .i64 x2, .int .i64 x3], .int .i64 i, .int .i64 E]) ∧ Below w.heap.size w w') := by
  by_cases hR : R S T U H
  · by_cases hn : 0 ≤ n
    · by_cases hk : 0 ≤ k
      · by_cases hkn : k ≤ n
        · by_cases hkh : k ≤ H
          · by_cases hf : n - k ≤ fr S T U H
            · obtain ⟨m, rfl⟩ : ∃ m : Nat, U = m := ⟨U.toNat, by have := hR.2.2.1.1; omega⟩
              exact ⟨_, _, _, _, _, _, fun w => put_ok S T m H n k w hR hn ⟨hk, hkn, hkh⟩ hf, fun w => rput_ok S T H n k m w hR hn hk hkn hkh hf⟩
            · exact ⟨_, _, _, _, _, _, fun w => put_full S T U H n k w hR hn hnm ⟨hk, hkn, hkh⟩ hf, fun w => rput_full S T U H n k w hR hn hk hkn hkh hnm (by omega)⟩
          · exact ⟨_, _, _, _, _, _, fun w => put_no S T U H n k w (fun q => hkh q.2.2.2), fun w => rput_held S T U H n k w hR hn hk hkn (by omega)⟩
        · exact ⟨_, _, _, _, _, _, fun w => put_no S T U H n k w (fun q => hkn q.2.2.1), fun w => rput_more S T U H n k w hR hn hk (by omega)⟩
      · exact ⟨_, _, _, _, _, _, fun w => put_no S T U H n k w (fun q => hk q.2.1), fun w => rput_neg2 S T U H n k w hR hn (by omega)⟩
    · exact ⟨_, _, _, _, _, _, fun w => put_no S T U H n k w (fun q => hn q.1.2), fun w => rput_neg S T U H n k w hR (by omega)⟩
  · exact ⟨_, _, _, _, _, _, fun w => put_no S T U H n k w (fun q => hR q.1.1), fun w => rput_wrong S T U H n k w hR⟩

set_option maxRecDepth 100000 in
set_option maxHeartbeats 4000000 in
theorem tells_at (S T U H n k : Int) (w : World) (hnm : n ≤ 9223372036854775807) :
    Calls Try.prog 4 #[.agg #[.int .i64 S, .int .i64 T, .int .i64 U, .int .i64 H], .int .i64 n, .int .i64 k] w fun r w' => r = .returned (.bool true) ∧ Below w.heap.size w w' := by
  obtain ⟨i0, E0, at1', at2'⟩ := at_both S T U H n
  obtain ⟨a0, a1, a2, a3, E1, re1, re2⟩ := reserve_both S T U H n
  obtain ⟨b0, b1, b2, b3, E2, rl1, rl2⟩ := release_both S T U H n
  obtain ⟨p0, p1, p2, p3, pi, E3, pu1, pu2⟩ := put_both S T U H n k hnm
  obtain ⟨d0, d1, d2, d3, E4, dr1, dr2⟩ := drop_both S T U H n
  have A1 : Hid _ := at1'
  have A2 : Hid _ := at2'
  have A3 : Hid _ := re1
  have A4 : Hid _ := re2
  have A5 : Hid _ := rl1
  have A6 : Hid _ := rl2
  have A7 : Hid _ := pu1
  have A8 : Hid _ := pu2
  have A9 : Hid _ := dr1
  have A10 : Hid _ := dr2
  clear at1' at2' re1 re2 rl1 rl2 pu1 pu2 dr1 dr2 hnm
  have g1 := guardE23
  have g2 := eql23
  have g3 := guardN23
  have g4 := neq23
  have xr := Box.new w #[.int .i64 S, .int .i64 T, .int .i64 U, .int .i64 H] 23
  have B := (Below.refl w.heap.size w).alloc (Nat.le_refl _) (.cells #[.int .i64 S, .int .i64 T, .int .i64 U, .int .i64 H] 23)
  obtain ⟨r0, r1, r2, r3⟩ := xr.all4
  go_enter Try.func4, Try.ntmps4
  go_wp2_with fail
  refine (A1.out _).mono ?_
  rintro r v1 ⟨rfl, b⟩
  replace xr := xr.below b
  replace B := keep B b
  clear b A1
  obtain ⟨r01, r11, r21, r31⟩ := xr.all4
  go_wp2_with fail
  refine (A2.out _).mono ?_
  rintro r v2 ⟨rfl, b⟩
  replace xr := xr.below b
  replace B := keep B b
  clear b A2
  obtain ⟨r02, r12, r22, r32⟩ := xr.all4
  go_wp2_with fail
  refine (A3.out _).mono ?_
  rintro r v3 ⟨rfl, b⟩
  replace xr := xr.below b
  replace B := keep B b
  clear b A3
  have lc : Hid (w.heap.size < v3.heap.size) := xr.lt
  replace xr := xr.alloc (.cells #[.int .i64 a0, .int .i64 a1, .int .i64 a2, .int .i64 a3] 23)
  have xc := Box.new v3 #[.int .i64 a0, .int .i64 a1, .int .i64 a2, .int .i64 a3] 23
  replace B := B.alloc B.size (.cells #[.int .i64 a0, .int .i64 a1, .int .i64 a2, .int .i64 a3] 23)
  obtain ⟨r03, r13, r23, r33⟩ := xr.all4
  obtain ⟨c03, c13, c23, c33⟩ := xc.all4
  go_wp2_with fail
  refine (A4.out _).mono ?_
  rintro r v4 ⟨rfl, b⟩
  replace xr := xr.below b
  replace xc := xc.below b
  replace B := keep B b
  clear b A4
  have ld : Hid (v3.heap.size < v4.heap.size) := xc.lt
  replace xr := xr.alloc (.cells #[.int .i64 a0, .int .i64 a1, .int .i64 a2, .int .i64 a3] 23)
  replace xc := xc.alloc (.cells #[.int .i64 a0, .int .i64 a1, .int .i64 a2, .int .i64 a3] 23)
  have xd := Box.new v4 #[.int .i64 a0, .int .i64 a1, .int .i64 a2, .int .i64 a3] 23
  replace B := B.alloc B.size (.cells #[.int .i64 a0, .int .i64 a1, .int .i64 a2, .int .i64 a3] 23)
  obtain ⟨r04, r14, r24, r34⟩ := xr.all4
  obtain ⟨c04, c14, c24, c34⟩ := xc.all4
  obtain ⟨d04, d14, d24, d34⟩ := xd.all4
  go_wp2_with fail
  refine (A5.out _).mono ?_
  rintro r v5 ⟨rfl, b⟩
  replace xr := xr.below b
  replace xc := xc.below b
  replace xd := xd.below b
  replace B := keep B b
  clear b A5
  obtain ⟨fz0, fz1, fz2, fz3⟩ := xc.fr4
  obtain ⟨c05, c15, c25, c35⟩ := xc.all4
  have yc := xc.store4 (u0 := .int .i64 b0) (u1 := .int .i64 b1) (u2 := .int .i64 b2) (u3 := .int .i64 b3)
  have yr := xr.other4 (k := v3.heap.size) (.int .i64 b0) (.int .i64 b1) (.int .i64 b2) (.int .i64 b3) (Nat.ne_of_lt lc.out)
  have yd := xd.other4 (k := v3.heap.size) (.int .i64 b0) (.int .i64 b1) (.int .i64 b2) (.int .i64 b3) (Nat.ne_of_gt ld.out)
  have yB := below4 B (show w.heap.size ≤ v3.heap.size from Nat.le_of_lt lc.out) (.int .i64 b0) (.int .i64 b1) (.int .i64 b2) (.int .i64 b3)
  clear xc B xr xd
  have xc := yc
  have B := yB
  have xr := yr
  have xd := yd
  clear yc yB yr yd
  unfold set4 at xc B xr xd
  obtain ⟨r05, r15, r25, r35⟩ := xr.all4
  go_wp2_with fail
  refine (A6.out _).mono ?_
  rintro r v6 ⟨rfl, b⟩
  replace xr := xr.below b
  replace xc := xc.below b
  replace xd := xd.below b
  replace B := keep B b
  clear b A6
  obtain ⟨fz0, fz1, fz2, fz3⟩ := xd.fr4
  obtain ⟨d06, d16, d26, d36⟩ := xd.all4
  have yd := xd.store4 (u0 := .int .i64 b0) (u1 := .int .i64 b1) (u2 := .int .i64 b2) (u3 := .int .i64 b3)
  have yr := xr.other4 (k := v4.heap.size) (.int .i64 b0) (.int .i64 b1) (.int .i64 b2) (.int .i64 b3) (Nat.ne_of_lt (Nat.lt_trans lc.out ld.out))
  have yc := xc.other4 (k := v4.heap.size) (.int .i64 b0) (.int .i64 b1) (.int .i64 b2) (.int .i64 b3) (Nat.ne_of_lt ld.out)
  have yB := below4 B (show w.heap.size ≤ v4.heap.size from Nat.le_of_lt (Nat.lt_trans lc.out ld.out)) (.int .i64 b0) (.int .i64 b1) (.int .i64 b2) (.int .i64 b3)
  clear xd B xr xc
  have xd := yd
  have B := yB
  have xr := yr
  have xc := yc
  clear yd yB yr yc
  unfold set4 at xd B xr xc
  obtain ⟨r06, r16, r26, r36⟩ := xr.all4
  go_wp2_with fail
  refine (A7.out _).mono ?_
  rintro r v7 ⟨rfl, b⟩
  replace xr := xr.below b
  replace xc := xc.below b
  replace xd := xd.below b
  replace B := keep B b
  clear b A7
  have lp : Hid (v4.heap.size < v7.heap.size) := xd.lt
  replace xr := xr.alloc (.cells #[.int .i64 p0, .int .i64 p1, .int .i64 p2, .int .i64 p3] 23)
  replace xc := xc.alloc (.cells #[.int .i64 p0, .int .i64 p1, .int .i64 p2, .int .i64 p3] 23)
  replace xd := xd.alloc (.cells #[.int .i64 p0, .int .i64 p1, .int .i64 p2, .int .i64 p3] 23)
  have xp := Box.new v7 #[.int .i64 p0, .int .i64 p1, .int .i64 p2, .int .i64 p3] 23
  replace B := B.alloc B.size (.cells #[.int .i64 p0, .int .i64 p1, .int .i64 p2, .int .i64 p3] 23)
  obtain ⟨r07, r17, r27, r37⟩ := xr.all4
  go_wp2_with fail
  refine (A8.out _).mono ?_
  rintro r v8 ⟨rfl, b⟩
  replace xr := xr.below b
  replace xc := xc.below b
  replace xd := xd.below b
  replace xp := xp.below b
  replace B := keep B b
  clear b A8
  replace xr := xr.alloc (.cells #[.int .i64 p0, .int .i64 p1, .int .i64 p2, .int .i64 p3] 23)
  replace xc := xc.alloc (.cells #[.int .i64 p0, .int .i64 p1, .int .i64 p2, .int .i64 p3] 23)
  replace xd := xd.alloc (.cells #[.int .i64 p0, .int .i64 p1, .int .i64 p2, .int .i64 p3] 23)
  replace xp := xp.alloc (.cells #[.int .i64 p0, .int .i64 p1, .int .i64 p2, .int .i64 p3] 23)
  have xq := Box.new v8 #[.int .i64 p0, .int .i64 p1, .int .i64 p2, .int .i64 p3] 23
  replace B := B.alloc B.size (.cells #[.int .i64 p0, .int .i64 p1, .int .i64 p2, .int .i64 p3] 23)
  obtain ⟨r08, r18, r28, r38⟩ := xr.all4
  obtain ⟨c08, c18, c28, c38⟩ := xc.all4
  obtain ⟨d08, d18, d28, d38⟩ := xd.all4
  obtain ⟨p08, p18, p28, p38⟩ := xp.all4
  obtain ⟨q08, q18, q28, q38⟩ := xq.all4
  go_wp2_with fail
  refine (A9.out _).mono ?_
  rintro r v9 ⟨rfl, b⟩
  replace xr := xr.below b
  replace xc := xc.below b
  replace xd := xd.below b
  replace B := keep B b
  clear b A9
  clear xp xq
  obtain ⟨fz0, fz1, fz2, fz3⟩ := xc.fr4
  obtain ⟨c09, c19, c29, c39⟩ := xc.all4
  have yc := xc.store4 (u0 := .int .i64 d0) (u1 := .int .i64 d1) (u2 := .int .i64 d2) (u3 := .int .i64 d3)
  have yr := xr.other4 (k := v3.heap.size) (.int .i64 d0) (.int .i64 d1) (.int .i64 d2) (.int .i64 d3) (Nat.ne_of_lt lc.out)
  have yd := xd.other4 (k := v3.heap.size) (.int .i64 d0) (.int .i64 d1) (.int .i64 d2) (.int .i64 d3) (Nat.ne_of_gt ld.out)
  have yB := below4 B (show w.heap.size ≤ v3.heap.size from Nat.le_of_lt lc.out) (.int .i64 d0) (.int .i64 d1) (.int .i64 d2) (.int .i64 d3)
  clear xc B xr xd
  have xc := yc
  have B := yB
  have xr := yr
  have xd := yd
  clear yc yB yr yd
  unfold set4 at xc B xr xd
  obtain ⟨r09, r19, r29, r39⟩ := xr.all4
  go_wp2_with fail
  refine (A10.out _).mono ?_
  rintro r v10 ⟨rfl, b⟩
  replace xr := xr.below b
  replace xc := xc.below b
  replace xd := xd.below b
  replace B := keep B b
  clear b A10
  obtain ⟨fz0, fz1, fz2, fz3⟩ := xd.fr4
  obtain ⟨d010, d110, d210, d310⟩ := xd.all4
  have yd := xd.store4 (u0 := .int .i64 d0) (u1 := .int .i64 d1) (u2 := .int .i64 d2) (u3 := .int .i64 d3)
  have yr := xr.other4 (k := v4.heap.size) (.int .i64 d0) (.int .i64 d1) (.int .i64 d2) (.int .i64 d3) (Nat.ne_of_lt (Nat.lt_trans lc.out ld.out))
  have yc := xc.other4 (k := v4.heap.size) (.int .i64 d0) (.int .i64 d1) (.int .i64 d2) (.int .i64 d3) (Nat.ne_of_lt ld.out)
  have yB := below4 B (show w.heap.size ≤ v4.heap.size from Nat.le_of_lt (Nat.lt_trans lc.out ld.out)) (.int .i64 d0) (.int .i64 d1) (.int .i64 d2) (.int .i64 d3)
  clear xd B xr xc
  have xd := yd
  have B := yB
  have xr := yr
  have xc := yc
  clear yd yB yr yc
  unfold set4 at xd B xr xc
  obtain ⟨r010, r110, r210, r310⟩ := xr.all4
  obtain ⟨c010, c110, c210, c310⟩ := xc.all4
  obtain ⟨d011, d111, d211, d311⟩ := xd.all4
  go_upto_region 15 with fail
  clear r01 r11 r21 r31 r02 r12 r22 r32 r03 r13 r23 r33 c03 c13 c23 c33 r04 r14 r24 r34 c04 c14 c24 c34 d04 d14 d24 d34 r05 r15 r25 r35 c05 c15 c25 c35 r06 r16 r26 r36 d06 d16 d26 d36 r07 r17 r27 r37 r08 r18 r28 r38 c08 c18 c28 c38 d08 d18 d28 d38 p08 p18 p28 p38 q08 q18 q28 q38 r09 r19 r29 r39 c09 c19 c29 c39 r0 r1 r2 r3
  let C : World → Prop := fun u => Box u w.heap.size #[.int .i64 S, .int .i64 T, .int .i64 U, .int .i64 H] 23 ∧ Box u v3.heap.size #[.int .i64 d0, .int .i64 d1, .int .i64 d2, .int .i64 d3] 23 ∧ Box u v4.heap.size #[.int .i64 d0, .int .i64 d1, .int .i64 d2, .int .i64 d3] 23 ∧ Below w.heap.size w u
  have keepC : ∀ x : Of C, ∀ w', Below x.u.heap.size x.u w' → C w' := fun x w' b => ⟨x.ok.1.below b, x.ok.2.1.below b, x.ok.2.2.1.below b, keep x.ok.2.2.2 b⟩
  have r0 : ∀ x : Of C, x.u.cell? ⟨w.heap.size, 0, none⟩ = some (.int .i64 S) := fun x => x.ok.1.cell 0
  have r1 : ∀ x : Of C, x.u.cell? ⟨w.heap.size, 1, none⟩ = some (.int .i64 T) := fun x => x.ok.1.cell 1
  have r2 : ∀ x : Of C, x.u.cell? ⟨w.heap.size, 2, none⟩ = some (.int .i64 U) := fun x => x.ok.1.cell 2
  have r3 : ∀ x : Of C, x.u.cell? ⟨w.heap.size, 3, none⟩ = some (.int .i64 H) := fun x => x.ok.1.cell 3
  have c0 : ∀ x : Of C, x.u.cell? ⟨v3.heap.size, 0, none⟩ = some (.int .i64 d0) := fun x => x.ok.2.1.cell 0
  have c1 : ∀ x : Of C, x.u.cell? ⟨v3.heap.size, 1, none⟩ = some (.int .i64 d1) := fun x => x.ok.2.1.cell 1
  have c2 : ∀ x : Of C, x.u.cell? ⟨v3.heap.size, 2, none⟩ = some (.int .i64 d2) := fun x => x.ok.2.1.cell 2
  have c3 : ∀ x : Of C, x.u.cell? ⟨v3.heap.size, 3, none⟩ = some (.int .i64 d3) := fun x => x.ok.2.1.cell 3
  have e0 : ∀ x : Of C, x.u.cell? ⟨v4.heap.size, 0, none⟩ = some (.int .i64 d0) := fun x => x.ok.2.2.1.cell 0
  have e1 : ∀ x : Of C, x.u.cell? ⟨v4.heap.size, 1, none⟩ = some (.int .i64 d1) := fun x => x.ok.2.2.1.cell 1
  have e2 : ∀ x : Of C, x.u.cell? ⟨v4.heap.size, 2, none⟩ = some (.int .i64 d2) := fun x => x.ok.2.2.1.cell 2
  have e3 : ∀ x : Of C, x.u.cell? ⟨v4.heap.size, 3, none⟩ = some (.int .i64 d3) := fun x => x.ok.2.2.1.cell 3
  have hCB : ∀ x : Of C, Below w.heap.size w x.u := fun x => x.ok.2.2.2
  have hC0 := (show C _ from ⟨xr, xc, xd, B⟩)
  haveI : Nonempty (Of C) := Of.some hC0
  clear xr xc xd B
  refine wp_region_class C (by kernel_rfl) (by kernel_rfl) ⟨hC0.1, hC0.2.1, hC0.2.2.1, hC0.2.2.2.drew⟩ ?_
  clear hC0
  clear_value C
  repeat (go_big_quiet_step (first
    | (go_at_call 11; exact Of.call _ (right_at S T U H _) (keepC _))
    | (go_at_call 19; exact Of.call _ (rright_at S T U H _) (keepC _))
    | (go_at_call 12; exact Of.call _ (free_at S T U H _) (keepC _))
    | (go_at_call 20; exact Of.call _ (rfree_at S T U H _) (keepC _))
    | (go_at_call 13; exact Of.call _ (awake_at _) (keepC _))))
  refine wpQuiet_nil ?_
  rintro _ ⟨x, rfl⟩
  have B := hCB x
  go_wp2_with fail
  go_ret
  exact ⟨by simp, B⟩

end Go.Proofs.Ytoopdooepnojhaa
