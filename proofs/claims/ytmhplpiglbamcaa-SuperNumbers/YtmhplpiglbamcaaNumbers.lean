/-
  The walk of SuperNumbers.
-/
import Derived.Test.YtmhplpiglbamcaaNumFacts
namespace Go.Proofs.Ytmhplpiglbamcaa
open Go.RowKit

set_option maxRecDepth 100000 in
set_option maxHeartbeats 20000000 in
theorem numbers_any (w : World) : Calls Try.prog 3 #[] w fun r w' => r = .returned (.bool true) ∧ Below w.heap.size w w' := by
  have HS : Hid _ := supA_put
  have HSl : Hid _ := supA_length
  have HSn : Hid _ := supA_num
  have HS8 : Hid _ := supA_take8
  have e15 : Hid (supA[15]? = some 64) := (supA_lead 15 (by omega)).trans rfl
  have e23 : Hid (supA[23]? = some 1) := (supA_lead 23 (by omega)).trans rfl
  have e31 : Hid (supA[31]? = some 1) := (supA_lead 31 (by omega)).trans rfl
  have e39 : Hid (supA[39]? = some 0) := (supA_lead 39 (by omega)).trans rfl
  generalize supA = S at HS HSl HSn HS8 e15 e23 e31 e39
  obtain ⟨T, hT, hTl⟩ := supMax
  have HT : Hid _ := hT
  have HTl : Hid _ := hTl
  clear hT hTl
  have HN : Hid _ := nodeA_put
  have HNl : Hid _ := nodeA_length
  have HNg : Hid _ := nodeA_get
  have HNs : Hid _ := nodeA_short
  have HNn : Hid _ := nodeA_num
  generalize nodeA = N at HN HNl HNg HNs HNn
  have HM : Hid _ := node_none
  have HMl : Hid _ := node_none_length
  have HM1 : Hid _ := node_none_1
  generalize nodeB [] = M at HM HMl HM1
  obtain ⟨i0, hi, hz0, hz1, hz2⟩ := info_parts info5
  have mk : ∀ (n : Nat) (u : World), n ≤ 100000 → (Instr.makeSlice 22 (.int .i64 (n : Int)) (.int .i64 (n : Int))).run Try.prog u = .ok (.slice (some ⟨u.heap.size, 0, none⟩) n n) (u.alloc (.cells (bcs (noughts n)).toArray 5)) := fun n u hn => by
    have h := run_make (P := Try.prog) u 22 5 i0 (.int .u8 0) Try.underlying22 hi hz0 .i64 .i64 (n : Int) (n : Int) (by omega) (by omega) (by rw [hz2]; omega) (by omega)
    have e : madeCells #[.int .u8 0] n = (bcs (noughts n)).toArray := made_zero n
    have e2 : ((n : Int)).toNat = n := by omega
    rw [← e]
    rw [e2] at h
    simpa [hz1, Value.cells] using h
  obtain ⟨O64, hO64⟩ : ∃ O, O = Obj.cells (bcs (noughts 64)).toArray 5 := ⟨_, rfl⟩
  obtain ⟨O63, hO63⟩ : ∃ O, O = Obj.cells (bcs (noughts 63)).toArray 5 := ⟨_, rfl⟩
  obtain ⟨O4k, hO4k⟩ : ∃ O, O = Obj.cells (bcs (noughts 4096)).toArray 5 := ⟨_, rfl⟩
  have m64 : ∀ u : World, (Instr.makeSlice 22 (.int .i64 64) (.int .i64 64)).run Try.prog u = .ok (.slice (some ⟨u.heap.size, 0, none⟩) 64 64) (u.alloc O64) := fun u => by rw [hO64]; exact mk 64 u (by omega)
  have m63 : ∀ u : World, (Instr.makeSlice 22 (.int .i64 63) (.int .i64 63)).run Try.prog u = .ok (.slice (some ⟨u.heap.size, 0, none⟩) 63 63) (u.alloc O63) := fun u => by rw [hO63]; exact mk 63 u (by omega)
  have m4k : ∀ u : World, (Instr.makeSlice 22 (.int .i64 4096) (.int .i64 4096)).run Try.prog u = .ok (.slice (some ⟨u.heap.size, 0, none⟩) 4096 4096) (u.alloc O4k) := fun u => by rw [hO4k]; exact mk 4096 u (by omega)
  have own64 : ∀ u : World, Own (u.alloc O64) u.heap.size (noughts 64) := fun u => by rw [hO64]; exact own_lit u _
  have own63 : ∀ u : World, Own (u.alloc O63) u.heap.size (noughts 63) := fun u => by rw [hO63]; exact own_lit u _
  have own4k : ∀ u : World, Own (u.alloc O4k) u.heap.size (noughts 4096) := fun u => by rw [hO4k]; exact own_lit u _
  have Hown64 : Hid _ := own64
  have Hown63 : Hid _ := own63
  have Hown4k : Hid _ := own4k
  clear mk hi hz0 hz1 hz2 hO64 hO63 hO4k own64 own63 own4k
  go_enter Try.func3, Try.ntmps3
  go_wp2_with fail
  refine (putSuper_at 64 1 1 0 w).mono ?_
  rintro r w1 h1
  obtain ⟨g1, cap1, rfl, o1, hg1, hl1, hc1, hx1, B1⟩ := puts_block h1 HS.out HSl.out (by omega)
  have rS := owns_rd_at o1
  clear h1 o1
  have hconv : (convert 22 9 (.slice (some ⟨g1, 0, none⟩) 8 cap1)).run Try.prog w1 = .ok (.string ⟨#[76, 69, 68, 71, 69, 82, 48, 49]⟩) w1 := by
    have h := conv_run w1 (some ⟨g1, 0, none⟩) cap1 (S.take 8) (rS.take 8)
    rw [HS8.out] at h
    exact h
  have cellS : ∀ (j : Nat) (c : UInt8), S[j]? = some c → w1.cell? ⟨g1, j, none⟩ = some (.int .u8 (c.toNat : Int)) := by
    intro j c h
    obtain ⟨hj, he⟩ := List.getElem?_eq_some_iff.1 h
    obtain ⟨b', o', hb, hc⟩ := rS (by omega)
    simp only [Option.some.injEq, Addr.mk.injEq, and_true] at hb
    obtain ⟨rfl, rfl⟩ := hb
    have := hc j hj
    rw [Nat.zero_add, he] at this
    exact this
  have c15 : w1.cell? ⟨g1, 15, none⟩ = some (.int .u8 64) := cellS 15 64 e15.out
  have c23 : w1.cell? ⟨g1, 23, none⟩ = some (.int .u8 1) := cellS 23 1 e23.out
  have c31 : w1.cell? ⟨g1, 31, none⟩ = some (.int .u8 1) := cellS 31 1 e31.out
  have c39 : w1.cell? ⟨g1, 39, none⟩ = some (.int .u8 0) := cellS 39 0 e39.out
  clear cellS
  have f8 : ¬ ((cap1 : Int) < 8) := by omega
  go_wp2_with fail
  clear hconv c15 c23 c31 c39 f8
  have xn := Box.new w1 #[.int .i64 63, .int .i64 1, .int .i64 1, .int .i64 0, .int .i64 513, .int .i64 1, .int .i64 1, .int .i64 0, .int .i64 64, .int .i64 0, .int .i64 1, .int .i64 0, .int .i64 64, .int .i64 8388609, .int .i64 1, .int .i64 0, .int .i64 64, .int .i64 1, .int .i64 0, .int .i64 0, .int .i64 64, .int .i64 1, .int .i64 549755813889, .int .i64 0, .int .i64 64, .int .i64 1, .int .i64 1, .int .i64 512, .int .i64 64, .int .i64 1, .int .i64 1, .int .i64 (-1)] 27
  have Bz := B1.alloc B1.size (.cells #[.int .i64 63, .int .i64 1, .int .i64 1, .int .i64 0, .int .i64 513, .int .i64 1, .int .i64 1, .int .i64 0, .int .i64 64, .int .i64 0, .int .i64 1, .int .i64 0, .int .i64 64, .int .i64 8388609, .int .i64 1, .int .i64 0, .int .i64 64, .int .i64 1, .int .i64 0, .int .i64 0, .int .i64 64, .int .i64 1, .int .i64 549755813889, .int .i64 0, .int .i64 64, .int .i64 1, .int .i64 1, .int .i64 512, .int .i64 64, .int .i64 1, .int .i64 1, .int .i64 (-1)] 27)
  have bA := (Below.refl w1.heap.size w1).alloc (Nat.le_refl _) (.cells #[.int .i64 63, .int .i64 1, .int .i64 1, .int .i64 0, .int .i64 513, .int .i64 1, .int .i64 1, .int .i64 0, .int .i64 64, .int .i64 0, .int .i64 1, .int .i64 0, .int .i64 64, .int .i64 8388609, .int .i64 1, .int .i64 0, .int .i64 64, .int .i64 1, .int .i64 0, .int .i64 0, .int .i64 64, .int .i64 1, .int .i64 549755813889, .int .i64 0, .int .i64 64, .int .i64 1, .int .i64 1, .int .i64 512, .int .i64 64, .int .i64 1, .int .i64 1, .int .i64 (-1)] 27)
  replace rS := rS.below bA (Nat.le_refl _)
  obtain ⟨V0, hV⟩ : ∃ V, V = w1.alloc (.cells #[.int .i64 63, .int .i64 1, .int .i64 1, .int .i64 0, .int .i64 513, .int .i64 1, .int .i64 1, .int .i64 0, .int .i64 64, .int .i64 0, .int .i64 1, .int .i64 0, .int .i64 64, .int .i64 8388609, .int .i64 1, .int .i64 0, .int .i64 64, .int .i64 1, .int .i64 0, .int .i64 0, .int .i64 64, .int .i64 1, .int .i64 549755813889, .int .i64 0, .int .i64 64, .int .i64 1, .int .i64 1, .int .i64 512, .int .i64 64, .int .i64 1, .int .i64 1, .int .i64 (-1)] 27) := ⟨_, rfl⟩
  rw [← hV] at xn Bz rS ⊢
  clear hV bA B1
  obtain ⟨Q, hQ⟩ : ∃ Q, Q = w1.heap.size := ⟨_, rfl⟩
  rw [← hQ] at xn ⊢
  clear hQ
  refine wp_loop_rounds 9 ?_
  rw [rounds_succ]
  have q0 : V0.cell? ⟨Q, 0, none⟩ = some (.int .i64 63) := xn.cell 0
  have q1 : V0.cell? ⟨Q, 1, none⟩ = some (.int .i64 1) := xn.cell 1
  have q2 : V0.cell? ⟨Q, 2, none⟩ = some (.int .i64 1) := xn.cell 2
  have q3 : V0.cell? ⟨Q, 3, none⟩ = some (.int .i64 0) := xn.cell 3
  go_wp2_with fail
  clear q0 q1 q2 q3
  have B2 := Bz.alloc Bz.size (.cells #[.int .i64 63, .int .i64 1, .int .i64 1, .int .i64 0] 27)
  have bA := (Below.refl V0.heap.size V0).alloc (Nat.le_refl _) (.cells #[.int .i64 63, .int .i64 1, .int .i64 1, .int .i64 0] 27)
  replace rS := rS.below bA (Nat.le_refl _)
  replace xn := xn.below bA
  obtain ⟨V1, hV⟩ : ∃ V, V = V0.alloc (.cells #[.int .i64 63, .int .i64 1, .int .i64 1, .int .i64 0] 27) := ⟨_, rfl⟩
  rw [← hV] at B2 rS xn ⊢
  clear hV bA Bz
  refine (putSuper_at 63 1 1 0 V1).mono ?_
  rintro r w3 h
  obtain ⟨v, rfl, o, b⟩ := puts_none h sup_none.1
  obtain ⟨av, cv, rfl, _, _, _, _, _, _⟩ := owns_parts o
  have B4 := B2.trans (b.mono B2.size)
  replace rS := rS.below b (Nat.le_refl _)
  replace xn := xn.below b
  clear h o b B2
  go_wp2_with fail
  rw [rounds_succ]
  have q0 : w3.cell? ⟨Q, 4, none⟩ = some (.int .i64 513) := xn.cell 4
  have q1 : w3.cell? ⟨Q, 5, none⟩ = some (.int .i64 1) := xn.cell 5
  have q2 : w3.cell? ⟨Q, 6, none⟩ = some (.int .i64 1) := xn.cell 6
  have q3 : w3.cell? ⟨Q, 7, none⟩ = some (.int .i64 0) := xn.cell 7
  go_wp2_with fail
  clear q0 q1 q2 q3
  have B6 := B4.alloc B4.size (.cells #[.int .i64 513, .int .i64 1, .int .i64 1, .int .i64 0] 27)
  have bA := (Below.refl w3.heap.size w3).alloc (Nat.le_refl _) (.cells #[.int .i64 513, .int .i64 1, .int .i64 1, .int .i64 0] 27)
  replace rS := rS.below bA (Nat.le_refl _)
  replace xn := xn.below bA
  obtain ⟨V5, hV⟩ : ∃ V, V = w3.alloc (.cells #[.int .i64 513, .int .i64 1, .int .i64 1, .int .i64 0] 27) := ⟨_, rfl⟩
  rw [← hV] at B6 rS xn ⊢
  clear hV bA B4
  refine (putSuper_at 513 1 1 0 V5).mono ?_
  rintro r w7 h
  obtain ⟨v, rfl, o, b⟩ := puts_none h sup_none.2.1
  obtain ⟨av, cv, rfl, _, _, _, _, _, _⟩ := owns_parts o
  have B8 := B6.trans (b.mono B6.size)
  replace rS := rS.below b (Nat.le_refl _)
  replace xn := xn.below b
  clear h o b B6
  go_wp2_with fail
  rw [rounds_succ]
  have q0 : w7.cell? ⟨Q, 8, none⟩ = some (.int .i64 64) := xn.cell 8
  have q1 : w7.cell? ⟨Q, 9, none⟩ = some (.int .i64 0) := xn.cell 9
  have q2 : w7.cell? ⟨Q, 10, none⟩ = some (.int .i64 1) := xn.cell 10
  have q3 : w7.cell? ⟨Q, 11, none⟩ = some (.int .i64 0) := xn.cell 11
  go_wp2_with fail
  clear q0 q1 q2 q3
  have B10 := B8.alloc B8.size (.cells #[.int .i64 64, .int .i64 0, .int .i64 1, .int .i64 0] 27)
  have bA := (Below.refl w7.heap.size w7).alloc (Nat.le_refl _) (.cells #[.int .i64 64, .int .i64 0, .int .i64 1, .int .i64 0] 27)
  replace rS := rS.below bA (Nat.le_refl _)
  replace xn := xn.below bA
  obtain ⟨V9, hV⟩ : ∃ V, V = w7.alloc (.cells #[.int .i64 64, .int .i64 0, .int .i64 1, .int .i64 0] 27) := ⟨_, rfl⟩
  rw [← hV] at B10 rS xn ⊢
  clear hV bA B8
  refine (putSuper_at 64 0 1 0 V9).mono ?_
  rintro r w11 h
  obtain ⟨v, rfl, o, b⟩ := puts_none h sup_none.2.2.1
  obtain ⟨av, cv, rfl, _, _, _, _, _, _⟩ := owns_parts o
  have B12 := B10.trans (b.mono B10.size)
  replace rS := rS.below b (Nat.le_refl _)
  replace xn := xn.below b
  clear h o b B10
  go_wp2_with fail
  rw [rounds_succ]
  have q0 : w11.cell? ⟨Q, 12, none⟩ = some (.int .i64 64) := xn.cell 12
  have q1 : w11.cell? ⟨Q, 13, none⟩ = some (.int .i64 8388609) := xn.cell 13
  have q2 : w11.cell? ⟨Q, 14, none⟩ = some (.int .i64 1) := xn.cell 14
  have q3 : w11.cell? ⟨Q, 15, none⟩ = some (.int .i64 0) := xn.cell 15
  go_wp2_with fail
  clear q0 q1 q2 q3
  have B14 := B12.alloc B12.size (.cells #[.int .i64 64, .int .i64 8388609, .int .i64 1, .int .i64 0] 27)
  have bA := (Below.refl w11.heap.size w11).alloc (Nat.le_refl _) (.cells #[.int .i64 64, .int .i64 8388609, .int .i64 1, .int .i64 0] 27)
  replace rS := rS.below bA (Nat.le_refl _)
  replace xn := xn.below bA
  obtain ⟨V13, hV⟩ : ∃ V, V = w11.alloc (.cells #[.int .i64 64, .int .i64 8388609, .int .i64 1, .int .i64 0] 27) := ⟨_, rfl⟩
  rw [← hV] at B14 rS xn ⊢
  clear hV bA B12
  refine (putSuper_at 64 8388609 1 0 V13).mono ?_
  rintro r w15 h
  obtain ⟨v, rfl, o, b⟩ := puts_none h sup_none.2.2.2.1
  obtain ⟨av, cv, rfl, _, _, _, _, _, _⟩ := owns_parts o
  have B16 := B14.trans (b.mono B14.size)
  replace rS := rS.below b (Nat.le_refl _)
  replace xn := xn.below b
  clear h o b B14
  go_wp2_with fail
  rw [rounds_succ]
  have q0 : w15.cell? ⟨Q, 16, none⟩ = some (.int .i64 64) := xn.cell 16
  have q1 : w15.cell? ⟨Q, 17, none⟩ = some (.int .i64 1) := xn.cell 17
  have q2 : w15.cell? ⟨Q, 18, none⟩ = some (.int .i64 0) := xn.cell 18
  have q3 : w15.cell? ⟨Q, 19, none⟩ = some (.int .i64 0) := xn.cell 19
  go_wp2_with fail
  clear q0 q1 q2 q3
  have B18 := B16.alloc B16.size (.cells #[.int .i64 64, .int .i64 1, .int .i64 0, .int .i64 0] 27)
  have bA := (Below.refl w15.heap.size w15).alloc (Nat.le_refl _) (.cells #[.int .i64 64, .int .i64 1, .int .i64 0, .int .i64 0] 27)
  replace rS := rS.below bA (Nat.le_refl _)
  replace xn := xn.below bA
  obtain ⟨V17, hV⟩ : ∃ V, V = w15.alloc (.cells #[.int .i64 64, .int .i64 1, .int .i64 0, .int .i64 0] 27) := ⟨_, rfl⟩
  rw [← hV] at B18 rS xn ⊢
  clear hV bA B16
  refine (putSuper_at 64 1 0 0 V17).mono ?_
  rintro r w19 h
  obtain ⟨v, rfl, o, b⟩ := puts_none h sup_none.2.2.2.2.1
  obtain ⟨av, cv, rfl, _, _, _, _, _, _⟩ := owns_parts o
  have B20 := B18.trans (b.mono B18.size)
  replace rS := rS.below b (Nat.le_refl _)
  replace xn := xn.below b
  clear h o b B18
  go_wp2_with fail
  rw [rounds_succ]
  have q0 : w19.cell? ⟨Q, 20, none⟩ = some (.int .i64 64) := xn.cell 20
  have q1 : w19.cell? ⟨Q, 21, none⟩ = some (.int .i64 1) := xn.cell 21
  have q2 : w19.cell? ⟨Q, 22, none⟩ = some (.int .i64 549755813889) := xn.cell 22
  have q3 : w19.cell? ⟨Q, 23, none⟩ = some (.int .i64 0) := xn.cell 23
  go_wp2_with fail
  clear q0 q1 q2 q3
  have B22 := B20.alloc B20.size (.cells #[.int .i64 64, .int .i64 1, .int .i64 549755813889, .int .i64 0] 27)
  have bA := (Below.refl w19.heap.size w19).alloc (Nat.le_refl _) (.cells #[.int .i64 64, .int .i64 1, .int .i64 549755813889, .int .i64 0] 27)
  replace rS := rS.below bA (Nat.le_refl _)
  replace xn := xn.below bA
  obtain ⟨V21, hV⟩ : ∃ V, V = w19.alloc (.cells #[.int .i64 64, .int .i64 1, .int .i64 549755813889, .int .i64 0] 27) := ⟨_, rfl⟩
  rw [← hV] at B22 rS xn ⊢
  clear hV bA B20
  refine (putSuper_at 64 1 549755813889 0 V21).mono ?_
  rintro r w23 h
  obtain ⟨v, rfl, o, b⟩ := puts_none h sup_none.2.2.2.2.2.1
  obtain ⟨av, cv, rfl, _, _, _, _, _, _⟩ := owns_parts o
  have B24 := B22.trans (b.mono B22.size)
  replace rS := rS.below b (Nat.le_refl _)
  replace xn := xn.below b
  clear h o b B22
  go_wp2_with fail
  rw [rounds_succ]
  have q0 : w23.cell? ⟨Q, 24, none⟩ = some (.int .i64 64) := xn.cell 24
  have q1 : w23.cell? ⟨Q, 25, none⟩ = some (.int .i64 1) := xn.cell 25
  have q2 : w23.cell? ⟨Q, 26, none⟩ = some (.int .i64 1) := xn.cell 26
  have q3 : w23.cell? ⟨Q, 27, none⟩ = some (.int .i64 512) := xn.cell 27
  go_wp2_with fail
  clear q0 q1 q2 q3
  have B26 := B24.alloc B24.size (.cells #[.int .i64 64, .int .i64 1, .int .i64 1, .int .i64 512] 27)
  have bA := (Below.refl w23.heap.size w23).alloc (Nat.le_refl _) (.cells #[.int .i64 64, .int .i64 1, .int .i64 1, .int .i64 512] 27)
  replace rS := rS.below bA (Nat.le_refl _)
  replace xn := xn.below bA
  obtain ⟨V25, hV⟩ : ∃ V, V = w23.alloc (.cells #[.int .i64 64, .int .i64 1, .int .i64 1, .int .i64 512] 27) := ⟨_, rfl⟩
  rw [← hV] at B26 rS xn ⊢
  clear hV bA B24
  refine (putSuper_at 64 1 1 512 V25).mono ?_
  rintro r w27 h
  obtain ⟨v, rfl, o, b⟩ := puts_none h sup_none.2.2.2.2.2.2.1
  obtain ⟨av, cv, rfl, _, _, _, _, _, _⟩ := owns_parts o
  have B28 := B26.trans (b.mono B26.size)
  replace rS := rS.below b (Nat.le_refl _)
  replace xn := xn.below b
  clear h o b B26
  go_wp2_with fail
  rw [rounds_succ]
  have q0 : w27.cell? ⟨Q, 28, none⟩ = some (.int .i64 64) := xn.cell 28
  have q1 : w27.cell? ⟨Q, 29, none⟩ = some (.int .i64 1) := xn.cell 29
  have q2 : w27.cell? ⟨Q, 30, none⟩ = some (.int .i64 1) := xn.cell 30
  have q3 : w27.cell? ⟨Q, 31, none⟩ = some (.int .i64 (-1)) := xn.cell 31
  go_wp2_with fail
  clear q0 q1 q2 q3
  have B30 := B28.alloc B28.size (.cells #[.int .i64 64, .int .i64 1, .int .i64 1, .int .i64 (-1)] 27)
  have bA := (Below.refl w27.heap.size w27).alloc (Nat.le_refl _) (.cells #[.int .i64 64, .int .i64 1, .int .i64 1, .int .i64 (-1)] 27)
  replace rS := rS.below bA (Nat.le_refl _)
  replace xn := xn.below bA
  obtain ⟨V29, hV⟩ : ∃ V, V = w27.alloc (.cells #[.int .i64 64, .int .i64 1, .int .i64 1, .int .i64 (-1)] 27) := ⟨_, rfl⟩
  rw [← hV] at B30 rS xn ⊢
  clear hV bA B28
  refine (putSuper_at 64 1 1 (-1) V29).mono ?_
  rintro r w31 h
  obtain ⟨v, rfl, o, b⟩ := puts_none h sup_none.2.2.2.2.2.2.2
  obtain ⟨av, cv, rfl, _, _, _, _, _, _⟩ := owns_parts o
  have B32 := B30.trans (b.mono B30.size)
  replace rS := rS.below b (Nat.le_refl _)
  replace xn := xn.below b
  clear h o b B30
  go_wp2_with fail
  rw [rounds_succ]
  clear xn
  go_wp2_with fail
  refine (many_at 1 1 w31 (by rfl) (by omega)).mono ?_
  rintro r w33 ⟨v, rfl, o, b⟩
  obtain ⟨am1, cm1, rfl, lm1, rom1, mxm1, rm1, nm1, _⟩ := ownsE_parts o
  have Lm1 : Hid _ := lm1
  have B34 := B32.trans (b.mono B32.size)
  replace rS := rS.below b (Nat.le_refl _)
  clear o b lm1 B32
  go_wp2_with fail
  refine (many_at 4 4 w33 (by rfl) (by omega)).mono ?_
  rintro r w35 ⟨v, rfl, o, b⟩
  obtain ⟨am4, cm4, rfl, lm4, rom4, mxm4, rm4, nm4, _⟩ := ownsE_parts o
  have Lm4 : Hid _ := lm4
  have B36 := B34.trans (b.mono B34.size)
  replace rS := rS.below b (Nat.le_refl _)
  replace rm1 := rm1.below b (Nat.le_refl _)
  clear o b lm4 B34
  go_wp2_with fail
  have xn := Box.new w35 #[.int .u8 0, .int .i64 0, .int .i64 1, .slice none 0 0, .int .i64 0, .int .u8 0, .int .i64 1, .int .i64 0, .slice none 0 0, .int .i64 0, .int .u8 0, .int .i64 0, .int .i64 0, .slice none 0 0, .int .i64 1, .int .u8 0, .int .i64 0, .int .i64 0, .slice am1 1 cm1, .int .i64 0, .int .u8 3, .int .i64 0, .int .i64 0, .slice none 0 0, .int .i64 0, .int .u8 1, .int .i64 101, .int .i64 0, .slice none 0 0, .int .i64 0, .int .u8 1, .int .i64 (-1), .int .i64 0, .slice none 0 0, .int .i64 0, .int .u8 1, .int .i64 0, .int .i64 131073, .slice none 0 0, .int .i64 0, .int .u8 1, .int .i64 0, .int .i64 0, .slice none 0 0, .int .i64 512, .int .u8 1, .int .i64 0, .int .i64 0, .slice am4 4 cm4, .int .i64 0] 32
  have B37 := B36.alloc B36.size (.cells #[.int .u8 0, .int .i64 0, .int .i64 1, .slice none 0 0, .int .i64 0, .int .u8 0, .int .i64 1, .int .i64 0, .slice none 0 0, .int .i64 0, .int .u8 0, .int .i64 0, .int .i64 0, .slice none 0 0, .int .i64 1, .int .u8 0, .int .i64 0, .int .i64 0, .slice am1 1 cm1, .int .i64 0, .int .u8 3, .int .i64 0, .int .i64 0, .slice none 0 0, .int .i64 0, .int .u8 1, .int .i64 101, .int .i64 0, .slice none 0 0, .int .i64 0, .int .u8 1, .int .i64 (-1), .int .i64 0, .slice none 0 0, .int .i64 0, .int .u8 1, .int .i64 0, .int .i64 131073, .slice none 0 0, .int .i64 0, .int .u8 1, .int .i64 0, .int .i64 0, .slice none 0 0, .int .i64 512, .int .u8 1, .int .i64 0, .int .i64 0, .slice am4 4 cm4, .int .i64 0] 32)
  have bA := (Below.refl w35.heap.size w35).alloc (Nat.le_refl _) (.cells #[.int .u8 0, .int .i64 0, .int .i64 1, .slice none 0 0, .int .i64 0, .int .u8 0, .int .i64 1, .int .i64 0, .slice none 0 0, .int .i64 0, .int .u8 0, .int .i64 0, .int .i64 0, .slice none 0 0, .int .i64 1, .int .u8 0, .int .i64 0, .int .i64 0, .slice am1 1 cm1, .int .i64 0, .int .u8 3, .int .i64 0, .int .i64 0, .slice none 0 0, .int .i64 0, .int .u8 1, .int .i64 101, .int .i64 0, .slice none 0 0, .int .i64 0, .int .u8 1, .int .i64 (-1), .int .i64 0, .slice none 0 0, .int .i64 0, .int .u8 1, .int .i64 0, .int .i64 131073, .slice none 0 0, .int .i64 0, .int .u8 1, .int .i64 0, .int .i64 0, .slice none 0 0, .int .i64 512, .int .u8 1, .int .i64 0, .int .i64 0, .slice am4 4 cm4, .int .i64 0] 32)
  replace rS := rS.below bA (Nat.le_refl _)
  replace rm1 := rm1.below bA (Nat.le_refl _)
  replace rm4 := rm4.below bA (Nat.le_refl _)
  obtain ⟨V38, hV⟩ : ∃ V, V = w35.alloc (.cells #[.int .u8 0, .int .i64 0, .int .i64 1, .slice none 0 0, .int .i64 0, .int .u8 0, .int .i64 1, .int .i64 0, .slice none 0 0, .int .i64 0, .int .u8 0, .int .i64 0, .int .i64 0, .slice none 0 0, .int .i64 1, .int .u8 0, .int .i64 0, .int .i64 0, .slice am1 1 cm1, .int .i64 0, .int .u8 3, .int .i64 0, .int .i64 0, .slice none 0 0, .int .i64 0, .int .u8 1, .int .i64 101, .int .i64 0, .slice none 0 0, .int .i64 0, .int .u8 1, .int .i64 (-1), .int .i64 0, .slice none 0 0, .int .i64 0, .int .u8 1, .int .i64 0, .int .i64 131073, .slice none 0 0, .int .i64 0, .int .u8 1, .int .i64 0, .int .i64 0, .slice none 0 0, .int .i64 512, .int .u8 1, .int .i64 0, .int .i64 0, .slice am4 4 cm4, .int .i64 0] 32) := ⟨_, rfl⟩
  rw [← hV] at xn B37 rS rm1 rm4 ⊢
  clear hV bA B36
  obtain ⟨Q2, hQ⟩ : ∃ Q, Q = w35.heap.size := ⟨_, rfl⟩
  rw [← hQ] at xn ⊢
  clear hQ
  refine wp_loop_rounds 11 ?_
  rw [rounds_succ]
  have q0 : V38.cell? ⟨Q2, 0, none⟩ = some (.int .u8 0) := xn.cell 0
  have q1 : V38.cell? ⟨Q2, 1, none⟩ = some (.int .i64 0) := xn.cell 1
  have q2 : V38.cell? ⟨Q2, 2, none⟩ = some (.int .i64 1) := xn.cell 2
  have q3 : V38.cell? ⟨Q2, 3, none⟩ = some (.slice none 0 0) := xn.cell 3
  have q4 : V38.cell? ⟨Q2, 4, none⟩ = some (.int .i64 0) := xn.cell 4
  go_wp2_with fail
  clear q0 q1 q2 q3 q4
  have B40 := B37.alloc B37.size (.cells #[.int .u8 0, .int .i64 0, .int .i64 1, .slice none 0 0, .int .i64 0] 32)
  have bA := (Below.refl V38.heap.size V38).alloc (Nat.le_refl _) (.cells #[.int .u8 0, .int .i64 0, .int .i64 1, .slice none 0 0, .int .i64 0] 32)
  replace rS := rS.below bA (Nat.le_refl _)
  replace rm1 := rm1.below bA (Nat.le_refl _)
  replace rm4 := rm4.below bA (Nat.le_refl _)
  replace xn := xn.below bA
  obtain ⟨V39, hV⟩ : ∃ V, V = V38.alloc (.cells #[.int .u8 0, .int .i64 0, .int .i64 1, .slice none 0 0, .int .i64 0] 32) := ⟨_, rfl⟩
  rw [← hV] at B40 rS rm1 rm4 xn ⊢
  clear hV bA B37
  refine (putInode_at 0 0 0 0 1 0 none [] V39 rfl (by omega) (by simp) (RdE.nil _ _)).mono ?_
  rintro r w41 h
  obtain ⟨v, rfl, o, b⟩ := puts_none h ino_none.1
  obtain ⟨av, cv, rfl, _, _, _, _, _, _⟩ := owns_parts o
  have B42 := B40.trans (b.mono B40.size)
  replace rS := rS.below b (Nat.le_refl _)
  replace rm1 := rm1.below b (Nat.le_refl _)
  replace rm4 := rm4.below b (Nat.le_refl _)
  replace xn := xn.below b
  clear h o b B40
  go_wp2_with fail
  rw [rounds_succ]
  have q0 : w41.cell? ⟨Q2, 5, none⟩ = some (.int .u8 0) := xn.cell 5
  have q1 : w41.cell? ⟨Q2, 6, none⟩ = some (.int .i64 1) := xn.cell 6
  have q2 : w41.cell? ⟨Q2, 7, none⟩ = some (.int .i64 0) := xn.cell 7
  have q3 : w41.cell? ⟨Q2, 8, none⟩ = some (.slice none 0 0) := xn.cell 8
  have q4 : w41.cell? ⟨Q2, 9, none⟩ = some (.int .i64 0) := xn.cell 9
  go_wp2_with fail
  clear q0 q1 q2 q3 q4
  have B44 := B42.alloc B42.size (.cells #[.int .u8 0, .int .i64 1, .int .i64 0, .slice none 0 0, .int .i64 0] 32)
  have bA := (Below.refl w41.heap.size w41).alloc (Nat.le_refl _) (.cells #[.int .u8 0, .int .i64 1, .int .i64 0, .slice none 0 0, .int .i64 0] 32)
  replace rS := rS.below bA (Nat.le_refl _)
  replace rm1 := rm1.below bA (Nat.le_refl _)
  replace rm4 := rm4.below bA (Nat.le_refl _)
  replace xn := xn.below bA
  obtain ⟨V43, hV⟩ : ∃ V, V = w41.alloc (.cells #[.int .u8 0, .int .i64 1, .int .i64 0, .slice none 0 0, .int .i64 0] 32) := ⟨_, rfl⟩
  rw [← hV] at B44 rS rm1 rm4 xn ⊢
  clear hV bA B42
  refine (putInode_at 0 0 0 1 0 0 none [] V43 rfl (by omega) (by simp) (RdE.nil _ _)).mono ?_
  rintro r w45 h
  obtain ⟨v, rfl, o, b⟩ := puts_none h ino_none.2.1
  obtain ⟨av, cv, rfl, _, _, _, _, _, _⟩ := owns_parts o
  have B46 := B44.trans (b.mono B44.size)
  replace rS := rS.below b (Nat.le_refl _)
  replace rm1 := rm1.below b (Nat.le_refl _)
  replace rm4 := rm4.below b (Nat.le_refl _)
  replace xn := xn.below b
  clear h o b B44
  go_wp2_with fail
  rw [rounds_succ]
  have q0 : w45.cell? ⟨Q2, 10, none⟩ = some (.int .u8 0) := xn.cell 10
  have q1 : w45.cell? ⟨Q2, 11, none⟩ = some (.int .i64 0) := xn.cell 11
  have q2 : w45.cell? ⟨Q2, 12, none⟩ = some (.int .i64 0) := xn.cell 12
  have q3 : w45.cell? ⟨Q2, 13, none⟩ = some (.slice none 0 0) := xn.cell 13
  have q4 : w45.cell? ⟨Q2, 14, none⟩ = some (.int .i64 1) := xn.cell 14
  go_wp2_with fail
  clear q0 q1 q2 q3 q4
  have B48 := B46.alloc B46.size (.cells #[.int .u8 0, .int .i64 0, .int .i64 0, .slice none 0 0, .int .i64 1] 32)
  have bA := (Below.refl w45.heap.size w45).alloc (Nat.le_refl _) (.cells #[.int .u8 0, .int .i64 0, .int .i64 0, .slice none 0 0, .int .i64 1] 32)
  replace rS := rS.below bA (Nat.le_refl _)
  replace rm1 := rm1.below bA (Nat.le_refl _)
  replace rm4 := rm4.below bA (Nat.le_refl _)
  replace xn := xn.below bA
  obtain ⟨V47, hV⟩ : ∃ V, V = w45.alloc (.cells #[.int .u8 0, .int .i64 0, .int .i64 0, .slice none 0 0, .int .i64 1] 32) := ⟨_, rfl⟩
  rw [← hV] at B48 rS rm1 rm4 xn ⊢
  clear hV bA B46
  refine (putInode_at 0 0 0 0 0 1 none [] V47 rfl (by omega) (by simp) (RdE.nil _ _)).mono ?_
  rintro r w49 h
  obtain ⟨v, rfl, o, b⟩ := puts_none h ino_none.2.2.1
  obtain ⟨av, cv, rfl, _, _, _, _, _, _⟩ := owns_parts o
  have B50 := B48.trans (b.mono B48.size)
  replace rS := rS.below b (Nat.le_refl _)
  replace rm1 := rm1.below b (Nat.le_refl _)
  replace rm4 := rm4.below b (Nat.le_refl _)
  replace xn := xn.below b
  clear h o b B48
  go_wp2_with fail
  rw [rounds_succ]
  have q0 : w49.cell? ⟨Q2, 15, none⟩ = some (.int .u8 0) := xn.cell 15
  have q1 : w49.cell? ⟨Q2, 16, none⟩ = some (.int .i64 0) := xn.cell 16
  have q2 : w49.cell? ⟨Q2, 17, none⟩ = some (.int .i64 0) := xn.cell 17
  have q3 : w49.cell? ⟨Q2, 18, none⟩ = some (.slice am1 1 cm1) := xn.cell 18
  have q4 : w49.cell? ⟨Q2, 19, none⟩ = some (.int .i64 0) := xn.cell 19
  go_wp2_with fail
  clear q0 q1 q2 q3 q4
  have B52 := B50.alloc B50.size (.cells #[.int .u8 0, .int .i64 0, .int .i64 0, .slice am1 1 cm1, .int .i64 0] 32)
  have bA := (Below.refl w49.heap.size w49).alloc (Nat.le_refl _) (.cells #[.int .u8 0, .int .i64 0, .int .i64 0, .slice am1 1 cm1, .int .i64 0] 32)
  replace rS := rS.below bA (Nat.le_refl _)
  replace rm1 := rm1.below bA (Nat.le_refl _)
  replace rm4 := rm4.below bA (Nat.le_refl _)
  replace xn := xn.below bA
  obtain ⟨V51, hV⟩ : ∃ V, V = w49.alloc (.cells #[.int .u8 0, .int .i64 0, .int .i64 0, .slice am1 1 cm1, .int .i64 0] 32) := ⟨_, rfl⟩
  rw [← hV] at B52 rS rm1 rm4 xn ⊢
  clear hV bA B50
  refine (putInode_at 0 1 cm1 0 0 0 am1 (manyE 1) V51 Lm1.out (by omega) (manyE_wf 1 (by omega)) rm1).mono ?_
  rintro r w53 h
  obtain ⟨v, rfl, o, b⟩ := puts_none h ino_none.2.2.2.1
  obtain ⟨av, cv, rfl, _, _, _, _, _, _⟩ := owns_parts o
  have B54 := B52.trans (b.mono B52.size)
  replace rS := rS.below b (Nat.le_refl _)
  replace rm1 := rm1.below b (Nat.le_refl _)
  replace rm4 := rm4.below b (Nat.le_refl _)
  replace xn := xn.below b
  clear h o b B52
  go_wp2_with fail
  rw [rounds_succ]
  have q0 : w53.cell? ⟨Q2, 20, none⟩ = some (.int .u8 3) := xn.cell 20
  have q1 : w53.cell? ⟨Q2, 21, none⟩ = some (.int .i64 0) := xn.cell 21
  have q2 : w53.cell? ⟨Q2, 22, none⟩ = some (.int .i64 0) := xn.cell 22
  have q3 : w53.cell? ⟨Q2, 23, none⟩ = some (.slice none 0 0) := xn.cell 23
  have q4 : w53.cell? ⟨Q2, 24, none⟩ = some (.int .i64 0) := xn.cell 24
  go_wp2_with fail
  clear q0 q1 q2 q3 q4
  have B56 := B54.alloc B54.size (.cells #[.int .u8 3, .int .i64 0, .int .i64 0, .slice none 0 0, .int .i64 0] 32)
  have bA := (Below.refl w53.heap.size w53).alloc (Nat.le_refl _) (.cells #[.int .u8 3, .int .i64 0, .int .i64 0, .slice none 0 0, .int .i64 0] 32)
  replace rS := rS.below bA (Nat.le_refl _)
  replace rm1 := rm1.below bA (Nat.le_refl _)
  replace rm4 := rm4.below bA (Nat.le_refl _)
  replace xn := xn.below bA
  obtain ⟨V55, hV⟩ : ∃ V, V = w53.alloc (.cells #[.int .u8 3, .int .i64 0, .int .i64 0, .slice none 0 0, .int .i64 0] 32) := ⟨_, rfl⟩
  rw [← hV] at B56 rS rm1 rm4 xn ⊢
  clear hV bA B54
  refine (putInode_at 3 0 0 0 0 0 none [] V55 rfl (by omega) (by simp) (RdE.nil _ _)).mono ?_
  rintro r w57 h
  obtain ⟨v, rfl, o, b⟩ := puts_none h ino_none.2.2.2.2.1
  obtain ⟨av, cv, rfl, _, _, _, _, _, _⟩ := owns_parts o
  have B58 := B56.trans (b.mono B56.size)
  replace rS := rS.below b (Nat.le_refl _)
  replace rm1 := rm1.below b (Nat.le_refl _)
  replace rm4 := rm4.below b (Nat.le_refl _)
  replace xn := xn.below b
  clear h o b B56
  go_wp2_with fail
  rw [rounds_succ]
  have q0 : w57.cell? ⟨Q2, 25, none⟩ = some (.int .u8 1) := xn.cell 25
  have q1 : w57.cell? ⟨Q2, 26, none⟩ = some (.int .i64 101) := xn.cell 26
  have q2 : w57.cell? ⟨Q2, 27, none⟩ = some (.int .i64 0) := xn.cell 27
  have q3 : w57.cell? ⟨Q2, 28, none⟩ = some (.slice none 0 0) := xn.cell 28
  have q4 : w57.cell? ⟨Q2, 29, none⟩ = some (.int .i64 0) := xn.cell 29
  go_wp2_with fail
  clear q0 q1 q2 q3 q4
  have B60 := B58.alloc B58.size (.cells #[.int .u8 1, .int .i64 101, .int .i64 0, .slice none 0 0, .int .i64 0] 32)
  have bA := (Below.refl w57.heap.size w57).alloc (Nat.le_refl _) (.cells #[.int .u8 1, .int .i64 101, .int .i64 0, .slice none 0 0, .int .i64 0] 32)
  replace rS := rS.below bA (Nat.le_refl _)
  replace rm1 := rm1.below bA (Nat.le_refl _)
  replace rm4 := rm4.below bA (Nat.le_refl _)
  replace xn := xn.below bA
  obtain ⟨V59, hV⟩ : ∃ V, V = w57.alloc (.cells #[.int .u8 1, .int .i64 101, .int .i64 0, .slice none 0 0, .int .i64 0] 32) := ⟨_, rfl⟩
  rw [← hV] at B60 rS rm1 rm4 xn ⊢
  clear hV bA B58
  refine (putInode_at 1 0 0 101 0 0 none [] V59 rfl (by omega) (by simp) (RdE.nil _ _)).mono ?_
  rintro r w61 h
  obtain ⟨v, rfl, o, b⟩ := puts_none h ino_none.2.2.2.2.2.1
  obtain ⟨av, cv, rfl, _, _, _, _, _, _⟩ := owns_parts o
  have B62 := B60.trans (b.mono B60.size)
  replace rS := rS.below b (Nat.le_refl _)
  replace rm1 := rm1.below b (Nat.le_refl _)
  replace rm4 := rm4.below b (Nat.le_refl _)
  replace xn := xn.below b
  clear h o b B60
  go_wp2_with fail
  rw [rounds_succ]
  have q0 : w61.cell? ⟨Q2, 30, none⟩ = some (.int .u8 1) := xn.cell 30
  have q1 : w61.cell? ⟨Q2, 31, none⟩ = some (.int .i64 (-1)) := xn.cell 31
  have q2 : w61.cell? ⟨Q2, 32, none⟩ = some (.int .i64 0) := xn.cell 32
  have q3 : w61.cell? ⟨Q2, 33, none⟩ = some (.slice none 0 0) := xn.cell 33
  have q4 : w61.cell? ⟨Q2, 34, none⟩ = some (.int .i64 0) := xn.cell 34
  go_wp2_with fail
  clear q0 q1 q2 q3 q4
  have B64 := B62.alloc B62.size (.cells #[.int .u8 1, .int .i64 (-1), .int .i64 0, .slice none 0 0, .int .i64 0] 32)
  have bA := (Below.refl w61.heap.size w61).alloc (Nat.le_refl _) (.cells #[.int .u8 1, .int .i64 (-1), .int .i64 0, .slice none 0 0, .int .i64 0] 32)
  replace rS := rS.below bA (Nat.le_refl _)
  replace rm1 := rm1.below bA (Nat.le_refl _)
  replace rm4 := rm4.below bA (Nat.le_refl _)
  replace xn := xn.below bA
  obtain ⟨V63, hV⟩ : ∃ V, V = w61.alloc (.cells #[.int .u8 1, .int .i64 (-1), .int .i64 0, .slice none 0 0, .int .i64 0] 32) := ⟨_, rfl⟩
  rw [← hV] at B64 rS rm1 rm4 xn ⊢
  clear hV bA B62
  refine (putInode_at 1 0 0 (-1) 0 0 none [] V63 rfl (by omega) (by simp) (RdE.nil _ _)).mono ?_
  rintro r w65 h
  obtain ⟨v, rfl, o, b⟩ := puts_none h ino_none.2.2.2.2.2.2.1
  obtain ⟨av, cv, rfl, _, _, _, _, _, _⟩ := owns_parts o
  have B66 := B64.trans (b.mono B64.size)
  replace rS := rS.below b (Nat.le_refl _)
  replace rm1 := rm1.below b (Nat.le_refl _)
  replace rm4 := rm4.below b (Nat.le_refl _)
  replace xn := xn.below b
  clear h o b B64
  go_wp2_with fail
  rw [rounds_succ]
  have q0 : w65.cell? ⟨Q2, 35, none⟩ = some (.int .u8 1) := xn.cell 35
  have q1 : w65.cell? ⟨Q2, 36, none⟩ = some (.int .i64 0) := xn.cell 36
  have q2 : w65.cell? ⟨Q2, 37, none⟩ = some (.int .i64 131073) := xn.cell 37
  have q3 : w65.cell? ⟨Q2, 38, none⟩ = some (.slice none 0 0) := xn.cell 38
  have q4 : w65.cell? ⟨Q2, 39, none⟩ = some (.int .i64 0) := xn.cell 39
  go_wp2_with fail
  clear q0 q1 q2 q3 q4
  have B68 := B66.alloc B66.size (.cells #[.int .u8 1, .int .i64 0, .int .i64 131073, .slice none 0 0, .int .i64 0] 32)
  have bA := (Below.refl w65.heap.size w65).alloc (Nat.le_refl _) (.cells #[.int .u8 1, .int .i64 0, .int .i64 131073, .slice none 0 0, .int .i64 0] 32)
  replace rS := rS.below bA (Nat.le_refl _)
  replace rm1 := rm1.below bA (Nat.le_refl _)
  replace rm4 := rm4.below bA (Nat.le_refl _)
  replace xn := xn.below bA
  obtain ⟨V67, hV⟩ : ∃ V, V = w65.alloc (.cells #[.int .u8 1, .int .i64 0, .int .i64 131073, .slice none 0 0, .int .i64 0] 32) := ⟨_, rfl⟩
  rw [← hV] at B68 rS rm1 rm4 xn ⊢
  clear hV bA B66
  refine (putInode_at 1 0 0 0 131073 0 none [] V67 rfl (by omega) (by simp) (RdE.nil _ _)).mono ?_
  rintro r w69 h
  obtain ⟨v, rfl, o, b⟩ := puts_none h ino_none.2.2.2.2.2.2.2.1
  obtain ⟨av, cv, rfl, _, _, _, _, _, _⟩ := owns_parts o
  have B70 := B68.trans (b.mono B68.size)
  replace rS := rS.below b (Nat.le_refl _)
  replace rm1 := rm1.below b (Nat.le_refl _)
  replace rm4 := rm4.below b (Nat.le_refl _)
  replace xn := xn.below b
  clear h o b B68
  go_wp2_with fail
  rw [rounds_succ]
  have q0 : w69.cell? ⟨Q2, 40, none⟩ = some (.int .u8 1) := xn.cell 40
  have q1 : w69.cell? ⟨Q2, 41, none⟩ = some (.int .i64 0) := xn.cell 41
  have q2 : w69.cell? ⟨Q2, 42, none⟩ = some (.int .i64 0) := xn.cell 42
  have q3 : w69.cell? ⟨Q2, 43, none⟩ = some (.slice none 0 0) := xn.cell 43
  have q4 : w69.cell? ⟨Q2, 44, none⟩ = some (.int .i64 512) := xn.cell 44
  go_wp2_with fail
  clear q0 q1 q2 q3 q4
  have B72 := B70.alloc B70.size (.cells #[.int .u8 1, .int .i64 0, .int .i64 0, .slice none 0 0, .int .i64 512] 32)
  have bA := (Below.refl w69.heap.size w69).alloc (Nat.le_refl _) (.cells #[.int .u8 1, .int .i64 0, .int .i64 0, .slice none 0 0, .int .i64 512] 32)
  replace rS := rS.below bA (Nat.le_refl _)
  replace rm1 := rm1.below bA (Nat.le_refl _)
  replace rm4 := rm4.below bA (Nat.le_refl _)
  replace xn := xn.below bA
  obtain ⟨V71, hV⟩ : ∃ V, V = w69.alloc (.cells #[.int .u8 1, .int .i64 0, .int .i64 0, .slice none 0 0, .int .i64 512] 32) := ⟨_, rfl⟩
  rw [← hV] at B72 rS rm1 rm4 xn ⊢
  clear hV bA B70
  refine (putInode_at 1 0 0 0 0 512 none [] V71 rfl (by omega) (by simp) (RdE.nil _ _)).mono ?_
  rintro r w73 h
  obtain ⟨v, rfl, o, b⟩ := puts_none h ino_none.2.2.2.2.2.2.2.2.1
  obtain ⟨av, cv, rfl, _, _, _, _, _, _⟩ := owns_parts o
  have B74 := B72.trans (b.mono B72.size)
  replace rS := rS.below b (Nat.le_refl _)
  replace rm1 := rm1.below b (Nat.le_refl _)
  replace rm4 := rm4.below b (Nat.le_refl _)
  replace xn := xn.below b
  clear h o b B72
  go_wp2_with fail
  rw [rounds_succ]
  have q0 : w73.cell? ⟨Q2, 45, none⟩ = some (.int .u8 1) := xn.cell 45
  have q1 : w73.cell? ⟨Q2, 46, none⟩ = some (.int .i64 0) := xn.cell 46
  have q2 : w73.cell? ⟨Q2, 47, none⟩ = some (.int .i64 0) := xn.cell 47
  have q3 : w73.cell? ⟨Q2, 48, none⟩ = some (.slice am4 4 cm4) := xn.cell 48
  have q4 : w73.cell? ⟨Q2, 49, none⟩ = some (.int .i64 0) := xn.cell 49
  go_wp2_with fail
  clear q0 q1 q2 q3 q4
  have B76 := B74.alloc B74.size (.cells #[.int .u8 1, .int .i64 0, .int .i64 0, .slice am4 4 cm4, .int .i64 0] 32)
  have bA := (Below.refl w73.heap.size w73).alloc (Nat.le_refl _) (.cells #[.int .u8 1, .int .i64 0, .int .i64 0, .slice am4 4 cm4, .int .i64 0] 32)
  replace rS := rS.below bA (Nat.le_refl _)
  replace rm1 := rm1.below bA (Nat.le_refl _)
  replace rm4 := rm4.below bA (Nat.le_refl _)
  replace xn := xn.below bA
  obtain ⟨V75, hV⟩ : ∃ V, V = w73.alloc (.cells #[.int .u8 1, .int .i64 0, .int .i64 0, .slice am4 4 cm4, .int .i64 0] 32) := ⟨_, rfl⟩
  rw [← hV] at B76 rS rm1 rm4 xn ⊢
  clear hV bA B74
  refine (putInode_at 1 4 cm4 0 0 0 am4 (manyE 4) V75 Lm4.out (by omega) (manyE_wf 4 (by omega)) rm4).mono ?_
  rintro r w77 h
  obtain ⟨v, rfl, o, b⟩ := puts_none h ino_none.2.2.2.2.2.2.2.2.2
  obtain ⟨av, cv, rfl, _, _, _, _, _, _⟩ := owns_parts o
  have B78 := B76.trans (b.mono B76.size)
  replace rS := rS.below b (Nat.le_refl _)
  replace rm1 := rm1.below b (Nat.le_refl _)
  replace rm4 := rm4.below b (Nat.le_refl _)
  replace xn := xn.below b
  clear h o b B76
  go_wp2_with fail
  rw [rounds_succ]
  clear xn rm1 rm4 nm1 nm4
  go_wp2_with fail
  -- 18
  refine (putSuper_at 512 8388608 549755813888 511 w77).mono ?_
  rintro r w79 h
  obtain ⟨g2, cap2, rfl, o, _, _, _, _, b⟩ := puts_block h HT.out HTl.out (by omega)
  clear o
  have B80 := B78.trans (b.mono B78.size)
  replace rS := rS.below b (Nat.le_refl _)
  clear h b B78
  go_wp2_with fail
  refine (putInode_at 0 0 0 0 0 0 none [] w79 rfl (by omega) (by simp) (RdE.nil _ _)).mono ?_
  rintro r w81 h
  obtain ⟨g3, cap3, rfl, o, _, _, _, _, b⟩ := puts_block h inoZero (noughts_length 64) (by omega)
  have rZ := owns_rd_at o
  clear o
  have B82 := B80.trans (b.mono B80.size)
  replace rS := rS.below b (Nat.le_refl _)
  clear h b B80
  go_wp2_with fail
  have oM := (Hown64.out w81).rd
  have B84 := B82.alloc B82.size O64
  have bA := (Below.refl w81.heap.size w81).alloc (Nat.le_refl _) O64
  replace rS := rS.below bA (Nat.le_refl _)
  replace rZ := rZ.below bA (Nat.le_refl _)
  obtain ⟨V83, hV⟩ : ∃ V, V = w81.alloc O64 := ⟨_, rfl⟩
  rw [← hV] at B84 rS rZ oM ⊢
  clear hV bA B82
  refine (getInode_at 64 64 _ (noughts 64) V83 (noughts_length 64) (by omega) (by omega) oM).mono ?_
  rintro r w85 h
  obtain ⟨v, hr20, o, b⟩ := getsI_some h getInode_zero
  have o' : World.ownsRow _ _ 46 3 v 0 (ecs []) := o
  obtain ⟨a20, c20, rfl, _, _, _, _, _, _⟩ := ownsE_parts o'
  have hr21 : r = .returned (.tuple #[.agg #[.int .u8 0, .int .i64 0, .int .i64 0, .slice a20 0 c20, .int .i64 0], .int .i64 0]) := hr20
  subst hr21
  clear hr20 o o'
  have B86 := B84.trans (b.mono B84.size)
  replace rS := rS.below b (Nat.le_refl _)
  replace rZ := rZ.below b (Nat.le_refl _)
  clear oM
  clear h b B84
  have x15 := Box.new w85 #[.int .u8 0, .int .i64 0, .int .i64 0, .slice a20 0 c20, .int .i64 0] 32
  have B88 := B86.alloc B86.size (.cells #[.int .u8 0, .int .i64 0, .int .i64 0, .slice a20 0 c20, .int .i64 0] 32)
  have bA := (Below.refl w85.heap.size w85).alloc (Nat.le_refl _) (.cells #[.int .u8 0, .int .i64 0, .int .i64 0, .slice a20 0 c20, .int .i64 0] 32)
  replace rS := rS.below bA (Nat.le_refl _)
  replace rZ := rZ.below bA (Nat.le_refl _)
  go_wp2_with fail
  have sz : (w85.alloc (.cells #[.int .u8 0, .int .i64 0, .int .i64 0, .slice a20 0 c20, .int .i64 0] 32)).heap.size = w85.heap.size + 1 := by simp
  obtain ⟨V87, hV⟩ : ∃ V, V = w85.alloc (.cells #[.int .u8 0, .int .i64 0, .int .i64 0, .slice a20 0 c20, .int .i64 0] 32) := ⟨_, rfl⟩
  rw [← hV] at x15 sz B88 rS rZ ⊢
  clear hV bA B86
  obtain ⟨G15, hG15⟩ : ∃ G, G = w85.heap.size := ⟨_, rfl⟩
  rw [← hG15] at x15 sz ⊢
  clear hG15
  have oM := (Hown63.out V87).rd
  rw [sz] at oM
  clear sz
  have B90 := B88.alloc B88.size O63
  have bA := (Below.refl V87.heap.size V87).alloc (Nat.le_refl _) O63
  replace rS := rS.below bA (Nat.le_refl _)
  replace rZ := rZ.below bA (Nat.le_refl _)
  replace x15 := x15.below bA
  obtain ⟨V89, hV⟩ : ∃ V, V = V87.alloc O63 := ⟨_, rfl⟩
  rw [← hV] at B90 rS rZ x15 oM ⊢
  clear hV bA B88
  refine (getInode_at 63 63 _ (noughts 63) V89 (noughts_length 63) (by omega) (by omega) oM).mono ?_
  rintro r w91 h
  obtain ⟨v, rfl, o, b⟩ := getsI_none h getInode_63
  obtain ⟨a21, c21, rfl, _, _, _, _, _, _⟩ := ownsE_parts o
  clear o
  have B92 := B90.trans (b.mono B90.size)
  replace rS := rS.below b (Nat.le_refl _)
  replace rZ := rZ.below b (Nat.le_refl _)
  replace x15 := x15.below b
  clear oM
  clear h b B90
  have B94 := B92.alloc B92.size (.cells #[.int .u8 0, .int .i64 0, .int .i64 0, .slice a21 0 c21, .int .i64 0] 32)
  have bA := (Below.refl w91.heap.size w91).alloc (Nat.le_refl _) (.cells #[.int .u8 0, .int .i64 0, .int .i64 0, .slice a21 0 c21, .int .i64 0] 32)
  replace rS := rS.below bA (Nat.le_refl _)
  replace rZ := rZ.below bA (Nat.le_refl _)
  replace x15 := x15.below bA
  go_wp2_with fail
  have sz : (w91.alloc (.cells #[.int .u8 0, .int .i64 0, .int .i64 0, .slice a21 0 c21, .int .i64 0] 32)).heap.size = w91.heap.size + 1 := by simp
  obtain ⟨V93, hV⟩ : ∃ V, V = w91.alloc (.cells #[.int .u8 0, .int .i64 0, .int .i64 0, .slice a21 0 c21, .int .i64 0] 32) := ⟨_, rfl⟩
  rw [← hV] at B94 sz rS rZ x15 ⊢
  clear hV bA B92
  have oM := (Hown4k.out V93).rd
  rw [sz] at oM
  clear sz
  have B96 := B94.alloc B94.size O4k
  have bA := (Below.refl V93.heap.size V93).alloc (Nat.le_refl _) O4k
  replace rS := rS.below bA (Nat.le_refl _)
  replace rZ := rZ.below bA (Nat.le_refl _)
  replace x15 := x15.below bA
  obtain ⟨V95, hV⟩ : ∃ V, V = V93.alloc O4k := ⟨_, rfl⟩
  rw [← hV] at B96 rS rZ x15 oM ⊢
  clear hV bA B94
  refine (getSuper_at 4096 4096 _ (noughts 4096) V95 (noughts_length 4096) (by omega) (by omega) oM).mono ?_
  rintro r w97 h
  obtain ⟨rfl, b⟩ := getsS_none h getSuper_noughts
  have B98 := B96.trans (b.mono B96.size)
  replace rS := rS.below b (Nat.le_refl _)
  replace rZ := rZ.below b (Nat.le_refl _)
  replace x15 := x15.below b
  clear oM
  clear h b B96
  have B100 := B98.alloc B98.size (.cells #[.int .i64 0, .int .i64 0, .int .i64 0, .int .i64 0] 27)
  have bA := (Below.refl w97.heap.size w97).alloc (Nat.le_refl _) (.cells #[.int .i64 0, .int .i64 0, .int .i64 0, .int .i64 0] 27)
  replace rS := rS.below bA (Nat.le_refl _)
  replace rZ := rZ.below bA (Nat.le_refl _)
  replace x15 := x15.below bA
  go_wp2_with fail
  have sz : (w97.alloc (.cells #[.int .i64 0, .int .i64 0, .int .i64 0, .int .i64 0] 27)).heap.size = w97.heap.size + 1 := by simp
  obtain ⟨V99, hV⟩ : ∃ V, V = w97.alloc (.cells #[.int .i64 0, .int .i64 0, .int .i64 0, .int .i64 0] 27) := ⟨_, rfl⟩
  rw [← hV] at B100 sz rS rZ x15 ⊢
  clear hV bA B98
  clear sz
  refine (getSuper_at 0 0 none [] V99 rfl (by omega) (by omega) (Rd.nil _ _)).mono ?_
  rintro r w101 h
  obtain ⟨rfl, b⟩ := getsS_none h getSuper_nil
  have B102 := B100.trans (b.mono B100.size)
  replace rS := rS.below b (Nat.le_refl _)
  replace rZ := rZ.below b (Nat.le_refl _)
  replace x15 := x15.below b
  clear h b B100
  have B104 := B102.alloc B102.size (.cells #[.int .i64 0, .int .i64 0, .int .i64 0, .int .i64 0] 27)
  have bA := (Below.refl w101.heap.size w101).alloc (Nat.le_refl _) (.cells #[.int .i64 0, .int .i64 0, .int .i64 0, .int .i64 0] 27)
  replace rS := rS.below bA (Nat.le_refl _)
  replace rZ := rZ.below bA (Nat.le_refl _)
  replace x15 := x15.below bA
  go_wp2_with fail
  have sz : (w101.alloc (.cells #[.int .i64 0, .int .i64 0, .int .i64 0, .int .i64 0] 27)).heap.size = w101.heap.size + 1 := by simp
  obtain ⟨V103, hV⟩ : ∃ V, V = w101.alloc (.cells #[.int .i64 0, .int .i64 0, .int .i64 0, .int .i64 0] 27) := ⟨_, rfl⟩
  rw [← hV] at B104 sz rS rZ x15 ⊢
  clear hV bA B102
  clear sz
  refine (putNode_at 0 0 none [] V103 rfl (by omega) (by simp) (RdE.nil _ _)).mono ?_
  rintro r w105 h
  obtain ⟨g5, cap5, rfl, o, _, _, hc5, hx5, b⟩ := puts_block h HM.out HMl.out (by omega)
  have rM := owns_rd_at o
  clear o
  have B106 := B104.trans (b.mono B104.size)
  replace rS := rS.below b (Nat.le_refl _)
  replace rZ := rZ.below b (Nat.le_refl _)
  replace x15 := x15.below b
  clear h b B104
  go_wp2_with fail
  have oM := (Hown64.out w105).rd
  have B108 := B106.alloc B106.size O64
  have bA := (Below.refl w105.heap.size w105).alloc (Nat.le_refl _) O64
  replace rS := rS.below bA (Nat.le_refl _)
  replace rZ := rZ.below bA (Nat.le_refl _)
  replace x15 := x15.below bA
  replace rM := rM.below bA (Nat.le_refl _)
  obtain ⟨V107, hV⟩ : ∃ V, V = w105.alloc O64 := ⟨_, rfl⟩
  rw [← hV] at B108 rS rZ x15 rM oM ⊢
  clear hV bA B106
  refine (same_at _ _ 64 64 _ _ (noughts 64) (noughts 64) V107 (noughts_length 64) (noughts_length 64) rZ oM).mono ?_
  rintro r w' ⟨rfl, rfl⟩
  have k15 : V107.cell? ⟨G15, 0, none⟩ = some (.int .u8 0) := x15.cell 0
  have kM : V107.cell? ⟨g5, 1, none⟩ = some (.int .u8 0) := by
    obtain ⟨hj, he⟩ := List.getElem?_eq_some_iff.1 HM1.out
    obtain ⟨b', o', hb, hc⟩ := rM (by omega)
    simp only [Option.some.injEq, Addr.mk.injEq, and_true] at hb
    obtain ⟨rfl, rfl⟩ := hb
    have h9 := hc 1 hj
    rw [Nat.zero_add, he] at h9
    exact h9
  clear oM
  go_wp2_with fail
  clear k15 kM rM x15 rZ
  -- 26
  refine (many_at 250 250 V107 (by rfl) (by omega)).mono ?_
  rintro r w109 ⟨v, rfl, o, b⟩
  obtain ⟨am250, cm250, rfl, lm250, rom250, mxm250, rm250, nm250, _⟩ := ownsE_parts o
  have Lm250 : Hid _ := lm250
  have B110 := B108.trans (b.mono B108.size)
  replace rS := rS.below b (Nat.le_refl _)
  clear o b lm250 B108
  go_wp2_with fail
  refine (putNode_at cm250 250 am250 (manyE 250) w109 Lm250.out (by omega) (manyE_wf 250 (by omega)) rm250).mono ?_
  rintro r w111 h
  obtain ⟨g6, cap6, rfl, o, _, _, hc6, hx6, b⟩ := puts_block h HN.out HNl.out (by omega)
  have rN := owns_rd_at o
  clear o
  have B112 := B110.trans (b.mono B110.size)
  replace rS := rS.below b (Nat.le_refl _)
  clear rm250 nm250
  clear h b B110
  go_wp2_with fail
  refine (many_at 251 251 w111 (by rfl) (by omega)).mono ?_
  rintro r w113 ⟨v, rfl, o, b⟩
  obtain ⟨am251, cm251, rfl, lm251, rom251, mxm251, rm251, nm251, _⟩ := ownsE_parts o
  have Lm251 : Hid _ := lm251
  have B114 := B112.trans (b.mono B112.size)
  replace rS := rS.below b (Nat.le_refl _)
  replace rN := rN.below b (Nat.le_refl _)
  clear o b lm251 B112
  go_wp2_with fail
  refine (putNode_at cm251 251 am251 (manyE 251) w113 Lm251.out (by omega) (manyE_wf 251 (by omega)) rm251).mono ?_
  rintro r w115 h
  obtain ⟨v, rfl, o, b⟩ := puts_none h nodeA_251
  obtain ⟨a27, c27, rfl, _, _, _, _, _, _⟩ := owns_parts o
  clear o
  have B116 := B114.trans (b.mono B114.size)
  replace rS := rS.below b (Nat.le_refl _)
  replace rN := rN.below b (Nat.le_refl _)
  clear rm251 nm251
  clear h b B114
  go_wp2_with fail
  refine (getNode_at 4096 cap6 _ N w115 HNl.out hc6 hx6 rN).mono ?_
  rintro r w117 h
  obtain ⟨v, rfl, o, b⟩ := getsN_some h HNg.out
  rw [manyE_length] at o
  obtain ⟨a28, c28, rfl, _, _, _, _, _, _⟩ := ownsE_parts o
  clear o
  have B118 := B116.trans (b.mono B116.size)
  replace rS := rS.below b (Nat.le_refl _)
  replace rN := rN.below b (Nat.le_refl _)
  clear h b B116
  have f6 : ¬ ((cap6 : Int) < 4095) := by omega
  have rN5 := rN.take 4095
  have tl5 : Hid ((N.take 4095).length = 4095) := by have := HNl.out; show _ = _; simp; omega
  go_wp2_with fail
  refine (getNode_at 4095 cap6 _ (N.take 4095) w117 tl5.out (by omega) hx6 rN5).mono ?_
  rintro r w119 h
  obtain ⟨v, rfl, o, b⟩ := getsN_none h HNs.out
  obtain ⟨a29, c29, rfl, _, _, _, _, _, _⟩ := ownsE_parts o
  clear o
  have B120 := B118.trans (b.mono B118.size)
  replace rS := rS.below b (Nat.le_refl _)
  replace rN := rN.below b (Nat.le_refl _)
  clear rN5 f6
  clear h b B118
  go_wp2_with fail
  have xr := Box.new w119 #[.int .i64 0, .int .i64 30, .int .i64 2, .int .i64 2, .int .i64 40, .int .i64 1] 46
  have B122 := B120.alloc B120.size (.cells #[.int .i64 0, .int .i64 30, .int .i64 2, .int .i64 2, .int .i64 40, .int .i64 1] 46)
  have bA := (Below.refl w119.heap.size w119).alloc (Nat.le_refl _) (.cells #[.int .i64 0, .int .i64 30, .int .i64 2, .int .i64 2, .int .i64 40, .int .i64 1] 46)
  replace rS := rS.below bA (Nat.le_refl _)
  replace rN := rN.below bA (Nat.le_refl _)
  obtain ⟨V121, hV⟩ : ∃ V, V = w119.alloc (.cells #[.int .i64 0, .int .i64 30, .int .i64 2, .int .i64 2, .int .i64 40, .int .i64 1] 46) := ⟨_, rfl⟩
  rw [← hV] at xr B122 rS rN ⊢
  clear hV bA B120
  have re : RdE V121 (some ⟨w119.heap.size, 0, none⟩) [⟨0, 30, 2⟩, ⟨2, 40, 1⟩] := fun _ => ⟨_, _, rfl, fun j hj => by
    match j, hj with
    | 0, _ => exact ⟨xr.cell 0, xr.cell 1, xr.cell 2⟩
    | 1, _ => exact ⟨xr.cell 3, xr.cell 4, xr.cell 5⟩⟩
  refine (right_at 2 2 (some ⟨w119.heap.size, 0, none⟩) [⟨0, 30, 2⟩, ⟨2, 40, 1⟩] V121 rfl (by omega) (by intro e he; simp at he; rcases he with rfl | rfl <;> simp [wfE]) re).mono ?_
  rintro r w123 ⟨rfl, b⟩
  rw [rights.1]
  have B124 := B122.trans (b.mono B122.size)
  replace rS := rS.below b (Nat.le_refl _)
  replace rN := rN.below b (Nat.le_refl _)
  clear b re xr B122
  go_wp2_with fail
  have xr := Box.new w123 #[.int .i64 0, .int .i64 30, .int .i64 2, .int .i64 1, .int .i64 40, .int .i64 1] 46
  have B126 := B124.alloc B124.size (.cells #[.int .i64 0, .int .i64 30, .int .i64 2, .int .i64 1, .int .i64 40, .int .i64 1] 46)
  have bA := (Below.refl w123.heap.size w123).alloc (Nat.le_refl _) (.cells #[.int .i64 0, .int .i64 30, .int .i64 2, .int .i64 1, .int .i64 40, .int .i64 1] 46)
  replace rS := rS.below bA (Nat.le_refl _)
  replace rN := rN.below bA (Nat.le_refl _)
  obtain ⟨V125, hV⟩ : ∃ V, V = w123.alloc (.cells #[.int .i64 0, .int .i64 30, .int .i64 2, .int .i64 1, .int .i64 40, .int .i64 1] 46) := ⟨_, rfl⟩
  rw [← hV] at xr B126 rS rN ⊢
  clear hV bA B124
  have re : RdE V125 (some ⟨w123.heap.size, 0, none⟩) [⟨0, 30, 2⟩, ⟨1, 40, 1⟩] := fun _ => ⟨_, _, rfl, fun j hj => by
    match j, hj with
    | 0, _ => exact ⟨xr.cell 0, xr.cell 1, xr.cell 2⟩
    | 1, _ => exact ⟨xr.cell 3, xr.cell 4, xr.cell 5⟩⟩
  refine (right_at 2 2 (some ⟨w123.heap.size, 0, none⟩) [⟨0, 30, 2⟩, ⟨1, 40, 1⟩] V125 rfl (by omega) (by intro e he; simp at he; rcases he with rfl | rfl <;> simp [wfE]) re).mono ?_
  rintro r w127 ⟨rfl, b⟩
  rw [rights.2.1]
  have B128 := B126.trans (b.mono B126.size)
  replace rS := rS.below b (Nat.le_refl _)
  replace rN := rN.below b (Nat.le_refl _)
  clear b re xr B126
  go_wp2_with fail
  have xr := Box.new w127 #[.int .i64 0, .int .i64 1, .int .i64 511] 46
  have B130 := B128.alloc B128.size (.cells #[.int .i64 0, .int .i64 1, .int .i64 511] 46)
  have bA := (Below.refl w127.heap.size w127).alloc (Nat.le_refl _) (.cells #[.int .i64 0, .int .i64 1, .int .i64 511] 46)
  replace rS := rS.below bA (Nat.le_refl _)
  replace rN := rN.below bA (Nat.le_refl _)
  obtain ⟨V129, hV⟩ : ∃ V, V = w127.alloc (.cells #[.int .i64 0, .int .i64 1, .int .i64 511] 46) := ⟨_, rfl⟩
  rw [← hV] at xr B130 rS rN ⊢
  clear hV bA B128
  have re : RdE V129 (some ⟨w127.heap.size, 0, none⟩) [⟨0, 1, 511⟩] := fun _ => ⟨_, _, rfl, fun j hj => by
    match j, hj with
    | 0, _ => exact ⟨xr.cell 0, xr.cell 1, xr.cell 2⟩⟩
  refine (right_at 1 1 (some ⟨w127.heap.size, 0, none⟩) [⟨0, 1, 511⟩] V129 rfl (by omega) (by intro e he; simp at he; rcases he with rfl <;> simp [wfE]) re).mono ?_
  rintro r w131 ⟨rfl, b⟩
  rw [rights.2.2.1]
  have B132 := B130.trans (b.mono B130.size)
  replace rS := rS.below b (Nat.le_refl _)
  replace rN := rN.below b (Nat.le_refl _)
  clear b re xr B130
  go_wp2_with fail
  have xr := Box.new w131 #[.int .i64 0, .int .i64 1, .int .i64 512] 46
  have B134 := B132.alloc B132.size (.cells #[.int .i64 0, .int .i64 1, .int .i64 512] 46)
  have bA := (Below.refl w131.heap.size w131).alloc (Nat.le_refl _) (.cells #[.int .i64 0, .int .i64 1, .int .i64 512] 46)
  replace rS := rS.below bA (Nat.le_refl _)
  replace rN := rN.below bA (Nat.le_refl _)
  obtain ⟨V133, hV⟩ : ∃ V, V = w131.alloc (.cells #[.int .i64 0, .int .i64 1, .int .i64 512] 46) := ⟨_, rfl⟩
  rw [← hV] at xr B134 rS rN ⊢
  clear hV bA B132
  have re : RdE V133 (some ⟨w131.heap.size, 0, none⟩) [⟨0, 1, 512⟩] := fun _ => ⟨_, _, rfl, fun j hj => by
    match j, hj with
    | 0, _ => exact ⟨xr.cell 0, xr.cell 1, xr.cell 2⟩⟩
  refine (right_at 1 1 (some ⟨w131.heap.size, 0, none⟩) [⟨0, 1, 512⟩] V133 rfl (by omega) (by intro e he; simp at he; rcases he with rfl <;> simp [wfE]) re).mono ?_
  rintro r w135 ⟨rfl, b⟩
  rw [rights.2.2.2.1]
  have B136 := B134.trans (b.mono B134.size)
  replace rS := rS.below b (Nat.le_refl _)
  replace rN := rN.below b (Nat.le_refl _)
  clear b re xr B134
  go_wp2_with fail
  have xr := Box.new w135 #[.int .i64 0, .int .i64 0, .int .i64 1] 46
  have B138 := B136.alloc B136.size (.cells #[.int .i64 0, .int .i64 0, .int .i64 1] 46)
  have bA := (Below.refl w135.heap.size w135).alloc (Nat.le_refl _) (.cells #[.int .i64 0, .int .i64 0, .int .i64 1] 46)
  replace rS := rS.below bA (Nat.le_refl _)
  replace rN := rN.below bA (Nat.le_refl _)
  obtain ⟨V137, hV⟩ : ∃ V, V = w135.alloc (.cells #[.int .i64 0, .int .i64 0, .int .i64 1] 46) := ⟨_, rfl⟩
  rw [← hV] at xr B138 rS rN ⊢
  clear hV bA B136
  have re : RdE V137 (some ⟨w135.heap.size, 0, none⟩) [⟨0, 0, 1⟩] := fun _ => ⟨_, _, rfl, fun j hj => by
    match j, hj with
    | 0, _ => exact ⟨xr.cell 0, xr.cell 1, xr.cell 2⟩⟩
  refine (right_at 1 1 (some ⟨w135.heap.size, 0, none⟩) [⟨0, 0, 1⟩] V137 rfl (by omega) (by intro e he; simp at he; rcases he with rfl <;> simp [wfE]) re).mono ?_
  rintro r w139 ⟨rfl, b⟩
  rw [rights.2.2.2.2.1]
  have B140 := B138.trans (b.mono B138.size)
  replace rS := rS.below b (Nat.le_refl _)
  replace rN := rN.below b (Nat.le_refl _)
  clear b re xr B138
  go_wp2_with fail
  have xr := Box.new w139 #[.int .i64 512, .int .i64 1, .int .i64 1] 46
  have B142 := B140.alloc B140.size (.cells #[.int .i64 512, .int .i64 1, .int .i64 1] 46)
  have bA := (Below.refl w139.heap.size w139).alloc (Nat.le_refl _) (.cells #[.int .i64 512, .int .i64 1, .int .i64 1] 46)
  replace rS := rS.below bA (Nat.le_refl _)
  replace rN := rN.below bA (Nat.le_refl _)
  obtain ⟨V141, hV⟩ : ∃ V, V = w139.alloc (.cells #[.int .i64 512, .int .i64 1, .int .i64 1] 46) := ⟨_, rfl⟩
  rw [← hV] at xr B142 rS rN ⊢
  clear hV bA B140
  have re : RdE V141 (some ⟨w139.heap.size, 0, none⟩) [⟨512, 1, 1⟩] := fun _ => ⟨_, _, rfl, fun j hj => by
    match j, hj with
    | 0, _ => exact ⟨xr.cell 0, xr.cell 1, xr.cell 2⟩⟩
  refine (right_at 1 1 (some ⟨w139.heap.size, 0, none⟩) [⟨512, 1, 1⟩] V141 rfl (by omega) (by intro e he; simp at he; rcases he with rfl <;> simp [wfE]) re).mono ?_
  rintro r w143 ⟨rfl, b⟩
  rw [rights.2.2.2.2.2.1]
  have B144 := B142.trans (b.mono B142.size)
  replace rS := rS.below b (Nat.le_refl _)
  replace rN := rN.below b (Nat.le_refl _)
  clear b re xr B142
  go_wp2_with fail
  refine (many_at 256 256 w143 (by rfl) (by omega)).mono ?_
  rintro r w145 ⟨v, rfl, o, b⟩
  obtain ⟨am256, cm256, rfl, lm256, rom256, mxm256, rm256, nm256, _⟩ := ownsE_parts o
  have Lm256 : Hid _ := lm256
  have B146 := B144.trans (b.mono B144.size)
  replace rS := rS.below b (Nat.le_refl _)
  replace rN := rN.below b (Nat.le_refl _)
  clear o b lm256 B144
  go_wp2_with fail
  refine (right_at cm256 256 am256 (manyE 256) w145 Lm256.out (by omega) (manyE_wf 256 (by omega)) rm256).mono ?_
  rintro r w147 ⟨rfl, b⟩
  rw [many_right256]
  have B148 := B146.trans (b.mono B146.size)
  replace rS := rS.below b (Nat.le_refl _)
  replace rN := rN.below b (Nat.le_refl _)
  clear b rm256 nm256 B146
  go_wp2_with fail
  have xr := Box.new w147 #[.int .i64 9223372036854775807, .int .i64 1, .int .i64 9223372036854775807] 46
  have B150 := B148.alloc B148.size (.cells #[.int .i64 9223372036854775807, .int .i64 1, .int .i64 9223372036854775807] 46)
  have bA := (Below.refl w147.heap.size w147).alloc (Nat.le_refl _) (.cells #[.int .i64 9223372036854775807, .int .i64 1, .int .i64 9223372036854775807] 46)
  replace rS := rS.below bA (Nat.le_refl _)
  replace rN := rN.below bA (Nat.le_refl _)
  obtain ⟨V149, hV⟩ : ∃ V, V = w147.alloc (.cells #[.int .i64 9223372036854775807, .int .i64 1, .int .i64 9223372036854775807] 46) := ⟨_, rfl⟩
  rw [← hV] at xr B150 rS rN ⊢
  clear hV bA B148
  have re : RdE V149 (some ⟨w147.heap.size, 0, none⟩) [⟨9223372036854775807, 1, 9223372036854775807⟩] := fun _ => ⟨_, _, rfl, fun j hj => by
    match j, hj with
    | 0, _ => exact ⟨xr.cell 0, xr.cell 1, xr.cell 2⟩⟩
  refine (right_at 1 1 (some ⟨w147.heap.size, 0, none⟩) [⟨9223372036854775807, 1, 9223372036854775807⟩] V149 rfl (by omega) (by intro e he; simp at he; rcases he with rfl <;> simp [wfE]) re).mono ?_
  rintro r w151 ⟨rfl, b⟩
  rw [rights.2.2.2.2.2.2]
  have B152 := B150.trans (b.mono B150.size)
  replace rS := rS.below b (Nat.le_refl _)
  replace rN := rN.below b (Nat.le_refl _)
  clear b re xr B150
  go_wp2_with fail
  refine (sums_at g1 g6 cap1 cap6 S N w151 HSl.out HNl.out hc1 hc6 hx1 hx6 HSn.out HNn.out rS rN).mono ?_
  rintro r w153 ⟨rfl, b⟩
  have B154 := B152.trans (b.mono B152.size)
  clear b rS rN B152
  go_wp2_with fail
  refine (awake_any w153).mono ?_
  rintro r w155 ⟨rfl, b⟩
  have B156 := B154.trans (b.mono B154.size)
  clear b B154
  go_wp2
  go_ret
  exact ⟨rfl, B156⟩
end Go.Proofs.Ytmhplpiglbamcaa
