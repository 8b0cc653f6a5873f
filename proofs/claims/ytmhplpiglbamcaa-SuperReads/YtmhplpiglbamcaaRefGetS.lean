/-
  The document's own GetSuper.
-/
import Derived.Test.YtmhplpiglbamcaaRefRead
import Derived.Test.YtmhplpiglbamcaaBursts
namespace Go.Proofs.Ytmhplpiglbamcaa
open Go.RowKit

set_option maxRecDepth 100000 in
set_option maxHeartbeats 2000000 in
theorem refGetSuper_wrong (n cap : Nat) (a : Option Addr) (xs : List UInt8) (b e q t : Int) (w : World) (Hn : Hid (xs.length = n)) (hm : n ≤ 9223372036854775807) (hr : Rd w a xs) (hB : Hid (i64 (num xs 8 8) = b)) (hE : Hid (i64 (num xs 16 8) = e)) (hQ : Hid (i64 (num xs 24 8) = q)) (hT : Hid (i64 (num xs 32 8) = t)) (HP : Hid (putSuper b e q t = none)) :
    Calls Try.prog 29 #[.slice a n cap] w fun r w' => GetsS w w' none r := by
  have B0 := (Below.refl w.heap.size w).alloc (Nat.le_refl _) (.cells #[.int .i64 0, .int .i64 0, .int .i64 0, .int .i64 0] 27)
  have x0 := Box.new w #[.int .i64 0, .int .i64 0, .int .i64 0, .int .i64 0] 27
  go_enter Try.func29, Try.ntmps29
  go_wp2_with fail
  obtain ⟨W, hW⟩ : ∃ W, W = w.alloc (.cells #[.int .i64 0, .int .i64 0, .int .i64 0, .int .i64 0] 27) := ⟨_, rfl⟩
  rw [← hW] at x0 B0 ⊢
  clear hW
  have hr0 := hr.below B0 (Nat.le_refl _)
  refine (refnumber_at cap n a xs 8 8 8 W rfl Hn.out (by omega) (by omega) hm hr0).mono ?_
  rintro r w' ⟨rfl, rfl⟩
  rw [hB.out]
  go_wp2_with fail
  refine (refnumber_at cap n a xs 16 8 8 W rfl Hn.out (by omega) (by omega) hm hr0).mono ?_
  rintro r w' ⟨rfl, rfl⟩
  rw [hE.out]
  go_wp2_with fail
  refine (refnumber_at cap n a xs 24 8 8 W rfl Hn.out (by omega) (by omega) hm hr0).mono ?_
  rintro r w' ⟨rfl, rfl⟩
  rw [hQ.out]
  go_wp2_with fail
  refine (refnumber_at cap n a xs 32 8 8 W rfl Hn.out (by omega) (by omega) hm hr0).mono ?_
  rintro r w' ⟨rfl, rfl⟩
  rw [hT.out]
  clear hr0
  have x4 := Box.new W #[.int .i64 b, .int .i64 e, .int .i64 q, .int .i64 t] 27
  have bA := (Below.refl W.heap.size W).alloc (Nat.le_refl _) (.cells #[.int .i64 b, .int .i64 e, .int .i64 q, .int .i64 t] 27)
  have B1 := B0.trans (bA.mono B0.size)
  have x1 := x0.below bA
  go_wp2_with fail
  obtain ⟨U, hU⟩ : ∃ U, U = W.alloc (.cells #[.int .i64 b, .int .i64 e, .int .i64 q, .int .i64 t] 27) := ⟨_, rfl⟩
  rw [← hU] at x4 B1 x1 ⊢
  obtain ⟨G, hG⟩ : ∃ G, G = W.heap.size := ⟨_, rfl⟩
  rw [← hG] at x4 ⊢
  clear hU hG bA B0 x0
  refine (refPutSuper_at b e q t U).mono ?_
  rintro r w2 h2
  obtain ⟨v2, rfl, o2, b2⟩ := puts_none h2 HP.out
  obtain ⟨a2, c2, rfl, _, _, _, _, _, _⟩ := owns_parts o2
  have B2 := B1.trans (b2.mono B1.size)
  have x2 := x1.below b2
  clear h2 o2 b2 B1 x1 x4
  have m0 := x2.cell 0
  have m1 := x2.cell 1
  have m2 := x2.cell 2
  have m3 := x2.cell 3
  simp only [List.getElem?_toArray, List.getElem?_cons_zero, List.getElem?_cons_succ] at m0 m1 m2 m3
  have f0 := x2.frozen 0
  have f1 := x2.frozen 1
  have f2 := x2.frozen 2
  have f3 := x2.frozen 3
  go_wp2_with fail
  have Y := ((((x2.store 0 (.int .i64 0)).store 1 (.int .i64 0)).store 2 (.int .i64 0)).store 3 (.int .i64 0))
  have C1 := ((((B2.setCell (p := ⟨w.heap.size, 0, none⟩) (Nat.le_refl _) (.int .i64 0)).setCell (p := ⟨w.heap.size, 1, none⟩) (Nat.le_refl _) (.int .i64 0)).setCell (p := ⟨w.heap.size, 2, none⟩) (Nat.le_refl _) (.int .i64 0)).setCell (p := ⟨w.heap.size, 3, none⟩) (Nat.le_refl _) (.int .i64 0))
  generalize ((((w2.setCell ⟨w.heap.size, 0, none⟩ (.int .i64 0)).setCell ⟨w.heap.size, 1, none⟩ (.int .i64 0)).setCell ⟨w.heap.size, 2, none⟩ (.int .i64 0)).setCell ⟨w.heap.size, 3, none⟩ (.int .i64 0)) = W9 at Y C1 ⊢
  clear m0 m1 m2 m3
  have m0 := Y.cell 0
  have m1 := Y.cell 1
  have m2 := Y.cell 2
  have m3 := Y.cell 3
  simp at m0 m1 m2 m3
  refine bodyPost_ret (v := .tuple #[.agg #[.int .i64 0, .int .i64 0, .int .i64 0, .int .i64 0], .int .i64 30]) (by simp [results, Try.results29, go_sem, m0, m1, m2, m3]) rfl ?_
  exact ⟨rfl, C1⟩

set_option maxRecDepth 100000 in
set_option maxHeartbeats 2000000 in
theorem refGetSuper_bad (n cap : Nat) (a : Option Addr) (xs : List UInt8) (b e q t : Int) (w : World) (Hn : Hid (xs.length = n)) (hm : n ≤ 9223372036854775807) (hr : Rd w a xs) (hB : Hid (i64 (num xs 8 8) = b)) (hE : Hid (i64 (num xs 16 8) = e)) (hQ : Hid (i64 (num xs 24 8) = q)) (hT : Hid (i64 (num xs 32 8) = t)) (S : List UInt8) (HP : Hid (putSuper b e q t = some S)) (HS : Hid (S.length = 4096)) (hS : (S == xs) = false) :
    Calls Try.prog 29 #[.slice a n cap] w fun r w' => GetsS w w' none r := by
  have B0 := (Below.refl w.heap.size w).alloc (Nat.le_refl _) (.cells #[.int .i64 0, .int .i64 0, .int .i64 0, .int .i64 0] 27)
  have x0 := Box.new w #[.int .i64 0, .int .i64 0, .int .i64 0, .int .i64 0] 27
  go_enter Try.func29, Try.ntmps29
  go_wp2_with fail
  obtain ⟨W, hW⟩ : ∃ W, W = w.alloc (.cells #[.int .i64 0, .int .i64 0, .int .i64 0, .int .i64 0] 27) := ⟨_, rfl⟩
  rw [← hW] at x0 B0 ⊢
  clear hW
  have hr0 := hr.below B0 (Nat.le_refl _)
  refine (refnumber_at cap n a xs 8 8 8 W rfl Hn.out (by omega) (by omega) hm hr0).mono ?_
  rintro r w' ⟨rfl, rfl⟩
  rw [hB.out]
  go_wp2_with fail
  refine (refnumber_at cap n a xs 16 8 8 W rfl Hn.out (by omega) (by omega) hm hr0).mono ?_
  rintro r w' ⟨rfl, rfl⟩
  rw [hE.out]
  go_wp2_with fail
  refine (refnumber_at cap n a xs 24 8 8 W rfl Hn.out (by omega) (by omega) hm hr0).mono ?_
  rintro r w' ⟨rfl, rfl⟩
  rw [hQ.out]
  go_wp2_with fail
  refine (refnumber_at cap n a xs 32 8 8 W rfl Hn.out (by omega) (by omega) hm hr0).mono ?_
  rintro r w' ⟨rfl, rfl⟩
  rw [hT.out]
  clear hr0
  have x4 := Box.new W #[.int .i64 b, .int .i64 e, .int .i64 q, .int .i64 t] 27
  have bA := (Below.refl W.heap.size W).alloc (Nat.le_refl _) (.cells #[.int .i64 b, .int .i64 e, .int .i64 q, .int .i64 t] 27)
  have B1 := B0.trans (bA.mono B0.size)
  have x1 := x0.below bA
  go_wp2_with fail
  obtain ⟨U, hU⟩ : ∃ U, U = W.alloc (.cells #[.int .i64 b, .int .i64 e, .int .i64 q, .int .i64 t] 27) := ⟨_, rfl⟩
  rw [← hU] at x4 B1 x1 ⊢
  obtain ⟨G, hG⟩ : ∃ G, G = W.heap.size := ⟨_, rfl⟩
  rw [← hG] at x4 ⊢
  clear hU hG bA B0 x0
  refine (refPutSuper_at b e q t U).mono ?_
  rintro r w2 h2
  obtain ⟨g2, c2, rfl, o2, _, _, _, _, b2⟩ := puts_block h2 HP.out HS.out (by omega)
  have r2 := owns_rd_at o2
  have B2 := B1.trans (b2.mono B1.size)
  have x2 := x1.below b2
  have x5 := x4.below b2
  clear h2 o2 b2 B1 x1 x4
  go_wp2_with fail
  refine (same_at _ _ 4096 n _ a S xs w2 HS.out Hn.out r2 (hr.below B2 (Nat.le_refl _))).mono ?_
  rintro r w' ⟨rfl, rfl⟩
  rw [hS]
  clear r2
  have m0 := x2.cell 0
  have m1 := x2.cell 1
  have m2 := x2.cell 2
  have m3 := x2.cell 3
  simp only [List.getElem?_toArray, List.getElem?_cons_zero, List.getElem?_cons_succ] at m0 m1 m2 m3
  have f0 := x2.frozen 0
  have f1 := x2.frozen 1
  have f2 := x2.frozen 2
  have f3 := x2.frozen 3
  go_wp2_with fail
  have Y := ((((x2.store 0 (.int .i64 0)).store 1 (.int .i64 0)).store 2 (.int .i64 0)).store 3 (.int .i64 0))
  have C1 := ((((B2.setCell (p := ⟨w.heap.size, 0, none⟩) (Nat.le_refl _) (.int .i64 0)).setCell (p := ⟨w.heap.size, 1, none⟩) (Nat.le_refl _) (.int .i64 0)).setCell (p := ⟨w.heap.size, 2, none⟩) (Nat.le_refl _) (.int .i64 0)).setCell (p := ⟨w.heap.size, 3, none⟩) (Nat.le_refl _) (.int .i64 0))
  generalize ((((w2.setCell ⟨w.heap.size, 0, none⟩ (.int .i64 0)).setCell ⟨w.heap.size, 1, none⟩ (.int .i64 0)).setCell ⟨w.heap.size, 2, none⟩ (.int .i64 0)).setCell ⟨w.heap.size, 3, none⟩ (.int .i64 0)) = W9 at Y C1 ⊢
  clear m0 m1 m2 m3
  have m0 := Y.cell 0
  have m1 := Y.cell 1
  have m2 := Y.cell 2
  have m3 := Y.cell 3
  simp at m0 m1 m2 m3
  refine bodyPost_ret (v := .tuple #[.agg #[.int .i64 0, .int .i64 0, .int .i64 0, .int .i64 0], .int .i64 30]) (by simp [results, Try.results29, go_sem, m0, m1, m2, m3]) rfl ?_
  exact ⟨rfl, C1⟩

set_option maxRecDepth 100000 in
set_option maxHeartbeats 2000000 in
theorem refGetSuper_ok (n cap : Nat) (a : Option Addr) (xs : List UInt8) (b e q t : Int) (w : World) (Hn : Hid (xs.length = n)) (hm : n ≤ 9223372036854775807) (hr : Rd w a xs) (hB : Hid (i64 (num xs 8 8) = b)) (hE : Hid (i64 (num xs 16 8) = e)) (hQ : Hid (i64 (num xs 24 8) = q)) (hT : Hid (i64 (num xs 32 8) = t)) (S : List UInt8) (HP : Hid (putSuper b e q t = some S)) (HS : Hid (S.length = 4096)) (hS : (S == xs) = true) :
    Calls Try.prog 29 #[.slice a n cap] w fun r w' => GetsS w w' (some ⟨b, e, q, t⟩) r := by
  have B0 := (Below.refl w.heap.size w).alloc (Nat.le_refl _) (.cells #[.int .i64 0, .int .i64 0, .int .i64 0, .int .i64 0] 27)
  have x0 := Box.new w #[.int .i64 0, .int .i64 0, .int .i64 0, .int .i64 0] 27
  go_enter Try.func29, Try.ntmps29
  go_wp2_with fail
  obtain ⟨W, hW⟩ : ∃ W, W = w.alloc (.cells #[.int .i64 0, .int .i64 0, .int .i64 0, .int .i64 0] 27) := ⟨_, rfl⟩
  rw [← hW] at x0 B0 ⊢
  clear hW
  have hr0 := hr.below B0 (Nat.le_refl _)
  refine (refnumber_at cap n a xs 8 8 8 W rfl Hn.out (by omega) (by omega) hm hr0).mono ?_
  rintro r w' ⟨rfl, rfl⟩
  rw [hB.out]
  go_wp2_with fail
  refine (refnumber_at cap n a xs 16 8 8 W rfl Hn.out (by omega) (by omega) hm hr0).mono ?_
  rintro r w' ⟨rfl, rfl⟩
  rw [hE.out]
  go_wp2_with fail
  refine (refnumber_at cap n a xs 24 8 8 W rfl Hn.out (by omega) (by omega) hm hr0).mono ?_
  rintro r w' ⟨rfl, rfl⟩
  rw [hQ.out]
  go_wp2_with fail
  refine (refnumber_at cap n a xs 32 8 8 W rfl Hn.out (by omega) (by omega) hm hr0).mono ?_
  rintro r w' ⟨rfl, rfl⟩
  rw [hT.out]
  clear hr0
  have x4 := Box.new W #[.int .i64 b, .int .i64 e, .int .i64 q, .int .i64 t] 27
  have bA := (Below.refl W.heap.size W).alloc (Nat.le_refl _) (.cells #[.int .i64 b, .int .i64 e, .int .i64 q, .int .i64 t] 27)
  have B1 := B0.trans (bA.mono B0.size)
  have x1 := x0.below bA
  go_wp2_with fail
  obtain ⟨U, hU⟩ : ∃ U, U = W.alloc (.cells #[.int .i64 b, .int .i64 e, .int .i64 q, .int .i64 t] 27) := ⟨_, rfl⟩
  rw [← hU] at x4 B1 x1 ⊢
  obtain ⟨G, hG⟩ : ∃ G, G = W.heap.size := ⟨_, rfl⟩
  rw [← hG] at x4 ⊢
  clear hU hG bA B0 x0
  refine (refPutSuper_at b e q t U).mono ?_
  rintro r w2 h2
  obtain ⟨g2, c2, rfl, o2, _, _, _, _, b2⟩ := puts_block h2 HP.out HS.out (by omega)
  have r2 := owns_rd_at o2
  have B2 := B1.trans (b2.mono B1.size)
  have x2 := x1.below b2
  have x5 := x4.below b2
  clear h2 o2 b2 B1 x1 x4
  go_wp2_with fail
  refine (same_at _ _ 4096 n _ a S xs w2 HS.out Hn.out r2 (hr.below B2 (Nat.le_refl _))).mono ?_
  rintro r w' ⟨rfl, rfl⟩
  rw [hS]
  clear r2
  have k0 := x5.cell 0
  have k1 := x5.cell 1
  have k2 := x5.cell 2
  have k3 := x5.cell 3
  simp only [List.getElem?_toArray, List.getElem?_cons_zero, List.getElem?_cons_succ] at k0 k1 k2 k3
  have m0 := x2.cell 0
  have m1 := x2.cell 1
  have m2 := x2.cell 2
  have m3 := x2.cell 3
  simp only [List.getElem?_toArray, List.getElem?_cons_zero, List.getElem?_cons_succ] at m0 m1 m2 m3
  have f0 := x2.frozen 0
  have f1 := x2.frozen 1
  have f2 := x2.frozen 2
  have f3 := x2.frozen 3
  go_wp2_with fail
  have Y := ((((x2.store 0 (.int .i64 b)).store 1 (.int .i64 e)).store 2 (.int .i64 q)).store 3 (.int .i64 t))
  have C1 := ((((B2.setCell (p := ⟨w.heap.size, 0, none⟩) (Nat.le_refl _) (.int .i64 b)).setCell (p := ⟨w.heap.size, 1, none⟩) (Nat.le_refl _) (.int .i64 e)).setCell (p := ⟨w.heap.size, 2, none⟩) (Nat.le_refl _) (.int .i64 q)).setCell (p := ⟨w.heap.size, 3, none⟩) (Nat.le_refl _) (.int .i64 t))
  generalize ((((w2.setCell ⟨w.heap.size, 0, none⟩ (.int .i64 b)).setCell ⟨w.heap.size, 1, none⟩ (.int .i64 e)).setCell ⟨w.heap.size, 2, none⟩ (.int .i64 q)).setCell ⟨w.heap.size, 3, none⟩ (.int .i64 t)) = W9 at Y C1 ⊢
  clear m0 m1 m2 m3
  have m0 := Y.cell 0
  have m1 := Y.cell 1
  have m2 := Y.cell 2
  have m3 := Y.cell 3
  simp at m0 m1 m2 m3
  refine bodyPost_ret (v := .tuple #[.agg #[.int .i64 b, .int .i64 e, .int .i64 q, .int .i64 t], .int .i64 0]) (by simp [results, Try.results29, go_sem, m0, m1, m2, m3]) rfl ?_
  exact ⟨rfl, C1⟩

theorem ansS_form (b e q t : Int) (n : Nat) (xs : List UInt8) (hn : xs.length = n) (h : rightS b e q t = true) : ansS b e q t n xs = if superB b.toNat e.toNat q.toNat t.toNat == xs then some ⟨b, e, q, t⟩ else none := by
  unfold ansS
  rw [h, ← hn]
  by_cases hx : superB b.toNat e.toNat q.toNat t.toNat = xs
  · have h1 : isThen xs (headS b.toNat e.toNat q.toNat t.toNat) = true := by rw [← hx]; exact isThen_self (headS b.toNat e.toNat q.toNat t.toNat) 4052
    have h2 : xs.length = 4096 := by rw [← hx]; exact superB_length _ _ _ _
    have h3 : (superB b.toNat e.toNat q.toNat t.toNat == xs) = true := by simpa using hx
    rw [h1, decide_eq_true h2, h3]
    rfl
  · have h3 : (superB b.toNat e.toNat q.toNat t.toNat == xs) = false := by simpa using hx
    rw [h3]
    by_cases h2 : xs.length = 4096
    · have h1 : isThen xs (headS b.toNat e.toNat q.toNat t.toNat) = false := by
        cases h4 : isThen xs (headS b.toNat e.toNat q.toNat t.toNat) with
        | false => rfl
        | true =>
          obtain ⟨_, t2⟩ := isThen_true h4
          rw [h2, headS_length] at t2
          exact absurd t2.symm hx
      rw [h1]
      simp
    · rw [decide_eq_false h2]
      simp

/-- the document's GetSuper is super's -/
theorem refGetSuper_at (n cap : Nat) (a : Option Addr) (xs : List UInt8) (w : World) (hn : xs.length = n) (hm : n ≤ 9223372036854775807) (hr : Rd w a xs) :
    Calls Try.prog 29 #[.slice a n cap] w fun r w' => GetsS w w' (getSuper xs) r := by
  have e0 : getSuper xs = ansS (i64 (num xs 8 8)) (i64 (num xs 16 8)) (i64 (num xs 24 8)) (i64 (num xs 32 8)) n xs := by rw [← hn]; rfl
  rw [e0]
  cases h : rightS (i64 (num xs 8 8)) (i64 (num xs 16 8)) (i64 (num xs 24 8)) (i64 (num xs 32 8))
  · have e1 : ansS (i64 (num xs 8 8)) (i64 (num xs 16 8)) (i64 (num xs 24 8)) (i64 (num xs 32 8)) n xs = none := by unfold ansS; rw [h]; rfl
    rw [e1]
    exact refGetSuper_wrong n cap a xs _ _ _ _ w hn hm hr rfl rfl rfl rfl (by unfold putSuper; rw [h]; exact rfl)
  · rw [ansS_form _ _ _ _ n xs hn h]
    obtain ⟨S, hS⟩ : ∃ S, S = superB (i64 (num xs 8 8)).toNat (i64 (num xs 16 8)).toNat (i64 (num xs 24 8)).toNat (i64 (num xs 32 8)).toNat := ⟨_, rfl⟩
    have hP : putSuper (i64 (num xs 8 8)) (i64 (num xs 16 8)) (i64 (num xs 24 8)) (i64 (num xs 32 8)) = some S := by unfold putSuper; rw [h, hS]; rfl
    have hl : S.length = 4096 := by rw [hS]; exact superB_length _ _ _ _
    rw [← hS]
    rcases Bool.eq_false_or_eq_true (S == xs) with hx | hx
    · rw [hx]
      exact refGetSuper_ok n cap a xs _ _ _ _ w hn hm hr rfl rfl rfl rfl S hP hl hx
    · rw [hx]
      exact refGetSuper_bad n cap a xs _ _ _ _ w hn hm hr rfl rfl rfl rfl S hP hl hx
end Go.Proofs.Ytmhplpiglbamcaa
