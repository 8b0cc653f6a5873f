/-
  HChoose, HSup, HAwake, SuRefRead, SuRefGetS, HRefCh, DkRefCrashP, DkRefCrash, DkRefLoad, HTellB, HTell: put together.
-/
import Derived.Test.YtdkaacjeogifdaaGreatG5
import Derived.Deep.RegionHeld3
import Derived.Deep.Cut
/-
  Choose.
-/
namespace Go.Proofs.YtdkaacjeogifdaaGreat.H
open Go.RowKit
open Go.Proofs.YtdkaacjeogifdaaGreat.Su (wi Sup zeroS supV getSuper GetsS erG Rd)
open Go.Proofs.YtdkaacjeogifdaaGreat.Dk (Box)

/-- what counts, which one, whether -/
def choose : Option Sup → Option Sup → Sup × Int × Bool
  | none, none => (zeroS, 0, false)
  | none, some y => (y, 1, true)
  | some x, none => (x, 0, true)
  | some x, some y => if later y x then (y, 1, true) else (x, 0, true)

/-- the walk, whatever the two say -/
theorem choose_in (a b : Value) (e1 e2 : Int) (x y : Sup) (L : Bool) (s : Sup) (k : Int) (ok : Bool) (w : World)
    (cA : ∀ u, Below w.heap.size w u → Calls Tryz.prog 26 #[a] u fun r w' => r = .returned (.tuple #[supV x, .int .i64 e1]) ∧ Below u.heap.size u w')
    (cB : ∀ u, Below w.heap.size w u → Calls Tryz.prog 26 #[b] u fun r w' => r = .returned (.tuple #[supV y, .int .i64 e2]) ∧ Below u.heap.size u w')
    (hL : later y x = L)
    (h : (e1 = 30 ∧ e2 = 30 ∧ s = zeroS ∧ k = 0 ∧ ok = false) ∨ (e1 = 30 ∧ e2 = 0 ∧ s = y ∧ k = 1 ∧ ok = true) ∨ (e1 = 0 ∧ e2 = 30 ∧ s = x ∧ k = 0 ∧ ok = true) ∨ (e1 = 0 ∧ e2 = 0 ∧ L = true ∧ s = y ∧ k = 1 ∧ ok = true) ∨ (e1 = 0 ∧ e2 = 0 ∧ L = false ∧ s = x ∧ k = 0 ∧ ok = true)) :
    Calls Tryz.prog 5 #[a, b] w fun r w' => r = .returned (.tuple #[supV s, .int .i64 k, .bool ok]) ∧ Below w.heap.size w w' := by
  have al := (Below.refl w.heap.size w).alloc (Nat.le_refl _) (.cells #[.int .i64 0, .int .i64 0, .int .i64 0, .int .i64 0] 28)
  have bz := Box.new w #[.int .i64 0, .int .i64 0, .int .i64 0, .int .i64 0] 28
  have cA1 := cA _ al
  have cLt : ∀ u, Calls Tryz.prog 27 #[supV y, supV x] u fun r w' => r = .returned (.bool L) ∧ Below u.heap.size u w' := fun u => hL ▸ later_at y x u
  have HC : Hid (∀ u, Below w.heap.size w u → Calls Tryz.prog 26 #[b] u fun r w' => r = .returned (.tuple #[supV y, .int .i64 e2]) ∧ Below u.heap.size u w') := cB
  have HL : Hid (∀ u, Calls Tryz.prog 27 #[supV y, supV x] u fun r w' => r = .returned (.bool L) ∧ Below u.heap.size u w') := cLt
  clear cA cB cLt hL
  obtain ⟨xb, xe, xq, xt⟩ := x
  obtain ⟨yb, ye, yq, yt⟩ := y
  unfold supV at cA1
  dsimp only at cA1
  go_enter Tryz.func5, Tryz.ntmps5
  go_wp2_with fail
  refine Calls.mono cA1 ?_
  rintro r u1 ⟨rfl, b1⟩
  have B1 := al.trans (b1.mono al.size)
  have bz1 := (bz.below b1).alloc (.cells #[.int .i64 xb, .int .i64 xe, .int .i64 xq, .int .i64 xt] 28)
  have bx1 := Box.new u1 #[.int .i64 xb, .int .i64 xe, .int .i64 xq, .int .i64 xt] 28
  have B2 := B1.alloc B1.size (.cells #[.int .i64 xb, .int .i64 xe, .int .i64 xq, .int .i64 xt] 28)
  have cB1 := HC.out _ B2
  unfold supV at cB1
  dsimp only at cB1
  clear al bz cA1 b1
  go_wp2_with fail
  refine Calls.mono cB1 ?_
  rintro r u2 ⟨rfl, b2⟩
  have B3 := B2.trans (b2.mono B2.size)
  have bz2 := (bz1.below b2).alloc (.cells #[.int .i64 yb, .int .i64 ye, .int .i64 yq, .int .i64 yt] 28)
  have bx2 := (bx1.below b2).alloc (.cells #[.int .i64 yb, .int .i64 ye, .int .i64 yq, .int .i64 yt] 28)
  have by2 := Box.new u2 #[.int .i64 yb, .int .i64 ye, .int .i64 yq, .int .i64 yt] 28
  have B4 := B3.alloc B3.size (.cells #[.int .i64 yb, .int .i64 ye, .int .i64 yq, .int .i64 yt] 28)
  clear HC cB1 bz1 bx1 b2 B2 B1
  rcases h with ⟨rfl, rfl, rfl, rfl, rfl⟩ | ⟨rfl, rfl, rfl, rfl, rfl⟩ | ⟨rfl, rfl, rfl, rfl, rfl⟩ | ⟨rfl, rfl, rfl, rfl, rfl, rfl⟩ | ⟨rfl, rfl, rfl, rfl, rfl, rfl⟩
  · clear HL
    have f0 := bz2.frozen 0
    have n0 := bz2.cell 0
    have f1 := bz2.frozen 1
    have n1 := bz2.cell 1
    have f2 := bz2.frozen 2
    have n2 := bz2.cell 2
    have f3 := bz2.frozen 3
    have n3 := bz2.cell 3
    simp only [List.getElem?_toArray, List.getElem?_cons_zero, List.getElem?_cons_succ] at n0 n1 n2 n3
    go_wp2_with fail
    have Z := ((((bz2.store 0 (.int .i64 0)).store 1 (.int .i64 0)).store 2 (.int .i64 0)).store 3 (.int .i64 0))
    have C := ((((B4.setCell (p := ⟨w.heap.size, 0, none⟩) (Nat.le_refl _) (.int .i64 0)).setCell (p := ⟨w.heap.size, 1, none⟩) (Nat.le_refl _) (.int .i64 0)).setCell (p := ⟨w.heap.size, 2, none⟩) (Nat.le_refl _) (.int .i64 0)).setCell (p := ⟨w.heap.size, 3, none⟩) (Nat.le_refl _) (.int .i64 0))
    generalize (((((u2.alloc (.cells #[.int .i64 yb, .int .i64 ye, .int .i64 yq, .int .i64 yt] 28)).setCell ⟨w.heap.size, 0, none⟩ (.int .i64 0)).setCell ⟨w.heap.size, 1, none⟩ (.int .i64 0)).setCell ⟨w.heap.size, 2, none⟩ (.int .i64 0)).setCell ⟨w.heap.size, 3, none⟩ (.int .i64 0)) = W9 at Z C ⊢
    clear n0 n1 n2 n3
    have m0 := Z.cell 0
    have m1 := Z.cell 1
    have m2 := Z.cell 2
    have m3 := Z.cell 3
    simp at m0 m1 m2 m3
    refine bodyPost_ret (v := .tuple #[.agg #[.int .i64 0, .int .i64 0, .int .i64 0, .int .i64 0], .int .i64 0, .bool false]) (by simp [results, Tryz.results5, go_sem, m0, m1, m2, m3]) rfl ?_
    exact ⟨rfl, C⟩
  · clear HL
    have f0 := bz2.frozen 0
    have n0 := bz2.cell 0
    have f1 := bz2.frozen 1
    have n1 := bz2.cell 1
    have f2 := bz2.frozen 2
    have n2 := bz2.cell 2
    have f3 := bz2.frozen 3
    have n3 := bz2.cell 3
    simp only [List.getElem?_toArray, List.getElem?_cons_zero, List.getElem?_cons_succ] at n0 n1 n2 n3
    have k0 := by2.cell 0
    have k1 := by2.cell 1
    have k2 := by2.cell 2
    have k3 := by2.cell 3
    simp only [List.getElem?_toArray, List.getElem?_cons_zero, List.getElem?_cons_succ] at k0 k1 k2 k3
    go_wp2_with fail
    have Z := ((((bz2.store 0 (.int .i64 yb)).store 1 (.int .i64 ye)).store 2 (.int .i64 yq)).store 3 (.int .i64 yt))
    have C := ((((B4.setCell (p := ⟨w.heap.size, 0, none⟩) (Nat.le_refl _) (.int .i64 yb)).setCell (p := ⟨w.heap.size, 1, none⟩) (Nat.le_refl _) (.int .i64 ye)).setCell (p := ⟨w.heap.size, 2, none⟩) (Nat.le_refl _) (.int .i64 yq)).setCell (p := ⟨w.heap.size, 3, none⟩) (Nat.le_refl _) (.int .i64 yt))
    generalize (((((u2.alloc (.cells #[.int .i64 yb, .int .i64 ye, .int .i64 yq, .int .i64 yt] 28)).setCell ⟨w.heap.size, 0, none⟩ (.int .i64 yb)).setCell ⟨w.heap.size, 1, none⟩ (.int .i64 ye)).setCell ⟨w.heap.size, 2, none⟩ (.int .i64 yq)).setCell ⟨w.heap.size, 3, none⟩ (.int .i64 yt)) = W9 at Z C ⊢
    clear n0 n1 n2 n3
    have m0 := Z.cell 0
    have m1 := Z.cell 1
    have m2 := Z.cell 2
    have m3 := Z.cell 3
    simp at m0 m1 m2 m3
    refine bodyPost_ret (v := .tuple #[.agg #[.int .i64 yb, .int .i64 ye, .int .i64 yq, .int .i64 yt], .int .i64 1, .bool true]) (by simp [results, Tryz.results5, go_sem, m0, m1, m2, m3]) rfl ?_
    exact ⟨rfl, C⟩
  · clear HL
    have f0 := bz2.frozen 0
    have n0 := bz2.cell 0
    have f1 := bz2.frozen 1
    have n1 := bz2.cell 1
    have f2 := bz2.frozen 2
    have n2 := bz2.cell 2
    have f3 := bz2.frozen 3
    have n3 := bz2.cell 3
    simp only [List.getElem?_toArray, List.getElem?_cons_zero, List.getElem?_cons_succ] at n0 n1 n2 n3
    have k0 := bx2.cell 0
    have k1 := bx2.cell 1
    have k2 := bx2.cell 2
    have k3 := bx2.cell 3
    simp only [List.getElem?_toArray, List.getElem?_cons_zero, List.getElem?_cons_succ] at k0 k1 k2 k3
    go_wp2_with fail
    have Z := ((((bz2.store 0 (.int .i64 xb)).store 1 (.int .i64 xe)).store 2 (.int .i64 xq)).store 3 (.int .i64 xt))
    have C := ((((B4.setCell (p := ⟨w.heap.size, 0, none⟩) (Nat.le_refl _) (.int .i64 xb)).setCell (p := ⟨w.heap.size, 1, none⟩) (Nat.le_refl _) (.int .i64 xe)).setCell (p := ⟨w.heap.size, 2, none⟩) (Nat.le_refl _) (.int .i64 xq)).setCell (p := ⟨w.heap.size, 3, none⟩) (Nat.le_refl _) (.int .i64 xt))
    generalize (((((u2.alloc (.cells #[.int .i64 yb, .int .i64 ye, .int .i64 yq, .int .i64 yt] 28)).setCell ⟨w.heap.size, 0, none⟩ (.int .i64 xb)).setCell ⟨w.heap.size, 1, none⟩ (.int .i64 xe)).setCell ⟨w.heap.size, 2, none⟩ (.int .i64 xq)).setCell ⟨w.heap.size, 3, none⟩ (.int .i64 xt)) = W9 at Z C ⊢
    clear n0 n1 n2 n3
    have m0 := Z.cell 0
    have m1 := Z.cell 1
    have m2 := Z.cell 2
    have m3 := Z.cell 3
    simp at m0 m1 m2 m3
    refine bodyPost_ret (v := .tuple #[.agg #[.int .i64 xb, .int .i64 xe, .int .i64 xq, .int .i64 xt], .int .i64 0, .bool true]) (by simp [results, Tryz.results5, go_sem, m0, m1, m2, m3]) rfl ?_
    exact ⟨rfl, C⟩
  · have k0 := bx2.cell 0
    have k1 := bx2.cell 1
    have k2 := bx2.cell 2
    have k3 := bx2.cell 3
    have j0 := by2.cell 0
    have j1 := by2.cell 1
    have j2 := by2.cell 2
    have j3 := by2.cell 3
    simp only [List.getElem?_toArray, List.getElem?_cons_zero, List.getElem?_cons_succ] at k0 k1 k2 k3 j0 j1 j2 j3
    have cL := HL.out (u2.alloc (.cells #[.int .i64 yb, .int .i64 ye, .int .i64 yq, .int .i64 yt] 28))
    unfold supV at cL
    dsimp only at cL
    clear HL
    go_wp2_with fail
    refine Calls.mono cL ?_
    rintro r u3 ⟨rfl, b3⟩
    have B5 := B4.trans (b3.mono B4.size)
    have bz3 := bz2.below b3
    have bx3 := bx2.below b3
    have by3 := by2.below b3
    clear k0 k1 k2 k3 j0 j1 j2 j3 cL bz2 bx2 by2 B4 B3 b3
    have f0 := bz3.frozen 0
    have n0 := bz3.cell 0
    have f1 := bz3.frozen 1
    have n1 := bz3.cell 1
    have f2 := bz3.frozen 2
    have n2 := bz3.cell 2
    have f3 := bz3.frozen 3
    have n3 := bz3.cell 3
    simp only [List.getElem?_toArray, List.getElem?_cons_zero, List.getElem?_cons_succ] at n0 n1 n2 n3
    have k0 := by3.cell 0
    have k1 := by3.cell 1
    have k2 := by3.cell 2
    have k3 := by3.cell 3
    simp only [List.getElem?_toArray, List.getElem?_cons_zero, List.getElem?_cons_succ] at k0 k1 k2 k3
    go_wp2_with fail
    have Z := ((((bz3.store 0 (.int .i64 yb)).store 1 (.int .i64 ye)).store 2 (.int .i64 yq)).store 3 (.int .i64 yt))
    have C := ((((B5.setCell (p := ⟨w.heap.size, 0, none⟩) (Nat.le_refl _) (.int .i64 yb)).setCell (p := ⟨w.heap.size, 1, none⟩) (Nat.le_refl _) (.int .i64 ye)).setCell (p := ⟨w.heap.size, 2, none⟩) (Nat.le_refl _) (.int .i64 yq)).setCell (p := ⟨w.heap.size, 3, none⟩) (Nat.le_refl _) (.int .i64 yt))
    generalize ((((u3.setCell ⟨w.heap.size, 0, none⟩ (.int .i64 yb)).setCell ⟨w.heap.size, 1, none⟩ (.int .i64 ye)).setCell ⟨w.heap.size, 2, none⟩ (.int .i64 yq)).setCell ⟨w.heap.size, 3, none⟩ (.int .i64 yt)) = W9 at Z C ⊢
    clear n0 n1 n2 n3
    have m0 := Z.cell 0
    have m1 := Z.cell 1
    have m2 := Z.cell 2
    have m3 := Z.cell 3
    simp at m0 m1 m2 m3
    refine bodyPost_ret (v := .tuple #[.agg #[.int .i64 yb, .int .i64 ye, .int .i64 yq, .int .i64 yt], .int .i64 1, .bool true]) (by simp [results, Tryz.results5, go_sem, m0, m1, m2, m3]) rfl ?_
    exact ⟨rfl, C⟩
  · have k0 := bx2.cell 0
    have k1 := bx2.cell 1
    have k2 := bx2.cell 2
    have k3 := bx2.cell 3
    have j0 := by2.cell 0
    have j1 := by2.cell 1
    have j2 := by2.cell 2
    have j3 := by2.cell 3
    simp only [List.getElem?_toArray, List.getElem?_cons_zero, List.getElem?_cons_succ] at k0 k1 k2 k3 j0 j1 j2 j3
    have cL := HL.out (u2.alloc (.cells #[.int .i64 yb, .int .i64 ye, .int .i64 yq, .int .i64 yt] 28))
    unfold supV at cL
    dsimp only at cL
    clear HL
    go_wp2_with fail
    refine Calls.mono cL ?_
    rintro r u3 ⟨rfl, b3⟩
    have B5 := B4.trans (b3.mono B4.size)
    have bz3 := bz2.below b3
    have bx3 := bx2.below b3
    have by3 := by2.below b3
    clear k0 k1 k2 k3 j0 j1 j2 j3 cL bz2 bx2 by2 B4 B3 b3
    have f0 := bz3.frozen 0
    have n0 := bz3.cell 0
    have f1 := bz3.frozen 1
    have n1 := bz3.cell 1
    have f2 := bz3.frozen 2
    have n2 := bz3.cell 2
    have f3 := bz3.frozen 3
    have n3 := bz3.cell 3
    simp only [List.getElem?_toArray, List.getElem?_cons_zero, List.getElem?_cons_succ] at n0 n1 n2 n3
    have k0 := bx3.cell 0
    have k1 := bx3.cell 1
    have k2 := bx3.cell 2
    have k3 := bx3.cell 3
    simp only [List.getElem?_toArray, List.getElem?_cons_zero, List.getElem?_cons_succ] at k0 k1 k2 k3
    go_wp2_with fail
    have Z := ((((bz3.store 0 (.int .i64 xb)).store 1 (.int .i64 xe)).store 2 (.int .i64 xq)).store 3 (.int .i64 xt))
    have C := ((((B5.setCell (p := ⟨w.heap.size, 0, none⟩) (Nat.le_refl _) (.int .i64 xb)).setCell (p := ⟨w.heap.size, 1, none⟩) (Nat.le_refl _) (.int .i64 xe)).setCell (p := ⟨w.heap.size, 2, none⟩) (Nat.le_refl _) (.int .i64 xq)).setCell (p := ⟨w.heap.size, 3, none⟩) (Nat.le_refl _) (.int .i64 xt))
    generalize ((((u3.setCell ⟨w.heap.size, 0, none⟩ (.int .i64 xb)).setCell ⟨w.heap.size, 1, none⟩ (.int .i64 xe)).setCell ⟨w.heap.size, 2, none⟩ (.int .i64 xq)).setCell ⟨w.heap.size, 3, none⟩ (.int .i64 xt)) = W9 at Z C ⊢
    clear n0 n1 n2 n3
    have m0 := Z.cell 0
    have m1 := Z.cell 1
    have m2 := Z.cell 2
    have m3 := Z.cell 3
    simp at m0 m1 m2 m3
    refine bodyPost_ret (v := .tuple #[.agg #[.int .i64 xb, .int .i64 xe, .int .i64 xq, .int .i64 xt], .int .i64 0, .bool true]) (by simp [results, Tryz.results5, go_sem, m0, m1, m2, m3]) rfl ?_
    exact ⟨rfl, C⟩

theorem choose_at (n1 c1 n2 c2 : Nat) (a1 a2 : Option Addr) (xs ys : List UInt8) (w : World) (hn1 : xs.length = n1) (hc1 : n1 ≤ c1) (hm1 : c1 ≤ 9223372036854775807) (hr1 : Rd w a1 xs) (hn2 : ys.length = n2) (hc2 : n2 ≤ c2) (hm2 : c2 ≤ 9223372036854775807) (hr2 : Rd w a2 ys) :
    Calls Tryz.prog 5 #[.slice a1 n1 c1, .slice a2 n2 c2] w fun r w' => r = .returned (.tuple #[supV (choose (getSuper xs) (getSuper ys)).1, .int .i64 (choose (getSuper xs) (getSuper ys)).2.1, .bool (choose (getSuper xs) (getSuper ys)).2.2]) ∧ Below w.heap.size w w' := by
  refine choose_in _ _ (erG (getSuper xs).isSome) (erG (getSuper ys).isSome) ((getSuper xs).getD zeroS) ((getSuper ys).getD zeroS) _ _ _ _ w (fun u bu => Su.getSuper_at n1 c1 a1 xs u hn1 hc1 hm1 (hr1.below bu (Nat.le_refl _))) (fun u bu => Su.getSuper_at n2 c2 a2 ys u hn2 hc2 hm2 (hr2.below bu (Nat.le_refl _))) rfl ?_
  rcases getSuper xs with _ | x <;> rcases getSuper ys with _ | y
  · exact .inl ⟨rfl, rfl, rfl, rfl, rfl⟩
  · exact .inr (.inl ⟨rfl, rfl, rfl, rfl, rfl⟩)
  · exact .inr (.inr (.inl ⟨rfl, rfl, rfl, rfl, rfl⟩))
  · show _ ∨ _ ∨ _ ∨ (_ ∧ _ ∧ later y x = true ∧ _) ∨ (_ ∧ _ ∧ later y x = false ∧ _)
    cases h : later y x
    · exact .inr (.inr (.inr (.inr ⟨rfl, rfl, rfl, by simp [choose, h], by simp [choose, h], by simp [choose, h]⟩)))
    · exact .inr (.inr (.inr (.inl ⟨rfl, rfl, rfl, by simp [choose, h], by simp [choose, h], by simp [choose, h]⟩)))
end Go.Proofs.YtdkaacjeogifdaaGreat.H

/-
  Supers: equal or not; the law's superblocks; literals of images and groups.
-/
namespace Go.Proofs.YtdkaacjeogifdaaGreat.H
open Go.RowKit
open Go.Proofs.YtdkaacjeogifdaaGreat.Su (wi Sup supV zeroS getSuper rightS superB)
open Go.Proofs.YtdkaacjeogifdaaGreat.Dk (Box)

theorem fieldsS : Tryz.prog.underlying 28 = some (.struct (Tryz.prog.fieldsOf 28)) := by kernel_rfl
theorem heldS : Tryz.prog.stoodInHeld 28 = false := by kernel_rfl
theorem eqS (u : World) (a b c d a' b' c' d' : Int) : (Op.equalIn 10000 28 (.agg #[.int .i64 a, .int .i64 b, .int .i64 c, .int .i64 d]) (.agg #[.int .i64 a', .int .i64 b', .int .i64 c', .int .i64 d'])).run Tryz.prog u = .ok (decide (a = a' ∧ b = b' ∧ c = c' ∧ d = d')) u := by
  rw [run_equalIn_agg u 9999 28 _ _ fieldsS heldS]
  simp only [Program.fieldsOf, Tryz.underlying28]
  simp [go_sem, Op.eqFields, Tryz.underlying3]
  by_cases h1 : a = a' <;> simp [h1]
  by_cases h2 : b = b' <;> simp [h2]
  by_cases h3 : c = c' <;> simp [h3]
  by_cases h4 : d = d' <;> simp [h4]
theorem eqlS (u : World) (a b c d a' b' c' d' : Int) : (binOp .eql 28 (.agg #[.int .i64 a, .int .i64 b, .int .i64 c, .int .i64 d]) (.agg #[.int .i64 a', .int .i64 b', .int .i64 c', .int .i64 d'])).run Tryz.prog u = .ok (.bool (decide (a = a' ∧ b = b' ∧ c = c' ∧ d = d'))) u := by
  have h := eqS u a b c d a' b' c' d'
  simp only [binOp]
  simp [Op.equal, Op.maxDepth, h]
theorem neqS (u : World) (a b c d a' b' c' d' : Int) : (binOp .neq 28 (.agg #[.int .i64 a, .int .i64 b, .int .i64 c, .int .i64 d]) (.agg #[.int .i64 a', .int .i64 b', .int .i64 c', .int .i64 d'])).run Tryz.prog u = .ok (.bool (!decide (a = a' ∧ b = b' ∧ c = c' ∧ d = d'))) u := by
  have h := eqS u a b c d a' b' c' d'
  simp only [binOp]
  simp [Op.equal, Op.maxDepth, h]

/-- the law's superblock -/
def sB (e q : Nat) : List UInt8 := superB 64 e q 0
theorem sB_len (e q : Nat) : (sB e q).length = 4096 := Su.superB_length 64 e q 0
theorem sB_put (e q : Nat) (h : rightS 64 (e : Int) (q : Int) 0 = true) : Su.putSuper 64 (e : Int) (q : Int) 0 = some (sB e q) := by
  unfold Su.putSuper
  rw [if_pos h]
  rfl
theorem sB_get (e q : Nat) (h : rightS 64 (e : Int) (q : Int) 0 = true) : getSuper (sB e q) = some ⟨64, e, q, 0⟩ := Su.getSuper_put 64 e q 0 h
theorem bytes_good (e q : Nat) (w : World) (h : rightS 64 (e : Int) (q : Int) 0 = true) : Calls Tryz.prog 22 #[.int .i64 e, .int .i64 q] w fun r w' => ∃ g c, r = .returned (.slice (some ⟨g, 0, none⟩) 4096 c) ∧ w.heap.size ≤ g ∧ g < w'.heap.size ∧ 4096 ≤ c ∧ c ≤ 9223372036854775807 ∧ Su.Rd w' (some ⟨g, 0, none⟩) (sB e q) ∧ Below w.heap.size w w' := by
  refine (bytes_at e q w).mono ?_
  rintro r w' ⟨v, rfl, ho, b⟩
  rw [sB_put e q h] at ho
  obtain ⟨a, cap, rfl, h1, h2, h3, h4, h5⟩ := Su.owns_rd ho
  have hl : ((some (sB e q)).getD []).length = 4096 := sB_len e q
  rw [hl] at h2 h5 ⊢
  obtain ⟨g, rfl, h6, h7⟩ := h5 (by omega)
  exact ⟨g, cap, rfl, h6, h7, h2, by unfold maxLen at h3; omega, h4, b⟩

theorem cellsI_one {w : World} {g : Nat} {b : Int} {a : Option Addr} {n c : Nat} (h : Box w g #[.int .i64 b, .slice a n c] 57) : CellsI w (some ⟨g, 0, none⟩) [(b, a, n, c)] := fun _ => by
  refine ⟨g, 0, rfl, fun j hj => ?_⟩
  have hj0 : j = 0 := by simp at hj; omega
  subst hj0
  exact ⟨h.cell 0, h.cell 1⟩
theorem cellsI_two {w : World} {g : Nat} {b b' : Int} {a a' : Option Addr} {n c n' c' : Nat} (h : Box w g #[.int .i64 b, .slice a n c, .int .i64 b', .slice a' n' c'] 57) : CellsI w (some ⟨g, 0, none⟩) [(b, a, n, c), (b', a', n', c')] := fun _ => by
  refine ⟨g, 0, rfl, fun j hj => ?_⟩
  have hj0 : j = 0 ∨ j = 1 := by simp at hj; omega
  rcases hj0 with rfl | rfl
  · exact ⟨h.cell 0, h.cell 1⟩
  · exact ⟨h.cell 2, h.cell 3⟩
theorem cellsG_one {w : World} {g : Nat} {e q : Int} {a : Option Addr} {n c : Nat} {is : List Im} (h : Box w g #[.int .i64 e, .int .i64 q, .slice a n c] 60) (hn : is.length = n) (hm : n ≤ 1000000000000) (hi : CellsI w a is) : CellsG w (some ⟨g, 0, none⟩) [⟨e, q, a, c, is⟩] := fun _ => by
  refine ⟨g, 0, rfl, fun j hj => ?_⟩
  have hj0 : j = 0 := by simp at hj; omega
  subst hj0 hn
  exact ⟨h.cell 0, h.cell 1, h.cell 2, hi, hm⟩
theorem cellsG_two {w : World} {g : Nat} {e q e' q' : Int} {a a' : Option Addr} {n c n' c' : Nat} {is is' : List Im} (h : Box w g #[.int .i64 e, .int .i64 q, .slice a n c, .int .i64 e', .int .i64 q', .slice a' n' c'] 60) (hn : is.length = n) (hm : n ≤ 1000000000000) (hi : CellsI w a is) (hn' : is'.length = n') (hm' : n' ≤ 1000000000000) (hi' : CellsI w a' is') : CellsG w (some ⟨g, 0, none⟩) [⟨e, q, a, c, is⟩, ⟨e', q', a', c', is'⟩] := fun _ => by
  refine ⟨g, 0, rfl, fun j hj => ?_⟩
  have hj0 : j = 0 ∨ j = 1 := by simp at hj; omega
  subst hn hn'
  rcases hj0 with rfl | rfl
  · exact ⟨h.cell 0, h.cell 1, h.cell 2, hi, hm⟩
  · exact ⟨h.cell 3, h.cell 4, h.cell 5, hi', hm'⟩
theorem imgs_two {w : World} {g g1 g2 : Nat} {b b' : Int} {xs ys : List UInt8} (h : Box w g #[.int .i64 b, .slice (some ⟨g1, 0, none⟩) 4096 4096, .int .i64 b', .slice (some ⟨g2, 0, none⟩) 4096 4096] 57) (h1 : Rc.Own w g1 xs) (h2 : Rc.Own w g2 ys) (hx : xs.length = 4096) (hy : ys.length = 4096) : Rc.Imgs w (some ⟨g, 0, none⟩) [(b, xs), (b', ys)] := fun _ => by
  refine ⟨g, 0, rfl, fun j hj => ?_⟩
  have hj0 : j = 0 ∨ j = 1 := by simp at hj; omega
  rcases hj0 with rfl | rfl
  · refine ⟨h.cell 0, _, 4096, ?_, by show xs.length ≤ _; omega, by omega, fun h => (by cases h), h1.rd⟩
    show w.cell? ⟨g, 1, none⟩ = some (.slice _ xs.length _)
    rw [hx]
    exact h.cell 1
  · refine ⟨h.cell 2, _, 4096, ?_, by show ys.length ≤ _; omega, by omega, fun h => (by cases h), h2.rd⟩
    show w.cell? ⟨g, 3, none⟩ = some (.slice _ ys.length _)
    rw [hy]
    exact h.cell 3
end Go.Proofs.YtdkaacjeogifdaaGreat.H

/-
  awake: the chapter's examples, as every statement asks them.
-/
namespace Go.Proofs.YtdkaacjeogifdaaGreat.H
open Go.RowKit
open Go.Proofs.YtdkaacjeogifdaaGreat.Rc (madeL Imgs)
open Go.Proofs.YtdkaacjeogifdaaGreat.Su (supV getSuper)
open Go.Proofs.YtdkaacjeogifdaaGreat.Dk (Box)

theorem rise_ext : ∀ (l m : List Int), l.Pairwise (· < ·) → m.Pairwise (· < ·) → (∀ x, x ∈ l ↔ x ∈ m) → l = m
  | [], [], _, _, _ => rfl
  | [], y :: m, _, _, h => by have := (h y).2 (List.mem_cons_self ..); cases this
  | x :: l, [], _, _, h => by have := (h x).1 (List.mem_cons_self ..); cases this
  | x :: l, y :: m, hl, hm, h => by
    rw [List.pairwise_cons] at hl hm
    have e : x = y := by
      have h1 := (h x).1 (List.mem_cons_self ..)
      have h2 := (h y).2 (List.mem_cons_self ..)
      rcases List.mem_cons.1 h1 with h1 | h1
      · exact h1
      · rcases List.mem_cons.1 h2 with h2 | h2
        · exact h2.symm
        · have := hm.1 x h1
          have := hl.1 y h2
          omega
    subst e
    rw [rise_ext l m hl.2 hm.2 (fun z => ⟨fun hz => by
        have h1 := hl.1 z hz
        rcases List.mem_cons.1 ((h z).1 (List.mem_cons_of_mem _ hz)) with h2 | h2
        · omega
        · exact h2, fun hz => by
        have h1 := hm.1 z hz
        rcases List.mem_cons.1 ((h z).2 (List.mem_cons_of_mem _ hz)) with h2 | h2
        · omega
        · exact h2⟩)]
theorem madeL_len (z : Int) : (madeL z 4096).length = 4096 := Rc.madeK_length z 4096 4096
/-- the document's second example: 40: A, 30: B; 40: C -/
theorem last_three (A B C : List UInt8) (ks : List Int) (h1 : ks.Pairwise (· < ·)) (h2 : ∀ x, x ∈ ks ↔ (lastD [(40, A), (30, B), (40, C)] x).isSome = true) : (ks.map fun k => (k, datD [(40, A), (30, B), (40, C)] k)) = [(30, B), (40, C)] := by
  have e : ks = [30, 40] := rise_ext _ _ h1 (by decide) (fun x => by
    rw [h2 x]
    simp only [lastD, List.foldl_cons, List.foldl_nil]
    by_cases h30 : (30 : Int) = x
    · subst h30; simp
    · by_cases h40 : (40 : Int) = x
      · subst h40; simp
      · simp [h30, h40]
        omega)
  subst e
  simp [datD, lastD]
theorem choose_ex : choose (getSuper (sB 1 5)) (getSuper (sB 2 1)) = (⟨64, 2, 1, 0⟩, 1, true) := by
  rw [sB_get 1 5 (by decide), sB_get 2 1 (by decide)]
  rfl
/-- what stands in the last statement -/
@[reducible] def AwS (w : World) (g1 : Nat) (a4 : Option Addr) (L : List (Int × List UInt8)) (u : World) : Prop :=
  u.cell? ⟨g1, 0, none⟩ = some (.int .i64 64) ∧ u.cell? ⟨g1, 1, none⟩ = some (.int .i64 2) ∧ u.cell? ⟨g1, 2, none⟩ = some (.int .i64 1) ∧ u.cell? ⟨g1, 3, none⟩ = some (.int .i64 0) ∧
  Hid (Box u g1 #[.int .i64 64, .int .i64 2, .int .i64 1, .int .i64 0] 28 ∧ Imgs u a4 L ∧ Below w.heap.size w u)
section
variable {w u u' : World} {g1 : Nat} {a4 : Option Addr} {L : List (Int × List UInt8)}
theorem AwS.new (h1 : Box u g1 #[.int .i64 64, .int .i64 2, .int .i64 1, .int .i64 0] 28) (h2 : Imgs u a4 L) (h3 : Below w.heap.size w u) : AwS w g1 a4 L u :=
  ⟨h1.cell 0, h1.cell 1, h1.cell 2, h1.cell 3, ⟨h1, h2, h3⟩⟩
theorem AwS.below (b : Below u.heap.size u u') (h : AwS w g1 a4 L u) : AwS w g1 a4 L u' :=
  AwS.new (h.2.2.2.2.out.1.below b) (h.2.2.2.2.out.2.1.below b) (h.2.2.2.2.out.2.2.trans (b.mono h.2.2.2.2.out.2.2.size))
theorem AwS.alloc {o : Obj} (h : AwS w g1 a4 L u) : AwS w g1 a4 L (u.alloc o) := AwS.below ((Below.refl _ u).alloc (Nat.le_refl _) _) h
theorem AwS.imgs (h : AwS w g1 a4 L u) : Imgs u a4 L := h.2.2.2.2.out.2.1
theorem AwS.bel (h : AwS w g1 a4 L u) : Below w.heap.size w u := h.2.2.2.2.out.2.2
end
theorem lit_two {u : World} {g1 g2 : Nat} {xs ys : List UInt8} (h1 : Rc.Own u g1 xs) (h2 : Rc.Own u g2 ys) (hx : xs.length = 4096) (hy : ys.length = 4096) : Imgs (u.alloc (.cells #[.int .i64 30, .slice (some ⟨g1, 0, none⟩) 4096 4096, .int .i64 40, .slice (some ⟨g2, 0, none⟩) 4096 4096] 57)) (some ⟨u.heap.size, 0, none⟩) [(30, xs), (40, ys)] := by
  have b := (Below.refl u.heap.size u).alloc (Nat.le_refl _) (.cells #[.int .i64 30, .slice (some ⟨g1, 0, none⟩) 4096 4096, .int .i64 40, .slice (some ⟨g2, 0, none⟩) 4096 4096] 57)
  exact imgs_two (Box.new u _ 57) (h1.below b h1.lt) (h2.below b h2.lt) hx hy

set_option maxRecDepth 100000 in
set_option maxHeartbeats 8000000 in
theorem awake_at (w : World) : Calls Tryz.prog 4 #[] w fun r w' => r = .returned (.bool true) ∧ Below w.heap.size w w' := by
  have HB1 : Hid (∀ u : World, Calls Tryz.prog 22 #[.int .i64 1, .int .i64 5] u fun r w' => ∃ g c, r = .returned (.slice (some ⟨g, 0, none⟩) 4096 c) ∧ u.heap.size ≤ g ∧ g < w'.heap.size ∧ 4096 ≤ c ∧ c ≤ 9223372036854775807 ∧ Su.Rd w' (some ⟨g, 0, none⟩) (sB 1 5) ∧ Below u.heap.size u w') := fun u => bytes_good 1 5 u (by decide)
  have HB2 : Hid (∀ u : World, Calls Tryz.prog 22 #[.int .i64 2, .int .i64 1] u fun r w' => ∃ g c, r = .returned (.slice (some ⟨g, 0, none⟩) 4096 c) ∧ u.heap.size ≤ g ∧ g < w'.heap.size ∧ 4096 ≤ c ∧ c ≤ 9223372036854775807 ∧ Su.Rd w' (some ⟨g, 0, none⟩) (sB 2 1) ∧ Below u.heap.size u w') := fun u => bytes_good 2 1 u (by decide)
  have HM : Hid (∀ (z n : Int) (u : World), Calls Tryz.prog 24 #[.int .i64 n, .int .i64 z] u fun r w' => ∃ g, r = .returned (.agg #[.int .i64 n, .slice (some ⟨g, 0, none⟩) 4096 4096]) ∧ u.heap.size ≤ g ∧ Rc.Own w' g (madeL z 4096) ∧ Below u.heap.size u w') := fun z n u => made_at n z u
  have HLy : Hid (∀ u : World, Calls Tryz.prog 23 #[] u fun r w' => r = .returned (.agg #[.int .i64 64, .int .i64 2, .int .i64 16, .int .i64 18, .int .i64 19, .int .i64 4, .int .i64 23]) ∧ Below u.heap.size u w') := fun u => layout64_at u
  have HOf : Hid (∀ u : World, Calls Tryz.prog 25 #[.int .i64 2, .int .i64 1] u fun r w' => r = .returned (.agg #[.int .i64 64, .int .i64 2, .int .i64 1, .int .i64 0]) ∧ Below u.heap.size u w') := fun u => of_at 2 1 u
  have M1 := HM.out 1
  have M2 := HM.out 2
  have M3 := HM.out 3
  have l1 : Hid ((madeL 1 4096).length = 4096) := madeL_len 1
  have l2 : Hid ((madeL 2 4096).length = 4096) := madeL_len 2
  have l3 : Hid ((madeL 3 4096).length = 4096) := madeL_len 3
  generalize madeL 1 4096 = m1 at M1 l1
  generalize madeL 2 4096 = m2 at M2 l2
  generalize madeL 3 4096 = m3 at M3 l3
  have HM1 : Hid (∀ (n : Int) (u : World), Calls Tryz.prog 24 #[.int .i64 n, .int .i64 1] u fun r w' => ∃ g, r = .returned (.agg #[.int .i64 n, .slice (some ⟨g, 0, none⟩) 4096 4096]) ∧ u.heap.size ≤ g ∧ Rc.Own w' g m1 ∧ Below u.heap.size u w') := M1
  have HM2 : Hid (∀ (n : Int) (u : World), Calls Tryz.prog 24 #[.int .i64 n, .int .i64 2] u fun r w' => ∃ g, r = .returned (.agg #[.int .i64 n, .slice (some ⟨g, 0, none⟩) 4096 4096]) ∧ u.heap.size ≤ g ∧ Rc.Own w' g m2 ∧ Below u.heap.size u w') := M2
  have HM3 : Hid (∀ (n : Int) (u : World), Calls Tryz.prog 24 #[.int .i64 n, .int .i64 3] u fun r w' => ∃ g, r = .returned (.agg #[.int .i64 n, .slice (some ⟨g, 0, none⟩) 4096 4096]) ∧ u.heap.size ≤ g ∧ Rc.Own w' g m3 ∧ Below u.heap.size u w') := M3
  clear M1 M2 M3 HM
  have hch : Hid (choose (getSuper (sB 1 5)) (getSuper (sB 2 1)) = (⟨64, 2, 1, 0⟩, 1, true)) := choose_ex
  have hl1 : Hid ((sB 1 5).length = 4096) := sB_len 1 5
  have hl2 : Hid ((sB 2 1).length = 4096) := sB_len 2 1
  generalize sB 1 5 = s1 at HB1 hch hl1
  generalize sB 2 1 = s2 at HB2 hch hl2
  have hE : ∀ u, (binOp .eql 28 (.agg #[.int .i64 64, .int .i64 2, .int .i64 1, .int .i64 0]) (.agg #[.int .i64 64, .int .i64 2, .int .i64 1, .int .i64 0])).run Tryz.prog u = .ok (.bool true) u := fun u => eqlS u 64 2 1 0 64 2 1 0
  go_enter Tryz.func4, Tryz.ntmps4
  go_wp2_with fail
  refine Calls.mono (HB1.out _) ?_
  rintro r u1 ⟨ga, ca, rfl, _, hga, hca, hca2, r1, b1⟩
  go_wp2_with fail
  refine Calls.mono (HB2.out _) ?_
  rintro r u2 ⟨gb, cb, rfl, _, _, hcb, hcb2, r2, b2⟩
  have B2 := b1.trans (b2.mono b1.size)
  have cC := choose_at 4096 ca 4096 cb (some ⟨ga, 0, none⟩) (some ⟨gb, 0, none⟩) s1 s2 u2 hl1.out hca hca2 (r1.below b2 (Nat.le_refl _)) hl2.out hcb hcb2 r2
  rw [hch.out] at cC
  unfold supV at cC
  dsimp only at cC
  clear HB1 HB2 hch r1 r2 b1 b2 hl1 hl2 hga hca hca2 hcb hcb2
  go_wp2_with fail
  refine Calls.mono cC ?_
  rintro r u3 ⟨rfl, b3⟩
  have B3 := B2.trans (b3.mono B2.size)
  have bx := Box.new u3 #[.int .i64 64, .int .i64 2, .int .i64 1, .int .i64 0] 28
  have B4 := B3.alloc B3.size (.cells #[.int .i64 64, .int .i64 2, .int .i64 1, .int .i64 0] 28)
  obtain ⟨g1, hg1⟩ : ∃ u, u = u3.heap.size := ⟨_, rfl⟩
  obtain ⟨w4, hw4⟩ : ∃ u, u = u3.alloc (.cells #[.int .i64 64, .int .i64 2, .int .i64 1, .int .i64 0] 28) := ⟨_, rfl⟩
  rw [← hw4] at B4 bx
  rw [← hg1] at bx
  have HW4 : Hid (w4 = u3.alloc (.cells #[.int .i64 64, .int .i64 2, .int .i64 1, .int .i64 0] 28)) := hw4
  have HG1 : Hid (g1 = u3.heap.size) := hg1
  clear cC B2 B3 b3 hw4 hg1
  go_wp2_with fail
  rw [← HW4.out, ← HG1.out]
  clear HW4 HG1
  refine Calls.mono (HLy.out _) ?_
  rintro r u5 ⟨rfl, b5⟩
  have B5 := B4.trans (b5.mono B4.size)
  have x5 := bx.below b5
  clear HLy bx b5 B4
  go_wp2_with fail
  refine Calls.mono (HM1.out 40 _) ?_
  rintro r u6 ⟨ha, rfl, _, o1, b6⟩
  have B6 := B5.trans (b6.mono B5.size)
  have x6 := x5.below b6
  clear HM1 x5 b6 B5
  go_wp2_with fail
  refine Calls.mono (HM2.out 30 _) ?_
  rintro r u7 ⟨hb, rfl, _, o2, b7⟩
  have B7 := B6.trans (b7.mono B6.size)
  have x7 := x6.below b7
  have o17 := o1.below b7 o1.lt
  clear x6 b7 B6 o1
  have bA := (Below.refl u7.heap.size u7).alloc (Nat.le_refl _) (.cells #[.int .i64 40, .slice (some ⟨ha, 0, none⟩) 4096 4096, .int .i64 30, .slice (some ⟨hb, 0, none⟩) 4096 4096] 57)
  have yA := Box.new u7 #[.int .i64 40, .slice (some ⟨ha, 0, none⟩) 4096 4096, .int .i64 30, .slice (some ⟨hb, 0, none⟩) 4096 4096] 57
  have B8 := B7.alloc B7.size (.cells #[.int .i64 40, .slice (some ⟨ha, 0, none⟩) 4096 4096, .int .i64 30, .slice (some ⟨hb, 0, none⟩) 4096 4096] 57)
  have x8 := x7.below bA
  have o18 := o17.below bA o17.lt
  have o28 := o2.below bA o2.lt
  obtain ⟨gA, hgA⟩ : ∃ u, u = u7.heap.size := ⟨_, rfl⟩
  obtain ⟨w8, hw8⟩ : ∃ u, u = u7.alloc (.cells #[.int .i64 40, .slice (some ⟨ha, 0, none⟩) 4096 4096, .int .i64 30, .slice (some ⟨hb, 0, none⟩) 4096 4096] 57) := ⟨_, rfl⟩
  rw [← hw8] at B8 yA x8 o18 o28
  rw [← hgA] at yA
  have HW8 : Hid (w8 = u7.alloc (.cells #[.int .i64 40, .slice (some ⟨ha, 0, none⟩) 4096 4096, .int .i64 30, .slice (some ⟨hb, 0, none⟩) 4096 4096] 57)) := hw8
  have HGA : Hid (gA = u7.heap.size) := hgA
  clear bA B7 x7 o17 o2 hw8 hgA
  go_wp2_with fail
  rw [← HW8.out, ← HGA.out]
  clear HW8 HGA
  refine Calls.mono (HM3.out 40 _) ?_
  rintro r u9 ⟨hc, rfl, _, o3, b9⟩
  have B9 := B8.trans (b9.mono B8.size)
  have x9 := x8.below b9
  have y9 := yA.below b9
  have o19 := o18.below b9 o18.lt
  have o29 := o28.below b9 o28.lt
  clear B8 x8 yA o18 o28 b9
  have al := ((Below.refl u9.heap.size u9).alloc (Nat.le_refl _) (.cells #[.int .i64 40, .slice (some ⟨hc, 0, none⟩) 4096 4096] 57)).alloc (by simp) (.cells #[.int .i64 0, .int .i64 0, .slice (some ⟨gA, 0, none⟩) 2 2, .int .i64 0, .int .i64 0, .slice (some ⟨u9.heap.size, 0, none⟩) 1 1] 60)
  have yB := (Box.new u9 #[.int .i64 40, .slice (some ⟨hc, 0, none⟩) 4096 4096] 57).alloc (.cells #[.int .i64 0, .int .i64 0, .slice (some ⟨gA, 0, none⟩) 2 2, .int .i64 0, .int .i64 0, .slice (some ⟨u9.heap.size, 0, none⟩) 1 1] 60)
  have yG := Box.new (u9.alloc (.cells #[.int .i64 40, .slice (some ⟨hc, 0, none⟩) 4096 4096] 57)) #[.int .i64 0, .int .i64 0, .slice (some ⟨gA, 0, none⟩) 2 2, .int .i64 0, .int .i64 0, .slice (some ⟨u9.heap.size, 0, none⟩) 1 1] 60
  have hz : (u9.alloc (.cells #[.int .i64 40, .slice (some ⟨hc, 0, none⟩) 4096 4096] 57)).heap.size = u9.heap.size + 1 := by simp
  rw [hz] at yG
  clear hz
  have B10 := B9.trans (al.mono B9.size)
  have x10 := x9.below al
  have y10 := y9.below al
  have o110 := o19.below al o19.lt
  have o210 := o29.below al o29.lt
  have o310 := o3.below al o3.lt
  obtain ⟨w10, hw10⟩ : ∃ u, u = (u9.alloc (.cells #[.int .i64 40, .slice (some ⟨hc, 0, none⟩) 4096 4096] 57)).alloc (.cells #[.int .i64 0, .int .i64 0, .slice (some ⟨gA, 0, none⟩) 2 2, .int .i64 0, .int .i64 0, .slice (some ⟨u9.heap.size, 0, none⟩) 1 1] 60) := ⟨_, rfl⟩
  rw [← hw10] at yB yG B10 x10 y10 o110 o210 o310
  have cH := home_at w10 (some ⟨u9.heap.size + 1, 0, none⟩) 2 2 [⟨0, 0, some ⟨gA, 0, none⟩, 2, [(40, some ⟨ha, 0, none⟩, 4096, 4096), (30, some ⟨hb, 0, none⟩, 4096, 4096)]⟩, ⟨0, 0, some ⟨u9.heap.size, 0, none⟩, 1, [(40, some ⟨hc, 0, none⟩, 4096, 4096)]⟩]
    [((40, some ⟨ha, 0, none⟩, 4096, 4096), m1), ((30, some ⟨hb, 0, none⟩, 4096, 4096), m2), ((40, some ⟨hc, 0, none⟩, 4096, 4096), m3)] rfl (by decide) (cellsG_two yG rfl (by decide) (cellsI_two y10) rfl (by decide) (cellsI_one yB)) rfl
    (fun p hp => by
      simp only [List.mem_cons, List.not_mem_nil, or_false] at hp
      rcases hp with rfl | rfl | rfl
      · exact ⟨o110.rd, l1.out, rfl⟩
      · exact ⟨o210.rd, l2.out, rfl⟩
      · exact ⟨o310.rd, l3.out, rfl⟩)
    (fun p hp => by
      simp only [List.mem_cons, List.not_mem_nil, or_false] at hp
      rcases hp with rfl | rfl | rfl <;> (dsimp only; omega))
  have HW10 : Hid (w10 = (u9.alloc (.cells #[.int .i64 40, .slice (some ⟨hc, 0, none⟩) 4096 4096] 57)).alloc (.cells #[.int .i64 0, .int .i64 0, .slice (some ⟨gA, 0, none⟩) 2 2, .int .i64 0, .int .i64 0, .slice (some ⟨u9.heap.size, 0, none⟩) 1 1] 60)) := hw10
  unfold lay at cH
  clear hw10 yB yG y10 o110 o210 o310 al B9 x9 y9 o19 o29 o3 l1
  go_wp2_with fail
  rw [← HW10.out]
  clear HW10
  refine Calls.mono cH ?_
  rintro r u11 ⟨a4, c4, ks, qs, rfl, hR, b11⟩
  have hI := hR.imgs
  have hn : ks.length = 2 := by
    have := congrArg List.length (last_three m1 m2 m3 ks hR.rise hR.keys)
    simpa using this
  have e3 : (ks.map fun k => (k, datD (pl [((40, some ⟨ha, 0, none⟩, 4096, 4096), m1), ((30, some ⟨hb, 0, none⟩, 4096, 4096), m2), ((40, some ⟨hc, 0, none⟩, 4096, 4096), m3)]) k)) = [(30, m2), (40, m3)] := last_three m1 m2 m3 ks hR.rise hR.keys
  rw [e3] at hI
  rw [hn]
  have hA0 : Hid (AwS w g1 a4 [(30, m2), (40, m3)] u11.drew) := AwS.below ((Below.refl _ u11).drew) (AwS.new (x10.below b11) hI (B10.trans (b11.mono B10.size)))
  clear hI hn e3 hR cH b11 x10 B10
  go_upto_region 3 with fail
  go_region_held3 (fun u => u.cell? ⟨g1, 0, none⟩ = some (.int .i64 64) ∧ u.cell? ⟨g1, 1, none⟩ = some (.int .i64 2) ∧ u.cell? ⟨g1, 2, none⟩ = some (.int .i64 1) ∧ u.cell? ⟨g1, 3, none⟩ = some (.int .i64 0) ∧
      Hid (Box u g1 #[.int .i64 64, .int .i64 2, .int .i64 1, .int .i64 0] 28 ∧ Imgs u a4 [(30, m2), (40, m3)] ∧ Below w.heap.size w u))
    (first | with_reducible exact hA0.out | with_reducible exact AwS.below b (by with_reducible assumption) | with_reducible exact AwS.alloc (by with_reducible assumption) | with_reducible assumption)
    (first
      | (go_at_call 25; refine (HOf.out _).mono ?_; rintro e u13 ⟨rfl, b⟩)
      | (go_at_call_of 24 (Value.int .i64 30); first
          | (have h9 := ‹Hid (Rc.Own _ _ m3)›; refine (HM2.out 30 _).mono ?_; clear b; rintro e u14 ⟨gx, rfl, _, ox, b⟩; have h9' : Hid (Rc.Own u14 _ m3) := h9.out.below b h9.out.lt; have ox' : Hid (Rc.Own u14 gx m2) := ox)
          | (refine (HM2.out 30 _).mono ?_; clear b; rintro e u14 ⟨gx, rfl, _, ox, b⟩; have ox' : Hid (Rc.Own u14 gx m2) := ox))
      | (go_at_call_of 24 (Value.int .i64 40); first
          | (have h9 := ‹Hid (Rc.Own _ _ m2)›; refine (HM3.out 40 _).mono ?_; clear b; rintro e u14 ⟨gx, rfl, _, ox, b⟩; have h9' : Hid (Rc.Own u14 _ m2) := h9.out.below b h9.out.lt; have ox' : Hid (Rc.Own u14 gx m3) := ox)
          | (refine (HM3.out 40 _).mono ?_; clear b; rintro e u14 ⟨gx, rfl, _, ox, b⟩; have ox' : Hid (Rc.Own u14 gx m3) := ox))
      | (go_at_call 9; first
          | (refine (Rc.sameImages_at _ _ 2 _ 2 _ [(30, m2), (40, m3)] [(30, m2), (40, m3)] _ rfl rfl (by omega) (AwS.imgs (w := w) (g1 := g1) (by with_reducible assumption)) (lit_two ox'.out h9'.out l2.out l3.out)).mono ?_; clear b; rintro e u26 ⟨rfl, b⟩; rw [decide_eq_true rfl])
          | (refine (Rc.sameImages_at _ _ 2 _ 2 _ [(30, m2), (40, m3)] [(30, m2), (40, m3)] _ rfl rfl (by omega) (AwS.imgs (w := w) (g1 := g1) (by with_reducible assumption)) (lit_two h9'.out ox'.out l2.out l3.out)).mono ?_; clear b; rintro e u26 ⟨rfl, b⟩; rw [decide_eq_true rfl])))
  all_goals go_wp2_with fail
  all_goals go_ret
  all_goals exact ⟨rfl, AwS.bel (w := w) (g1 := g1) (a4 := a4) (L := [(30, m2), (40, m3)]) (by with_reducible assumption)⟩
end Go.Proofs.YtdkaacjeogifdaaGreat.H

/-
  The document's own readings: number, read.
-/
namespace Go.Proofs.YtdkaacjeogifdaaGreat.Su
open Go.RowKit

/-- number: of so many bytes at a place -/
theorem refnumber_at (cap n : Nat) (a : Option Addr) (xs : List UInt8) (i : Int) (size : Nat) (S : Int) (w : World) (hS : S = (size : Int)) (hl : xs.length = n) (hs0 : 0 < size) (hs : size ≤ 8) (hn : n ≤ 9223372036854775807) (hr : Rd w a xs) :
    Calls Tryz.prog 56 #[.slice a n cap, .int .i64 i, .int .i64 S] w fun e w' => e = .returned (.int .i64 (i64 (num xs i size))) ∧ w = w' := by
  subst hS
  have c := refNumber_at cap n a xs i size size w rfl hl hs0 hs hn hr
  have hlt : num xs i size < 18446744073709551616 := by
    have h := num_lt xs i size
    have h2 : 256 ^ size ≤ 256 ^ 8 := Nat.pow_le_pow_right (by omega) hs
    have h3 : 256 ^ 8 = 18446744073709551616 := by decide
    omega
  have c' : Calls Tryz.prog 76 #[.slice a n cap, .int .i64 i, .int .i64 size] w fun e w' => ∃ ok, e = .returned (.tuple #[.int .u64 (num xs i size : Nat), .bool ok]) ∧ w = w' := by
    refine c.mono ?_
    rintro e w' ⟨rfl, rfl⟩
    exact ⟨_, rfl, rfl⟩
  generalize num xs i size = V at c' hlt
  clear hl c
  go_enter Tryz.func56, Tryz.ntmps56
  go_wp2_with fail
  refine c'.mono ?_
  rintro e w' ⟨ok, rfl, rfl⟩
  go_wp2
  go_ret
  exact ⟨rfl, rfl⟩

theorem num2_i64 (xs : List UInt8) (i : Int) : i64 (num xs i 2) = (num xs i 2 : Nat) := i64_in _ (by have := num_lt xs i 2; omega)

end Go.Proofs.YtdkaacjeogifdaaGreat.Su

/-
  The document's own GetSuper.
-/
namespace Go.Proofs.YtdkaacjeogifdaaGreat.Su
open Go.RowKit

theorem puts_some {w w' : World} {o : Option (List UInt8)} {r : Ending} {xs : List UInt8} (h : Puts w w' o r) (ho : o = some xs) :
    ∃ v, r = .returned (.tuple #[v, .int .i64 0]) ∧ w'.ownsRow w.heap.size 5 1 v xs.length (bcs xs) ∧ Below w.heap.size w w' := by
  subst ho
  exact h

theorem getsS_some {w w' : World} {o : Option Sup} {r : Ending} {s : Sup} (h : GetsS w w' o r) (ho : o = some s) : r = .returned (.tuple #[.agg #[.int .i64 s.b, .int .i64 s.e, .int .i64 s.q, .int .i64 s.t], .int .i64 0]) ∧ Below w.heap.size w w' := by
  subst ho; exact h
theorem getsS_none {w w' : World} {o : Option Sup} {r : Ending} (h : GetsS w w' o r) (ho : o = none) : r = .returned (.tuple #[.agg #[.int .i64 0, .int .i64 0, .int .i64 0, .int .i64 0], .int .i64 30]) ∧ Below w.heap.size w w' := by
  subst ho; exact h
theorem puts_none {w w' : World} {o : Option (List UInt8)} {r : Ending} (h : Puts w w' o r) (ho : o = none) :
    ∃ v, r = .returned (.tuple #[v, .int .i64 2]) ∧ w'.ownsRow w.heap.size 5 1 v 0 (bcs []) ∧ Below w.heap.size w w' := by
  subst ho
  exact h

theorem puts_block {w w' : World} {o : Option (List UInt8)} {r : Ending} {xs : List UInt8} {n : Nat} (h : Puts w w' o r) (ho : o = some xs) (hl : xs.length = n) (h0 : 0 < n) :
    ∃ g cap, r = .returned (.tuple #[.slice (some ⟨g, 0, none⟩) n cap, .int .i64 0]) ∧ w'.ownsRow w.heap.size 5 1 (.slice (some ⟨g, 0, none⟩) n cap) n (bcs xs) ∧ w.heap.size ≤ g ∧ g < w'.heap.size ∧ n ≤ cap ∧ cap ≤ 9223372036854775807 ∧ Below w.heap.size w w' := by
  obtain ⟨v, hr, ho', hb⟩ := puts_some h ho
  rw [hl] at ho'
  obtain ⟨a, cap, rfl, _, hc, hx, _, hnil, hblk⟩ := owns_parts ho'
  cases a with
  | none => have := hnil rfl; omega
  | some ad =>
    rcases ho'.2 with ⟨h1, h2⟩ | ⟨g, cap', cur, hv, hB, hg, _⟩
    · omega
    · simp only [Value.slice.injEq, Option.some.injEq, true_and] at hv
      obtain ⟨rfl, rfl⟩ := hv
      exact ⟨g, cap, hr, ho', hB, (hblk _ rfl).2, hc, hx, hb⟩

set_option maxRecDepth 100000 in
set_option maxHeartbeats 2000000 in
theorem refGetSuper_wrong (n cap : Nat) (a : Option Addr) (xs : List UInt8) (b e q t : Int) (w : World) (Hn : Hid (xs.length = n)) (hm : n ≤ 9223372036854775807) (hr : Rd w a xs) (hB : Hid (i64 (num xs 8 8) = b)) (hE : Hid (i64 (num xs 16 8) = e)) (hQ : Hid (i64 (num xs 24 8) = q)) (hT : Hid (i64 (num xs 32 8) = t)) (HP : Hid (putSuper b e q t = none)) :
    Calls Tryz.prog 28 #[.slice a n cap] w fun r w' => GetsS w w' none r := by
  have B0 := (Below.refl w.heap.size w).alloc (Nat.le_refl _) (.cells #[.int .i64 0, .int .i64 0, .int .i64 0, .int .i64 0] 28)
  have x0 := Box.new w #[.int .i64 0, .int .i64 0, .int .i64 0, .int .i64 0] 28
  go_enter Tryz.func28, Tryz.ntmps28
  go_wp2_with fail
  obtain ⟨W, hW⟩ : ∃ W, W = w.alloc (.cells #[.int .i64 0, .int .i64 0, .int .i64 0, .int .i64 0] 28) := ⟨_, rfl⟩
  rw [← hW] at x0 B0 ⊢
  clear hW
  have hr0 := hr.below B0 (Nat.le_refl _)
  refine (refnumber_at cap n a xs 8 8 8 W rfl Hn.out (by omega) (by omega) hm hr0).mono ?_
  rintro r w' ⟨rfl, rfl⟩
  rw [hB.out]
  go_wp2_with fail
  refine (refnumber_at cap n a xs 16 8 8 W rfl Hn.out (by omega) (by omega) hm hr0).mono ?_
  rintro r w' ⟨rfl, rfl⟩
  rw [hE.out]
  go_wp2_with fail
  refine (refnumber_at cap n a xs 24 8 8 W rfl Hn.out (by omega) (by omega) hm hr0).mono ?_
  rintro r w' ⟨rfl, rfl⟩
  rw [hQ.out]
  go_wp2_with fail
  refine (refnumber_at cap n a xs 32 8 8 W rfl Hn.out (by omega) (by omega) hm hr0).mono ?_
  rintro r w' ⟨rfl, rfl⟩
  rw [hT.out]
  clear hr0
  have x4 := Box.new W #[.int .i64 b, .int .i64 e, .int .i64 q, .int .i64 t] 28
  have bA := (Below.refl W.heap.size W).alloc (Nat.le_refl _) (.cells #[.int .i64 b, .int .i64 e, .int .i64 q, .int .i64 t] 28)
  have B1 := B0.trans (bA.mono B0.size)
  have x1 := x0.below bA
  go_wp2_with fail
  obtain ⟨U, hU⟩ : ∃ U, U = W.alloc (.cells #[.int .i64 b, .int .i64 e, .int .i64 q, .int .i64 t] 28) := ⟨_, rfl⟩
  rw [← hU] at x4 B1 x1 ⊢
  obtain ⟨G, hG⟩ : ∃ G, G = W.heap.size := ⟨_, rfl⟩
  rw [← hG] at x4 ⊢
  clear hU hG bA B0 x0
  refine (refPutSuper_at b e q t U).mono ?_
  rintro r w2 h2
  obtain ⟨v2, rfl, o2, b2⟩ := puts_none h2 HP.out
  obtain ⟨a2, c2, rfl, _, _, _, _, _, _⟩ := owns_parts o2
  have B2 := B1.trans (b2.mono B1.size)
  have x2 := x1.below b2
  clear h2 o2 b2 B1 x1 x4
  have m0 := x2.cell 0
  have m1 := x2.cell 1
  have m2 := x2.cell 2
  have m3 := x2.cell 3
  simp only [List.getElem?_toArray, List.getElem?_cons_zero, List.getElem?_cons_succ] at m0 m1 m2 m3
  have f0 := x2.frozen 0
  have f1 := x2.frozen 1
  have f2 := x2.frozen 2
  have f3 := x2.frozen 3
  go_wp2_with fail
  have Y := ((((x2.store 0 (.int .i64 0)).store 1 (.int .i64 0)).store 2 (.int .i64 0)).store 3 (.int .i64 0))
  have C1 := ((((B2.setCell (p := ⟨w.heap.size, 0, none⟩) (Nat.le_refl _) (.int .i64 0)).setCell (p := ⟨w.heap.size, 1, none⟩) (Nat.le_refl _) (.int .i64 0)).setCell (p := ⟨w.heap.size, 2, none⟩) (Nat.le_refl _) (.int .i64 0)).setCell (p := ⟨w.heap.size, 3, none⟩) (Nat.le_refl _) (.int .i64 0))
  generalize ((((w2.setCell ⟨w.heap.size, 0, none⟩ (.int .i64 0)).setCell ⟨w.heap.size, 1, none⟩ (.int .i64 0)).setCell ⟨w.heap.size, 2, none⟩ (.int .i64 0)).setCell ⟨w.heap.size, 3, none⟩ (.int .i64 0)) = W9 at Y C1 ⊢
  clear m0 m1 m2 m3
  have m0 := Y.cell 0
  have m1 := Y.cell 1
  have m2 := Y.cell 2
  have m3 := Y.cell 3
  simp at m0 m1 m2 m3
  refine bodyPost_ret (v := .tuple #[.agg #[.int .i64 0, .int .i64 0, .int .i64 0, .int .i64 0], .int .i64 30]) (by simp [results, Tryz.results28, go_sem, m0, m1, m2, m3]) rfl ?_
  exact ⟨rfl, C1⟩

set_option maxRecDepth 100000 in
set_option maxHeartbeats 2000000 in
theorem refGetSuper_bad (n cap : Nat) (a : Option Addr) (xs : List UInt8) (b e q t : Int) (w : World) (Hn : Hid (xs.length = n)) (hm : n ≤ 9223372036854775807) (hr : Rd w a xs) (hB : Hid (i64 (num xs 8 8) = b)) (hE : Hid (i64 (num xs 16 8) = e)) (hQ : Hid (i64 (num xs 24 8) = q)) (hT : Hid (i64 (num xs 32 8) = t)) (S : List UInt8) (HP : Hid (putSuper b e q t = some S)) (HS : Hid (S.length = 4096)) (hS : (S == xs) = false) :
    Calls Tryz.prog 28 #[.slice a n cap] w fun r w' => GetsS w w' none r := by
  have B0 := (Below.refl w.heap.size w).alloc (Nat.le_refl _) (.cells #[.int .i64 0, .int .i64 0, .int .i64 0, .int .i64 0] 28)
  have x0 := Box.new w #[.int .i64 0, .int .i64 0, .int .i64 0, .int .i64 0] 28
  go_enter Tryz.func28, Tryz.ntmps28
  go_wp2_with fail
  obtain ⟨W, hW⟩ : ∃ W, W = w.alloc (.cells #[.int .i64 0, .int .i64 0, .int .i64 0, .int .i64 0] 28) := ⟨_, rfl⟩
  rw [← hW] at x0 B0 ⊢
  clear hW
  have hr0 := hr.below B0 (Nat.le_refl _)
  refine (refnumber_at cap n a xs 8 8 8 W rfl Hn.out (by omega) (by omega) hm hr0).mono ?_
  rintro r w' ⟨rfl, rfl⟩
  rw [hB.out]
  go_wp2_with fail
  refine (refnumber_at cap n a xs 16 8 8 W rfl Hn.out (by omega) (by omega) hm hr0).mono ?_
  rintro r w' ⟨rfl, rfl⟩
  rw [hE.out]
  go_wp2_with fail
  refine (refnumber_at cap n a xs 24 8 8 W rfl Hn.out (by omega) (by omega) hm hr0).mono ?_
  rintro r w' ⟨rfl, rfl⟩
  rw [hQ.out]
  go_wp2_with fail
  refine (refnumber_at cap n a xs 32 8 8 W rfl Hn.out (by omega) (by omega) hm hr0).mono ?_
  rintro r w' ⟨rfl, rfl⟩
  rw [hT.out]
  clear hr0
  have x4 := Box.new W #[.int .i64 b, .int .i64 e, .int .i64 q, .int .i64 t] 28
  have bA := (Below.refl W.heap.size W).alloc (Nat.le_refl _) (.cells #[.int .i64 b, .int .i64 e, .int .i64 q, .int .i64 t] 28)
  have B1 := B0.trans (bA.mono B0.size)
  have x1 := x0.below bA
  go_wp2_with fail
  obtain ⟨U, hU⟩ : ∃ U, U = W.alloc (.cells #[.int .i64 b, .int .i64 e, .int .i64 q, .int .i64 t] 28) := ⟨_, rfl⟩
  rw [← hU] at x4 B1 x1 ⊢
  obtain ⟨G, hG⟩ : ∃ G, G = W.heap.size := ⟨_, rfl⟩
  rw [← hG] at x4 ⊢
  clear hU hG bA B0 x0
  refine (refPutSuper_at b e q t U).mono ?_
  rintro r w2 h2
  obtain ⟨g2, c2, rfl, o2, _, _, _, _, b2⟩ := puts_block h2 HP.out HS.out (by omega)
  have r2 := owns_rd_at o2
  have B2 := B1.trans (b2.mono B1.size)
  have x2 := x1.below b2
  have x5 := x4.below b2
  clear h2 o2 b2 B1 x1 x4
  go_wp2_with fail
  refine (same_at _ _ 4096 n _ a S xs w2 HS.out Hn.out r2 (hr.below B2 (Nat.le_refl _))).mono ?_
  rintro r w' ⟨rfl, rfl⟩
  rw [hS]
  clear r2
  have m0 := x2.cell 0
  have m1 := x2.cell 1
  have m2 := x2.cell 2
  have m3 := x2.cell 3
  simp only [List.getElem?_toArray, List.getElem?_cons_zero, List.getElem?_cons_succ] at m0 m1 m2 m3
  have f0 := x2.frozen 0
  have f1 := x2.frozen 1
  have f2 := x2.frozen 2
  have f3 := x2.frozen 3
  go_wp2_with fail
  have Y := ((((x2.store 0 (.int .i64 0)).store 1 (.int .i64 0)).store 2 (.int .i64 0)).store 3 (.int .i64 0))
  have C1 := ((((B2.setCell (p := ⟨w.heap.size, 0, none⟩) (Nat.le_refl _) (.int .i64 0)).setCell (p := ⟨w.heap.size, 1, none⟩) (Nat.le_refl _) (.int .i64 0)).setCell (p := ⟨w.heap.size, 2, none⟩) (Nat.le_refl _) (.int .i64 0)).setCell (p := ⟨w.heap.size, 3, none⟩) (Nat.le_refl _) (.int .i64 0))
  generalize ((((w2.setCell ⟨w.heap.size, 0, none⟩ (.int .i64 0)).setCell ⟨w.heap.size, 1, none⟩ (.int .i64 0)).setCell ⟨w.heap.size, 2, none⟩ (.int .i64 0)).setCell ⟨w.heap.size, 3, none⟩ (.int .i64 0)) = W9 at Y C1 ⊢
  clear m0 m1 m2 m3
  have m0 := Y.cell 0
  have m1 := Y.cell 1
  have m2 := Y.cell 2
  have m3 := Y.cell 3
  simp at m0 m1 m2 m3
  refine bodyPost_ret (v := .tuple #[.agg #[.int .i64 0, .int .i64 0, .int .i64 0, .int .i64 0], .int .i64 30]) (by simp [results, Tryz.results28, go_sem, m0, m1, m2, m3]) rfl ?_
  exact ⟨rfl, C1⟩

set_option maxRecDepth 100000 in
set_option maxHeartbeats 2000000 in
theorem refGetSuper_ok (n cap : Nat) (a : Option Addr) (xs : List UInt8) (b e q t : Int) (w : World) (Hn : Hid (xs.length = n)) (hm : n ≤ 9223372036854775807) (hr : Rd w a xs) (hB : Hid (i64 (num xs 8 8) = b)) (hE : Hid (i64 (num xs 16 8) = e)) (hQ : Hid (i64 (num xs 24 8) = q)) (hT : Hid (i64 (num xs 32 8) = t)) (S : List UInt8) (HP : Hid (putSuper b e q t = some S)) (HS : Hid (S.length = 4096)) (hS : (S == xs) = true) :
    Calls Tryz.prog 28 #[.slice a n cap] w fun r w' => GetsS w w' (some ⟨b, e, q, t⟩) r := by
  have B0 := (Below.refl w.heap.size w).alloc (Nat.le_refl _) (.cells #[.int .i64 0, .int .i64 0, .int .i64 0, .int .i64 0] 28)
  have x0 := Box.new w #[.int .i64 0, .int .i64 0, .int .i64 0, .int .i64 0] 28
  go_enter Tryz.func28, Tryz.ntmps28
  go_wp2_with fail
  obtain ⟨W, hW⟩ : ∃ W, W = w.alloc (.cells #[.int .i64 0, .int .i64 0, .int .i64 0, .int .i64 0] 28) := ⟨_, rfl⟩
  rw [← hW] at x0 B0 ⊢
  clear hW
  have hr0 := hr.below B0 (Nat.le_refl _)
  refine (refnumber_at cap n a xs 8 8 8 W rfl Hn.out (by omega) (by omega) hm hr0).mono ?_
  rintro r w' ⟨rfl, rfl⟩
  rw [hB.out]
  go_wp2_with fail
  refine (refnumber_at cap n a xs 16 8 8 W rfl Hn.out (by omega) (by omega) hm hr0).mono ?_
  rintro r w' ⟨rfl, rfl⟩
  rw [hE.out]
  go_wp2_with fail
  refine (refnumber_at cap n a xs 24 8 8 W rfl Hn.out (by omega) (by omega) hm hr0).mono ?_
  rintro r w' ⟨rfl, rfl⟩
  rw [hQ.out]
  go_wp2_with fail
  refine (refnumber_at cap n a xs 32 8 8 W rfl Hn.out (by omega) (by omega) hm hr0).mono ?_
  rintro r w' ⟨rfl, rfl⟩
  rw [hT.out]
  clear hr0
  have x4 := Box.new W #[.int .i64 b, .int .i64 e, .int .i64 q, .int .i64 t] 28
  have bA := (Below.refl W.heap.size W).alloc (Nat.le_refl _) (.cells #[.int .i64 b, .int .i64 e, .int .i64 q, .int .i64 t] 28)
  have B1 := B0.trans (bA.mono B0.size)
  have x1 := x0.below bA
  go_wp2_with fail
  obtain ⟨U, hU⟩ : ∃ U, U = W.alloc (.cells #[.int .i64 b, .int .i64 e, .int .i64 q, .int .i64 t] 28) := ⟨_, rfl⟩
  rw [← hU] at x4 B1 x1 ⊢
  obtain ⟨G, hG⟩ : ∃ G, G = W.heap.size := ⟨_, rfl⟩
  rw [← hG] at x4 ⊢
  clear hU hG bA B0 x0
  refine (refPutSuper_at b e q t U).mono ?_
  rintro r w2 h2
  obtain ⟨g2, c2, rfl, o2, _, _, _, _, b2⟩ := puts_block h2 HP.out HS.out (by omega)
  have r2 := owns_rd_at o2
  have B2 := B1.trans (b2.mono B1.size)
  have x2 := x1.below b2
  have x5 := x4.below b2
  clear h2 o2 b2 B1 x1 x4
  go_wp2_with fail
  refine (same_at _ _ 4096 n _ a S xs w2 HS.out Hn.out r2 (hr.below B2 (Nat.le_refl _))).mono ?_
  rintro r w' ⟨rfl, rfl⟩
  rw [hS]
  clear r2
  have k0 := x5.cell 0
  have k1 := x5.cell 1
  have k2 := x5.cell 2
  have k3 := x5.cell 3
  simp only [List.getElem?_toArray, List.getElem?_cons_zero, List.getElem?_cons_succ] at k0 k1 k2 k3
  have m0 := x2.cell 0
  have m1 := x2.cell 1
  have m2 := x2.cell 2
  have m3 := x2.cell 3
  simp only [List.getElem?_toArray, List.getElem?_cons_zero, List.getElem?_cons_succ] at m0 m1 m2 m3
  have f0 := x2.frozen 0
  have f1 := x2.frozen 1
  have f2 := x2.frozen 2
  have f3 := x2.frozen 3
  go_wp2_with fail
  have Y := ((((x2.store 0 (.int .i64 b)).store 1 (.int .i64 e)).store 2 (.int .i64 q)).store 3 (.int .i64 t))
  have C1 := ((((B2.setCell (p := ⟨w.heap.size, 0, none⟩) (Nat.le_refl _) (.int .i64 b)).setCell (p := ⟨w.heap.size, 1, none⟩) (Nat.le_refl _) (.int .i64 e)).setCell (p := ⟨w.heap.size, 2, none⟩) (Nat.le_refl _) (.int .i64 q)).setCell (p := ⟨w.heap.size, 3, none⟩) (Nat.le_refl _) (.int .i64 t))
  generalize ((((w2.setCell ⟨w.heap.size, 0, none⟩ (.int .i64 b)).setCell ⟨w.heap.size, 1, none⟩ (.int .i64 e)).setCell ⟨w.heap.size, 2, none⟩ (.int .i64 q)).setCell ⟨w.heap.size, 3, none⟩ (.int .i64 t)) = W9 at Y C1 ⊢
  clear m0 m1 m2 m3
  have m0 := Y.cell 0
  have m1 := Y.cell 1
  have m2 := Y.cell 2
  have m3 := Y.cell 3
  simp at m0 m1 m2 m3
  refine bodyPost_ret (v := .tuple #[.agg #[.int .i64 b, .int .i64 e, .int .i64 q, .int .i64 t], .int .i64 0]) (by simp [results, Tryz.results28, go_sem, m0, m1, m2, m3]) rfl ?_
  exact ⟨rfl, C1⟩

theorem ansS_form (b e q t : Int) (n : Nat) (xs : List UInt8) (hn : xs.length = n) (h : rightS b e q t = true) : ansS b e q t n xs = if superB b.toNat e.toNat q.toNat t.toNat == xs then some ⟨b, e, q, t⟩ else none := by
  unfold ansS
  rw [h, ← hn]
  by_cases hx : superB b.toNat e.toNat q.toNat t.toNat = xs
  · have h1 : isThen xs (headS b.toNat e.toNat q.toNat t.toNat) = true := by rw [← hx]; exact isThen_self (headS b.toNat e.toNat q.toNat t.toNat) 4052
    have h2 : xs.length = 4096 := by rw [← hx]; exact superB_length _ _ _ _
    have h3 : (superB b.toNat e.toNat q.toNat t.toNat == xs) = true := by simpa using hx
    rw [h1, decide_eq_true h2, h3]
    rfl
  · have h3 : (superB b.toNat e.toNat q.toNat t.toNat == xs) = false := by simpa using hx
    rw [h3]
    by_cases h2 : xs.length = 4096
    · have h1 : isThen xs (headS b.toNat e.toNat q.toNat t.toNat) = false := by
        cases h4 : isThen xs (headS b.toNat e.toNat q.toNat t.toNat) with
        | false => rfl
        | true =>
          obtain ⟨_, t2⟩ := isThen_true h4
          rw [h2, headS_length] at t2
          exact absurd t2.symm hx
      rw [h1]
      simp
    · rw [decide_eq_false h2]
      simp

/-- the document's GetSuper is super's -/
theorem refGetSuper_at (n cap : Nat) (a : Option Addr) (xs : List UInt8) (w : World) (hn : xs.length = n) (hm : n ≤ 9223372036854775807) (hr : Rd w a xs) :
    Calls Tryz.prog 28 #[.slice a n cap] w fun r w' => GetsS w w' (getSuper xs) r := by
  have e0 : getSuper xs = ansS (i64 (num xs 8 8)) (i64 (num xs 16 8)) (i64 (num xs 24 8)) (i64 (num xs 32 8)) n xs := by rw [← hn]; rfl
  rw [e0]
  cases h : rightS (i64 (num xs 8 8)) (i64 (num xs 16 8)) (i64 (num xs 24 8)) (i64 (num xs 32 8))
  · have e1 : ansS (i64 (num xs 8 8)) (i64 (num xs 16 8)) (i64 (num xs 24 8)) (i64 (num xs 32 8)) n xs = none := by unfold ansS; rw [h]; rfl
    rw [e1]
    exact refGetSuper_wrong n cap a xs _ _ _ _ w hn hm hr rfl rfl rfl rfl (by unfold putSuper; rw [h]; exact rfl)
  · rw [ansS_form _ _ _ _ n xs hn h]
    obtain ⟨S, hS⟩ : ∃ S, S = superB (i64 (num xs 8 8)).toNat (i64 (num xs 16 8)).toNat (i64 (num xs 24 8)).toNat (i64 (num xs 32 8)).toNat := ⟨_, rfl⟩
    have hP : putSuper (i64 (num xs 8 8)) (i64 (num xs 16 8)) (i64 (num xs 24 8)) (i64 (num xs 32 8)) = some S := by unfold putSuper; rw [h, hS]; rfl
    have hl : S.length = 4096 := by rw [hS]; exact superB_length _ _ _ _
    rw [← hS]
    rcases Bool.eq_false_or_eq_true (S == xs) with hx | hx
    · rw [hx]
      exact refGetSuper_ok n cap a xs _ _ _ _ w hn hm hr rfl rfl rfl rfl S hP hl hx
    · rw [hx]
      exact refGetSuper_bad n cap a xs _ _ _ _ w hn hm hr rfl rfl rfl rfl S hP hl hx
end Go.Proofs.YtdkaacjeogifdaaGreat.Su

/-
  The document's own Choose.
-/
namespace Go.Proofs.YtdkaacjeogifdaaGreat.H
open Go.RowKit
open Go.Proofs.YtdkaacjeogifdaaGreat.Su (wi Sup zeroS supV getSuper GetsS erG Rd)
open Go.Proofs.YtdkaacjeogifdaaGreat.Dk (Box)

set_option maxRecDepth 100000 in
set_option maxHeartbeats 4000000 in
theorem rchoose_in (a b : Value) (e1 e2 : Int) (x y : Sup) (s : Sup) (k : Int) (ok : Bool) (w : World)
    (cA : ∀ u, Below w.heap.size w u → Calls Tryz.prog 28 #[a] u fun r w' => r = .returned (.tuple #[supV x, .int .i64 e1]) ∧ Below u.heap.size u w')
    (cB : ∀ u, Below w.heap.size w u → Calls Tryz.prog 28 #[b] u fun r w' => r = .returned (.tuple #[supV y, .int .i64 e2]) ∧ Below u.heap.size u w')
    (h : (e1 = 30 ∧ e2 = 30 ∧ s = zeroS ∧ k = 0 ∧ ok = false) ∨ (e1 = 30 ∧ e2 = 0 ∧ s = y ∧ k = 1 ∧ ok = true) ∨ (e1 = 0 ∧ e2 = 30 ∧ s = x ∧ k = 0 ∧ ok = true) ∨ (e1 = 0 ∧ e2 = 0 ∧ y.e < x.e ∧ s = x ∧ k = 0 ∧ ok = true) ∨ (e1 = 0 ∧ e2 = 0 ∧ x.e < y.e ∧ s = y ∧ k = 1 ∧ ok = true) ∨ (e1 = 0 ∧ e2 = 0 ∧ x.e = y.e ∧ y.q ≤ x.q ∧ s = x ∧ k = 0 ∧ ok = true) ∨ (e1 = 0 ∧ e2 = 0 ∧ x.e = y.e ∧ x.q < y.q ∧ s = y ∧ k = 1 ∧ ok = true)) :
    Calls Tryz.prog 6 #[a, b] w fun r w' => r = .returned (.tuple #[supV s, .int .i64 k, .bool ok]) ∧ Below w.heap.size w w' := by
  have al := (Below.refl w.heap.size w).alloc (Nat.le_refl _) (.cells #[.int .i64 0, .int .i64 0, .int .i64 0, .int .i64 0] 28)
  have bz := Box.new w #[.int .i64 0, .int .i64 0, .int .i64 0, .int .i64 0] 28
  have cA1 := cA _ al
  have HC : Hid (∀ u, Below w.heap.size w u → Calls Tryz.prog 28 #[b] u fun r w' => r = .returned (.tuple #[supV y, .int .i64 e2]) ∧ Below u.heap.size u w') := cB
  clear cA cB
  obtain ⟨xb, xe, xq, xt⟩ := x
  obtain ⟨yb, ye, yq, yt⟩ := y
  unfold supV at cA1
  dsimp only at cA1 h
  go_enter Tryz.func6, Tryz.ntmps6
  go_wp2_with fail
  refine Calls.mono cA1 ?_
  rintro r u1 ⟨rfl, b1⟩
  have B1 := al.trans (b1.mono al.size)
  have bz1 := (bz.below b1).alloc (.cells #[.int .i64 xb, .int .i64 xe, .int .i64 xq, .int .i64 xt] 28)
  have bx1 := Box.new u1 #[.int .i64 xb, .int .i64 xe, .int .i64 xq, .int .i64 xt] 28
  have B2 := B1.alloc B1.size (.cells #[.int .i64 xb, .int .i64 xe, .int .i64 xq, .int .i64 xt] 28)
  have cB1 := HC.out _ B2
  unfold supV at cB1
  dsimp only at cB1
  clear al bz cA1 b1
  go_wp2_with fail
  refine Calls.mono cB1 ?_
  rintro r u2 ⟨rfl, b2⟩
  have B3 := B2.trans (b2.mono B2.size)
  have bz2 := (bz1.below b2).alloc (.cells #[.int .i64 yb, .int .i64 ye, .int .i64 yq, .int .i64 yt] 28)
  have bx2 := (bx1.below b2).alloc (.cells #[.int .i64 yb, .int .i64 ye, .int .i64 yq, .int .i64 yt] 28)
  have by2 := Box.new u2 #[.int .i64 yb, .int .i64 ye, .int .i64 yq, .int .i64 yt] 28
  have B4 := B3.alloc B3.size (.cells #[.int .i64 yb, .int .i64 ye, .int .i64 yq, .int .i64 yt] 28)
  clear HC cB1 bz1 bx1 b2 B2 B1
  rcases h with ⟨rfl, rfl, rfl, rfl, rfl⟩ | ⟨rfl, rfl, rfl, rfl, rfl⟩ | ⟨rfl, rfl, rfl, rfl, rfl⟩ | ⟨rfl, rfl, hc, rfl, rfl, rfl⟩ | ⟨rfl, rfl, hc, rfl, rfl, rfl⟩ | ⟨rfl, rfl, he, hc, rfl, rfl, rfl⟩ | ⟨rfl, rfl, he, hc, rfl, rfl, rfl⟩
  · have f0 := bz2.frozen 0
    have n0 := bz2.cell 0
    have k0 := bx2.cell 0
    have j0 := by2.cell 0
    have f1 := bz2.frozen 1
    have n1 := bz2.cell 1
    have k1 := bx2.cell 1
    have j1 := by2.cell 1
    have f2 := bz2.frozen 2
    have n2 := bz2.cell 2
    have k2 := bx2.cell 2
    have j2 := by2.cell 2
    have f3 := bz2.frozen 3
    have n3 := bz2.cell 3
    have k3 := bx2.cell 3
    have j3 := by2.cell 3
    simp only [List.getElem?_toArray, List.getElem?_cons_zero, List.getElem?_cons_succ] at n0 n1 n2 n3 k0 k1 k2 k3 j0 j1 j2 j3
    go_wp2_with fail
    have Z := ((((bz2.store 0 (.int .i64 0)).store 1 (.int .i64 0)).store 2 (.int .i64 0)).store 3 (.int .i64 0))
    have C := ((((B4.setCell (p := ⟨w.heap.size, 0, none⟩) (Nat.le_refl _) (.int .i64 0)).setCell (p := ⟨w.heap.size, 1, none⟩) (Nat.le_refl _) (.int .i64 0)).setCell (p := ⟨w.heap.size, 2, none⟩) (Nat.le_refl _) (.int .i64 0)).setCell (p := ⟨w.heap.size, 3, none⟩) (Nat.le_refl _) (.int .i64 0))
    generalize (((((u2.alloc (.cells #[.int .i64 yb, .int .i64 ye, .int .i64 yq, .int .i64 yt] 28)).setCell ⟨w.heap.size, 0, none⟩ (.int .i64 0)).setCell ⟨w.heap.size, 1, none⟩ (.int .i64 0)).setCell ⟨w.heap.size, 2, none⟩ (.int .i64 0)).setCell ⟨w.heap.size, 3, none⟩ (.int .i64 0)) = W9 at Z C ⊢
    clear n0 n1 n2 n3
    have m0 := Z.cell 0
    have m1 := Z.cell 1
    have m2 := Z.cell 2
    have m3 := Z.cell 3
    simp at m0 m1 m2 m3
    refine bodyPost_ret (v := .tuple #[.agg #[.int .i64 0, .int .i64 0, .int .i64 0, .int .i64 0], .int .i64 0, .bool false]) (by simp [results, Tryz.results6, go_sem, m0, m1, m2, m3]) rfl ?_
    exact ⟨rfl, C⟩
  · have f0 := bz2.frozen 0
    have n0 := bz2.cell 0
    have k0 := bx2.cell 0
    have j0 := by2.cell 0
    have f1 := bz2.frozen 1
    have n1 := bz2.cell 1
    have k1 := bx2.cell 1
    have j1 := by2.cell 1
    have f2 := bz2.frozen 2
    have n2 := bz2.cell 2
    have k2 := bx2.cell 2
    have j2 := by2.cell 2
    have f3 := bz2.frozen 3
    have n3 := bz2.cell 3
    have k3 := bx2.cell 3
    have j3 := by2.cell 3
    simp only [List.getElem?_toArray, List.getElem?_cons_zero, List.getElem?_cons_succ] at n0 n1 n2 n3 k0 k1 k2 k3 j0 j1 j2 j3
    go_wp2_with fail
    have Z := ((((bz2.store 0 (.int .i64 yb)).store 1 (.int .i64 ye)).store 2 (.int .i64 yq)).store 3 (.int .i64 yt))
    have C := ((((B4.setCell (p := ⟨w.heap.size, 0, none⟩) (Nat.le_refl _) (.int .i64 yb)).setCell (p := ⟨w.heap.size, 1, none⟩) (Nat.le_refl _) (.int .i64 ye)).setCell (p := ⟨w.heap.size, 2, none⟩) (Nat.le_refl _) (.int .i64 yq)).setCell (p := ⟨w.heap.size, 3, none⟩) (Nat.le_refl _) (.int .i64 yt))
    generalize (((((u2.alloc (.cells #[.int .i64 yb, .int .i64 ye, .int .i64 yq, .int .i64 yt] 28)).setCell ⟨w.heap.size, 0, none⟩ (.int .i64 yb)).setCell ⟨w.heap.size, 1, none⟩ (.int .i64 ye)).setCell ⟨w.heap.size, 2, none⟩ (.int .i64 yq)).setCell ⟨w.heap.size, 3, none⟩ (.int .i64 yt)) = W9 at Z C ⊢
    clear n0 n1 n2 n3
    have m0 := Z.cell 0
    have m1 := Z.cell 1
    have m2 := Z.cell 2
    have m3 := Z.cell 3
    simp at m0 m1 m2 m3
    refine bodyPost_ret (v := .tuple #[.agg #[.int .i64 yb, .int .i64 ye, .int .i64 yq, .int .i64 yt], .int .i64 1, .bool true]) (by simp [results, Tryz.results6, go_sem, m0, m1, m2, m3]) rfl ?_
    exact ⟨rfl, C⟩
  · have f0 := bz2.frozen 0
    have n0 := bz2.cell 0
    have k0 := bx2.cell 0
    have j0 := by2.cell 0
    have f1 := bz2.frozen 1
    have n1 := bz2.cell 1
    have k1 := bx2.cell 1
    have j1 := by2.cell 1
    have f2 := bz2.frozen 2
    have n2 := bz2.cell 2
    have k2 := bx2.cell 2
    have j2 := by2.cell 2
    have f3 := bz2.frozen 3
    have n3 := bz2.cell 3
    have k3 := bx2.cell 3
    have j3 := by2.cell 3
    simp only [List.getElem?_toArray, List.getElem?_cons_zero, List.getElem?_cons_succ] at n0 n1 n2 n3 k0 k1 k2 k3 j0 j1 j2 j3
    go_wp2_with fail
    have Z := ((((bz2.store 0 (.int .i64 xb)).store 1 (.int .i64 xe)).store 2 (.int .i64 xq)).store 3 (.int .i64 xt))
    have C := ((((B4.setCell (p := ⟨w.heap.size, 0, none⟩) (Nat.le_refl _) (.int .i64 xb)).setCell (p := ⟨w.heap.size, 1, none⟩) (Nat.le_refl _) (.int .i64 xe)).setCell (p := ⟨w.heap.size, 2, none⟩) (Nat.le_refl _) (.int .i64 xq)).setCell (p := ⟨w.heap.size, 3, none⟩) (Nat.le_refl _) (.int .i64 xt))
    generalize (((((u2.alloc (.cells #[.int .i64 yb, .int .i64 ye, .int .i64 yq, .int .i64 yt] 28)).setCell ⟨w.heap.size, 0, none⟩ (.int .i64 xb)).setCell ⟨w.heap.size, 1, none⟩ (.int .i64 xe)).setCell ⟨w.heap.size, 2, none⟩ (.int .i64 xq)).setCell ⟨w.heap.size, 3, none⟩ (.int .i64 xt)) = W9 at Z C ⊢
    clear n0 n1 n2 n3
    have m0 := Z.cell 0
    have m1 := Z.cell 1
    have m2 := Z.cell 2
    have m3 := Z.cell 3
    simp at m0 m1 m2 m3
    refine bodyPost_ret (v := .tuple #[.agg #[.int .i64 xb, .int .i64 xe, .int .i64 xq, .int .i64 xt], .int .i64 0, .bool true]) (by simp [results, Tryz.results6, go_sem, m0, m1, m2, m3]) rfl ?_
    exact ⟨rfl, C⟩
  · have f0 := bz2.frozen 0
    have n0 := bz2.cell 0
    have k0 := bx2.cell 0
    have j0 := by2.cell 0
    have f1 := bz2.frozen 1
    have n1 := bz2.cell 1
    have k1 := bx2.cell 1
    have j1 := by2.cell 1
    have f2 := bz2.frozen 2
    have n2 := bz2.cell 2
    have k2 := bx2.cell 2
    have j2 := by2.cell 2
    have f3 := bz2.frozen 3
    have n3 := bz2.cell 3
    have k3 := bx2.cell 3
    have j3 := by2.cell 3
    simp only [List.getElem?_toArray, List.getElem?_cons_zero, List.getElem?_cons_succ] at n0 n1 n2 n3 k0 k1 k2 k3 j0 j1 j2 j3
    have hne : (xe != ye) = true := by simp; omega
    have hgt : (ye < xe) = True := by simp; omega
    go_wp2_with fail
    have Z := ((((bz2.store 0 (.int .i64 xb)).store 1 (.int .i64 xe)).store 2 (.int .i64 xq)).store 3 (.int .i64 xt))
    have C := ((((B4.setCell (p := ⟨w.heap.size, 0, none⟩) (Nat.le_refl _) (.int .i64 xb)).setCell (p := ⟨w.heap.size, 1, none⟩) (Nat.le_refl _) (.int .i64 xe)).setCell (p := ⟨w.heap.size, 2, none⟩) (Nat.le_refl _) (.int .i64 xq)).setCell (p := ⟨w.heap.size, 3, none⟩) (Nat.le_refl _) (.int .i64 xt))
    generalize (((((u2.alloc (.cells #[.int .i64 yb, .int .i64 ye, .int .i64 yq, .int .i64 yt] 28)).setCell ⟨w.heap.size, 0, none⟩ (.int .i64 xb)).setCell ⟨w.heap.size, 1, none⟩ (.int .i64 xe)).setCell ⟨w.heap.size, 2, none⟩ (.int .i64 xq)).setCell ⟨w.heap.size, 3, none⟩ (.int .i64 xt)) = W9 at Z C ⊢
    clear n0 n1 n2 n3
    have m0 := Z.cell 0
    have m1 := Z.cell 1
    have m2 := Z.cell 2
    have m3 := Z.cell 3
    simp at m0 m1 m2 m3
    refine bodyPost_ret (v := .tuple #[.agg #[.int .i64 xb, .int .i64 xe, .int .i64 xq, .int .i64 xt], .int .i64 0, .bool true]) (by simp [results, Tryz.results6, go_sem, m0, m1, m2, m3]) rfl ?_
    exact ⟨rfl, C⟩
  · have f0 := bz2.frozen 0
    have n0 := bz2.cell 0
    have k0 := bx2.cell 0
    have j0 := by2.cell 0
    have f1 := bz2.frozen 1
    have n1 := bz2.cell 1
    have k1 := bx2.cell 1
    have j1 := by2.cell 1
    have f2 := bz2.frozen 2
    have n2 := bz2.cell 2
    have k2 := bx2.cell 2
    have j2 := by2.cell 2
    have f3 := bz2.frozen 3
    have n3 := bz2.cell 3
    have k3 := bx2.cell 3
    have j3 := by2.cell 3
    simp only [List.getElem?_toArray, List.getElem?_cons_zero, List.getElem?_cons_succ] at n0 n1 n2 n3 k0 k1 k2 k3 j0 j1 j2 j3
    have hne : (xe != ye) = true := by simp; omega
    have hgt : (ye < xe) = False := by simp; omega
    go_wp2_with fail
    have Z := ((((bz2.store 0 (.int .i64 yb)).store 1 (.int .i64 ye)).store 2 (.int .i64 yq)).store 3 (.int .i64 yt))
    have C := ((((B4.setCell (p := ⟨w.heap.size, 0, none⟩) (Nat.le_refl _) (.int .i64 yb)).setCell (p := ⟨w.heap.size, 1, none⟩) (Nat.le_refl _) (.int .i64 ye)).setCell (p := ⟨w.heap.size, 2, none⟩) (Nat.le_refl _) (.int .i64 yq)).setCell (p := ⟨w.heap.size, 3, none⟩) (Nat.le_refl _) (.int .i64 yt))
    generalize (((((u2.alloc (.cells #[.int .i64 yb, .int .i64 ye, .int .i64 yq, .int .i64 yt] 28)).setCell ⟨w.heap.size, 0, none⟩ (.int .i64 yb)).setCell ⟨w.heap.size, 1, none⟩ (.int .i64 ye)).setCell ⟨w.heap.size, 2, none⟩ (.int .i64 yq)).setCell ⟨w.heap.size, 3, none⟩ (.int .i64 yt)) = W9 at Z C ⊢
    clear n0 n1 n2 n3
    have m0 := Z.cell 0
    have m1 := Z.cell 1
    have m2 := Z.cell 2
    have m3 := Z.cell 3
    simp at m0 m1 m2 m3
    refine bodyPost_ret (v := .tuple #[.agg #[.int .i64 yb, .int .i64 ye, .int .i64 yq, .int .i64 yt], .int .i64 1, .bool true]) (by simp [results, Tryz.results6, go_sem, m0, m1, m2, m3]) rfl ?_
    exact ⟨rfl, C⟩
  · have f0 := bz2.frozen 0
    have n0 := bz2.cell 0
    have k0 := bx2.cell 0
    have j0 := by2.cell 0
    have f1 := bz2.frozen 1
    have n1 := bz2.cell 1
    have k1 := bx2.cell 1
    have j1 := by2.cell 1
    have f2 := bz2.frozen 2
    have n2 := bz2.cell 2
    have k2 := bx2.cell 2
    have j2 := by2.cell 2
    have f3 := bz2.frozen 3
    have n3 := bz2.cell 3
    have k3 := bx2.cell 3
    have j3 := by2.cell 3
    simp only [List.getElem?_toArray, List.getElem?_cons_zero, List.getElem?_cons_succ] at n0 n1 n2 n3 k0 k1 k2 k3 j0 j1 j2 j3
    have hne : (xe != ye) = false := by simp [he]
    clear he
    have hge : (yq ≤ xq) = True := by simp; omega
    go_wp2_with fail
    have Z := ((((bz2.store 0 (.int .i64 xb)).store 1 (.int .i64 xe)).store 2 (.int .i64 xq)).store 3 (.int .i64 xt))
    have C := ((((B4.setCell (p := ⟨w.heap.size, 0, none⟩) (Nat.le_refl _) (.int .i64 xb)).setCell (p := ⟨w.heap.size, 1, none⟩) (Nat.le_refl _) (.int .i64 xe)).setCell (p := ⟨w.heap.size, 2, none⟩) (Nat.le_refl _) (.int .i64 xq)).setCell (p := ⟨w.heap.size, 3, none⟩) (Nat.le_refl _) (.int .i64 xt))
    generalize (((((u2.alloc (.cells #[.int .i64 yb, .int .i64 ye, .int .i64 yq, .int .i64 yt] 28)).setCell ⟨w.heap.size, 0, none⟩ (.int .i64 xb)).setCell ⟨w.heap.size, 1, none⟩ (.int .i64 xe)).setCell ⟨w.heap.size, 2, none⟩ (.int .i64 xq)).setCell ⟨w.heap.size, 3, none⟩ (.int .i64 xt)) = W9 at Z C ⊢
    clear n0 n1 n2 n3
    have m0 := Z.cell 0
    have m1 := Z.cell 1
    have m2 := Z.cell 2
    have m3 := Z.cell 3
    simp at m0 m1 m2 m3
    refine bodyPost_ret (v := .tuple #[.agg #[.int .i64 xb, .int .i64 xe, .int .i64 xq, .int .i64 xt], .int .i64 0, .bool true]) (by simp [results, Tryz.results6, go_sem, m0, m1, m2, m3]) rfl ?_
    exact ⟨rfl, C⟩
  · have f0 := bz2.frozen 0
    have n0 := bz2.cell 0
    have k0 := bx2.cell 0
    have j0 := by2.cell 0
    have f1 := bz2.frozen 1
    have n1 := bz2.cell 1
    have k1 := bx2.cell 1
    have j1 := by2.cell 1
    have f2 := bz2.frozen 2
    have n2 := bz2.cell 2
    have k2 := bx2.cell 2
    have j2 := by2.cell 2
    have f3 := bz2.frozen 3
    have n3 := bz2.cell 3
    have k3 := bx2.cell 3
    have j3 := by2.cell 3
    simp only [List.getElem?_toArray, List.getElem?_cons_zero, List.getElem?_cons_succ] at n0 n1 n2 n3 k0 k1 k2 k3 j0 j1 j2 j3
    have hne : (xe != ye) = false := by simp [he]
    clear he
    have hge : (yq ≤ xq) = False := by simp; omega
    go_wp2_with fail
    have Z := ((((bz2.store 0 (.int .i64 yb)).store 1 (.int .i64 ye)).store 2 (.int .i64 yq)).store 3 (.int .i64 yt))
    have C := ((((B4.setCell (p := ⟨w.heap.size, 0, none⟩) (Nat.le_refl _) (.int .i64 yb)).setCell (p := ⟨w.heap.size, 1, none⟩) (Nat.le_refl _) (.int .i64 ye)).setCell (p := ⟨w.heap.size, 2, none⟩) (Nat.le_refl _) (.int .i64 yq)).setCell (p := ⟨w.heap.size, 3, none⟩) (Nat.le_refl _) (.int .i64 yt))
    generalize (((((u2.alloc (.cells #[.int .i64 yb, .int .i64 ye, .int .i64 yq, .int .i64 yt] 28)).setCell ⟨w.heap.size, 0, none⟩ (.int .i64 yb)).setCell ⟨w.heap.size, 1, none⟩ (.int .i64 ye)).setCell ⟨w.heap.size, 2, none⟩ (.int .i64 yq)).setCell ⟨w.heap.size, 3, none⟩ (.int .i64 yt)) = W9 at Z C ⊢
    clear n0 n1 n2 n3
    have m0 := Z.cell 0
    have m1 := Z.cell 1
    have m2 := Z.cell 2
    have m3 := Z.cell 3
    simp at m0 m1 m2 m3
    refine bodyPost_ret (v := .tuple #[.agg #[.int .i64 yb, .int .i64 ye, .int .i64 yq, .int .i64 yt], .int .i64 1, .bool true]) (by simp [results, Tryz.results6, go_sem, m0, m1, m2, m3]) rfl ?_
    exact ⟨rfl, C⟩

theorem rchoose_at (n1 c1 n2 c2 : Nat) (a1 a2 : Option Addr) (xs ys : List UInt8) (w : World) (hn1 : xs.length = n1) (hm1 : n1 ≤ 9223372036854775807) (hr1 : Rd w a1 xs) (hn2 : ys.length = n2) (hm2 : n2 ≤ 9223372036854775807) (hr2 : Rd w a2 ys) :
    Calls Tryz.prog 6 #[.slice a1 n1 c1, .slice a2 n2 c2] w fun r w' => r = .returned (.tuple #[supV (choose (getSuper xs) (getSuper ys)).1, .int .i64 (choose (getSuper xs) (getSuper ys)).2.1, .bool (choose (getSuper xs) (getSuper ys)).2.2]) ∧ Below w.heap.size w w' := by
  refine rchoose_in _ _ (erG (getSuper xs).isSome) (erG (getSuper ys).isSome) ((getSuper xs).getD zeroS) ((getSuper ys).getD zeroS) _ _ _ w (fun u bu => Su.refGetSuper_at n1 c1 a1 xs u hn1 hm1 (hr1.below bu (Nat.le_refl _))) (fun u bu => Su.refGetSuper_at n2 c2 a2 ys u hn2 hm2 (hr2.below bu (Nat.le_refl _))) ?_
  rcases getSuper xs with _ | x <;> rcases getSuper ys with _ | y
  · exact .inl ⟨rfl, rfl, rfl, rfl, rfl⟩
  · exact .inr (.inl ⟨rfl, rfl, rfl, rfl, rfl⟩)
  · exact .inr (.inr (.inl ⟨rfl, rfl, rfl, rfl, rfl⟩))
  · have hl : later y x = (decide (x.e < y.e) || (y.e == x.e) && decide (x.q < y.q)) := rfl
    show _ ∨ _ ∨ _ ∨ (_ ∧ _ ∧ y.e < x.e ∧ _) ∨ (_ ∧ _ ∧ x.e < y.e ∧ _) ∨ (_ ∧ _ ∧ x.e = y.e ∧ y.q ≤ x.q ∧ _) ∨ (_ ∧ _ ∧ x.e = y.e ∧ x.q < y.q ∧ _)
    rcases Int.lt_trichotomy x.e y.e with h | h | h
    · have h2 : later y x = true := by rw [hl]; simp [h]
      exact .inr (.inr (.inr (.inr (.inl ⟨rfl, rfl, h, by simp [choose, h2], by simp [choose, h2], by simp [choose, h2]⟩))))
    · by_cases hq : x.q < y.q
      · have h2 : later y x = true := by rw [hl]; simp [h, hq]
        exact .inr (.inr (.inr (.inr (.inr (.inr ⟨rfl, rfl, h, hq, by simp [choose, h2], by simp [choose, h2], by simp [choose, h2]⟩)))))
      · have h2 : later y x = false := by rw [hl]; simp [h, hq]
        exact .inr (.inr (.inr (.inr (.inr (.inl ⟨rfl, rfl, h, by omega, by simp [choose, h2], by simp [choose, h2], by simp [choose, h2]⟩)))))
    · have h2 : later y x = false := by rw [hl]; simp; omega
      exact .inr (.inr (.inr (.inl ⟨rfl, rfl, h, by simp [choose, h2], by simp [choose, h2], by simp [choose, h2]⟩)))
end Go.Proofs.YtdkaacjeogifdaaGreat.H

/-
  The document's disk: Crash.
-/
namespace Go.Proofs.YtdkaacjeogifdaaGreat.Dk
open Go.RowKit

theorem and_pow8 (a s : Nat) (ha : a < 256) (hs : s < 8) : (bits .and .u8 (a : Int) ((2 : Int) ^ s % 256) == 0) = !bit a s := by
  have e : (2 : Int) ^ s % 256 = ((2 ^ s : Nat) : Int) := by
    have : s = 0 ∨ s = 1 ∨ s = 2 ∨ s = 3 ∨ s = 4 ∨ s = 5 ∨ s = 6 ∨ s = 7 := by omega
    rcases this with rfl | rfl | rfl | rfl | rfl | rfl | rfl | rfl <;> rfl
  rw [e]
  have h : ∀ a : Fin 256, ∀ s : Fin 8, (bits .and .u8 ((a.val : Nat) : Int) ((2 ^ s.val : Nat) : Int) == 0) = !bit a.val s.val := by decide +kernel
  exact h ⟨a, ha⟩ ⟨s, hs⟩

/-- the first k bytes of a torn block -/
def torn (old data : List UInt8) (m : Nat) : Nat → List UInt8
  | 0 => old
  | k + 1 => if bit m (k / 512) then (torn old data m k).set k (data.getD k 0) else torn old data m k
theorem torn_length (old data : List UInt8) (m : Nat) : ∀ k, (torn old data m k).length = old.length
  | 0 => rfl
  | k + 1 => by rw [torn]; split <;> simp [torn_length old data m k]
theorem torn_get (old data : List UInt8) (m : Nat) (ho : old.length = 4096) (hd : data.length = 4096) : ∀ k, k ≤ 4096 → ∀ i, (torn old data m k)[i]? = if i < k ∧ bit m (i / 512) = true then data[i]? else old[i]?
  | 0, _, i => by simp [torn]
  | k + 1, hk, i => by
    have ih := torn_get old data m ho hd k (by omega) i
    rw [torn]
    by_cases hb : bit m (k / 512) = true
    · rw [if_pos hb]
      by_cases e : i = k
      · subst e
        rw [List.getElem?_set, if_pos rfl, torn_length, if_pos (by omega), if_pos ⟨by omega, hb⟩]
        simp [List.getD, List.getElem?_eq_getElem (show i < data.length by omega)]
      · rw [List.getElem?_set, if_neg (fun h => e h.symm), ih]
        by_cases h : i < k ∧ bit m (i / 512) = true
        · rw [if_pos h, if_pos ⟨by omega, h.2⟩]
        · rw [if_neg h, if_neg (fun q => h ⟨by omega, q.2⟩)]
    · rw [if_neg hb, ih]
      by_cases h : i < k ∧ bit m (i / 512) = true
      · rw [if_pos h, if_pos ⟨by omega, h.2⟩]
      · rw [if_neg h, if_neg (fun q => by
          by_cases e : i = k
          · subst e; exact hb q.2
          · exact h ⟨by omega, q.2⟩)]
theorem torn_carry (d : List UInt8) (b : Nat) (data : List UInt8) (m : Nat) (hb : b * 4096 + 4096 ≤ d.length) (hd : data.length = 4096) : torn (blk d b) data m 4096 = blk (carry d b data m) b := by
  apply List.ext_getElem?
  intro i
  rw [torn_get _ _ _ (blk_length _ _ hb) hd 4096 (Nat.le_refl _), blk_get, blk_get]
  by_cases h : i < 4096
  · rw [if_pos h, if_pos h, carry_get d b data m hb hd, show b * 4096 + i - b * 4096 = i by omega]
    by_cases hbit : bit m (i / 512) = true
    · rw [if_pos ⟨h, hbit⟩, if_pos ⟨Nat.le_add_right _ _, Nat.add_lt_add_left h _, hbit⟩]
    · rw [if_neg (fun q => hbit q.2), if_neg (fun q => hbit q.2.2)]
  · rw [if_neg h, if_neg h, if_neg (fun q => h q.1)]

/-- the row of blocks while writes are carried out -/
structure CRow (w0 w : World) (Q : Nat → Prop) (g n c : Nat) (d : List UInt8) : Prop where
  box : ∃ cur : Array Value, Box w g cur 22 ∧ cur.size = c ∧ n ≤ c ∧ c ≤ maxLen ∧ ∀ j, j < n → ∃ u, cur[j]? = some u ∧ BlkAt w Q u (blk d j)
  base : w0.heap.size ≤ g
theorem CRow.cell {w0 w : World} {Q : Nat → Prop} {g n c : Nat} {d : List UInt8} (h : CRow w0 w Q g n c d) (j : Nat) (hj : j < n) : ∃ p o c', w.cell? ⟨g, j, none⟩ = some (.slice (some ⟨p, o, none⟩) 4096 c') ∧ BlkAt w Q (.slice (some ⟨p, o, none⟩) 4096 c') (blk d j) := by
  obtain ⟨cur, hb, _, _, _, he⟩ := h.box
  obtain ⟨u, hu, hB⟩ := he j hj
  obtain ⟨p, o, c', rfl, _⟩ := id hB
  exact ⟨p, o, c', by rw [hb.cell j]; exact hu, hB⟩
theorem CRow.frozen {w0 w : World} {Q : Nat → Prop} {g n c : Nat} {d : List UInt8} (h : CRow w0 w Q g n c d) (j : Nat) : w.frozen? ⟨g, j, none⟩ = false := by
  obtain ⟨cur, hb, _⟩ := h.box
  exact hb.frozen j
theorem CRow.below {w0 w w' : World} {Q : Nat → Prop} {g n c : Nat} {d : List UInt8} (h : CRow w0 w Q g n c d) (b : Below w.heap.size w w') : CRow w0 w' Q g n c d := by
  obtain ⟨⟨cur, hb, h1, h2, h3, he⟩, hg⟩ := h
  refine ⟨⟨cur, (b.block g hb.lt).trans hb, h1, h2, h3, fun j hj => ?_⟩, hg⟩
  obtain ⟨u, hu, hB⟩ := he j hj
  exact ⟨u, hu, hB.move (fun i hi _ _ => b.block i hi) (fun _ _ h => h)⟩
/-- one block is put in another's place -/
theorem CRow.put {w0 w : World} {Q : Nat → Prop} {g n c : Nat} {d d' : List UInt8} (h : CRow w0 w Q g n c d) (b : Nat) (hb : b < n) (v : Value) (hv : BlkAt w Q v (blk d' b)) (hd : ∀ j, j < n → j ≠ b → blk d' j = blk d j) : CRow w0 (w.setCell ⟨g, b, none⟩ v) Q g n c d' := by
  obtain ⟨⟨cur, hb27, h1, h2, h3, he⟩, hg⟩ := h
  have mv : ∀ u y, BlkAt w Q u y → BlkAt (w.setCell ⟨g, b, none⟩ v) Q u y := fun u y q => q.move5 (fun i c5 hi => heap_setCell_other w ⟨g, b, none⟩ i v (hi.ne hb27 (by decide)))
  refine ⟨⟨_, hb27.store b v, by rw [Array.size_setIfInBounds]; exact h1, h2, h3, fun j hj => ?_⟩, hg⟩
  by_cases e : j = b
  · subst e
    exact ⟨v, by rw [Array.getElem?_setIfInBounds, if_pos rfl, if_pos (by omega)], mv _ _ hv⟩
  · obtain ⟨u, hu, hB⟩ := he j hj
    exact ⟨u, by rw [Array.getElem?_setIfInBounds, if_neg (fun q => e q.symm)]; exact hu, mv _ _ (by rw [hd j hj e]; exact hB)⟩
end Go.Proofs.YtdkaacjeogifdaaGreat.Dk

/-
  The walk of the document's Crash.
-/
namespace Go.Proofs.YtdkaacjeogifdaaGreat.Dk
open Go.RowKit

theorem RowB.set {w : World} {g cap : Nat} {ys : List UInt8} (h : RowB w g cap ys) (j : Nat) (c : UInt8) : RowB (w.setCell ⟨g, j, none⟩ (.int .u8 (c.toNat : Int))) g cap (ys.set j c) := by
  obtain ⟨cur, hb, h1, h2, h3, h4⟩ := h
  refine ⟨_, hb.store j _, by simpa using h1, h2, by simpa using h3, ?_⟩
  rw [Array.toList_setIfInBounds, List.length_set, List.take_set, h4]
  simp [bcs, bc, List.map_set]
theorem CRow.of_own {w0 w : World} {Q : Nat → Prop} {B n : Nat} {v : Value} {xs : List Value} {d : List UInt8} (h : w.ownsRow B 22 1 v n xs) (h0 : 0 < n) (hB : w0.heap.size ≤ B) (hx : ∀ j, j < n → ∃ u, xs[j]? = some u ∧ BlkAt w Q u (blk d j)) : ∃ g c, v = .slice (some ⟨g, 0, none⟩) n c ∧ CRow w0 w Q g n c d := by
  rcases h.2 with ⟨_, h2⟩ | ⟨g, cap, cur, rfl, hB', hg, hnc, hcm, hcs, ht⟩
  · omega
  · refine ⟨g, cap, rfl, ⟨cur, hg, by omega, hnc, hcm, fun j hj => ?_⟩, by omega⟩
    obtain ⟨u, hu, hb⟩ := hx j hj
    refine ⟨u, ?_, hb⟩
    rw [← ht, List.getElem?_take, if_pos (by omega)] at hu
    simpa using hu
theorem CRow.safe {w0 w : World} {Q : Nat → Prop} {g n c : Nat} {d : List UInt8} {bs : List (List UInt8)} (h : CRow w0 w Q g n c d) (hl : bs.length = n) (hb : ∀ j, j < n → bs[j]? = some (blk d j)) (hQ : ∀ i, w0.heap.size ≤ i → Q i) : SafeAt w Q (some ⟨g, 0, none⟩) n c bs := by
  obtain ⟨⟨cur, hb27, h1, h2, h3, he⟩, hg⟩ := h
  refine ⟨hl, h2, h3, g, 0, rfl, hQ g hg, ⟨cur, hb27⟩, fun j x hx => ?_⟩
  have hj : j < n := by have := (List.getElem?_eq_some_iff.1 hx).1; omega
  obtain ⟨u, hu, hB⟩ := he j hj
  rw [hb j hj] at hx
  cases hx
  exact ⟨u, by rw [Nat.zero_add, hb27.cell j]; exact hu, hB⟩

theorem crash_len (D : DS) (ok : D.Ok) (ks : List Bool) (t : Int) (m : Nat) : ∀ k, k ≤ D.uf.length → (crashTo ks t m D.uf D.dur k).length = D.dur.length
  | 0, _ => rfl
  | k + 1, h => by
    have ih := crash_len D ok ks t m k (by omega)
    obtain ⟨h1, h2⟩ := ok.at k (by omega)
    have hfit : D.uf[k].1 * 4096 + 4096 ≤ (crashTo ks t m D.uf D.dur k).length := by rw [ih]; exact ok.room h1
    rw [crashTo, List.getElem?_eq_getElem (show k < D.uf.length by omega)]
    dsimp only
    split
    · rw [carry_length _ _ _ _ hfit h2, ih]
    · split
      · rw [carry_length _ _ _ _ hfit h2, ih]
      · exact ih
end Go.Proofs.YtdkaacjeogifdaaGreat.Dk

/-
  The document's disk: Load, New.
-/
namespace Go.Proofs.YtdkaacjeogifdaaGreat.Dk
open Go.RowKit

theorem CRow.o49 {w0 w w' : World} {Q : Nat → Prop} {g n c : Nat} {d : List UInt8} (h : CRow w0 w Q g n c d) (k : O49 w w') : CRow w0 w' Q g n c d := by
  obtain ⟨⟨cur, hb, h1, h2, h3, he⟩, hg⟩ := h
  refine ⟨⟨cur, k g cur 22 hb (by decide), h1, h2, h3, fun j hj => ?_⟩, hg⟩
  obtain ⟨u, hu, hB⟩ := he j hj
  exact ⟨u, hu, hB.move (fun i _ _ ⟨cur, t, hi, ht⟩ => (k i cur t hi ht).trans hi.symm) (fun _ _ h => h)⟩

set_option maxRecDepth 100000 in
set_option maxHeartbeats 8000000 in
theorem rload_at (nb : Nat) (a : Option Addr) (ca : Nat) (xs : List UInt8) (w : World) (Q : Nat → Prop) (hQ : ∀ i, w.heap.size ≤ i → Q i) (h1 : 1 ≤ nb) (h2 : nb ≤ 512) (hl : xs.length = nb * 4096) (hca : nb * 4096 ≤ ca) (hcm : ca ≤ maxLen) (hr : Rd w a xs) :
    Calls Tryz.prog 36 #[.slice a (nb * 4096) ca] w fun r w' => ∃ g c, r = .returned (.tuple #[.agg #[.slice (some ⟨g, 0, none⟩) nb c, .slice none 0 0, .int .i64 0, .bool false, .int .i64 (-1), .int .i64 (-1)], .int .i64 0]) ∧ CRow w w' Q g nb c xs ∧ Below w.heap.size w w' := by
  obtain ⟨b, o, rfl, hcell⟩ := hr (by omega)
  obtain ⟨i0, hi, hz0, hz1, hz2⟩ := info_parts info27'
  have B0 := ((Below.refl w.heap.size w).alloc (Nat.le_refl _) (.cells #[.slice none 0 0, .slice none 0 0, .int .i64 0, .bool false, .int .i64 0, .int .i64 0] 41)).alloc (by simp) (.cells #[.slice none 0 0, .slice none 0 0, .int .i64 0, .bool false, .int .i64 (-1), .int .i64 (-1)] 41)
  have y0 := (Box.new w #[.slice none 0 0, .slice none 0 0, .int .i64 0, .bool false, .int .i64 0, .int .i64 0] 41).alloc (.cells #[.slice none 0 0, .slice none 0 0, .int .i64 0, .bool false, .int .i64 (-1), .int .i64 (-1)] 41)
  have x0 := Box.new (w.alloc (.cells #[.slice none 0 0, .slice none 0 0, .int .i64 0, .bool false, .int .i64 0, .int .i64 0] 41)) #[.slice none 0 0, .slice none 0 0, .int .i64 0, .bool false, .int .i64 (-1), .int .i64 (-1)] 41
  have sz : (w.alloc (.cells #[.slice none 0 0, .slice none 0 0, .int .i64 0, .bool false, .int .i64 0, .int .i64 0] 41)).heap.size = w.heap.size + 1 := by simp
  rw [sz] at x0
  clear sz
  obtain ⟨N, hN⟩ : ∃ N : Nat, N = nb * 4096 := ⟨_, rfl⟩
  have hN1 : 4096 ≤ N := by omega
  have hN2 : N ≤ 2097152 := by omega
  have hN3 : (N : Int) % 4096 = 0 := by omega
  have hN0 : ((N : Int) == 0) = false := by simp; omega
  have hN5 : ¬ 2097152 < (N : Int) := by omega
  rw [← hN] at hl hca
  rw [← hN]
  have HN : Hid _ := hN
  have Hl : Hid _ := hl
  have Hcell : Hid _ := hcell
  have HQ : Hid _ := hQ
  have hcm2 : ca ≤ 9223372036854775807 := by unfold maxLen at hcm; omega
  clear hN hl hcell hQ hr
  go_enter Tryz.func36, Tryz.ntmps36
  go_wp2_with fail
  go_loopw [5] (fun i wr => ∃ (k : Nat) (v : Value) (ys : List Value), k ≤ nb ∧ i = .int .i64 (k * 4096 : Nat) ∧ (∃ a' c', v = .slice a' k c') ∧ wr.ownsRow w.heap.size 22 1 v k ys ∧ ys.length = k ∧ (∀ j, j < k → ∃ u, ys[j]? = some u ∧ BlkAt wr Q u (blk xs j)) ∧ Box wr (w.heap.size + 1) #[v, .slice none 0 0, .int .i64 0, .bool false, .int .i64 (-1), .int .i64 (-1)] 41 ∧ Box wr w.heap.size #[.slice none 0 0, .slice none 0 0, .int .i64 0, .bool false, .int .i64 0, .int .i64 0] 41 ∧ Below w.heap.size w wr) (fun i _ => N - (intOf i).toNat)
  case atStart => exact ⟨0, _, [], by omega, rfl, ⟨none, 0, rfl⟩, World.ownsRow_nil _ _ _ _, rfl, fun j hj => by omega, x0, y0, B0⟩
  case round =>
    clear x0 y0 B0
    obtain ⟨k, v, ys, hk, rfl, ⟨a', c', rfl⟩, ho, hyl, hys, x, y, B⟩ := hrel
    obtain ⟨K, hK⟩ : ∃ K : Nat, K = k * 4096 := ⟨_, rfl⟩
    rw [← hK]
    by_cases hlt : k < nb
    · have hKN : K + 4096 ≤ N := by have := HN.out; omega
      have hKN2 : (K : Int) < (N : Int) := by omega
      have HK : Hid _ := hK
      have hKw : IntKind.i64.wrap ((K : Int) + 4096) = (K : Int) + 4096 := IntWalk.i64_in _ (by omega)
      have Ho : Hid (wr.ownsRow w.heap.size 22 1 (.slice a' k c') k ys) := ho
      have Hys : Hid _ := hys
      have Hx : Hid _ := x
      have Hy : Hid _ := y
      have HB : Hid _ := B
      clear hK ho hys x y B
      go_upto_region 7 with fail
      refine wp_region_any (by kernel_rfl) ?_
      change wpAny _ _ _ _ _ _ _ (World.drew _)
      refine wpAny_take (i := 0) (v := ?_) rfl (by kernel_rfl) (by kernel_rfl) (by kernel_rfl) (fun _ _ _ h => h) (Or.inl ⟨by rfl, ?_⟩) ?_
      rotate_left
      · intro w
        go_simp
        with_reducible rfl
      refine wpAny_take (i := 2) (v := ?_) rfl (by kernel_rfl) (by kernel_rfl) (by kernel_rfl) (fun _ _ _ h => h) (Or.inl ⟨by rfl, ?_⟩) ?_
      rotate_left
      · intro w
        go_simp
        with_reducible rfl
      refine wpAny_take (i := 3) (v := ?_) rfl (by kernel_rfl) (by kernel_rfl) (by kernel_rfl) (fun _ _ _ h => h) (Or.inl ⟨by rfl, ?_⟩) ?_
      rotate_left
      · intro w
        go_simp
        with_reducible rfl
      refine wpAny_take (i := 4) (v := ?_) rfl (by kernel_rfl) (by kernel_rfl) (by kernel_rfl) (fun _ _ _ h => h) (Or.inl ⟨by rfl, ?_⟩) ?_
      rotate_left
      · intro w
        go_simp
        with_reducible rfl
      simp only [Act.put, List.setIfInBounds_toArray, List.set_cons_zero, List.set_cons_succ, List.getElem_toArray, List.getElem_cons_zero, List.getElem_cons_succ]
      refine wpAny_take (i := 5) (v := ?_) rfl (by kernel_rfl) (by kernel_rfl) (by kernel_rfl) (fun _ _ _ h => h) (Or.inl ⟨by rfl, ?_⟩) ?_
      rotate_left
      · intro w
        go_simp
        with_reducible rfl
      simp only [Act.put, List.setIfInBounds_toArray, List.set_cons_zero, List.set_cons_succ, List.getElem_toArray, List.getElem_cons_zero, List.getElem_cons_succ]
      obtain ⟨W, hW⟩ : ∃ W, W = wr.drew := ⟨_, rfl⟩
      have x1 : Box W (w.heap.size + 1) #[.slice a' k c', .slice none 0 0, .int .i64 0, .bool false, .int .i64 (-1), .int .i64 (-1)] 41 := by rw [hW]; exact Hx.out
      have y1 : Box W w.heap.size #[.slice none 0 0, .slice none 0 0, .int .i64 0, .bool false, .int .i64 0, .int .i64 0] 41 := by rw [hW]; exact Hy.out
      have bW : Below wr.heap.size wr W := by rw [hW]; exact (Below.refl _ _).drew
      have o1 : W.ownsRow w.heap.size 22 1 (.slice a' k c') k ys := by rw [hW]; exact World.ownsRow.drew Ho.out
      have B1 : Below w.heap.size w W := HB.out.trans (bW.mono HB.out.size)
      have hys1 : ∀ j, j < k → ∃ u, ys[j]? = some u ∧ BlkAt W Q u (blk xs j) := fun j hj => by
        obtain ⟨u, hu, hb⟩ := Hys.out j hj
        exact ⟨u, hu, hb.move (fun i hi _ _ => bW.block i hi) (fun _ _ h => h)⟩
      rw [← hW]
      clear hW Hx Hy Ho HB Hys bW
      have cx := x1.cell 0
      simp only [List.getElem?_toArray, List.getElem?_cons_zero] at cx
      refine wpAny_of_late (C := SlotsCells [(28, .pointer (some ⟨w.heap.size + 1, 0, none⟩))] [(⟨w.heap.size + 1, 0, none⟩, .slice a' k c')]) (late := [10, 11]) _ _ _ _ ?_
      refine wpAnyD_take (i := 1) (v := .slice a' k c') rfl (by kernel_rfl) (by kernel_rfl) (by kernel_rfl) (by kernel_rfl) (fun _ _ _ h => h) ?_ (fun fr u h => (SlotsCells.put 29 _ (by rfl)).1 h) (fun fr u h => (SlotsCells.put 29 _ (by rfl)).2 h) ?_ ?_
      · intro fr u hh
        obtain ⟨e1, e2⟩ := hh.load (s := 28) (p := ⟨w.heap.size + 1, 0, none⟩) (v := .slice a' k c') (by simp) (by simp)
        exact ⟨rfl, by simp [execOp, e1, go_sem, e2]⟩
      · refine ⟨fun p hp => ?_, fun q hq => ?_⟩
        · simp at hp
          subst hp
          rfl
        · simp at hq
          subst hq
          exact cx
      simp only [Act.put, List.setIfInBounds_toArray, List.set_cons_zero, List.set_cons_succ, List.getElem_toArray, List.getElem_cons_zero, List.getElem_cons_succ]
      refine wpAnyD_one (i := 6) (by kernel_rfl) rfl (fun K' hK' => ?_)
      go_simp
      rw [if_pos (by omega), if_pos (by omega), if_neg (by omega)]
      have e4 : ((K : Int) + 4096).toNat - K = 4096 := by omega
      rw [e4]
      refine hK' _ _ ⟨?_, ?_⟩
      · refine .inr ⟨fun p hp => ?_, fun q hq => ?_⟩
        · simp at hp
          subst hp
          rfl
        · simp at hq
          subst hq
          exact cx
      clear hK' K'
      have hKx : K + 4096 ≤ xs.length := by rw [Hl.out]; exact hKN
      have hblk : (blk xs k).length = 4096 := blk_length xs k (by rw [← HK.out]; exact hKx)
      have rdk : Rd W (some ⟨b, o + K, none⟩) (blk xs k) := fun _ => ⟨b, o + K, rfl, fun j hj => by
        have hj' : K + j < xs.length := by omega
        have c0 := Hcell.out (K + j) hj'
        rw [Nat.add_assoc, B1.cell (p := ⟨b, o + (K + j), none⟩) (block_lt_of_cell c0), c0]
        simp [blk, HK.out]⟩
      refine wpAnyD_one (i := 7) (by kernel_rfl) rfl (fun K' hK' => ?_)
      go_simp
      refine (copyBytes_at (ca - K) 4096 (some ⟨b, o + K, none⟩) (blk xs k) W hblk (by omega) rdk (fun h => by cases h)).mono ?_
      rintro e w3 ⟨v3, rfl, o3, b3⟩
      obtain ⟨gd, cd, rfl, hgd, r3⟩ := RowB.owns o3 (by omega)
      have cx3 := (b3.cell (p := ⟨w.heap.size + 1, 0, none⟩) x1.lt).trans cx
      refine hK' _ _ ⟨?_, ?_⟩
      · refine .inr ⟨fun p hp => ?_, fun q hq => ?_⟩
        · simp at hp
          subst hp
          rfl
        · simp at hq
          subst hq
          exact cx3
      clear hK' K'
      have A4 := (Below.refl w3.heap.size w3).alloc (Nat.le_refl _) (.cells #[.slice (some ⟨gd, 0, none⟩) 4096 cd] 22)
      have l4 := Box.new w3 #[.slice (some ⟨gd, 0, none⟩) 4096 cd] 22
      have cx4 := (A4.cell (p := ⟨w.heap.size + 1, 0, none⟩) (Nat.lt_of_lt_of_le x1.lt b3.size)).trans cx3
      refine wpAnyD_one (i := 8) (by kernel_rfl) rfl (fun K' hK' => ?_)
      go_simp
      refine hK' _ _ ⟨?_, ?_⟩
      · refine .inr ⟨fun p hp => ?_, fun q hq => ?_⟩
        · simp at hp
          subst hp
          rfl
        · simp at hq
          subst hq
          exact cx4
      clear hK' K'
      obtain ⟨gn, hgn⟩ : ∃ gn, gn = w3.heap.size := ⟨_, rfl⟩
      obtain ⟨w4, hw4⟩ : ∃ w4, w4 = w3.alloc (.cells #[.slice (some ⟨gd, 0, none⟩) 4096 cd] 22) := ⟨_, rfl⟩
      rw [← hw4] at A4 l4 cx4 ⊢
      rw [← hgn] at l4 ⊢
      have b34 := b3.trans (A4.mono b3.size)
      have o4 := World.ownsRow.kept (row := none) o1 ⟨b34.os, b34.tape, b34.output, b34.size, fun q hq _ => b34.block q hq⟩ (Classical.em _)
      have o40 : w4.ownsRow 0 22 1 (.slice a' k c') k ys := ⟨o4.1, by
        rcases o4.2 with h0 | ⟨g, cap, cur, hv, _, r⟩
        · exact .inl h0
        · exact .inr ⟨g, cap, cur, hv, Nat.zero_le _, r⟩⟩
      refine wpAnyD_one (i := 9) (by kernel_rfl) rfl (fun K' hK' => ?_)
      refine step_append_where rfl (.tmp 29) (.tmp 36) 39 rfl 22 i0 (.slice none 0 0) 1 24 Tryz.underlying39 hi hz0 hz1 hz2 rfl (by decide) (.slice a' k c') k ys rfl o40 ⟨gn, 0, none⟩ 1 1 [.slice (some ⟨gd, 0, none⟩) 4096 cd] rfl rfl ?_ ?_ (by unfold maxLen; omega) (by omega) ?_
      · intro j u hj
        match j, hj with
        | 0, hj => simp at hj; subst hj; rw [Addr.add_lit]; exact l4.cell 0
      · intro u hu
        simp at hu
        subst hu
        rfl
      intro v5 w5 o50 gr5 hwh
      obtain ⟨a5, c5, rfl⟩ : ∃ a c, v5 = .slice a (k + 1) c := by
        rcases o50.2 with ⟨_, h⟩ | ⟨g', c'', cur, hv, _⟩
        · omega
        · exact ⟨_, c'', hv⟩
      have o5 : w5.ownsRow w.heap.size 22 1 (.slice a5 (k + 1) c5) (k + 1) (ys ++ [.slice (some ⟨gd, 0, none⟩) 4096 cd]) := ⟨o50.1, by
        rcases o50.2 with h0 | ⟨g, cap, cur, hv, _, r⟩
        · exact .inl h0
        · refine .inr ⟨g, cap, cur, hv, ?_, r⟩
          rcases hwh g (by rw [hv]; rfl) with h | h
          · exact (World.ownsRow.lt o4 g h).1
          · exact Nat.le_trans B1.size (Nat.le_trans b34.size h)⟩
      have x4 := x1.below b34
      have y4 := y1.below b34
      have x5 : Box w5 (w.heap.size + 1) _ 41 := (gr5.block _ x4.lt (owns_ne o4 x4 (by decide))).trans x4
      have y5 : Box w5 w.heap.size _ 41 := (gr5.block _ y4.lt (owns_ne o4 y4 (by decide))).trans y4
      have B4 := B1.trans (b34.mono B1.size)
      have B5 : Below w.heap.size w w5 := B4.grown gr5 B4.size (fun q e => (World.ownsRow.lt o4 q e).1)
      have r4 := r3.same (A4.block gd r3.lt)
      have r5 : RowB w5 gd cd (blk xs k) := r4.same (gr5.block gd r4.lt (by obtain ⟨cur5, hb5, _⟩ := r4; exact owns_ne o4 hb5 (by decide)))
      have hu5 : BlkAt w5 Q (.slice (some ⟨gd, 0, none⟩) 4096 cd) (blk xs k) := BlkAt.of_row r5 hblk (HQ.out gd (Nat.le_trans B1.size hgd))
      have hys5 : ∀ j, j < k + 1 → ∃ u, (ys ++ [.slice (some ⟨gd, 0, none⟩) 4096 cd])[j]? = some u ∧ BlkAt w5 Q u (blk xs j) := fun j hj => by
        by_cases hjk : j < k
        · obtain ⟨u, hu, hb⟩ := hys1 j hjk
          have hb4 : BlkAt w4 Q u (blk xs j) := hb.move (fun i hi _ _ => b34.block i hi) (fun _ _ h => h)
          exact ⟨u, by rw [List.getElem?_append_left (by omega)]; exact hu, hb4.move5 (fun i cur hi => gr5.block i hi.lt (owns_ne o4 hi (by decide)))⟩
        · have hje : j = k := by omega
          subst hje
          exact ⟨_, by rw [List.getElem?_append_right (by omega), hyl, Nat.sub_self]; rfl, hu5⟩
      have cx5 := x5.cell 0
      have fx5 := x5.frozen 0
      simp only [List.getElem?_toArray, List.getElem?_cons_zero] at cx5
      refine hK' _ _ ⟨?_, ?_⟩
      · refine .inr ⟨fun p hp => ?_, fun q hq => ?_⟩
        · simp at hp
          subst hp
          rfl
        · simp at hq
          subst hq
          exact cx5
      clear hK' K'
      simp only [Act.put, List.setIfInBounds_toArray]
      refine wpAnyD_one (i := 10) (by kernel_rfl) rfl (fun K' hK' => ?_)
      go_simp
      refine hK' _ _ ⟨.inl rfl, ?_⟩
      clear hK' K'
      refine wpAnyD_one (i := 11) (by kernel_rfl) rfl (fun K' hK' => ?_)
      go_simp
      refine hK' _ _ ⟨.inl rfl, ?_⟩
      clear hK' K'
      refine wpAnyD_done (by kernel_rfl) ?_ _
      have x6 := x5.store 0 (.slice a5 (k + 1) c5)
      have y6 := y5.away (g' := w.heap.size + 1) (j := 0) (v := .slice a5 (k + 1) c5) (by omega)
      have B6 := B5.setCell (p := ⟨w.heap.size + 1, 0, none⟩) (by simp) (.slice a5 (k + 1) c5)
      have k6 := (O49.refl w5).set (j := 0) (v := .slice a5 (k + 1) c5) x5
      have o6 : (w5.setCell ⟨w.heap.size + 1, 0, none⟩ (.slice a5 (k + 1) c5)).ownsRow w.heap.size 22 1 (.slice a5 (k + 1) c5) (k + 1) (ys ++ [.slice (some ⟨gd, 0, none⟩) 4096 cd]) := o5.kept (grown_store w5 (w.heap.size + 1) 0 _) (.inr (owns_ne o5 x5 (by decide)).symm)
      have hys6 : ∀ j, j < k + 1 → ∃ u, (ys ++ [.slice (some ⟨gd, 0, none⟩) 4096 cd])[j]? = some u ∧ BlkAt (w5.setCell ⟨w.heap.size + 1, 0, none⟩ (.slice a5 (k + 1) c5)) Q u (blk xs j) := fun j hj => by
        obtain ⟨u, hu, hb⟩ := hys5 j hj
        exact ⟨u, hu, hb.move (fun i _ _ ⟨cur, t, hi, ht⟩ => (k6 i cur t hi ht).trans hi.symm) (fun _ _ h => h)⟩
      have hx6 : Box (w5.setCell ⟨w.heap.size + 1, 0, none⟩ (.slice a5 (k + 1) c5)) (w.heap.size + 1) #[.slice a5 (k + 1) c5, .slice none 0 0, .int .i64 0, .bool false, .int .i64 (-1), .int .i64 (-1)] 41 := x6
      generalize w5.setCell ⟨w.heap.size + 1, 0, none⟩ (.slice a5 (k + 1) c5) = X at hx6 y6 B6 o6 hys6 ⊢
      have Q1 : Hid _ := o6
      have Q2 : Hid _ := hys6
      clear o6 hys6 x6 x5 y5 B5 o5 o50 gr5 hwh hys5 hu5 r5 r4 r3 x4 y4 B4 o4 o40 b34 A4 l4 b3 o3 o1 x1 y1 B1 hys1 k6 cx cx3 cx4 cx5 fx5
      go_wp2
      go_roundw
      case rel => exact ⟨k + 1, _, _, by omega, by rw [show ((k + 1) * 4096 : Nat) = k * 4096 + 4096 by omega, ← HK.out]; rfl, ⟨_, _, rfl⟩, Q1.out, by simp [hyl], Q2.out, hx6, y6, B6⟩
      case measure => simp [intOf]; omega
    · have hkn : k = nb := by omega
      have hKN : K = N := by rw [hK, hkn]; exact HN.out.symm
      rw [hkn] at ho hys x
      obtain ⟨g6, c6, e6, C6⟩ := CRow.of_own (w0 := w) (d := xs) (Q := Q) ho (by omega) (Nat.le_refl _) hys
      cases e6
      rw [hKN]
      have HC : Hid (CRow w wr Q g6 nb c' xs) := C6
      have HB : Hid _ := B
      clear C6 B ho hys hK hKN hkn
      obtain ⟨p0, p1, p2, p3, p4, p5⟩ := x.all6
      obtain ⟨q0, q1, q2, q3, q4, q5⟩ := y.all6
      obtain ⟨g0, g1, g2, g3, g4, g5⟩ := y.fr6
      go_wp2_with fail
      have k9 := ((((((O49.refl wr).set (j := 0) (v := .slice (some ⟨g6, 0, none⟩) nb c') y).set (j := 1) (v := .slice none 0 0) (y.store 0 _)).set (j := 2) (v := .int .i64 0) ((y.store 0 _).store 1 _)).set (j := 3) (v := .bool false) (((y.store 0 _).store 1 _).store 2 _)).set (j := 4) (v := .int .i64 (-1)) ((((y.store 0 _).store 1 _).store 2 _).store 3 _)).set (j := 5) (v := .int .i64 (-1)) (((((y.store 0 _).store 1 _).store 2 _).store 3 _).store 4 _)
      refine bodyPost_ret (v := .tuple #[.agg #[.slice (some ⟨g6, 0, none⟩) nb c', .slice none 0 0, .int .i64 0, .bool false, .int .i64 (-1), .int .i64 (-1)], .int .i64 0]) ?_ rfl ⟨g6, c', rfl, HC.out.o49 k9, ?_⟩
      · simp [results, Tryz.results36, go_sem, q0, q1, q2, q3, q4, q5]
      · repeat (refine Below.setCell ?_ (by simp) _)
        exact HB.out

set_option maxRecDepth 100000 in
theorem rnew_at (nb : Nat) (w : World) (Q : Nat → Prop) (hQ : ∀ i, w.heap.size ≤ i → Q i) (h1 : 1 ≤ nb) (h2 : nb ≤ 512) :
    Calls Tryz.prog 11 #[.int .i64 (nb : Int)] w fun r w' => ∃ g c, r = .returned (.tuple #[.agg #[.slice (some ⟨g, 0, none⟩) nb c, .slice none 0 0, .int .i64 0, .bool false, .int .i64 (-1), .int .i64 (-1)], .int .i64 0]) ∧ RD w' Q (some ⟨g, 0, none⟩) none nb c 0 0 (DS.new nb (nought (nb * 4096))) ∧ Below w.heap.size w w' := by
  have hm : ∀ u : World, (Instr.makeSlice 22 (.int .i64 ((nb * 4096 : Nat) : Int)) (.int .i64 ((nb * 4096 : Nat) : Int))).run Tryz.prog u = .ok (.slice (some ⟨u.heap.size, 0, none⟩) (nb * 4096) (nb * 4096)) (u.alloc (.cells (bcs (nought (nb * 4096))).toArray 5)) := make_run (nb * 4096) (by omega)
  obtain ⟨N, hN⟩ : ∃ N : Nat, N = nb * 4096 := ⟨_, rfl⟩
  have hN2 : (nb : Int) * 4096 = (N : Int) := by omega
  obtain ⟨Z, hZ⟩ : ∃ Z, Z = nought N := ⟨_, rfl⟩
  rw [← hN, ← hZ] at hm
  have hzl : Z.length = N := by rw [hZ]; exact nought_length N
  have b0 := ((Below.refl w.heap.size w).alloc (Nat.le_refl _) (.cells #[.slice none 0 0, .slice none 0 0, .int .i64 0, .bool false, .int .i64 0, .int .i64 0] 41)).alloc (by simp) (.cells (bcs Z).toArray 5)
  have y0 := (Box.new w #[.slice none 0 0, .slice none 0 0, .int .i64 0, .bool false, .int .i64 0, .int .i64 0] 41).alloc (.cells (bcs Z).toArray 5)
  have o0 := own_lit (w.alloc (.cells #[.slice none 0 0, .slice none 0 0, .int .i64 0, .bool false, .int .i64 0, .int .i64 0] 41)) Z
  have sz : (w.alloc (.cells #[.slice none 0 0, .slice none 0 0, .int .i64 0, .bool false, .int .i64 0, .int .i64 0] 41)).heap.size = w.heap.size + 1 := by simp
  rw [sz] at o0
  clear sz
  have cL := rload_at nb (some ⟨w.heap.size + 1, 0, none⟩) (nb * 4096) Z ((w.alloc (.cells #[.slice none 0 0, .slice none 0 0, .int .i64 0, .bool false, .int .i64 0, .int .i64 0] 41)).alloc (.cells (bcs Z).toArray 5)) Q (fun i hi => hQ i (Nat.le_trans b0.size hi)) h1 h2 (by rw [hzl, hN]) (Nat.le_refl _) (by unfold maxLen; omega) o0.rd
  rw [← hN] at cL
  rw [← hN, ← hZ]
  have HZ : Hid _ := hZ
  have HN : Hid _ := hN
  have HL : Hid _ := hzl
  have HQ : Hid _ := hQ
  have hn1 : ¬ (nb : Int) < 1 := by omega
  have hn5 : ¬ 512 < (nb : Int) := by omega
  clear hZ hN hzl hQ o0
  go_enter Tryz.func11, Tryz.ntmps11
  go_wp2_with fail
  refine cL.mono ?_
  rintro r w1 ⟨g, c, rfl, C1, b1⟩
  have y1 := y0.below b1
  have B1 := b0.trans (b1.mono b0.size)
  have HC : Hid (CRow _ w1 Q g nb c Z) := C1
  clear cL C1 b1 y0 b0 hm
  obtain ⟨q0, q1, q2, q3, q4, q5⟩ := y1.all6
  obtain ⟨g0, g1, g2, g3, g4, g5⟩ := y1.fr6
  go_wp2_with fail
  have k9 := ((((((O49.refl w1).set (j := 0) (v := .slice (some ⟨g, 0, none⟩) nb c) y1).set (j := 1) (v := .slice none 0 0) (y1.store 0 _)).set (j := 2) (v := .int .i64 0) ((y1.store 0 _).store 1 _)).set (j := 3) (v := .bool false) (((y1.store 0 _).store 1 _).store 2 _)).set (j := 4) (v := .int .i64 (-1)) ((((y1.store 0 _).store 1 _).store 2 _).store 3 _)).set (j := 5) (v := .int .i64 (-1)) (((((y1.store 0 _).store 1 _).store 2 _).store 3 _).store 4 _)
  refine bodyPost_ret (v := .tuple #[.agg #[.slice (some ⟨g, 0, none⟩) nb c, .slice none 0 0, .int .i64 0, .bool false, .int .i64 (-1), .int .i64 (-1)], .int .i64 0]) ?_ rfl ⟨g, c, rfl, ⟨(HC.out.o49 k9).safe (by rw [safeOf_length]; rfl) (fun j hj => safeOf_get _ j hj) (fun i hi => HQ.out i (by simp at hi; omega)), ⟨rfl, Nat.le_refl _, by unfold maxLen; omega, fun _ => ⟨rfl, rfl⟩, fun h => by omega⟩, ⟨by show Z.length = nb * 4096; rw [HL.out, HN.out], h1, h2, fun p hp => (by cases hp), (by show (0 : Nat) < 9223372036854775808; omega), (by show (0 : Nat) < 9223372036854775808; omega)⟩⟩, ?_⟩
  · simp [results, Tryz.results11, go_sem, q0, q1, q2, q3, q4, q5]
  · repeat (refine Below.setCell ?_ (by simp) _)
    exact B1
end Go.Proofs.YtdkaacjeogifdaaGreat.Dk

/-
  ReplayTells: the walk.
-/
namespace Go.Proofs.YtdkaacjeogifdaaGreat.H
open Go.RowKit
open Go.Proofs.YtdkaacjeogifdaaGreat.Su (wi supV getSuper)
open Go.Proofs.YtdkaacjeogifdaaGreat.Rc (Imgs CpJ CP cpC)
open Go.Proofs.YtdkaacjeogifdaaGreat.Dk (Box DS RD refA set6 IsDisk Upd NewDisk nought fuseI)

theorem ImsA.below {w u : World} {a : Option Addr} {n cap : Nat} {L : List ImD} (h : ImsA w a n cap L) (b : Below w.heap.size w u) : ImsA u a n cap L := ⟨h.len, h.cells.below b, h.data.below b, h.caps, h.size, h.nil⟩
theorem pl_le {w : World} {a : Option Addr} {n cap : Nat} {L : List ImD} (h : ImsA w a n cap L) : ∀ i ∈ pl L, i.2.length ≤ 140737488355328 := fun i hi => by
  obtain ⟨p, hp, rfl⟩ := List.mem_map.1 hi
  obtain ⟨_, d2, d3, _⟩ := h.data p hp
  show p.2.length ≤ _
  omega
/-- the copies stand, as long as what was made since V does -/
theorem owns_since {w u : World} {B e z n : Nat} {v : Value} {xs : List Value} (h : w.ownsRow B e z v n xs) (hu : ∀ i, B ≤ i → i < w.heap.size → u.heap[i]? = w.heap[i]?) : u.ownsRow B e z v n xs := by
  refine ⟨h.1, ?_⟩
  rcases h.2 with h | ⟨g, cap, cur, e1, e2, e3, e4⟩
  · exact .inl h
  · exact .inr ⟨g, cap, cur, e1, e2, (hu g e2 (Array.getElem?_eq_some_iff.1 e3).1).trans e3, e4⟩
theorem imgs_since {w u : World} {B m : Nat} {a : Option Addr} {n c : Nat} {ps : List CP} (ho : w.ownsRow B 57 2 (.slice a n c) m (cpC ps)) (hj : CpJ B w ps) (hm : ps.length = m) (hu : ∀ i, B ≤ i → i < w.heap.size → u.heap[i]? = w.heap[i]?) : Imgs u a (ps.map fun p => (p.b, p.xs)) := by
  refine Rc.imgs_cp (owns_since ho hu) ⟨fun p hp => owns_since (hj.rows p hp) hu, hj.apart⟩ hm
theorem doR_le (D : DS) (L : List ImD) (o : Option (List UInt8)) (slot : Int) : (doR D L o slot).1.uf.length ≤ D.uf.length + (L.length + 1) := by
  unfold doR
  cases o with
  | none => show D.uf.length ≤ _; omega
  | some sb =>
    dsimp only
    split
    · have := (doD_le (pl L) slot sb D).2.1
      simpa [pl] using this
    · show D.uf.length ≤ _; omega
set_option maxRecDepth 100000 in
set_option maxHeartbeats 4000000 in
theorem tells_big (w : World) (a0 a1 ga ia : Option Addr) (n0 c0 n1 c1 gn gc im ic : Nat) (l0 l1 l2 l3 l4 l5 l6 b e q t slot arm : Int)
    (h : (5000 : Int) < n0 ∨ ((n0 : Int) ≤ 5000 ∧ (5000 : Int) < n1) ∨ ((n0 : Int) ≤ 5000 ∧ (n1 : Int) ≤ 5000 ∧ (20 : Int) < gn) ∨ ((n0 : Int) ≤ 5000 ∧ (n1 : Int) ≤ 5000 ∧ (gn : Int) ≤ 20 ∧ (40 : Int) < im)) :
    Calls Tryz.prog 3 #[.slice a0 n0 c0, .slice a1 n1 c1, .agg #[.int .i64 l0, .int .i64 l1, .int .i64 l2, .int .i64 l3, .int .i64 l4, .int .i64 l5, .int .i64 l6], .slice ga gn gc, .slice ia im ic, .agg #[.int .i64 b, .int .i64 e, .int .i64 q, .int .i64 t], .int .i64 slot, .int .i64 arm] w fun r w' => r = .returned (.bool true) ∧ Below w.heap.size w w' := by
  have B0 := ((Below.refl w.heap.size w).alloc (Nat.le_refl _) (.cells #[.int .i64 l0, .int .i64 l1, .int .i64 l2, .int .i64 l3, .int .i64 l4, .int .i64 l5, .int .i64 l6] 24)).alloc (by simp) (.cells #[.int .i64 b, .int .i64 e, .int .i64 q, .int .i64 t] 28)
  have cA := awake_at ((w.alloc (.cells #[.int .i64 l0, .int .i64 l1, .int .i64 l2, .int .i64 l3, .int .i64 l4, .int .i64 l5, .int .i64 l6] 24)).alloc (.cells #[.int .i64 b, .int .i64 e, .int .i64 q, .int .i64 t] 28))
  rcases h with h | ⟨h, h1⟩ | ⟨h, h1, h2⟩ | ⟨h, h1, h2, h3⟩
  all_goals go_enter Tryz.func3, Tryz.ntmps3
  all_goals go_wp2_with fail
  all_goals refine Calls.mono cA ?_
  all_goals rintro r u1 ⟨rfl, b1⟩
  all_goals go_wp2_with fail
  all_goals go_ret
  all_goals exact ⟨rfl, B0.trans (b1.mono B0.size)⟩

end Go.Proofs.YtdkaacjeogifdaaGreat.H

/-
  ReplayTells: the walk.
-/
namespace Go.Proofs.YtdkaacjeogifdaaGreat.H
open Go.RowKit
open Go.Proofs.YtdkaacjeogifdaaGreat.Su (wi supV getSuper)
open Go.Proofs.YtdkaacjeogifdaaGreat.Rc (Imgs CpJ CP cpC)
open Go.Proofs.YtdkaacjeogifdaaGreat.Dk (Box DS RD refA set6 IsDisk Upd NewDisk nought fuseI)

set_option maxRecDepth 100000 in
set_option maxHeartbeats 16000000 in
theorem tells_walk (w : World) (a0 a1 ga ia : Option Addr) (n0 c0 n1 c1 gn gc im ic : Nat) (l0 l1 l2 l3 l4 l5 l6 b e q t slot arm : Int) (X0 X1 : List UInt8) (G : List GrD) (L : List ImD)
    (hl0 : X0.length = n0) (hr0 : Rc.Rd w a0 X0) (hc0 : n0 ≤ c0) (hm0 : c0 ≤ 9223372036854775807) (hl1 : X1.length = n1) (hr1 : Rc.Rd w a1 X1) (hc1 : n1 ≤ c1) (hm1 : c1 ≤ 9223372036854775807) (hG : GrsA w ga gn G) (hI : ImsA w ia im ic L) (harm : arm ≤ 9223372036854775807) (hn0 : n0 ≤ 5000) (hn1 : n1 ≤ 5000) (hgn : gn ≤ 20) (him : im ≤ 40) :
    Calls Tryz.prog 3 #[.slice a0 n0 c0, .slice a1 n1 c1, .agg #[.int .i64 l0, .int .i64 l1, .int .i64 l2, .int .i64 l3, .int .i64 l4, .int .i64 l5, .int .i64 l6], .slice ga gn gc, .slice ia im ic, .agg #[.int .i64 b, .int .i64 e, .int .i64 q, .int .i64 t], .int .i64 slot, .int .i64 arm] w fun r w' => r = .returned (.bool true) ∧ Below w.heap.size w w' := by
  have x0 := (Box.new w #[.int .i64 l0, .int .i64 l1, .int .i64 l2, .int .i64 l3, .int .i64 l4, .int .i64 l5, .int .i64 l6] 24).alloc (.cells #[.int .i64 b, .int .i64 e, .int .i64 q, .int .i64 t] 28)
  have y0 := Box.new (w.alloc (.cells #[.int .i64 l0, .int .i64 l1, .int .i64 l2, .int .i64 l3, .int .i64 l4, .int .i64 l5, .int .i64 l6] 24)) #[.int .i64 b, .int .i64 e, .int .i64 q, .int .i64 t] 28
  have sz : (w.alloc (.cells #[.int .i64 l0, .int .i64 l1, .int .i64 l2, .int .i64 l3, .int .i64 l4, .int .i64 l5, .int .i64 l6] 24)).heap.size = w.heap.size + 1 := by simp
  rw [sz] at y0
  clear sz
  have B0 := ((Below.refl w.heap.size w).alloc (Nat.le_refl _) (.cells #[.int .i64 l0, .int .i64 l1, .int .i64 l2, .int .i64 l3, .int .i64 l4, .int .i64 l5, .int .i64 l6] 24)).alloc (by simp) (.cells #[.int .i64 b, .int .i64 e, .int .i64 q, .int .i64 t] 28)
  obtain ⟨v0, hv0⟩ : ∃ u, u = (w.alloc (.cells #[.int .i64 l0, .int .i64 l1, .int .i64 l2, .int .i64 l3, .int .i64 l4, .int .i64 l5, .int .i64 l6] 24)).alloc (.cells #[.int .i64 b, .int .i64 e, .int .i64 q, .int .i64 t] 28) := ⟨_, rfl⟩
  have hsz : w.heap.size + 2 ≤ v0.heap.size := by rw [hv0]; simp
  rw [← hv0] at x0 y0 B0
  have HV0 : Hid (v0 = (w.alloc (.cells #[.int .i64 l0, .int .i64 l1, .int .i64 l2, .int .i64 l3, .int .i64 l4, .int .i64 l5, .int .i64 l6] 24)).alloc (.cells #[.int .i64 b, .int .i64 e, .int .i64 q, .int .i64 t] 28)) := hv0
  have HSZ : Hid (w.heap.size + 2 ≤ v0.heap.size) := hsz
  have T0 : Hid (TS w v0 #[.int .i64 l0, .int .i64 l1, .int .i64 l2, .int .i64 l3, .int .i64 l4, .int .i64 l5, .int .i64 l6] #[.int .i64 b, .int .i64 e, .int .i64 q, .int .i64 t]) := ⟨x0, y0, B0⟩
  clear hv0 x0 y0 hsz
  obtain ⟨C, hC⟩ : ∃ C, C = choose (getSuper X0) (getSuper X1) := ⟨_, rfl⟩
  obtain ⟨⟨xb, xe, xq, xt⟩, xk, xok⟩ := C
  have cC := choose_at n0 c0 n1 c1 a0 a1 X0 X1 v0 hl0 hc0 hm0 (hr0.below B0 (Nat.le_refl _)) hl1 hc1 hm1 (hr1.below B0 (Nat.le_refl _))
  rw [← hC] at cC
  unfold supV at cC
  dsimp only at cC
  have HcR : Hid (∀ u, Below w.heap.size w u → Calls Tryz.prog 6 #[.slice a0 n0 c0, .slice a1 n1 c1] u fun r w' => r = .returned (.tuple #[.agg #[.int .i64 xb, .int .i64 xe, .int .i64 xq, .int .i64 xt], .int .i64 xk, .bool xok]) ∧ Below u.heap.size u w') := fun u bu => by
    have := rchoose_at n0 c0 n1 c1 a0 a1 X0 X1 u hl0 (Nat.le_trans hc0 hm0) (hr0.below bu (Nat.le_refl _)) hl1 (Nat.le_trans hc1 hm1) (hr1.below bu (Nat.le_refl _))
    rw [← hC] at this
    exact this
  obtain ⟨er, Ls, hH1, hH2⟩ := home_both w l0 l1 l2 l3 l4 l5 l6 ga gn gc G hG (by omega)
  have HH1 : Hid (∀ u, Below w.heap.size w u → Calls Tryz.prog 7 #[.agg #[.int .i64 l0, .int .i64 l1, .int .i64 l2, .int .i64 l3, .int .i64 l4, .int .i64 l5, .int .i64 l6], .slice ga gn gc] u (HomeA er Ls u)) := hH1
  have HH2 : Hid (∀ u, Below w.heap.size w u → Calls Tryz.prog 8 #[.agg #[.int .i64 l0, .int .i64 l1, .int .i64 l2, .int .i64 l3, .int .i64 l4, .int .i64 l5, .int .i64 l6], .slice ga gn gc] u (HomeA er Ls u)) := hH2
  have HI : Hid (ImsA w ia im ic L) := hI
  have HB0 : Hid (Below w.heap.size w v0) := B0
  have e0 : (n0 : Int) ≤ 5000 := by omega
  have e1 : (n1 : Int) ≤ 5000 := by omega
  have e2 : (gn : Int) ≤ 20 := by omega
  have e3 : (im : Int) ≤ 40 := by omega
  obtain ⟨N, hN⟩ : ∃ N : Nat, N = 64 * 4096 := ⟨_, rfl⟩
  have HNew : Hid (∀ u : World, Calls Tryz.prog 10 #[.int .i64 64] u fun e w' => ∃ g, e = .returned (.tuple #[.pointer (some ⟨g, 0, none⟩), .int .i64 0]) ∧ NewDisk u w' g (DS.new 64 (nought N))) := fun u => by
    rw [hN]
    exact Dk.new_at 64 u (by decide) (by decide)
  have HRNew : Hid (∀ (u : World) (Q : Nat → Prop), (∀ i, u.heap.size ≤ i → Q i) → Calls Tryz.prog 11 #[.int .i64 64] u fun r w' => ∃ g c, r = .returned (.tuple #[.agg #[.slice (some ⟨g, 0, none⟩) 64 c, .slice none 0 0, .int .i64 0, .bool false, .int .i64 (-1), .int .i64 (-1)], .int .i64 0]) ∧ RD w' Q (some ⟨g, 0, none⟩) none 64 c 0 0 (DS.new 64 (nought N)) ∧ Below u.heap.size u w') := fun u Q hQ => by
    rw [hN]
    exact Dk.rnew_at 64 u Q hQ (by decide) (by decide)
  have HA0 : Hid (∀ a c, refA a none 64 c 0 0 (DS.new 64 (nought N)) = #[.slice a 64 c, .slice none 0 0, .int .i64 0, .bool false, .int .i64 (-1), .int .i64 (-1)]) := fun a c => rfl
  have HLim : Hid ((DS.new 64 (nought N)).uf.length = 0 ∧ (DS.new 64 (nought N)).n = 0 ∧ (DS.new 64 (nought N)).nb = 64) := ⟨rfl, rfl, rfl⟩
  clear hN hl0 hl1 hr0 hr1 hG hI hH1 hH2 hC hc0 hc1 hm0 hm1 B0 hn0 hn1 hgn him
  generalize DS.new 64 (nought N) = D0 at HNew HRNew HA0 HLim
  go_enter Tryz.func3, Tryz.ntmps3
  go_wp2_with fail
  rw [← HV0.out]
  refine Calls.mono cC ?_
  rintro r u1 ⟨rfl, b1⟩
  have T1 := T0.out.below b1
  obtain ⟨v1, hv1⟩ : ∃ u, u = u1.alloc (.cells #[.int .i64 xb, .int .i64 xe, .int .i64 xq, .int .i64 xt] 28) := ⟨_, rfl⟩
  have bv1 : Below u1.heap.size u1 v1 := by rw [hv1]; exact (Below.refl _ _).alloc (Nat.le_refl _) _
  have z1 : Box v1 u1.heap.size #[.int .i64 xb, .int .i64 xe, .int .i64 xq, .int .i64 xt] 28 := by rw [hv1]; exact Box.new u1 #[.int .i64 xb, .int .i64 xe, .int .i64 xq, .int .i64 xt] 28
  have HV1 : Hid (v1 = u1.alloc (.cells #[.int .i64 xb, .int .i64 xe, .int .i64 xq, .int .i64 xt] 28)) := hv1
  have T2 := T1.below bv1
  have HZ1 : Hid (v0.heap.size ≤ v1.heap.size) := Nat.le_trans b1.size bv1.size
  have cR := HcR.out v1 T2.bel
  clear cC hv1 T0 T1 HV0 HcR HB0
  go_wp2_with fail
  rw [← HV1.out]
  refine Calls.mono cR ?_
  rintro r u2 ⟨rfl, b2⟩
  obtain ⟨v2, hv2⟩ : ∃ u, u = u2.alloc (.cells #[.int .i64 xb, .int .i64 xe, .int .i64 xq, .int .i64 xt] 28) := ⟨_, rfl⟩
  have bv2 : Below u2.heap.size u2 v2 := by rw [hv2]; exact (Below.refl _ _).alloc (Nat.le_refl _) _
  have z2 : Box v2 u2.heap.size #[.int .i64 xb, .int .i64 xe, .int .i64 xq, .int .i64 xt] 28 := by rw [hv2]; exact Box.new u2 #[.int .i64 xb, .int .i64 xe, .int .i64 xq, .int .i64 xt] 28
  have z3 : Box v2 u1.heap.size #[.int .i64 xb, .int .i64 xe, .int .i64 xq, .int .i64 xt] 28 := (z1.below b2).below bv2
  have HV2 : Hid (v2 = u2.alloc (.cells #[.int .i64 xb, .int .i64 xe, .int .i64 xq, .int .i64 xt] 28)) := hv2
  have T3 : Hid (TS w v2 #[.int .i64 l0, .int .i64 l1, .int .i64 l2, .int .i64 l3, .int .i64 l4, .int .i64 l5, .int .i64 l6] #[.int .i64 b, .int .i64 e, .int .i64 q, .int .i64 t]) := (T2.below b2).below bv2
  have HZ2 : Hid (v0.heap.size ≤ v2.heap.size) := Nat.le_trans HZ1.out (Nat.le_trans b2.size bv2.size)
  rw [hv2] at z2 z3
  have p0 := z3.cell 0
  have p1 := z3.cell 1
  have p2 := z3.cell 2
  have p3 := z3.cell 3
  simp only [List.getElem?_toArray, List.getElem?_cons_zero, List.getElem?_cons_succ] at p0 p1 p2 p3
  have q0 := z2.cell 0
  have q1 := z2.cell 1
  have q2 := z2.cell 2
  have q3 := z2.cell 3
  simp only [List.getElem?_toArray, List.getElem?_cons_zero, List.getElem?_cons_succ] at q0 q1 q2 q3
  have tl := T3.out.l
  rw [hv2] at tl
  have k0 := tl.cell 0
  have k1 := tl.cell 1
  have k2 := tl.cell 2
  have k3 := tl.cell 3
  have k4 := tl.cell 4
  have k5 := tl.cell 5
  have k6 := tl.cell 6
  simp only [List.getElem?_toArray, List.getElem?_cons_zero, List.getElem?_cons_succ] at k0 k1 k2 k3 k4 k5 k6
  have hne : ∀ u, (binOp .neq 28 (.agg #[.int .i64 xb, .int .i64 xe, .int .i64 xq, .int .i64 xt]) (.agg #[.int .i64 xb, .int .i64 xe, .int .i64 xq, .int .i64 xt])).run Tryz.prog u = .ok (.bool false) u := fun u => by
    have := neqS u xb xe xq xt xb xe xq xt
    simpa using this
  have hk : (xk != xk) = false := by simp
  have ho : (xok != xok) = false := by simp
  have cH := HH1.out v2 T3.out.bel
  clear cR z1 z2 z3 T2 hv2 b1 b2 bv1 bv2 HV1 tl HH1
  go_wp2_with fail
  rw [← HV2.out]
  refine Calls.mono cH ?_
  rintro r u3 ⟨pa, pn, pc, rfl, hpl, hpn, hpi, b3⟩
  have T4 : Hid (TS w u3 #[.int .i64 l0, .int .i64 l1, .int .i64 l2, .int .i64 l3, .int .i64 l4, .int .i64 l5, .int .i64 l6] #[.int .i64 b, .int .i64 e, .int .i64 q, .int .i64 t]) := T3.out.below b3
  have HZ3 : Hid (v0.heap.size ≤ u3.heap.size) := Nat.le_trans HZ2.out b3.size
  clear p0 p1 p2 p3 q0 q1 q2 q3 k0 k1 k2 k3 k4 k5 k6 hne hk ho cH HV2 HZ2 HZ1 T3
  have tl := T4.out.l
  have k0 := tl.cell 0
  have k1 := tl.cell 1
  have k2 := tl.cell 2
  have k3 := tl.cell 3
  have k4 := tl.cell 4
  have k5 := tl.cell 5
  have k6 := tl.cell 6
  simp only [List.getElem?_toArray, List.getElem?_cons_zero, List.getElem?_cons_succ] at k0 k1 k2 k3 k4 k5 k6
  have cH := HH2.out u3 T4.out.bel
  have HPI : Hid (Imgs u3 pa Ls) := hpi
  clear tl HH2 hpi b3
  go_wp2_with fail
  refine Calls.mono cH ?_
  rintro r u4 ⟨qa, qn, qc, rfl, hql, hqn, hqi, b4⟩
  have T5 : Hid (TS w u4 #[.int .i64 l0, .int .i64 l1, .int .i64 l2, .int .i64 l3, .int .i64 l4, .int .i64 l5, .int .i64 l6] #[.int .i64 b, .int .i64 e, .int .i64 q, .int .i64 t]) := T4.out.below b4
  have HZ4 : Hid (v0.heap.size ≤ u4.heap.size) := Nat.le_trans HZ3.out b4.size
  have cS := Rc.sameImages_at pa qa pn pc qn qc Ls Ls u4 hpl hql (by omega) (HPI.out.below b4) hqi
  rw [decide_eq_true rfl] at cS
  have he : (er != er) = false := by simp
  clear k0 k1 k2 k3 k4 k5 k6 cH HPI hqi b4 T4 HZ3 hpl hql hpn hqn
  go_wp2_with fail
  refine Calls.mono cS ?_
  rintro r u5 ⟨rfl, b5⟩
  have T6 : Hid (TS w u5 #[.int .i64 l0, .int .i64 l1, .int .i64 l2, .int .i64 l3, .int .i64 l4, .int .i64 l5, .int .i64 l6] #[.int .i64 b, .int .i64 e, .int .i64 q, .int .i64 t]) := T5.out.below b5
  have HZ5 : Hid (v0.heap.size ≤ u5.heap.size) := Nat.le_trans HZ4.out b5.size
  have cN := HNew.out u5
  clear cS he b5 T5 HZ4 HNew
  go_wp2_with fail
  refine Calls.mono cN ?_
  rintro r u6 ⟨g, rfl, F, hd, hF, b6⟩
  have cN2 := HRNew.out u6 (fun i => ¬ F i) (fun i hi hf => by have := hd.flt i hf; omega)
  have T7 : Hid (TS w u6 #[.int .i64 l0, .int .i64 l1, .int .i64 l2, .int .i64 l3, .int .i64 l4, .int .i64 l5, .int .i64 l6] #[.int .i64 b, .int .i64 e, .int .i64 q, .int .i64 t]) := T6.out.below b6
  have HD : Hid (IsDisk u6 g D0 F) := hd
  have HF : Hid (∀ i, F i → u5.heap.size ≤ i) := hF
  have HZ6 : Hid (u5.heap.size ≤ u6.heap.size) := b6.size
  clear cN hd hF b6 T6 HRNew
  go_wp2_with fail
  refine Calls.mono cN2 ?_
  rintro r u7 ⟨gr, cr, rfl, hR, b7⟩
  obtain ⟨v7, hv7⟩ : ∃ u, u = u7.alloc (.cells #[.slice (some ⟨gr, 0, none⟩) 64 cr, .slice none 0 0, .int .i64 0, .bool false, .int .i64 (-1), .int .i64 (-1)] 41) := ⟨_, rfl⟩
  have bv7 : Below u7.heap.size u7 v7 := by rw [hv7]; exact (Below.refl _ _).alloc (Nat.le_refl _) _
  have z7 : Box v7 u7.heap.size #[.slice (some ⟨gr, 0, none⟩) 64 cr, .slice none 0 0, .int .i64 0, .bool false, .int .i64 (-1), .int .i64 (-1)] 41 := by rw [hv7]; exact Box.new u7 #[.slice (some ⟨gr, 0, none⟩) 64 cr, .slice none 0 0, .int .i64 0, .bool false, .int .i64 (-1), .int .i64 (-1)] 41
  rw [← HA0.out] at z7
  have T8 : Hid (TT w v7 #[.int .i64 l0, .int .i64 l1, .int .i64 l2, .int .i64 l3, .int .i64 l4, .int .i64 l5, .int .i64 l6] #[.int .i64 b, .int .i64 e, .int .i64 q, .int .i64 t] g u7.heap.size u5.heap.size F (some ⟨gr, 0, none⟩) none cr 0 0 D0) := ⟨(T7.out.below b7).below bv7, (HD.out.below b7).below bv7, hR.below bv7, z7, fun hf => by have := HD.out.flt _ hf; have := b7.size; omega, HF.out, Nat.le_trans HSZ.out HZ5.out⟩
  have HK : Hid (u5.heap.size ≤ u7.heap.size) := Nat.le_trans HZ6.out b7.size
  have HV7 : Hid (v7 = u7.alloc (.cells #[.slice (some ⟨gr, 0, none⟩) 64 cr, .slice none 0 0, .int .i64 0, .bool false, .int .i64 (-1), .int .i64 (-1)] 41)) := hv7
  have HKv : Hid (u5.heap.size ≤ v7.heap.size) := Nat.le_trans HK.out bv7.size
  have HX : Hid (w.heap.size + 2 ≤ u7.heap.size) := Nat.le_trans HSZ.out (Nat.le_trans HZ5.out HK.out)
  clear cN2 hR b7 bv7 z7 T7 HD HF HZ5 HZ6 HSZ
  by_cases ha : 0 ≤ arm
  · have hna : ¬ arm < 0 := by omega
    have hE0 : Dk.armE arm = 0 := by unfold Dk.armE; rw [if_neg hna]
    have cA := Dk.arm_at T8.out.d arm harm
    rw [hE0] at cA
    rw [hv7] at cA
    clear hv7
    go_wp2_with fail
    refine Calls.mono cA ?_
    rintro r u8 ⟨rfl, hd8, up8⟩
    rw [← HV7.out] at up8
    have T9 := T8.out.turn up8 hd8 (fun i hi => .inl hi) HKv.out
    have HK8 : Hid (u5.heap.size ≤ u8.heap.size) := Nat.le_trans HKv.out up8.size
    have cB := Dk.rarmD T9.r arm harm
    have x9 := T9.x
    rw [HA0.out] at x9
    obtain ⟨p0, p1, p2, p3, p4, p5⟩ := x9.all6
    have hh : refA (some ⟨gr, 0, none⟩) none 64 cr 0 0 D0 = #[.slice (some ⟨gr, 0, none⟩) 64 cr, .slice none 0 0, .int .i64 0, .bool false, .int .i64 (-1), .int .i64 (-1)] := HA0.out _ _
    rw [hh] at cB
    have HT9 : Hid (TU w u8 #[.int .i64 l0, .int .i64 l1, .int .i64 l2, .int .i64 l3, .int .i64 l4, .int .i64 l5, .int .i64 l6] #[.int .i64 b, .int .i64 e, .int .i64 q, .int .i64 t] g u7.heap.size u5.heap.size F (some ⟨gr, 0, none⟩) none cr 0 0 D0 (D0.armed arm)) := T9
    clear cA hd8 up8 x9 T9 T8 hh HV7 HKv HK
    go_wp2_with fail
    unfold refA at cB
    refine Calls.mono cB ?_
    rintro r u9 ⟨rfl, hR9, b9⟩
    have z9 := (HT9.out.below b9).x
    rw [HA0.out] at z9
    clear p0 p1 p2 p3 p4 p5
    obtain ⟨p0, p1, p2, p3, p4, p5⟩ := z9.all6
    obtain ⟨f0, f1, f2, f3, f4, f5⟩ := z9.fr6
    have T10 := HT9.out.next b9 hR9 HX.out
    have HK9 : u5.heap.size ≤ u9.heap.size := Nat.le_trans HK8.out b9.size
    have HLm : Hid ((D0.armed arm).uf.length = 0 ∧ (D0.armed arm).n = 0 ∧ (D0.armed arm).nb = 64) := by
      show _ ∧ _ ∧ _
      unfold DS.armed
      rw [if_neg (by omega)]
      exact HLim.out
    obtain ⟨V, hV⟩ : ∃ V, V = set6D u9 u7.heap.size (some ⟨gr, 0, none⟩) none 64 cr 0 0 (D0.armed arm) := ⟨_, rfl⟩
    have HV : Hid (V = set6D u9 u7.heap.size (some ⟨gr, 0, none⟩) none 64 cr 0 0 (D0.armed arm)) := hV
    have HKV : Hid (u5.heap.size ≤ V.heap.size) := by
      show _ ≤ _
      rw [hV]
      simpa [set6D, set6] using HK9
    rw [← hV] at T10
    have T11 : Hid (TT w V #[.int .i64 l0, .int .i64 l1, .int .i64 l2, .int .i64 l3, .int .i64 l4, .int .i64 l5, .int .i64 l6] #[.int .i64 b, .int .i64 e, .int .i64 q, .int .i64 t] g u7.heap.size u5.heap.size F (some ⟨gr, 0, none⟩) none cr 0 0 (D0.armed arm)) := T10
    generalize D0.armed arm = D1 at T11 HLm HV
    clear hV T10 z9 hR9 b9 cB HT9 HK8 HK9 HA0 HLim hna hE0
    have cCp := Rc.copyImages_at ia im ic (pl L) V (by simp [pl, HI.out.len]) (by omega) (ims_imgs (HI.out.below T11.out.t.bel)) (fun i hi => pl_le HI.out i hi)
    go_wp2_with fail
    have e6 : _ = V := HV.out.symm
    unfold set6D set6 at e6
    rw [e6]
    clear HV e6
    refine Calls.mono cCp ?_
    rintro r u10 ⟨ca, cc, ps, rfl, hown, hJ, hps, b10⟩
    have hpsl : ps.length = im := by
      have := congrArg List.length hps
      simpa [pl, HI.out.len] using this
    obtain ⟨L', hL1, hL2, hL3, hL4, hL5⟩ := cp_ims hown hJ hpsl
    rw [hps] at hL1
    have T12 := T11.out.below b10
    have hims : ImsD u10 ca L' F := ⟨hL3, fun p hp => ⟨(hL4 p hp).1, (hL4 p hp).2.1, fun ad e => ⟨((hL4 p hp).2.2 ad e).2, fun hf => by have := T11.out.d.flt _ hf; have := ((hL4 p hp).2.2 ad e).1; omega⟩⟩, fun ad e hf => by have := T11.out.d.flt _ hf; have := hL5 ad e; omega⟩
    have hdat : ∀ p ∈ L, p.2.length = p.1.2.2.1 := fun p hp => (HI.out.data p hp).2.1
    have cD := do_at T12.d ca im cc L' b e q t slot hL2 (by omega) hims (by have := HLm.out; omega)
    rw [doR_pl D1 L L' _ _ hL1 hdat (fun p hp => (hL4 p hp).2.1)] at cD
    have HKc : u5.heap.size ≤ u10.heap.size := Nat.le_trans HKV.out b10.size
    have ts := T12.t.s
    have k0 := ts.cell 0
    have k1 := ts.cell 1
    have k2 := ts.cell 2
    have k3 := ts.cell 3
    simp only [List.getElem?_toArray, List.getElem?_cons_zero, List.getElem?_cons_succ] at k0 k1 k2 k3
    have HT12 : Hid (TT w u10 #[.int .i64 l0, .int .i64 l1, .int .i64 l2, .int .i64 l3, .int .i64 l4, .int .i64 l5, .int .i64 l6] #[.int .i64 b, .int .i64 e, .int .i64 q, .int .i64 t] g u7.heap.size u5.heap.size F (some ⟨gr, 0, none⟩) none cr 0 0 D1) := T12
    have HIn : Hid (∀ u, (∀ i, V.heap.size ≤ i → i < u10.heap.size → u.heap[i]? = u10.heap[i]?) → Imgs u ca (pl L)) := fun u hu => by
      rw [← hps]
      exact imgs_since hown hJ hpsl hu
    have HFV : Hid (∀ i, F i → i < V.heap.size) := T11.out.d.flt
    have HGX : Hid (u7.heap.size < V.heap.size) := T11.out.x.lt
    clear cCp hown hJ hps hpsl hL1 hL2 hL3 hL4 hL5 hims T11 ts b10 T12
    go_wp2_with fail
    refine Calls.mono cD ?_
    rintro r u11 ⟨rfl, ⟨F', hd11, hF11⟩, up11⟩
    have T13 := HT12.out.turn up11 hd11 hF11 HKc
    have cE := rdo_at T13.r (fun i hi hf => by have := hd11.flt i hf; omega) ia im ic L b e q t slot HI.out.len (by omega) (HI.out.cells.below T13.t.bel) (fun p hp => ⟨((HI.out.data.below T13.t.bel) p hp).1, ((HI.out.data.below T13.t.bel) p hp).2.1⟩) (by have := HLm.out; omega)
    have HT13 : Hid (TU w u11 #[.int .i64 l0, .int .i64 l1, .int .i64 l2, .int .i64 l3, .int .i64 l4, .int .i64 l5, .int .i64 l6] #[.int .i64 b, .int .i64 e, .int .i64 q, .int .i64 t] g u7.heap.size u5.heap.size F' (some ⟨gr, 0, none⟩) none cr 0 0 D1 (doR D1 L (Su.putSuper b e q t) slot).1) := T13
    have HUp : Hid (∀ i, V.heap.size ≤ i → i < u10.heap.size → u11.heap[i]? = u10.heap[i]?) := fun i h1 h2 => up11.block i h2 (fun hf => by have := HFV.out i hf; omega)
    have HS11 : Hid (u10.heap.size ≤ u11.heap.size) := up11.size
    have HLe : Hid ((doR D1 L (Su.putSuper b e q t) slot).1.uf.length ≤ 1000000) := by
      show _ ≤ _
      have := doR_le D1 L (Su.putSuper b e q t) slot
      have := HLm.out
      have := HI.out.len
      omega
    clear k0 k1 k2 k3
    have ts := T13.t.s
    have k0 := ts.cell 0
    have k1 := ts.cell 1
    have k2 := ts.cell 2
    have k3 := ts.cell 3
    simp only [List.getElem?_toArray, List.getElem?_cons_zero, List.getElem?_cons_succ] at k0 k1 k2 k3
    have x13 := T13.x
    unfold refA at x13
    obtain ⟨p0, p1, p2, p3, p4, p5⟩ := x13.all6
    unfold refA at cE
    obtain ⟨D2, hD2⟩ : ∃ D2, D2 = doR D1 L (Su.putSuper b e q t) slot := ⟨_, rfl⟩
    rw [← hD2] at cE HT13 HLe ⊢
    obtain ⟨D3, er3⟩ := D2
    dsimp only at cE
    have HT14 : Hid (TU w u11 #[.int .i64 l0, .int .i64 l1, .int .i64 l2, .int .i64 l3, .int .i64 l4, .int .i64 l5, .int .i64 l6] #[.int .i64 b, .int .i64 e, .int .i64 q, .int .i64 t] g u7.heap.size u5.heap.size F' (some ⟨gr, 0, none⟩) none cr 0 0 D1 D3) := HT13.out
    have HLe2 : Hid (D3.uf.length ≤ 1000000) := HLe.out
    clear cD hd11 hF11 up11 T13 HT12 x13 ts hD2 HFV HT13 HLe hdat HKc HKV
    go_wp2_with fail
    refine Calls.mono cE ?_
    rintro r u12 ⟨s1, s2, d1, m2, d2, rfl, hR12, b12⟩
    have z12 := (HT14.out.below b12).x
    unfold refA at z12
    clear p0 p1 p2 p3 p4 p5 k0 k1 k2 k3
    obtain ⟨p0, p1, p2, p3, p4, p5⟩ := z12.all6
    obtain ⟨f0, f1, f2, f3, f4, f5⟩ := z12.fr6
    have T15 := HT14.out.next b12 hR12 HX.out
    have hm2 := hR12.nw
    obtain ⟨Z, hZ⟩ : ∃ Z, Z = set6D u12 u7.heap.size s1 s2 64 d1 m2 d2 D3 := ⟨_, rfl⟩
    have HZ : Hid (Z = set6D u12 u7.heap.size s1 s2 64 d1 m2 d2 D3) := hZ
    have HIz : Hid (Imgs Z ca (pl L)) := by
      show Imgs Z ca (pl L)
      refine HIn.out Z (fun i h1 h2 => ?_)
      have hne : i ≠ u7.heap.size := by have := HGX.out; omega
      rw [hZ]
      unfold set6D set6
      repeat rw [heap_setCell_other _ _ _ _ (by exact hne)]
      exact (b12.block i (by have := HS11.out; omega)).trans (HUp.out i h1 h2)
    rw [← hZ] at T15
    have HT15 : Hid (TT w Z #[.int .i64 l0, .int .i64 l1, .int .i64 l2, .int .i64 l3, .int .i64 l4, .int .i64 l5, .int .i64 l6] #[.int .i64 b, .int .i64 e, .int .i64 q, .int .i64 t] g u7.heap.size u5.heap.size F' s1 s2 d1 m2 d2 D3) := T15
    have HIi : Hid (Imgs Z ia (pl L)) := ims_imgs (HI.out.below T15.t.bel)
    have HM2 : Hid (m2 = D3.uf.length) := hm2
    have HPl : Hid ((pl L).length = im) := by
      show _ = _
      simp [pl, HI.out.len]
    clear hZ z12 T15 cE HT14 HIn HUp HS11 HGX b12 hR12 hm2 HI
    go_upto_region 20 with fail
    have e7 : _ = Z := HZ.out.symm
    unfold set6D set6 at e7
    rw [e7]
    clear e7 HZ p0 p1 p2 p3 p4 p5 f0 f1 f2 f3 f4 f5
    have B0 : Below Z.heap.size Z Z.drew := (Below.refl _ _).drew
    have hx15 : Hid (∀ u, Below Z.heap.size Z u → u.cell? ⟨u7.heap.size, 2, none⟩ = some (.int .i64 (D3.n : Int)) ∧ u.cell? ⟨u7.heap.size, 1, none⟩ = some (.slice s2 m2 d2)) := fun u bu => by
      have y := HT15.out.x.below bu
      unfold refA at y
      obtain ⟨_, y1, y2, _⟩ := y.all6
      exact ⟨y2, y1⟩
    have HcS : Hid (∀ u, Below Z.heap.size Z u → Calls Tryz.prog 9 #[.slice ca im cc, .slice ia im ic] u fun r w' => r = .returned (.bool true) ∧ Below u.heap.size u w') := fun u bu => by
      have := Rc.sameImages_at ca ia im cc im ic (pl L) (pl L) u HPl.out HPl.out (by omega) (HIz.out.below bu) (HIi.out.below bu)
      rw [decide_eq_true rfl] at this
      exact this
    have HcW : Hid (∀ u, Below Z.heap.size Z u → Calls Tryz.prog 17 #[.pointer (some ⟨g, 0, none⟩)] u fun e w' => e = .returned (.int .i64 (D3.n : Int)) ∧ u = w') := fun u bu => Dk.writes_at (HT15.out.d.below bu)
    have HcP : Hid (∀ u, Below Z.heap.size Z u → Calls Tryz.prog 18 #[.pointer (some ⟨g, 0, none⟩)] u fun e w' => ∃ va vc, e = .returned (.slice va m2 vc) ∧ Below u.heap.size u w') := fun u bu => by
      refine (Dk.pending_at (HT15.out.d.below bu) HLe2.out).mono ?_
      rintro r w' ⟨v, rfl, ho, b⟩
      rw [← HM2.out] at ho
      rcases ho.2 with ⟨rfl, h0⟩ | ⟨g', cap, cur, rfl, _⟩
      · exact ⟨none, 0, by rw [h0], b⟩
      · exact ⟨_, _, rfl, b⟩
    go_region_held3 (fun u => u.cell? ⟨u7.heap.size, 2, none⟩ = some (.int .i64 (D3.n : Int)) ∧ u.cell? ⟨u7.heap.size, 1, none⟩ = some (.slice s2 m2 d2))
      (first | with_reducible exact hx15.out _ B0 | with_reducible exact hx15.out _ B1 | with_reducible exact hx15.out _ B3)
      (first
        | (go_at_call 9; refine Calls.mono (HcS.out _ B0) ?_; rintro r V1 ⟨rfl, hv1⟩; have B1 : Below Z.heap.size Z V1 := B0.trans (hv1.mono B0.size))
        | (go_at_call 17; refine Calls.mono (HcW.out _ B1) ?_; rintro r V2 ⟨rfl, rfl⟩)
        | (go_at_call 18; refine Calls.mono (HcP.out _ B1) ?_; rintro r V3 ⟨va, vc, rfl, hv3⟩; have B3 : Below Z.heap.size Z V3 := B1.trans (hv3.mono B1.size)))
    clear HcS HcW HcP hx15 hv1 hv3 B0 B1 HIz HIi HPl HLe2 HM2
    have HIL : Hid (D3.image.length = D3.nb * 4096) := Dk.image_len D3 HT15.out.d.ok
    have HcI : Hid (∀ u, Below Z.heap.size Z u → Calls Tryz.prog 20 #[.pointer (some ⟨g, 0, none⟩)] u fun e w' => ∃ gi ci, e = .returned (.slice (some ⟨gi, 0, none⟩) (D3.nb * 4096) ci) ∧ Dk.Rd w' (some ⟨gi, 0, none⟩) D3.image ∧ Below u.heap.size u w') := fun u bu => by
      refine (Dk.image_at (HT15.out.d.below bu)).mono ?_
      rintro r w' ⟨gi, ci, rfl, _, hr, b⟩
      exact ⟨gi, ci, rfl, hr.rd, b⟩
    have HcRI : Hid (∀ u, Below Z.heap.size Z u → Calls Tryz.prog 21 #[.agg #[.slice s1 64 d1, .slice s2 m2 d2, .int .i64 (D3.n : Int), .bool D3.gone, .int .i64 (fuseI D3.arm), .int .i64 (fuseI D3.fail)]] u fun e w' => ∃ ra rc, e = .returned (.slice ra (D3.nb * 4096) rc) ∧ Dk.Rd w' ra D3.image ∧ Below u.heap.size u w') := fun u bu => by
      refine (Dk.rimage_at (HT15.out.r.below bu) D3.n (fuseI D3.arm) (fuseI D3.fail) D3.gone).mono ?_
      rintro r w' ⟨v, rfl, ho, b⟩
      obtain ⟨ra, rc, rfl, _, _, _, hr, _⟩ := Dk.owns_rd ho
      exact ⟨ra, rc, rfl, hr, b⟩
    have hx6 : Hid (∀ u, Below Z.heap.size Z u → u.cell? ⟨u7.heap.size, 0, none⟩ = some (.slice s1 64 d1) ∧ u.cell? ⟨u7.heap.size, 1, none⟩ = some (.slice s2 m2 d2) ∧ u.cell? ⟨u7.heap.size, 2, none⟩ = some (.int .i64 (D3.n : Int)) ∧ u.cell? ⟨u7.heap.size, 3, none⟩ = some (.bool D3.gone) ∧ u.cell? ⟨u7.heap.size, 4, none⟩ = some (.int .i64 (fuseI D3.arm)) ∧ u.cell? ⟨u7.heap.size, 5, none⟩ = some (.int .i64 (fuseI D3.fail))) := fun u bu => by
      have y := HT15.out.x.below bu
      unfold refA at y
      exact y.all6
    generalize D3.image = IM at HIL HcI HcRI
    generalize D3.nb * 4096 = NN at HIL HcI HcRI
    have HcB : Hid (∀ u x cx y cy, Dk.Rd u x IM → Dk.Rd u y IM → Calls Tryz.prog 19 #[.slice x NN cx, .slice y NN cy] u fun e w' => e = .returned (.bool true) ∧ u = w') := fun u x cx y cy h1 h2 => by
      have := Dk.same_at cx cy NN NN x y IM IM u HIL.out HIL.out h1 h2
      rw [beq_self_eq_true] at this
      exact this
    have HcA : Hid (∀ u, Calls Tryz.prog 4 #[] u fun r w' => r = .returned (.bool true) ∧ Below u.heap.size u w') := fun u => awake_at u
    have HBw : Hid (Below w.heap.size w Z) := HT15.out.t.bel
    clear HT15 HIL
    go_upto_region 22 with fail
    have B4 : Below Z.heap.size Z V3.drew := B3.drew
    go_region_held3 (fun u => u.cell? ⟨u7.heap.size, 0, none⟩ = some (.slice s1 64 d1) ∧ u.cell? ⟨u7.heap.size, 1, none⟩ = some (.slice s2 m2 d2) ∧ u.cell? ⟨u7.heap.size, 2, none⟩ = some (.int .i64 (D3.n : Int)) ∧ u.cell? ⟨u7.heap.size, 3, none⟩ = some (.bool D3.gone) ∧ u.cell? ⟨u7.heap.size, 4, none⟩ = some (.int .i64 (fuseI D3.arm)) ∧ u.cell? ⟨u7.heap.size, 5, none⟩ = some (.int .i64 (fuseI D3.fail)))
      (first | with_reducible exact hx6.out _ B4 | with_reducible exact hx6.out _ B5 | with_reducible exact hx6.out _ B6 | with_reducible exact hx6.out _ B7)
      (first
        | (go_at_call 20; refine Calls.mono (HcI.out _ B4) ?_; rintro r V4 ⟨gi, ci, rfl, hri, hv4⟩; have B5 : Below Z.heap.size Z V4 := B4.trans (hv4.mono B4.size); have HRI : Hid (Dk.Rd V4 (some ⟨gi, 0, none⟩) IM) := hri)
        | (go_at_call 21; refine Calls.mono (HcRI.out _ B5) ?_; rintro r V5 ⟨ra, rc, rfl, hrr, hv5⟩; have B6 : Below Z.heap.size Z V5 := B5.trans (hv5.mono B5.size))
        | (go_at_call 19; refine Calls.mono (HcB.out _ _ _ _ _ (HRI.out.below hv5 (Nat.le_refl _)) hrr) ?_; rintro r V6 ⟨rfl, rfl⟩)
        | (go_at_call 4; refine Calls.mono (HcA.out _) ?_; rintro r V7 ⟨rfl, hv7⟩; have B7 : Below Z.heap.size Z V7 := B6.trans (hv7.mono B6.size)))
    have BF : Below w.heap.size w V7 := HBw.out.trans (B7.mono HBw.out.size)
    clear hri hrr hv4 hv5 HRI HcI HcRI HcB HcA hx6
    go_wp2_with fail
    go_ret
    exact ⟨rfl, BF⟩
  · have cCp := Rc.copyImages_at ia im ic (pl L) v7 (by simp [pl, HI.out.len]) (by omega) (ims_imgs (HI.out.below T8.out.t.bel)) (fun i hi => pl_le HI.out i hi)
    have T11 : Hid (TT w v7 #[.int .i64 l0, .int .i64 l1, .int .i64 l2, .int .i64 l3, .int .i64 l4, .int .i64 l5, .int .i64 l6] #[.int .i64 b, .int .i64 e, .int .i64 q, .int .i64 t] g u7.heap.size u5.heap.size F (some ⟨gr, 0, none⟩) none cr 0 0 D0) := T8.out
    have HKV : Hid (u5.heap.size ≤ v7.heap.size) := HKv.out
    have HLm : Hid (D0.uf.length = 0 ∧ D0.n = 0 ∧ D0.nb = 64) := HLim.out
    obtain ⟨V, hVV⟩ : ∃ V, V = v7 := ⟨_, rfl⟩
    have HV : Hid (V = u7.alloc (.cells #[.slice (some ⟨gr, 0, none⟩) 64 cr, .slice none 0 0, .int .i64 0, .bool false, .int .i64 (-1), .int .i64 (-1)] 41)) := hVV.trans HV7.out
    rw [← hVV] at cCp T11 HKV
    obtain ⟨D1, hD1⟩ : ∃ D, D = D0 := ⟨_, rfl⟩
    rw [← hD1] at T11 HLm
    clear hv7 T8 HA0 HLim HKv HK HV7 hVV hD1
    go_wp2_with fail
    rw [← HV.out]
    clear HV 
    refine Calls.mono cCp ?_
    rintro r u10 ⟨ca, cc, ps, rfl, hown, hJ, hps, b10⟩
    have hpsl : ps.length = im := by
      have := congrArg List.length hps
      simpa [pl, HI.out.len] using this
    obtain ⟨L', hL1, hL2, hL3, hL4, hL5⟩ := cp_ims hown hJ hpsl
    rw [hps] at hL1
    have T12 := T11.out.below b10
    have hims : ImsD u10 ca L' F := ⟨hL3, fun p hp => ⟨(hL4 p hp).1, (hL4 p hp).2.1, fun ad e => ⟨((hL4 p hp).2.2 ad e).2, fun hf => by have := T11.out.d.flt _ hf; have := ((hL4 p hp).2.2 ad e).1; omega⟩⟩, fun ad e hf => by have := T11.out.d.flt _ hf; have := hL5 ad e; omega⟩
    have hdat : ∀ p ∈ L, p.2.length = p.1.2.2.1 := fun p hp => (HI.out.data p hp).2.1
    have cD := do_at T12.d ca im cc L' b e q t slot hL2 (by omega) hims (by have := HLm.out; omega)
    rw [doR_pl D1 L L' _ _ hL1 hdat (fun p hp => (hL4 p hp).2.1)] at cD
    have HKc : u5.heap.size ≤ u10.heap.size := Nat.le_trans HKV.out b10.size
    have ts := T12.t.s
    have k0 := ts.cell 0
    have k1 := ts.cell 1
    have k2 := ts.cell 2
    have k3 := ts.cell 3
    simp only [List.getElem?_toArray, List.getElem?_cons_zero, List.getElem?_cons_succ] at k0 k1 k2 k3
    have HT12 : Hid (TT w u10 #[.int .i64 l0, .int .i64 l1, .int .i64 l2, .int .i64 l3, .int .i64 l4, .int .i64 l5, .int .i64 l6] #[.int .i64 b, .int .i64 e, .int .i64 q, .int .i64 t] g u7.heap.size u5.heap.size F (some ⟨gr, 0, none⟩) none cr 0 0 D1) := T12
    have HIn : Hid (∀ u, (∀ i, V.heap.size ≤ i → i < u10.heap.size → u.heap[i]? = u10.heap[i]?) → Imgs u ca (pl L)) := fun u hu => by
      rw [← hps]
      exact imgs_since hown hJ hpsl hu
    have HFV : Hid (∀ i, F i → i < V.heap.size) := T11.out.d.flt
    have HGX : Hid (u7.heap.size < V.heap.size) := T11.out.x.lt
    clear cCp hown hJ hps hpsl hL1 hL2 hL3 hL4 hL5 hims T11 ts b10 T12
    go_wp2_with fail
    refine Calls.mono cD ?_
    rintro r u11 ⟨rfl, ⟨F', hd11, hF11⟩, up11⟩
    have T13 := HT12.out.turn up11 hd11 hF11 HKc
    have cE := rdo_at T13.r (fun i hi hf => by have := hd11.flt i hf; omega) ia im ic L b e q t slot HI.out.len (by omega) (HI.out.cells.below T13.t.bel) (fun p hp => ⟨((HI.out.data.below T13.t.bel) p hp).1, ((HI.out.data.below T13.t.bel) p hp).2.1⟩) (by have := HLm.out; omega)
    have HT13 : Hid (TU w u11 #[.int .i64 l0, .int .i64 l1, .int .i64 l2, .int .i64 l3, .int .i64 l4, .int .i64 l5, .int .i64 l6] #[.int .i64 b, .int .i64 e, .int .i64 q, .int .i64 t] g u7.heap.size u5.heap.size F' (some ⟨gr, 0, none⟩) none cr 0 0 D1 (doR D1 L (Su.putSuper b e q t) slot).1) := T13
    have HUp : Hid (∀ i, V.heap.size ≤ i → i < u10.heap.size → u11.heap[i]? = u10.heap[i]?) := fun i h1 h2 => up11.block i h2 (fun hf => by have := HFV.out i hf; omega)
    have HS11 : Hid (u10.heap.size ≤ u11.heap.size) := up11.size
    have HLe : Hid ((doR D1 L (Su.putSuper b e q t) slot).1.uf.length ≤ 1000000) := by
      show _ ≤ _
      have := doR_le D1 L (Su.putSuper b e q t) slot
      have := HLm.out
      have := HI.out.len
      omega
    clear k0 k1 k2 k3
    have ts := T13.t.s
    have k0 := ts.cell 0
    have k1 := ts.cell 1
    have k2 := ts.cell 2
    have k3 := ts.cell 3
    simp only [List.getElem?_toArray, List.getElem?_cons_zero, List.getElem?_cons_succ] at k0 k1 k2 k3
    have x13 := T13.x
    unfold refA at x13
    obtain ⟨p0, p1, p2, p3, p4, p5⟩ := x13.all6
    unfold refA at cE
    obtain ⟨D2, hD2⟩ : ∃ D2, D2 = doR D1 L (Su.putSuper b e q t) slot := ⟨_, rfl⟩
    rw [← hD2] at cE HT13 HLe ⊢
    obtain ⟨D3, er3⟩ := D2
    dsimp only at cE
    have HT14 : Hid (TU w u11 #[.int .i64 l0, .int .i64 l1, .int .i64 l2, .int .i64 l3, .int .i64 l4, .int .i64 l5, .int .i64 l6] #[.int .i64 b, .int .i64 e, .int .i64 q, .int .i64 t] g u7.heap.size u5.heap.size F' (some ⟨gr, 0, none⟩) none cr 0 0 D1 D3) := HT13.out
    have HLe2 : Hid (D3.uf.length ≤ 1000000) := HLe.out
    clear cD hd11 hF11 up11 T13 HT12 x13 ts hD2 HFV HT13 HLe hdat HKc HKV
    go_wp2_with fail
    refine Calls.mono cE ?_
    rintro r u12 ⟨s1, s2, d1, m2, d2, rfl, hR12, b12⟩
    have z12 := (HT14.out.below b12).x
    unfold refA at z12
    clear p0 p1 p2 p3 p4 p5 k0 k1 k2 k3
    obtain ⟨p0, p1, p2, p3, p4, p5⟩ := z12.all6
    obtain ⟨f0, f1, f2, f3, f4, f5⟩ := z12.fr6
    have T15 := HT14.out.next b12 hR12 HX.out
    have hm2 := hR12.nw
    obtain ⟨Z, hZ⟩ : ∃ Z, Z = set6D u12 u7.heap.size s1 s2 64 d1 m2 d2 D3 := ⟨_, rfl⟩
    have HZ : Hid (Z = set6D u12 u7.heap.size s1 s2 64 d1 m2 d2 D3) := hZ
    have HIz : Hid (Imgs Z ca (pl L)) := by
      show Imgs Z ca (pl L)
      refine HIn.out Z (fun i h1 h2 => ?_)
      have hne : i ≠ u7.heap.size := by have := HGX.out; omega
      rw [hZ]
      unfold set6D set6
      repeat rw [heap_setCell_other _ _ _ _ (by exact hne)]
      exact (b12.block i (by have := HS11.out; omega)).trans (HUp.out i h1 h2)
    rw [← hZ] at T15
    have HT15 : Hid (TT w Z #[.int .i64 l0, .int .i64 l1, .int .i64 l2, .int .i64 l3, .int .i64 l4, .int .i64 l5, .int .i64 l6] #[.int .i64 b, .int .i64 e, .int .i64 q, .int .i64 t] g u7.heap.size u5.heap.size F' s1 s2 d1 m2 d2 D3) := T15
    have HIi : Hid (Imgs Z ia (pl L)) := ims_imgs (HI.out.below T15.t.bel)
    have HM2 : Hid (m2 = D3.uf.length) := hm2
    have HPl : Hid ((pl L).length = im) := by
      show _ = _
      simp [pl, HI.out.len]
    clear hZ z12 T15 cE HT14 HIn HUp HS11 HGX b12 hR12 hm2 HI
    go_upto_region 20 with fail
    have e7 : _ = Z := HZ.out.symm
    unfold set6D set6 at e7
    rw [e7]
    clear e7 HZ p0 p1 p2 p3 p4 p5 f0 f1 f2 f3 f4 f5
    have B0 : Below Z.heap.size Z Z.drew := (Below.refl _ _).drew
    have hx15 : Hid (∀ u, Below Z.heap.size Z u → u.cell? ⟨u7.heap.size, 2, none⟩ = some (.int .i64 (D3.n : Int)) ∧ u.cell? ⟨u7.heap.size, 1, none⟩ = some (.slice s2 m2 d2)) := fun u bu => by
      have y := HT15.out.x.below bu
      unfold refA at y
      obtain ⟨_, y1, y2, _⟩ := y.all6
      exact ⟨y2, y1⟩
    have HcS : Hid (∀ u, Below Z.heap.size Z u → Calls Tryz.prog 9 #[.slice ca im cc, .slice ia im ic] u fun r w' => r = .returned (.bool true) ∧ Below u.heap.size u w') := fun u bu => by
      have := Rc.sameImages_at ca ia im cc im ic (pl L) (pl L) u HPl.out HPl.out (by omega) (HIz.out.below bu) (HIi.out.below bu)
      rw [decide_eq_true rfl] at this
      exact this
    have HcW : Hid (∀ u, Below Z.heap.size Z u → Calls Tryz.prog 17 #[.pointer (some ⟨g, 0, none⟩)] u fun e w' => e = .returned (.int .i64 (D3.n : Int)) ∧ u = w') := fun u bu => Dk.writes_at (HT15.out.d.below bu)
    have HcP : Hid (∀ u, Below Z.heap.size Z u → Calls Tryz.prog 18 #[.pointer (some ⟨g, 0, none⟩)] u fun e w' => ∃ va vc, e = .returned (.slice va m2 vc) ∧ Below u.heap.size u w') := fun u bu => by
      refine (Dk.pending_at (HT15.out.d.below bu) HLe2.out).mono ?_
      rintro r w' ⟨v, rfl, ho, b⟩
      rw [← HM2.out] at ho
      rcases ho.2 with ⟨rfl, h0⟩ | ⟨g', cap, cur, rfl, _⟩
      · exact ⟨none, 0, by rw [h0], b⟩
      · exact ⟨_, _, rfl, b⟩
    go_region_held3 (fun u => u.cell? ⟨u7.heap.size, 2, none⟩ = some (.int .i64 (D3.n : Int)) ∧ u.cell? ⟨u7.heap.size, 1, none⟩ = some (.slice s2 m2 d2))
      (first | with_reducible exact hx15.out _ B0 | with_reducible exact hx15.out _ B1 | with_reducible exact hx15.out _ B3)
      (first
        | (go_at_call 9; refine Calls.mono (HcS.out _ B0) ?_; rintro r V1 ⟨rfl, hv1⟩; have B1 : Below Z.heap.size Z V1 := B0.trans (hv1.mono B0.size))
        | (go_at_call 17; refine Calls.mono (HcW.out _ B1) ?_; rintro r V2 ⟨rfl, rfl⟩)
        | (go_at_call 18; refine Calls.mono (HcP.out _ B1) ?_; rintro r V3 ⟨va, vc, rfl, hv3⟩; have B3 : Below Z.heap.size Z V3 := B1.trans (hv3.mono B1.size)))
    clear HcS HcW HcP hx15 hv1 hv3 B0 B1 HIz HIi HPl HLe2 HM2
    have HIL : Hid (D3.image.length = D3.nb * 4096) := Dk.image_len D3 HT15.out.d.ok
    have HcI : Hid (∀ u, Below Z.heap.size Z u → Calls Tryz.prog 20 #[.pointer (some ⟨g, 0, none⟩)] u fun e w' => ∃ gi ci, e = .returned (.slice (some ⟨gi, 0, none⟩) (D3.nb * 4096) ci) ∧ Dk.Rd w' (some ⟨gi, 0, none⟩) D3.image ∧ Below u.heap.size u w') := fun u bu => by
      refine (Dk.image_at (HT15.out.d.below bu)).mono ?_
      rintro r w' ⟨gi, ci, rfl, _, hr, b⟩
      exact ⟨gi, ci, rfl, hr.rd, b⟩
    have HcRI : Hid (∀ u, Below Z.heap.size Z u → Calls Tryz.prog 21 #[.agg #[.slice s1 64 d1, .slice s2 m2 d2, .int .i64 (D3.n : Int), .bool D3.gone, .int .i64 (fuseI D3.arm), .int .i64 (fuseI D3.fail)]] u fun e w' => ∃ ra rc, e = .returned (.slice ra (D3.nb * 4096) rc) ∧ Dk.Rd w' ra D3.image ∧ Below u.heap.size u w') := fun u bu => by
      refine (Dk.rimage_at (HT15.out.r.below bu) D3.n (fuseI D3.arm) (fuseI D3.fail) D3.gone).mono ?_
      rintro r w' ⟨v, rfl, ho, b⟩
      obtain ⟨ra, rc, rfl, _, _, _, hr, _⟩ := Dk.owns_rd ho
      exact ⟨ra, rc, rfl, hr, b⟩
    have hx6 : Hid (∀ u, Below Z.heap.size Z u → u.cell? ⟨u7.heap.size, 0, none⟩ = some (.slice s1 64 d1) ∧ u.cell? ⟨u7.heap.size, 1, none⟩ = some (.slice s2 m2 d2) ∧ u.cell? ⟨u7.heap.size, 2, none⟩ = some (.int .i64 (D3.n : Int)) ∧ u.cell? ⟨u7.heap.size, 3, none⟩ = some (.bool D3.gone) ∧ u.cell? ⟨u7.heap.size, 4, none⟩ = some (.int .i64 (fuseI D3.arm)) ∧ u.cell? ⟨u7.heap.size, 5, none⟩ = some (.int .i64 (fuseI D3.fail))) := fun u bu => by
      have y := HT15.out.x.below bu
      unfold refA at y
      exact y.all6
    generalize D3.image = IM at HIL HcI HcRI
    generalize D3.nb * 4096 = NN at HIL HcI HcRI
    have HcB : Hid (∀ u x cx y cy, Dk.Rd u x IM → Dk.Rd u y IM → Calls Tryz.prog 19 #[.slice x NN cx, .slice y NN cy] u fun e w' => e = .returned (.bool true) ∧ u = w') := fun u x cx y cy h1 h2 => by
      have := Dk.same_at cx cy NN NN x y IM IM u HIL.out HIL.out h1 h2
      rw [beq_self_eq_true] at this
      exact this
    have HcA : Hid (∀ u, Calls Tryz.prog 4 #[] u fun r w' => r = .returned (.bool true) ∧ Below u.heap.size u w') := fun u => awake_at u
    have HBw : Hid (Below w.heap.size w Z) := HT15.out.t.bel
    clear HT15 HIL
    go_upto_region 22 with fail
    have B4 : Below Z.heap.size Z V3.drew := B3.drew
    go_region_held3 (fun u => u.cell? ⟨u7.heap.size, 0, none⟩ = some (.slice s1 64 d1) ∧ u.cell? ⟨u7.heap.size, 1, none⟩ = some (.slice s2 m2 d2) ∧ u.cell? ⟨u7.heap.size, 2, none⟩ = some (.int .i64 (D3.n : Int)) ∧ u.cell? ⟨u7.heap.size, 3, none⟩ = some (.bool D3.gone) ∧ u.cell? ⟨u7.heap.size, 4, none⟩ = some (.int .i64 (fuseI D3.arm)) ∧ u.cell? ⟨u7.heap.size, 5, none⟩ = some (.int .i64 (fuseI D3.fail)))
      (first | with_reducible exact hx6.out _ B4 | with_reducible exact hx6.out _ B5 | with_reducible exact hx6.out _ B6 | with_reducible exact hx6.out _ B7)
      (first
        | (go_at_call 20; refine Calls.mono (HcI.out _ B4) ?_; rintro r V4 ⟨gi, ci, rfl, hri, hv4⟩; have B5 : Below Z.heap.size Z V4 := B4.trans (hv4.mono B4.size); have HRI : Hid (Dk.Rd V4 (some ⟨gi, 0, none⟩) IM) := hri)
        | (go_at_call 21; refine Calls.mono (HcRI.out _ B5) ?_; rintro r V5 ⟨ra, rc, rfl, hrr, hv5⟩; have B6 : Below Z.heap.size Z V5 := B5.trans (hv5.mono B5.size))
        | (go_at_call 19; refine Calls.mono (HcB.out _ _ _ _ _ (HRI.out.below hv5 (Nat.le_refl _)) hrr) ?_; rintro r V6 ⟨rfl, rfl⟩)
        | (go_at_call 4; refine Calls.mono (HcA.out _) ?_; rintro r V7 ⟨rfl, hv7⟩; have B7 : Below Z.heap.size Z V7 := B6.trans (hv7.mono B6.size)))
    have BF : Below w.heap.size w V7 := HBw.out.trans (B7.mono HBw.out.size)
    clear hri hrr hv4 hv5 HRI HcI HcRI HcB HcA hx6
    go_wp2_with fail
    go_ret
    exact ⟨rfl, BF⟩
end Go.Proofs.YtdkaacjeogifdaaGreat.H
