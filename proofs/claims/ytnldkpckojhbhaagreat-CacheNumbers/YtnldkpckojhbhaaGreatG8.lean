/-
  HChoose, HSup, VPlain, VSupers, VFind, VMap, VMount, VCommitA, VCommitB, HRisAny, HHomeNo, HHomeAny, SGroups, VFresh, VImg, VAwake, VAwake2: put together.
-/
import Derived.Test.YtnldkpckojhbhaaGreatG7
import Derived.Carry
import Derived.Deep.RegionHeld3
import Derived.Deep.AppendLies
import Derived.Maps.OwnIn
/-
  Choose.
-/
namespace Go.Proofs.YtnldkpckojhbhaaGreat.H
open Go.RowKit
open Go.Proofs.YtnldkpckojhbhaaGreat.Su (wi Sup zeroS supV getSuper GetsS erG Rd)
open Go.Proofs.YtnldkpckojhbhaaGreat.Dk (Box)

def choose : Option Sup → Option Sup → Sup × Int × Bool
  | none, none => (zeroS, 0, false)
  | none, some y => (y, 1, true)
  | some x, none => (x, 0, true)
  | some x, some y => if later y x then (y, 1, true) else (x, 0, true)

theorem choose_in (a b : Value) (e1 e2 : Int) (x y : Sup) (L : Bool) (s : Sup) (k : Int) (ok : Bool) (w : World)
    (cA : ∀ u, Below w.heap.size w u → Calls Tryz.prog 185 #[a] u fun r w' => r = .returned (.tuple #[supV x, .int .i64 e1]) ∧ Below u.heap.size u w')
    (cB : ∀ u, Below w.heap.size w u → Calls Tryz.prog 185 #[b] u fun r w' => r = .returned (.tuple #[supV y, .int .i64 e2]) ∧ Below u.heap.size u w')
    (hL : later y x = L)
    (h : (e1 = 30 ∧ e2 = 30 ∧ s = zeroS ∧ k = 0 ∧ ok = false) ∨ (e1 = 30 ∧ e2 = 0 ∧ s = y ∧ k = 1 ∧ ok = true) ∨ (e1 = 0 ∧ e2 = 30 ∧ s = x ∧ k = 0 ∧ ok = true) ∨ (e1 = 0 ∧ e2 = 0 ∧ L = true ∧ s = y ∧ k = 1 ∧ ok = true) ∨ (e1 = 0 ∧ e2 = 0 ∧ L = false ∧ s = x ∧ k = 0 ∧ ok = true)) :
    Calls Tryz.prog 143 #[a, b] w fun r w' => r = .returned (.tuple #[supV s, .int .i64 k, .bool ok]) ∧ Below w.heap.size w w' := by
  have al := (Below.refl w.heap.size w).alloc (Nat.le_refl _) (.cells #[.int .i64 0, .int .i64 0, .int .i64 0, .int .i64 0] 141)
  have bz := Box.new w #[.int .i64 0, .int .i64 0, .int .i64 0, .int .i64 0] 141
  have cA1 := cA _ al
  have cLt : ∀ u, Calls Tryz.prog 186 #[supV y, supV x] u fun r w' => r = .returned (.bool L) ∧ Below u.heap.size u w' := fun u => hL ▸ later_at y x u
  have HC : Hid (∀ u, Below w.heap.size w u → Calls Tryz.prog 185 #[b] u fun r w' => r = .returned (.tuple #[supV y, .int .i64 e2]) ∧ Below u.heap.size u w') := cB
  have HL : Hid (∀ u, Calls Tryz.prog 186 #[supV y, supV x] u fun r w' => r = .returned (.bool L) ∧ Below u.heap.size u w') := cLt
  clear cA cB cLt hL
  obtain ⟨xb, xe, xq, xt⟩ := x
  obtain ⟨yb, ye, yq, yt⟩ := y
  unfold supV at cA1
  dsimp only at cA1
  go_enter Tryz.func143, Tryz.ntmps143
  go_wp2_with fail
  refine Calls.mono cA1 ?_
  rintro r u1 ⟨rfl, b1⟩
  have B1 := al.trans (b1.mono al.size)
  have bz1 := (bz.below b1).alloc (.cells #[.int .i64 xb, .int .i64 xe, .int .i64 xq, .int .i64 xt] 141)
  have bx1 := Box.new u1 #[.int .i64 xb, .int .i64 xe, .int .i64 xq, .int .i64 xt] 141
  have B2 := B1.alloc B1.size (.cells #[.int .i64 xb, .int .i64 xe, .int .i64 xq, .int .i64 xt] 141)
  have cB1 := HC.out _ B2
  unfold supV at cB1
  dsimp only at cB1
  clear al bz cA1 b1
  go_wp2_with fail
  refine Calls.mono cB1 ?_
  rintro r u2 ⟨rfl, b2⟩
  have B3 := B2.trans (b2.mono B2.size)
  have bz2 := (bz1.below b2).alloc (.cells #[.int .i64 yb, .int .i64 ye, .int .i64 yq, .int .i64 yt] 141)
  have bx2 := (bx1.below b2).alloc (.cells #[.int .i64 yb, .int .i64 ye, .int .i64 yq, .int .i64 yt] 141)
  have by2 := Box.new u2 #[.int .i64 yb, .int .i64 ye, .int .i64 yq, .int .i64 yt] 141
  have B4 := B3.alloc B3.size (.cells #[.int .i64 yb, .int .i64 ye, .int .i64 yq, .int .i64 yt] 141)
  clear HC cB1 bz1 bx1 b2 B2 B1
  rcases h with ⟨rfl, rfl, rfl, rfl, rfl⟩ | ⟨rfl, rfl, rfl, rfl, rfl⟩ | ⟨rfl, rfl, rfl, rfl, rfl⟩ | ⟨rfl, rfl, rfl, rfl, rfl, rfl⟩ | ⟨rfl, rfl, rfl, rfl, rfl, rfl⟩
  · clear HL
    have f0 := bz2.frozen 0
    have n0 := bz2.cell 0
    have f1 := bz2.frozen 1
    have n1 := bz2.cell 1
    have f2 := bz2.frozen 2
    have n2 := bz2.cell 2
    have f3 := bz2.frozen 3
    have n3 := bz2.cell 3
    simp only [List.getElem?_toArray, List.getElem?_cons_zero, List.getElem?_cons_succ] at n0 n1 n2 n3
    go_wp2_with fail
    have Z := ((((bz2.store 0 (.int .i64 0)).store 1 (.int .i64 0)).store 2 (.int .i64 0)).store 3 (.int .i64 0))
    have C := ((((B4.setCell (p := ⟨w.heap.size, 0, none⟩) (Nat.le_refl _) (.int .i64 0)).setCell (p := ⟨w.heap.size, 1, none⟩) (Nat.le_refl _) (.int .i64 0)).setCell (p := ⟨w.heap.size, 2, none⟩) (Nat.le_refl _) (.int .i64 0)).setCell (p := ⟨w.heap.size, 3, none⟩) (Nat.le_refl _) (.int .i64 0))
    generalize (((((u2.alloc (.cells #[.int .i64 yb, .int .i64 ye, .int .i64 yq, .int .i64 yt] 141)).setCell ⟨w.heap.size, 0, none⟩ (.int .i64 0)).setCell ⟨w.heap.size, 1, none⟩ (.int .i64 0)).setCell ⟨w.heap.size, 2, none⟩ (.int .i64 0)).setCell ⟨w.heap.size, 3, none⟩ (.int .i64 0)) = W9 at Z C ⊢
    clear n0 n1 n2 n3
    have m0 := Z.cell 0
    have m1 := Z.cell 1
    have m2 := Z.cell 2
    have m3 := Z.cell 3
    simp at m0 m1 m2 m3
    refine bodyPost_ret (v := .tuple #[.agg #[.int .i64 0, .int .i64 0, .int .i64 0, .int .i64 0], .int .i64 0, .bool false]) (by simp [results, Tryz.results143, go_sem, m0, m1, m2, m3]) rfl ?_
    exact ⟨rfl, C⟩
  · clear HL
    have f0 := bz2.frozen 0
    have n0 := bz2.cell 0
    have f1 := bz2.frozen 1
    have n1 := bz2.cell 1
    have f2 := bz2.frozen 2
    have n2 := bz2.cell 2
    have f3 := bz2.frozen 3
    have n3 := bz2.cell 3
    simp only [List.getElem?_toArray, List.getElem?_cons_zero, List.getElem?_cons_succ] at n0 n1 n2 n3
    have k0 := by2.cell 0
    have k1 := by2.cell 1
    have k2 := by2.cell 2
    have k3 := by2.cell 3
    simp only [List.getElem?_toArray, List.getElem?_cons_zero, List.getElem?_cons_succ] at k0 k1 k2 k3
    go_wp2_with fail
    have Z := ((((bz2.store 0 (.int .i64 yb)).store 1 (.int .i64 ye)).store 2 (.int .i64 yq)).store 3 (.int .i64 yt))
    have C := ((((B4.setCell (p := ⟨w.heap.size, 0, none⟩) (Nat.le_refl _) (.int .i64 yb)).setCell (p := ⟨w.heap.size, 1, none⟩) (Nat.le_refl _) (.int .i64 ye)).setCell (p := ⟨w.heap.size, 2, none⟩) (Nat.le_refl _) (.int .i64 yq)).setCell (p := ⟨w.heap.size, 3, none⟩) (Nat.le_refl _) (.int .i64 yt))
    generalize (((((u2.alloc (.cells #[.int .i64 yb, .int .i64 ye, .int .i64 yq, .int .i64 yt] 141)).setCell ⟨w.heap.size, 0, none⟩ (.int .i64 yb)).setCell ⟨w.heap.size, 1, none⟩ (.int .i64 ye)).setCell ⟨w.heap.size, 2, none⟩ (.int .i64 yq)).setCell ⟨w.heap.size, 3, none⟩ (.int .i64 yt)) = W9 at Z C ⊢
    clear n0 n1 n2 n3
    have m0 := Z.cell 0
    have m1 := Z.cell 1
    have m2 := Z.cell 2
    have m3 := Z.cell 3
    simp at m0 m1 m2 m3
    refine bodyPost_ret (v := .tuple #[.agg #[.int .i64 yb, .int .i64 ye, .int .i64 yq, .int .i64 yt], .int .i64 1, .bool true]) (by simp [results, Tryz.results143, go_sem, m0, m1, m2, m3]) rfl ?_
    exact ⟨rfl, C⟩
  · clear HL
    have f0 := bz2.frozen 0
    have n0 := bz2.cell 0
    have f1 := bz2.frozen 1
    have n1 := bz2.cell 1
    have f2 := bz2.frozen 2
    have n2 := bz2.cell 2
    have f3 := bz2.frozen 3
    have n3 := bz2.cell 3
    simp only [List.getElem?_toArray, List.getElem?_cons_zero, List.getElem?_cons_succ] at n0 n1 n2 n3
    have k0 := bx2.cell 0
    have k1 := bx2.cell 1
    have k2 := bx2.cell 2
    have k3 := bx2.cell 3
    simp only [List.getElem?_toArray, List.getElem?_cons_zero, List.getElem?_cons_succ] at k0 k1 k2 k3
    go_wp2_with fail
    have Z := ((((bz2.store 0 (.int .i64 xb)).store 1 (.int .i64 xe)).store 2 (.int .i64 xq)).store 3 (.int .i64 xt))
    have C := ((((B4.setCell (p := ⟨w.heap.size, 0, none⟩) (Nat.le_refl _) (.int .i64 xb)).setCell (p := ⟨w.heap.size, 1, none⟩) (Nat.le_refl _) (.int .i64 xe)).setCell (p := ⟨w.heap.size, 2, none⟩) (Nat.le_refl _) (.int .i64 xq)).setCell (p := ⟨w.heap.size, 3, none⟩) (Nat.le_refl _) (.int .i64 xt))
    generalize (((((u2.alloc (.cells #[.int .i64 yb, .int .i64 ye, .int .i64 yq, .int .i64 yt] 141)).setCell ⟨w.heap.size, 0, none⟩ (.int .i64 xb)).setCell ⟨w.heap.size, 1, none⟩ (.int .i64 xe)).setCell ⟨w.heap.size, 2, none⟩ (.int .i64 xq)).setCell ⟨w.heap.size, 3, none⟩ (.int .i64 xt)) = W9 at Z C ⊢
    clear n0 n1 n2 n3
    have m0 := Z.cell 0
    have m1 := Z.cell 1
    have m2 := Z.cell 2
    have m3 := Z.cell 3
    simp at m0 m1 m2 m3
    refine bodyPost_ret (v := .tuple #[.agg #[.int .i64 xb, .int .i64 xe, .int .i64 xq, .int .i64 xt], .int .i64 0, .bool true]) (by simp [results, Tryz.results143, go_sem, m0, m1, m2, m3]) rfl ?_
    exact ⟨rfl, C⟩
  · have k0 := bx2.cell 0
    have k1 := bx2.cell 1
    have k2 := bx2.cell 2
    have k3 := bx2.cell 3
    have j0 := by2.cell 0
    have j1 := by2.cell 1
    have j2 := by2.cell 2
    have j3 := by2.cell 3
    simp only [List.getElem?_toArray, List.getElem?_cons_zero, List.getElem?_cons_succ] at k0 k1 k2 k3 j0 j1 j2 j3
    have cL := HL.out (u2.alloc (.cells #[.int .i64 yb, .int .i64 ye, .int .i64 yq, .int .i64 yt] 141))
    unfold supV at cL
    dsimp only at cL
    clear HL
    go_wp2_with fail
    refine Calls.mono cL ?_
    rintro r u3 ⟨rfl, b3⟩
    have B5 := B4.trans (b3.mono B4.size)
    have bz3 := bz2.below b3
    have bx3 := bx2.below b3
    have by3 := by2.below b3
    clear k0 k1 k2 k3 j0 j1 j2 j3 cL bz2 bx2 by2 B4 B3 b3
    have f0 := bz3.frozen 0
    have n0 := bz3.cell 0
    have f1 := bz3.frozen 1
    have n1 := bz3.cell 1
    have f2 := bz3.frozen 2
    have n2 := bz3.cell 2
    have f3 := bz3.frozen 3
    have n3 := bz3.cell 3
    simp only [List.getElem?_toArray, List.getElem?_cons_zero, List.getElem?_cons_succ] at n0 n1 n2 n3
    have k0 := by3.cell 0
    have k1 := by3.cell 1
    have k2 := by3.cell 2
    have k3 := by3.cell 3
    simp only [List.getElem?_toArray, List.getElem?_cons_zero, List.getElem?_cons_succ] at k0 k1 k2 k3
    go_wp2_with fail
    have Z := ((((bz3.store 0 (.int .i64 yb)).store 1 (.int .i64 ye)).store 2 (.int .i64 yq)).store 3 (.int .i64 yt))
    have C := ((((B5.setCell (p := ⟨w.heap.size, 0, none⟩) (Nat.le_refl _) (.int .i64 yb)).setCell (p := ⟨w.heap.size, 1, none⟩) (Nat.le_refl _) (.int .i64 ye)).setCell (p := ⟨w.heap.size, 2, none⟩) (Nat.le_refl _) (.int .i64 yq)).setCell (p := ⟨w.heap.size, 3, none⟩) (Nat.le_refl _) (.int .i64 yt))
    generalize ((((u3.setCell ⟨w.heap.size, 0, none⟩ (.int .i64 yb)).setCell ⟨w.heap.size, 1, none⟩ (.int .i64 ye)).setCell ⟨w.heap.size, 2, none⟩ (.int .i64 yq)).setCell ⟨w.heap.size, 3, none⟩ (.int .i64 yt)) = W9 at Z C ⊢
    clear n0 n1 n2 n3
    have m0 := Z.cell 0
    have m1 := Z.cell 1
    have m2 := Z.cell 2
    have m3 := Z.cell 3
    simp at m0 m1 m2 m3
    refine bodyPost_ret (v := .tuple #[.agg #[.int .i64 yb, .int .i64 ye, .int .i64 yq, .int .i64 yt], .int .i64 1, .bool true]) (by simp [results, Tryz.results143, go_sem, m0, m1, m2, m3]) rfl ?_
    exact ⟨rfl, C⟩
  · have k0 := bx2.cell 0
    have k1 := bx2.cell 1
    have k2 := bx2.cell 2
    have k3 := bx2.cell 3
    have j0 := by2.cell 0
    have j1 := by2.cell 1
    have j2 := by2.cell 2
    have j3 := by2.cell 3
    simp only [List.getElem?_toArray, List.getElem?_cons_zero, List.getElem?_cons_succ] at k0 k1 k2 k3 j0 j1 j2 j3
    have cL := HL.out (u2.alloc (.cells #[.int .i64 yb, .int .i64 ye, .int .i64 yq, .int .i64 yt] 141))
    unfold supV at cL
    dsimp only at cL
    clear HL
    go_wp2_with fail
    refine Calls.mono cL ?_
    rintro r u3 ⟨rfl, b3⟩
    have B5 := B4.trans (b3.mono B4.size)
    have bz3 := bz2.below b3
    have bx3 := bx2.below b3
    have by3 := by2.below b3
    clear k0 k1 k2 k3 j0 j1 j2 j3 cL bz2 bx2 by2 B4 B3 b3
    have f0 := bz3.frozen 0
    have n0 := bz3.cell 0
    have f1 := bz3.frozen 1
    have n1 := bz3.cell 1
    have f2 := bz3.frozen 2
    have n2 := bz3.cell 2
    have f3 := bz3.frozen 3
    have n3 := bz3.cell 3
    simp only [List.getElem?_toArray, List.getElem?_cons_zero, List.getElem?_cons_succ] at n0 n1 n2 n3
    have k0 := bx3.cell 0
    have k1 := bx3.cell 1
    have k2 := bx3.cell 2
    have k3 := bx3.cell 3
    simp only [List.getElem?_toArray, List.getElem?_cons_zero, List.getElem?_cons_succ] at k0 k1 k2 k3
    go_wp2_with fail
    have Z := ((((bz3.store 0 (.int .i64 xb)).store 1 (.int .i64 xe)).store 2 (.int .i64 xq)).store 3 (.int .i64 xt))
    have C := ((((B5.setCell (p := ⟨w.heap.size, 0, none⟩) (Nat.le_refl _) (.int .i64 xb)).setCell (p := ⟨w.heap.size, 1, none⟩) (Nat.le_refl _) (.int .i64 xe)).setCell (p := ⟨w.heap.size, 2, none⟩) (Nat.le_refl _) (.int .i64 xq)).setCell (p := ⟨w.heap.size, 3, none⟩) (Nat.le_refl _) (.int .i64 xt))
    generalize ((((u3.setCell ⟨w.heap.size, 0, none⟩ (.int .i64 xb)).setCell ⟨w.heap.size, 1, none⟩ (.int .i64 xe)).setCell ⟨w.heap.size, 2, none⟩ (.int .i64 xq)).setCell ⟨w.heap.size, 3, none⟩ (.int .i64 xt)) = W9 at Z C ⊢
    clear n0 n1 n2 n3
    have m0 := Z.cell 0
    have m1 := Z.cell 1
    have m2 := Z.cell 2
    have m3 := Z.cell 3
    simp at m0 m1 m2 m3
    refine bodyPost_ret (v := .tuple #[.agg #[.int .i64 xb, .int .i64 xe, .int .i64 xq, .int .i64 xt], .int .i64 0, .bool true]) (by simp [results, Tryz.results143, go_sem, m0, m1, m2, m3]) rfl ?_
    exact ⟨rfl, C⟩

theorem choose_at (n1 c1 n2 c2 : Nat) (a1 a2 : Option Addr) (xs ys : List UInt8) (w : World) (hn1 : xs.length = n1) (hc1 : n1 ≤ c1) (hm1 : c1 ≤ 9223372036854775807) (hr1 : Rd w a1 xs) (hn2 : ys.length = n2) (hc2 : n2 ≤ c2) (hm2 : c2 ≤ 9223372036854775807) (hr2 : Rd w a2 ys) :
    Calls Tryz.prog 143 #[.slice a1 n1 c1, .slice a2 n2 c2] w fun r w' => r = .returned (.tuple #[supV (choose (getSuper xs) (getSuper ys)).1, .int .i64 (choose (getSuper xs) (getSuper ys)).2.1, .bool (choose (getSuper xs) (getSuper ys)).2.2]) ∧ Below w.heap.size w w' := by
  refine choose_in _ _ (erG (getSuper xs).isSome) (erG (getSuper ys).isSome) ((getSuper xs).getD zeroS) ((getSuper ys).getD zeroS) _ _ _ _ w (fun u bu => Su.getSuper_at n1 c1 a1 xs u hn1 hc1 hm1 (hr1.below bu (Nat.le_refl _))) (fun u bu => Su.getSuper_at n2 c2 a2 ys u hn2 hc2 hm2 (hr2.below bu (Nat.le_refl _))) rfl ?_
  rcases getSuper xs with _ | x <;> rcases getSuper ys with _ | y
  · exact .inl ⟨rfl, rfl, rfl, rfl, rfl⟩
  · exact .inr (.inl ⟨rfl, rfl, rfl, rfl, rfl⟩)
  · exact .inr (.inr (.inl ⟨rfl, rfl, rfl, rfl, rfl⟩))
  · show _ ∨ _ ∨ _ ∨ (_ ∧ _ ∧ later y x = true ∧ _) ∨ (_ ∧ _ ∧ later y x = false ∧ _)
    cases h : later y x
    · exact .inr (.inr (.inr (.inr ⟨rfl, rfl, rfl, by simp [choose, h], by simp [choose, h], by simp [choose, h]⟩)))
    · exact .inr (.inr (.inr (.inl ⟨rfl, rfl, rfl, by simp [choose, h], by simp [choose, h], by simp [choose, h]⟩)))
end Go.Proofs.YtnldkpckojhbhaaGreat.H

/-
  Supers: equal or not; the law's superblocks; literals of images and groups.
-/
namespace Go.Proofs.YtnldkpckojhbhaaGreat.H
open Go.RowKit
open Go.Proofs.YtnldkpckojhbhaaGreat.Su (wi Sup supV zeroS getSuper rightS superB)
open Go.Proofs.YtnldkpckojhbhaaGreat.Dk (Box)

end Go.Proofs.YtnldkpckojhbhaaGreat.H

/-
  A disk of 64 blocks that nothing stops, told by its blocks: writes, flushes, images laid, a crash that keeps nothing.
-/
namespace Go.Proofs.YtnldkpckojhbhaaGreat.V
open Go.Proofs.YtnldkpckojhbhaaGreat.Dk (DS nought blk)
open Go.Proofs.YtnldkpckojhbhaaGreat.H (layD doD)

structure Mq (D : DS) (f : Nat → List UInt8) (n : Nat) : Prop where
  nb : D.nb = 64
  calm : J.Calm D
  ok : D.Ok
  cnt : D.n ≤ n
  at_ : ∀ k, k < 64 → D.stand k = f k
def upd (f : Nat → List UInt8) (k : Nat) (x : List UInt8) : Nat → List UInt8 := fun i => if i = k then x else f i
theorem Mq.write {D : DS} {f : Nat → List UInt8} {n : Nat} (h : Mq D f n) (k : Nat) (hk : k < 64) (x : List UInt8) (hx : x.length = 4096) : D.writeE (k : Int) x = 0 ∧ Mq (D.write (k : Int) x) (upd f k x) (n + 1) ∧ (D.write (k : Int) x).uf = D.uf ++ [(k, x)] ∧ (D.write (k : Int) x).dur = D.dur := by
  have hh : D.has (k : Int) = true := by unfold DS.has; rw [h.nb]; simp; omega
  have e : D.write (k : Int) x = { D with uf := D.uf ++ [(k, x)], n := D.n + 1 } := by
    unfold DS.write
    rw [hh, decide_eq_true hx, Bool.and_self, if_pos rfl, if_pos h.calm.operE, h.calm.oper]
    simp
  refine ⟨by unfold DS.writeE; rw [hh, if_pos rfl, if_pos hx]; exact h.calm.operE, ?_, by rw [e], by rw [e]⟩
  rw [e]
  refine ⟨h.nb, h.calm, ⟨h.ok.len, h.ok.lo, h.ok.hi, fun p hp => ?_, h.ok.arm, h.ok.fail⟩, by have := h.cnt; show D.n + 1 ≤ _; omega, fun i hi => ?_⟩
  · rcases List.mem_append.1 hp with hp | hp
    · exact h.ok.each p hp
    · simp at hp
      subst hp
      exact ⟨by show k < D.nb; rw [h.nb]; exact hk, hx⟩
  · rw [J.stand_snoc, h.at_ i hi]
    unfold upd
    by_cases hik : i = k
    · subst hik; simp
    · rw [if_neg hik, if_neg (fun e => hik e.symm)]
theorem Mq.flush {D : DS} {f : Nat → List UInt8} {n : Nat} (h : Mq D f n) : D.operE = 0 ∧ Mq D.flush f n ∧ D.flush.uf = [] := by
  have e := h.calm.flush.1
  have hl : D.image.length = D.nb * 4096 := (Dk.blk_carryTo D.uf D.dur D.nb 0 (by rw [h.nb]; decide) h.ok.len h.ok.each D.uf.length (Nat.le_refl _)).1
  refine ⟨h.calm.operE, ⟨by rw [e]; exact h.nb, h.calm.flush.2, by rw [e]; exact ⟨hl, h.ok.lo, h.ok.hi, fun p hp => (by cases hp), h.ok.arm, h.ok.fail⟩, by rw [e]; exact h.cnt, fun k hk => ?_⟩, by rw [e]⟩
  rw [J.stand_flush h.calm h.ok k (by rw [h.nb]; exact hk)]
  exact h.at_ k hk
def updL (f : Nat → List UInt8) (L : List (Int × List UInt8)) : Nat → List UInt8 := L.foldl (fun f p => upd f p.1.toNat p.2) f
theorem Mq.lay : ∀ (L : List (Int × List UInt8)) {D : DS} {f : Nat → List UInt8} {n : Nat}, Mq D f n → (∀ p ∈ L, (0 ≤ p.1 ∧ p.1 < 64) ∧ p.2.length = 4096) → (layD L D).2 = 0 ∧ Mq (layD L D).1 (updL f L) (n + L.length) ∧ (layD L D).1.uf = []
  | [], D, f, n, h, _ => by
    obtain ⟨h1, h2, h3⟩ := h.flush
    exact ⟨h1, h2, h3⟩
  | p :: r, D, f, n, h, hp => by
    obtain ⟨⟨p0, p1⟩, pl⟩ := hp p (List.mem_cons_self ..)
    obtain ⟨k, hk⟩ : ∃ k : Nat, p.1 = k := ⟨p.1.toNat, by omega⟩
    obtain ⟨h1, h2, _⟩ := h.write k (by omega) p.2 pl
    obtain ⟨i1, i2, i3⟩ := Mq.lay r h2 (fun q hq => hp q (List.mem_cons_of_mem _ hq))
    unfold layD
    rw [hk, if_pos h1]
    refine ⟨i1, ?_, i3⟩
    have e : updL f (p :: r) = updL (upd f k p.2) r := by simp [updL, hk]
    rw [e, List.length_cons, show n + (r.length + 1) = n + 1 + r.length by omega]
    exact i2
theorem Mq.do_ {D : DS} {f : Nat → List UInt8} {n : Nat} (h : Mq D f n) (L : List (Int × List UInt8)) (hp : ∀ p ∈ L, (0 ≤ p.1 ∧ p.1 < 64) ∧ p.2.length = 4096) (s : Nat) (hs : s < 64) (sb : List UInt8) (hsb : sb.length = 4096) :
    (doD L (s : Int) sb D).2 = 0 ∧ Mq (doD L (s : Int) sb D).1 (upd (updL f L) s sb) (n + L.length + 1) ∧ (doD L (s : Int) sb D).1.uf = [] := by
  obtain ⟨h1, h2, _⟩ := Mq.lay L h hp
  obtain ⟨i1, i2, i3⟩ := Mq.lay [((s : Int), sb)] h2 (fun q hq => by
    simp at hq
    subst hq
    exact ⟨⟨by show (0 : Int) ≤ s; omega, by show (s : Int) < 64; omega⟩, hsb⟩)
  unfold doD
  rw [if_pos h1]
  exact ⟨i1, by simpa [updL] using i2, i3⟩
theorem crash_none (D : DS) (m : Nat) : D.crash [] (-1) m = { D with uf := [], gone := false, arm := ⟨false, 0⟩, fail := ⟨false, 0⟩ } := by
  have e : ∀ k, Dk.crashTo [] (-1) m D.uf D.dur k = D.dur := fun k => by
    induction k with
    | zero => rfl
    | succ k ih =>
      unfold Dk.crashTo
      cases D.uf[k]? with
      | none => exact ih
      | some w =>
        dsimp only
        rw [if_neg (by omega), if_neg (by simp [Dk.keeps])]
        exact ih
  unfold DS.crash
  rw [e]
theorem Mq.crash {D D' : DS} {f : Nat → List UInt8} {n n' : Nat} (h : Mq D f n) (hu : D.uf = []) (hn : D'.n ≤ n') (hd : D'.dur = D.dur) (hb : D'.nb = D.nb) (m : Nat) : Mq (D'.crash [] (-1) m) f n' ∧ (D'.crash [] (-1) m).uf = [] := by
  rw [crash_none]
  refine ⟨⟨hb.trans h.nb, ⟨rfl, rfl, rfl⟩, ⟨by show D'.dur.length = D'.nb * 4096; rw [hd, hb]; exact h.ok.len, by show 1 ≤ D'.nb; rw [hb]; exact h.ok.lo, by show D'.nb ≤ 512; rw [hb]; exact h.ok.hi, fun p hp => (by cases hp), by show (0 : Nat) < 9223372036854775808; decide, by show (0 : Nat) < 9223372036854775808; decide⟩, hn, fun k hk => ?_⟩, rfl⟩
  rw [← h.at_ k hk]
  unfold DS.stand
  rw [hu, hd]
theorem Mq.new (N : Nat) (hN : N = 64 * 4096) : Mq (DS.new 64 (nought N)) (fun _ => nought 4096) 0 := by
  refine ⟨rfl, J.calm_new _ _, ⟨by show (nought N).length = 64 * 4096; rw [Dk.nought_length, hN], by show 1 ≤ 64; decide, by show 64 ≤ 512; decide, fun p hp => (by cases hp), by show (0 : Nat) < 9223372036854775808; decide, by show (0 : Nat) < 9223372036854775808; decide⟩, Nat.le_refl _, fun k hk => ?_⟩
  show blk (nought N) k = nought 4096
  rw [S.blk_nought N k (by rw [hN]; omega)]
  rfl
def f1 : Nat → List UInt8 := upd (fun _ => nought 4096) 0 (Su.superB 64 1 1 0)
theorem updL_fmt : ∀ n, updL (fun _ => nought 4096) (fmtL n) = fun _ => nought 4096
  | 0 => rfl
  | n + 1 => by
    have := updL_fmt n
    unfold updL at this ⊢
    rw [fmtL, List.foldl_append, this]
    funext i
    show upd (fun _ => nought 4096) _ (nought 4096) i = nought 4096
    unfold upd
    split <;> rfl
theorem fmt_new (N : Nat) (hN : N = 64 * 4096) : (fmtD (DS.new 64 (nought N))).2 = 0 ∧ Mq (fmtD (DS.new 64 (nought N))).1 f1 23 ∧ (fmtD (DS.new 64 (nought N))).1.uf = [] := by
  have h := (Mq.new N hN).do_ (fmtL 22) (fun p hp => by
    obtain ⟨k, hk, rfl⟩ := List.getElem_of_mem hp
    rw [fmtL_len] at hk
    rw [fmtL_get]
    exact ⟨⟨by show (0 : Int) ≤ (k : Int) + 1; omega, by show (k : Int) + 1 < 64; omega⟩, Dk.nought_length 4096⟩) 0 (by decide) (Su.superB 64 1 1 0) (Su.superB_length 64 1 1 0)
  rw [updL_fmt, fmtL_len] at h
  have e : ∀ D : DS, fmtD D = doD (fmtL 22) ((0 : Nat) : Int) (Su.superB 64 1 1 0) D := fun D => rfl
  rw [e]
  refine ⟨h.1, ?_, h.2.2⟩
  unfold f1
  exact h.2.1
def f2 : Nat → List UInt8 := upd f1 1 (Su.superB 64 2 1 0)
def f3 : Nat → List UInt8 := upd f2 0 (Su.superB 64 3 1 0)
theorem get_zero : Su.getSuper (nought 4096) = none := by
  cases h : Su.getSuper (nought 4096) with
  | none => rfl
  | some s =>
    have h2 := (Su.getSuper_some h).2
    rw [Su.superB_eq] at h2
    have h3 := congrArg (fun l => l[0]?) h2
    have h4 : (nought 4096)[0]? = some 0 := by rw [nought, List.getElem?_replicate, if_pos (by decide)]
    rw [h4] at h3
    have h5 : ∀ X : List UInt8, (Su.letters ++ X)[0]? = some 76 := fun X => rfl
    rw [h5] at h3
    cases h3
theorem ch1 : H.choose (Su.getSuper (f1 0)) (Su.getSuper (f1 1)) = (⟨64, 1, 1, 0⟩, 0, true) := by
  have e0 : f1 0 = Su.superB 64 1 1 0 := rfl
  have e1 : f1 1 = nought 4096 := rfl
  have e : Su.getSuper (Su.superB 64 1 1 0) = some ⟨64, 1, 1, 0⟩ := Su.getSuper_put 64 1 1 0 (by decide)
  rw [e0, e1, get_zero, e]
  rfl
theorem ch2 : H.choose (Su.getSuper (f2 0)) (Su.getSuper (f2 1)) = (⟨64, 2, 1, 0⟩, 1, true) := by
  have e0 : f2 0 = Su.superB 64 1 1 0 := rfl
  have e1 : f2 1 = Su.superB 64 2 1 0 := rfl
  have a : Su.getSuper (Su.superB 64 1 1 0) = some ⟨64, 1, 1, 0⟩ := Su.getSuper_put 64 1 1 0 (by decide)
  have b : Su.getSuper (Su.superB 64 2 1 0) = some ⟨64, 2, 1, 0⟩ := Su.getSuper_put 64 2 1 0 (by decide)
  rw [e0, e1, a, b]
  rfl
theorem run_zero {D : DS} {f : Nat → List UInt8} {n t E s : Nat} (h : Mq D f n) (hf : ∀ k, 2 ≤ k → k < 18 → f k = nought 4096) {xs : List S.Gx} (hr : S.Run D t E 0 s xs) : xs = [] := by
  cases xs with
  | nil => rfl
  | cons x r =>
    refine absurd hr.1.2.2.1 (fun g => ?_)
    have hs := S.gok_s g
    have h1 := S.gok_marks g 0 (by omega) 0
    have hz : S.rg D t 0 = List.replicate 4096 0 := by
      unfold S.rg
      rw [h.at_ _ (by omega), hf _ (by omega) (by omega)]
      rfl
    rw [Nat.add_zero, hz, S.sec_zero] at h1
    exact Rc.mark_ne (by omega) (by omega) (by omega) h1.symm
end Go.Proofs.YtnldkpckojhbhaaGreat.V

/-
  What Mount reads: the superblocks; may this super be mounted?
-/
namespace Go.Proofs.YtnldkpckojhbhaaGreat.V
open Go.RowKit
open Go.Proofs.YtnldkpckojhbhaaGreat.Dk (Box DS IsDisk Upd Rd RowB)

theorem rowB_cap {w : World} {g c : Nat} {ys : List UInt8} (h : RowB w g c ys) : ys.length ≤ c ∧ c ≤ 9223372036854775807 := by
  obtain ⟨_, _, h1, h2, _⟩ := h
  exact ⟨h1, by unfold maxLen at h2; omega⟩
theorem all6 {w : World} {g : Nat} {v0 v1 v2 v3 v4 v5 : Value} {t : TypeId} (h : Box w g #[v0, v1, v2, v3, v4, v5] t) : w.cell? ⟨g, 0, none⟩ = some v0 ∧ w.cell? ⟨g, 1, none⟩ = some v1 ∧ w.cell? ⟨g, 2, none⟩ = some v2 ∧ w.cell? ⟨g, 3, none⟩ = some v3 ∧ w.cell? ⟨g, 4, none⟩ = some v4 ∧ w.cell? ⟨g, 5, none⟩ = some v5 :=
  ⟨h.cell 0, h.cell 1, h.cell 2, h.cell 3, h.cell 4, h.cell 5⟩
theorem all7 {w : World} {g : Nat} {v0 v1 v2 v3 v4 v5 v6 : Value} {t : TypeId} (h : Box w g #[v0, v1, v2, v3, v4, v5, v6] t) : w.cell? ⟨g, 0, none⟩ = some v0 ∧ w.cell? ⟨g, 1, none⟩ = some v1 ∧ w.cell? ⟨g, 2, none⟩ = some v2 ∧ w.cell? ⟨g, 3, none⟩ = some v3 ∧ w.cell? ⟨g, 4, none⟩ = some v4 ∧ w.cell? ⟨g, 5, none⟩ = some v5 ∧ w.cell? ⟨g, 6, none⟩ = some v6 :=
  ⟨h.cell 0, h.cell 1, h.cell 2, h.cell 3, h.cell 4, h.cell 5, h.cell 6⟩
theorem all4 {w : World} {g : Nat} {v0 v1 v2 v3 : Value} {t : TypeId} (h : Box w g #[v0, v1, v2, v3] t) : w.cell? ⟨g, 0, none⟩ = some v0 ∧ w.cell? ⟨g, 1, none⟩ = some v1 ∧ w.cell? ⟨g, 2, none⟩ = some v2 ∧ w.cell? ⟨g, 3, none⟩ = some v3 :=
  ⟨h.cell 0, h.cell 1, h.cell 2, h.cell 3⟩
theorem fr6 {w : World} {g : Nat} {cs : Array Value} {t : TypeId} (h : Box w g cs t) : w.frozen? ⟨g, 0, none⟩ = false ∧ w.frozen? ⟨g, 1, none⟩ = false ∧ w.frozen? ⟨g, 2, none⟩ = false ∧ w.frozen? ⟨g, 3, none⟩ = false ∧ w.frozen? ⟨g, 4, none⟩ = false ∧ w.frozen? ⟨g, 5, none⟩ = false :=
  ⟨h.frozen 0, h.frozen 1, h.frozen 2, h.frozen 3, h.frozen 4, h.frozen 5⟩
theorem supers_at {g : Nat} {w : World} {D : DS} {F : Nat → Prop} (hd : IsDisk w g D F) (hnb : D.nb = 64) (hg : D.gone = false) (hlim : D.uf.length ≤ 1000000) :
    Calls Tryz.prog 142 #[.pointer (some ⟨g, 0, none⟩)] w fun r w' => ∃ ga ca gb cb, r = .returned (.tuple #[.slice (some ⟨ga, 0, none⟩) 4096 ca, .slice (some ⟨gb, 0, none⟩) 4096 cb, .int .i64 0]) ∧ RowB w' ga ca (D.stand 0) ∧ RowB w' gb cb (D.stand 1) ∧ Below w.heap.size w w' := by
  have c0 := Dk.read_at hd 0 (by omega) hg hlim
  have HD : Hid (IsDisk w g D F) := hd
  clear hd
  go_enter Tryz.func142, Tryz.ntmps142
  go_wp2_with fail
  refine Calls.mono c0 ?_
  rintro r u1 ⟨ga, ca, rfl, _, r1, b1⟩
  have c1 := Dk.read_at (HD.out.below b1) 1 (by omega) hg hlim
  clear c0
  go_wp2_with fail
  refine Calls.mono c1 ?_
  rintro r u2 ⟨gb, cb, rfl, _, r2, b2⟩
  have B := b1.trans (b2.mono b1.size)
  have r3 := r1.same (b2.block ga r1.lt)
  clear c1
  go_wp2_with fail
  exact bodyPost_ret (v := .tuple #[.slice (some ⟨ga, 0, none⟩) 4096 ca, .slice (some ⟨gb, 0, none⟩) 4096 cb, .int .i64 0]) (by simp [results, Tryz.results142, go_sem]) rfl ⟨ga, ca, gb, cb, rfl, r3, r2, B⟩
theorem mayMount_at (w : World) (e q t : Int) (he : e < 8388608) (ht : t < 16) :
    Calls Tryz.prog 159 #[.agg #[.int .i64 64, .int .i64 2, .int .i64 16, .int .i64 18, .int .i64 19, .int .i64 4, .int .i64 23], .agg #[.int .i64 64, .int .i64 e, .int .i64 q, .int .i64 t]] w fun r w' => r = .returned (.bool true) ∧ Below w.heap.size w w' := by
  have B := ((Below.refl w.heap.size w).alloc (Nat.le_refl _) (.cells #[.int .i64 64, .int .i64 2, .int .i64 16, .int .i64 18, .int .i64 19, .int .i64 4, .int .i64 23] 57)).alloc (by simp) (.cells #[.int .i64 64, .int .i64 e, .int .i64 q, .int .i64 t] 141)
  go_enter Tryz.func159, Tryz.ntmps159
  go_wp2_with fail
  go_ret
  exact ⟨rfl, B⟩
end Go.Proofs.YtnldkpckojhbhaaGreat.V

/-
  find: what Mount is to do, given what the ring's groups and their homes are.
-/
namespace Go.Proofs.YtnldkpckojhbhaaGreat.V
open Go.RowKit
open Go.Proofs.YtnldkpckojhbhaaGreat.Dk (Box DS IsDisk Upd Rd RowB)
open Go.Proofs.YtnldkpckojhbhaaGreat.Su (getSuper supV)

set_option maxRecDepth 100000 in
set_option maxHeartbeats 4000000 in
theorem find_in {g : Nat} {w : World} {D : DS} {F : Nat → Prop} (hd : IsDisk w g D F) (hnb : D.nb = 64) (hg : D.gone = false) (hlim : D.uf.length ≤ 1000000)
    (E S t k pl : Int) (hch : H.choose (getSuper (D.stand 0)) (getSuper (D.stand 1)) = (⟨64, E, S, t⟩, k, true)) (hE : 1 ≤ E ∧ E < 8388608) (hS : 1 ≤ S) (ht : 0 ≤ t ∧ t < 16) (hk : k = 0 ∨ k = 1) (N : Nat) (hN : S + N ≤ 549755813888) (hN2 : N ≤ 100) (hs0 : (D.stand 0).length = 4096) (hs1 : (D.stand 1).length = 4096)
    (PG : Option Addr → Nat → World → Prop) (PI : Option Addr → Nat → Nat → World → Prop)
    (cG : ∀ u, Below w.heap.size w u → Calls Tryz.prog 160 #[.pointer (some ⟨g, 0, none⟩), .agg #[.int .i64 64, .int .i64 2, .int .i64 16, .int .i64 18, .int .i64 19, .int .i64 4, .int .i64 23], .agg #[.int .i64 64, .int .i64 E, .int .i64 S, .int .i64 t]] u fun r w' => ∃ ga gc, r = .returned (.tuple #[.slice ga N gc, .int .i64 pl, .int .i64 0]) ∧ PG ga gc w' ∧ Below u.heap.size u w')
    (cH : ∀ u ga gc, PG ga gc u → w.heap.size + 2 ≤ u.heap.size → Calls Tryz.prog 161 #[.agg #[.int .i64 64, .int .i64 2, .int .i64 16, .int .i64 18, .int .i64 19, .int .i64 4, .int .i64 23], .slice ga N gc] u fun r w' => ∃ a n c, r = .returned (.tuple #[.slice a n c, .int .i64 0]) ∧ PI a n c w' ∧ Below u.heap.size u w')
    (hPI : ∀ a n c u u', PI a n c u → (∀ i, i < u.heap.size → i ≠ w.heap.size + 1 → u'.heap[i]? = u.heap[i]?) → u.heap.size ≤ u'.heap.size → PI a n c u') :
    Calls Tryz.prog 90 #[.pointer (some ⟨g, 0, none⟩), .agg #[.int .i64 64, .int .i64 2, .int .i64 16, .int .i64 18, .int .i64 19, .int .i64 4, .int .i64 23]] w fun r w' => ∃ a n c, r = .returned (.tuple #[.agg #[.slice a n c, .int .i64 64, .int .i64 (E + 1), .int .i64 (S + N), .int .i64 pl, .int .i64 (1 - k)], .int .i64 0]) ∧ PI a n c w' ∧ Below w.heap.size w w' := by
  have HG : Hid (∀ u, Below w.heap.size w u → Calls Tryz.prog 160 #[.pointer (some ⟨g, 0, none⟩), .agg #[.int .i64 64, .int .i64 2, .int .i64 16, .int .i64 18, .int .i64 19, .int .i64 4, .int .i64 23], .agg #[.int .i64 64, .int .i64 E, .int .i64 S, .int .i64 t]] u fun r w' => ∃ ga gc, r = .returned (.tuple #[.slice ga N gc, .int .i64 pl, .int .i64 0]) ∧ PG ga gc w' ∧ Below u.heap.size u w') := cG
  have HH : Hid (∀ u ga gc, PG ga gc u → w.heap.size + 2 ≤ u.heap.size → Calls Tryz.prog 161 #[.agg #[.int .i64 64, .int .i64 2, .int .i64 16, .int .i64 18, .int .i64 19, .int .i64 4, .int .i64 23], .slice ga N gc] u fun r w' => ∃ a n c, r = .returned (.tuple #[.slice a n c, .int .i64 0]) ∧ PI a n c w' ∧ Below u.heap.size u w') := cH
  have HPI : Hid (∀ a n c u u', PI a n c u → (∀ i, i < u.heap.size → i ≠ w.heap.size + 1 → u'.heap[i]? = u.heap[i]?) → u.heap.size ≤ u'.heap.size → PI a n c u') := hPI
  have HCh : Hid (H.choose (getSuper (D.stand 0)) (getSuper (D.stand 1)) = (⟨64, E, S, t⟩, k, true)) := hch
  have HL : Hid ((D.stand 0).length = 4096 ∧ (D.stand 1).length = 4096) := ⟨hs0, hs1⟩
  have x0 := (Box.new w #[.int .i64 64, .int .i64 2, .int .i64 16, .int .i64 18, .int .i64 19, .int .i64 4, .int .i64 23] 57).alloc (.cells #[.slice none 0 0, .int .i64 0, .int .i64 0, .int .i64 0, .int .i64 0, .int .i64 0] 143)
  have y0 := Box.new (w.alloc (.cells #[.int .i64 64, .int .i64 2, .int .i64 16, .int .i64 18, .int .i64 19, .int .i64 4, .int .i64 23] 57)) #[.slice none 0 0, .int .i64 0, .int .i64 0, .int .i64 0, .int .i64 0, .int .i64 0] 143
  have sz : (w.alloc (.cells #[.int .i64 64, .int .i64 2, .int .i64 16, .int .i64 18, .int .i64 19, .int .i64 4, .int .i64 23] 57)).heap.size = w.heap.size + 1 := by simp
  rw [sz] at y0
  clear sz
  have B0 := ((Below.refl w.heap.size w).alloc (Nat.le_refl _) (.cells #[.int .i64 64, .int .i64 2, .int .i64 16, .int .i64 18, .int .i64 19, .int .i64 4, .int .i64 23] 57)).alloc (by simp) (.cells #[.slice none 0 0, .int .i64 0, .int .i64 0, .int .i64 0, .int .i64 0, .int .i64 0] 143)
  have cS := supers_at (hd.below B0) hnb hg hlim
  clear cG cH hPI hch hs0 hs1 hnb hg hlim hd
  go_enter Tryz.func90, Tryz.ntmps90
  go_wp2_with fail
  refine Calls.mono cS ?_
  rintro r u1 ⟨ga, ca, gb, cb, rfl, r1, r2, b1⟩
  obtain ⟨q1, q2⟩ := rowB_cap r1
  obtain ⟨q3, q4⟩ := rowB_cap r2
  have cC := H.choose_at 4096 ca 4096 cb (some ⟨ga, 0, none⟩) (some ⟨gb, 0, none⟩) (D.stand 0) (D.stand 1) u1 HL.out.1 (by have := HL.out.1; omega) q2 r1.rd HL.out.2 (by have := HL.out.2; omega) q4 r2.rd
  rw [HCh.out] at cC
  unfold supV at cC
  dsimp only at cC
  have B1 := B0.trans (b1.mono B0.size)
  have x1 := x0.below b1
  have y1 := y0.below b1
  clear cS b1 x0 y0 B0 r1 r2 q1 q2 q3 q4 HL HCh
  go_wp2_with fail
  refine Calls.mono cC ?_
  rintro r u2 ⟨rfl, b2⟩
  have z2 := Box.new u2 #[.int .i64 64, .int .i64 E, .int .i64 S, .int .i64 t] 141
  have bz := (Below.refl u2.heap.size u2).alloc (Nat.le_refl _) (.cells #[.int .i64 64, .int .i64 E, .int .i64 S, .int .i64 t] 141)
  have x2 := (x1.below b2).below bz
  have y2 := (y1.below b2).below bz
  have B2 := (B1.trans (b2.mono B1.size)).trans (bz.mono (B1.trans (b2.mono B1.size)).size)
  obtain ⟨u3, hu3⟩ : ∃ u, u = u2.alloc (.cells #[.int .i64 64, .int .i64 E, .int .i64 S, .int .i64 t] 141) := ⟨_, rfl⟩
  have HU3 : Hid (u3 = u2.alloc (.cells #[.int .i64 64, .int .i64 E, .int .i64 S, .int .i64 t] 141)) := hu3
  have cM := mayMount_at (u2.alloc (.cells #[.int .i64 64, .int .i64 E, .int .i64 S, .int .i64 t] 141)) E S t hE.2 ht.2
  have k0 := x2.cell 0
  have k1 := x2.cell 1
  have k2 := x2.cell 2
  have k3 := x2.cell 3
  have k4 := x2.cell 4
  have k5 := x2.cell 5
  have k6 := x2.cell 6
  have s0 := z2.cell 0
  have s1 := z2.cell 1
  have s2 := z2.cell 2
  have s3 := z2.cell 3
  simp only [List.getElem?_toArray, List.getElem?_cons_zero, List.getElem?_cons_succ] at k0 k1 k2 k3 k4 k5 k6 s0 s1 s2 s3
  rw [← hu3] at x2 y2 z2 B2
  clear cC bz b2 x1 y1 B1 hu3
  go_wp2_with fail
  refine Calls.mono cM ?_
  rintro r u4 ⟨rfl, b4⟩
  rw [← HU3.out] at b4
  have x4 := x2.below b4
  have y4 := y2.below b4
  have z4 := z2.below b4
  have B4 := B2.trans (b4.mono B2.size)
  have cG := HG.out u4 B4
  clear k0 k1 k2 k3 k4 k5 k6 s0 s1 s2 s3 cM x2 y2 z2 B2 b4 HG HU3
  have k0 := x4.cell 0
  have k1 := x4.cell 1
  have k2 := x4.cell 2
  have k3 := x4.cell 3
  have k4 := x4.cell 4
  have k5 := x4.cell 5
  have k6 := x4.cell 6
  have s0 := z4.cell 0
  have s1 := z4.cell 1
  have s2 := z4.cell 2
  have s3 := z4.cell 3
  simp only [List.getElem?_toArray, List.getElem?_cons_zero, List.getElem?_cons_succ] at k0 k1 k2 k3 k4 k5 k6 s0 s1 s2 s3
  go_wp2_with fail
  refine Calls.mono cG ?_
  rintro r u5 ⟨ha, hc, rfl, hpg, b5⟩
  have x5 := x4.below b5
  have y5 := y4.below b5
  have z5 := z4.below b5
  have B5 := B4.trans (b5.mono B4.size)
  have cH := HH.out u5 ha hc hpg y5.lt
  clear k0 k1 k2 k3 k4 k5 k6 s0 s1 s2 s3 cG x4 y4 z4 B4 b5 HH hpg
  have k0 := x5.cell 0
  have k1 := x5.cell 1
  have k2 := x5.cell 2
  have k3 := x5.cell 3
  have k4 := x5.cell 4
  have k5 := x5.cell 5
  have k6 := x5.cell 6
  have s2 := z5.cell 2
  simp only [List.getElem?_toArray, List.getElem?_cons_zero, List.getElem?_cons_succ] at k0 k1 k2 k3 k4 k5 k6 s2
  have hgt : ¬ (549755813888 : Int) < S + (N : Int) := by omega
  go_wp2_with fail
  refine Calls.mono cH ?_
  rintro r u6 ⟨ia, im, ic, rfl, hpi, b6⟩
  have y6 := y5.below b6
  have z6 := z5.below b6
  have B6 := B5.trans (b6.mono B5.size)
  have z7 := Box.new u6 #[.int .i64 64, .int .i64 (E + 1), .int .i64 (S + N), .int .i64 pl] 141
  have bz := (Below.refl u6.heap.size u6).alloc (Nat.le_refl _) (.cells #[.int .i64 64, .int .i64 (E + 1), .int .i64 (S + N), .int .i64 pl] 141)
  have y7 := y6.below bz
  have B7 := B6.trans (bz.mono B6.size)
  have hpi7 := HPI.out ia im ic _ _ hpi (fun i h1 _ => bz.block i h1) bz.size
  clear k0 k1 k2 k3 k4 k5 k6 s2 cH x5 y5 z5 B5 b6
  have s0 := z6.cell 0
  have s1 := z6.cell 1
  have t0 := z7.cell 0
  have t1 := z7.cell 1
  have t2 := z7.cell 2
  have t3 := z7.cell 3
  simp only [List.getElem?_toArray, List.getElem?_cons_zero, List.getElem?_cons_succ] at s0 s1 t0 t1 t2 t3
  obtain ⟨p0, p1, p2, p3, p4, p5⟩ := all6 y7
  obtain ⟨f0, f1, f2, f3, f4, f5⟩ := fr6 y7
  go_wp2_with fail
  refine bodyPost_ret (hd := rfl) (hR := ⟨ia, im, ic, rfl, ?_, ?_⟩) (hr := ?_)
  · simp [results, Tryz.results90, go_sem, *]
  · refine HPI.out ia im ic _ _ hpi7 (fun i h1 h2 => ?_) (by simp)
    repeat rw [heap_setCell_other _ _ _ _ (by exact h2)]
  · repeat (refine Below.setCell ?_ (by simp) _)
    exact B7
end Go.Proofs.YtnldkpckojhbhaaGreat.V

/-
  A volume's maps: blocks' bytes, counts.
-/
namespace Go.Proofs.YtnldkpckojhbhaaGreat.V
open Go.RowKit Go.Maps
open Go.Proofs.YtnldkpckojhbhaaGreat.H (MapI rV keyed3 key3)

theorem updateB {w : World} {b n : Nat} {m : Int → Option Value} (h : MapI w b n m) (hn : n < maxLen) (k : Int) (hk : (Lit.int .i64 k).wf = true) (v : Value) :
    ∃ w', (Instr.mapUpdate 78 (.map (some b)) (.int .i64 k) v).run Tryz.prog w = .ok () w' ∧ MapI w' b (n + 1) (fun j => if j = k then some v else m j) ∧ w.grownBy w' (some b) := by
  obtain ⟨D, h1, h2, h3⟩ := h
  obtain ⟨w', r, o, g⟩ := h1.update keyed3 Tryz.underlying78 hn (key3 hk) (show rV v = some (.held v, []) from rfl)
  refine ⟨w', r, ⟨_, o, fun j hj => ?_, fun j hj => ?_⟩, g⟩
  · dsimp only at hj
    by_cases e : j = k
    · rw [e]; exact hk
    · rw [if_neg e] at hj; exact h2 j hj
  · dsimp only
    by_cases e : j = k
    · subst e
      rw [if_pos rfl]
      exact ⟨has_put_same h1.isMap (show WideAt.IsKeyLit (.int .i64 j) from trivial) _, fun z => atKey_put_same h1.isMap (show WideAt.IsKeyLit (.int .i64 j) from trivial) _ z⟩
    · have ne : Lit.int .i64 j ≠ Lit.int .i64 k := fun h => e (by injection h)
      rw [if_neg e, has_put_other ne]
      exact ⟨(h3 j hj).1, fun z => (atKey_put_other ne _ z).trans ((h3 j hj).2 z)⟩
theorem updateI {w : World} {b n : Nat} {m : Int → Option Value} (h : MapI w b n m) (hn : n < maxLen) (k : Int) (hk : (Lit.int .i64 k).wf = true) (v : Value) :
    ∃ w', (Instr.mapUpdate 235 (.map (some b)) (.int .i64 k) v).run Tryz.prog w = .ok () w' ∧ MapI w' b (n + 1) (fun j => if j = k then some v else m j) ∧ w.grownBy w' (some b) := by
  obtain ⟨D, h1, h2, h3⟩ := h
  obtain ⟨w', r, o, g⟩ := h1.update keyed3 Tryz.underlying235 hn (key3 hk) (show rV v = some (.held v, []) from rfl)
  refine ⟨w', r, ⟨_, o, fun j hj => ?_, fun j hj => ?_⟩, g⟩
  · dsimp only at hj
    by_cases e : j = k
    · rw [e]; exact hk
    · rw [if_neg e] at hj; exact h2 j hj
  · dsimp only
    by_cases e : j = k
    · subst e
      rw [if_pos rfl]
      exact ⟨has_put_same h1.isMap (show WideAt.IsKeyLit (.int .i64 j) from trivial) _, fun z => atKey_put_same h1.isMap (show WideAt.IsKeyLit (.int .i64 j) from trivial) _ z⟩
    · have ne : Lit.int .i64 j ≠ Lit.int .i64 k := fun h => e (by injection h)
      rw [if_neg e, has_put_other ne]
      exact ⟨(h3 j hj).1, fun z => (atKey_put_other ne _ z).trans ((h3 j hj).2 z)⟩
theorem lookB {w : World} {b n : Nat} {m : Int → Option Value} (h : MapI w b n m) (k : Int) (hk : (Lit.int .i64 k).wf = true) :
    (Instr.lookup 78 (.map (some b)) (.int .i64 k) true).run Tryz.prog w = .ok (.tuple #[(m k).getD (.slice none 0 0), .bool (m k).isSome]) w := by
  obtain ⟨D, h1, h2, h3⟩ := h
  obtain ⟨v, ps, r, e⟩ := h1.look_ok keyed3 Tryz.underlying78 (Tryz.zeroValue37 w) (show rV _ = some (.held _, []) from rfl) (key3 hk)
  rw [(h3 k hk).2] at e
  rw [r, (h3 k hk).1]
  cases hm : m k with
  | none =>
    rw [hm] at e
    simp [rV] at e
    rw [e.1]
    rfl
  | some x =>
    rw [hm] at e
    simp [rV] at e
    rw [e.1]
    rfl
theorem lookI {w : World} {b n : Nat} {m : Int → Option Value} (h : MapI w b n m) (k : Int) (hk : (Lit.int .i64 k).wf = true) (hm : m k = none) :
    (Instr.lookup 235 (.map (some b)) (.int .i64 k) false).run Tryz.prog w = .ok (.int .i64 0) w := by
  obtain ⟨D, h1, h2, h3⟩ := h
  obtain ⟨v, ps, r, e⟩ := h1.lookup keyed3 Tryz.underlying235 (Tryz.zeroValue3 w) (show rV _ = some (.held _, []) from rfl) (key3 hk)
  rw [(h3 k hk).2, hm] at e
  simp [rV] at e
  rw [r, e.1]
theorem nodup_sub : ∀ (a b : List Int), a.Nodup → (∀ x ∈ a, x ∈ b) → a.length ≤ b.length
  | [], _, _, _ => Nat.zero_le _
  | x :: a, b, hn, h => by
    have hx : x ∈ b := h x (List.mem_cons_self ..)
    have h1 := nodup_sub a (b.erase x) (List.nodup_cons.1 hn).2 (fun y hy => by
      have hne : y ≠ x := fun e => (List.nodup_cons.1 hn).1 (e ▸ hy)
      exact (List.mem_erase_of_ne hne).2 (h y (List.mem_cons_of_mem _ hy)))
    rw [List.length_erase_of_mem hx] at h1
    have := List.length_pos_of_mem hx
    simp only [List.length_cons]
    omega
theorem lenI {w : World} {b n : Nat} {m : Int → Option Value} (h : MapI w b n m) (ks : List Int) (hn : ks.Nodup) (hk : ∀ x, x ∈ ks ↔ (m x).isSome = true) (ty : TypeId) :
    (Builtin.len_ #[235] ty #[.map (some b)]).run Tryz.prog w = .ok (.int .i64 (ks.length : Int)) w := by
  obtain ⟨D, h1, h2, h3⟩ := h.keys
  have e : Maps.size D = ks.length := by
    have hs : Maps.size D = (intKeys D).length := by
      obtain ⟨es, cl, hb, F, hs, rfl⟩ := h1
      simp [Maps.size, intKeys]
    rw [hs]
    exact Nat.le_antisymm (nodup_sub _ _ h2 (fun x hx => (hk x).2 ((h3 x).1 hx))) (nodup_sub _ _ hn (fun x hx => (h3 x).2 ((hk x).1 hx)))
  rw [h1.len Tryz.underlying235 ty, e]
end Go.Proofs.YtnldkpckojhbhaaGreat.V

/-
  Mount, given what find tells.
-/
namespace Go.Proofs.YtnldkpckojhbhaaGreat.V
open Go.RowKit
open Go.Proofs.YtnldkpckojhbhaaGreat.Dk (Box DS IsDisk Upd Rd RowB)
open Go.Proofs.YtnldkpckojhbhaaGreat.H (ImsD ImD doR MapI)

theorem mapI_same {w w' : World} {b n : Nat} {m : Int → Option Value} (h : MapI w b n m) (hb : w'.heap[b]? = w.heap[b]?) : MapI w' b n m := by
  obtain ⟨D, ⟨es, cl, h1, h2⟩, h3⟩ := h
  exact ⟨D, ⟨es, cl, hb.trans h1, h2⟩, h3⟩
structure VD (w : World) (v dg j gm : Nat) (ep : Int) (br : Bool) (S : J.JS) (xs : List Int) (D : DS) (cn : Nat) (m : Int → Option Value) (F : Nat → Prop) : Prop where
  box : Box w v (vC v dg j gm ep br) 80
  jd : J.JD w j dg S xs D F
  map : MapI w gm cn m
  nv : ¬ F v
  nm : ¬ F gm
  ne : v ≠ gm

set_option maxRecDepth 100000 in
set_option maxHeartbeats 4000000 in
theorem mount_in {g : Nat} {w : World} {D : DS} {F : Nat → Prop} (hd : IsDisk w g D F) (hnb : D.nb = 64) (hlim : D.uf.length ≤ 800000 ∧ D.n ≤ 800000)
    (E S t : Int) (slot : Int) (hE : 1 ≤ E ∧ E ≤ 8388608) (hS : 1 ≤ S ∧ S ≤ 549755813888) (ht : 0 ≤ t ∧ t ≤ 15) (sb : List UInt8) (hsb : Su.putSuper 64 E S t = some sb)
    (D' : DS) (hDn : D'.nb = 64) (PI : Option Addr → Nat → Nat → World → Prop)
    (cF : ∀ u, Below w.heap.size w u → Calls Tryz.prog 90 #[.pointer (some ⟨g, 0, none⟩), .agg #[.int .i64 64, .int .i64 2, .int .i64 16, .int .i64 18, .int .i64 19, .int .i64 4, .int .i64 23]] u fun r w' => ∃ a n c, r = .returned (.tuple #[.agg #[.slice a n c, .int .i64 64, .int .i64 E, .int .i64 S, .int .i64 t, .int .i64 slot], .int .i64 0]) ∧ PI a n c w' ∧ Below u.heap.size u w')
    (hPI : ∀ a n c u u', PI a n c u → Below u.heap.size u u' → PI a n c u')
    (hIm : ∀ a n c u, PI a n c u → Below w.heap.size w u → ∃ L : List ImD, L.length = n ∧ n ≤ 1000 ∧ ImsD u a L F ∧ doR D L (some sb) slot = (D', 0)) :
    Calls Tryz.prog 19 #[.pointer (some ⟨g, 0, none⟩)] w fun r w' => ∃ v j gm F', r = .returned (.tuple #[.pointer (some ⟨v, 0, none⟩), .int .i64 0]) ∧ VD w' v g j gm E false (J.opened 64 E S t) [] D' 0 (fun _ => none) F' ∧ (∀ i, F' i → F i ∨ w.heap.size ≤ i) ∧ w.heap.size ≤ v ∧ w.heap.size ≤ gm ∧ Upd F w w' := by
  have cS := Dk.size_of hd
  rw [hnb] at cS
  have cO := La.of_good 64 w (by decide) (by decide)
  rw [show La.layA 64 = #[.int .i64 64, .int .i64 2, .int .i64 16, .int .i64 18, .int .i64 19, .int .i64 4, .int .i64 23] by rfl] at cO
  have HD : Hid (IsDisk w g D F) := hd
  have HLim : Hid (D.uf.length ≤ 800000 ∧ D.n ≤ 800000) := hlim
  have HFl : Hid (∀ i, F i → i < w.heap.size) := hd.flt
  have HF : Hid (∀ u, Below w.heap.size w u → Calls Tryz.prog 90 #[.pointer (some ⟨g, 0, none⟩), .agg #[.int .i64 64, .int .i64 2, .int .i64 16, .int .i64 18, .int .i64 19, .int .i64 4, .int .i64 23]] u fun r w' => ∃ a n c, r = .returned (.tuple #[.agg #[.slice a n c, .int .i64 64, .int .i64 E, .int .i64 S, .int .i64 t, .int .i64 slot], .int .i64 0]) ∧ PI a n c w' ∧ Below u.heap.size u w') := cF
  have HPI : Hid (∀ a n c u u', PI a n c u → Below u.heap.size u u' → PI a n c u') := hPI
  have HIm : Hid (∀ a n c u, PI a n c u → Below w.heap.size w u → ∃ L : List ImD, L.length = n ∧ n ≤ 1000 ∧ ImsD u a L F ∧ doR D L (some sb) slot = (D', 0)) := hIm
  have HSb : Hid (Su.putSuper 64 E S t = some sb) := hsb
  have HNb : Hid (D.nb = 64) := hnb
  clear hd hlim cF hPI hIm hsb hnb
  have hmk := @run_makeMap Tryz.prog
  go_enter Tryz.func19, Tryz.ntmps19
  go_wp2_with fail
  refine Calls.mono cS ?_
  rintro r w' ⟨rfl, rfl⟩
  go_wp2_with fail
  refine Calls.mono cO ?_
  rintro r u1 ⟨rfl, b1⟩
  have x := Box.new u1 #[.int .i64 64, .int .i64 2, .int .i64 16, .int .i64 18, .int .i64 19, .int .i64 4, .int .i64 23] 57
  have bx := (Below.refl u1.heap.size u1).alloc (Nat.le_refl _) (.cells #[.int .i64 64, .int .i64 2, .int .i64 16, .int .i64 18, .int .i64 19, .int .i64 4, .int .i64 23] 57)
  have B2 := b1.trans (bx.mono b1.size)
  have hu1 : Hid (w.heap.size ≤ u1.heap.size) := b1.size
  obtain ⟨k0, k1, k2, k3, k4, k5, k6⟩ := all7 x
  have cF := HF.out _ B2
  obtain ⟨u2, hu2⟩ : ∃ u, u = u1.alloc (.cells #[.int .i64 64, .int .i64 2, .int .i64 16, .int .i64 18, .int .i64 19, .int .i64 4, .int .i64 23] 57) := ⟨_, rfl⟩
  have HU2 : Hid (u2 = u1.alloc (.cells #[.int .i64 64, .int .i64 2, .int .i64 16, .int .i64 18, .int .i64 19, .int .i64 4, .int .i64 23] 57)) := hu2
  rw [← hu2] at x B2 cF
  clear cS cO b1 bx hu2 HF
  go_wp2_with fail
  rw [← HU2.out]
  refine Calls.mono cF ?_
  rintro r u3 ⟨a, n, c, rfl, hpi, b3⟩
  have B3 := B2.trans (b3.mono B2.size)
  have x3 := x.below b3
  have y := Box.new u3 #[.slice a n c, .int .i64 64, .int .i64 E, .int .i64 S, .int .i64 t, .int .i64 slot] 143
  have bx := (Below.refl u3.heap.size u3).alloc (Nat.le_refl _) (.cells #[.slice a n c, .int .i64 64, .int .i64 E, .int .i64 S, .int .i64 t, .int .i64 slot] 143)
  have B4 := B3.trans (bx.mono B3.size)
  have x4 := x3.below bx
  have hpi4 := HPI.out a n c _ _ hpi bx
  obtain ⟨L, hL1, hL2, hL3, hL4⟩ := HIm.out a n c _ hpi4 B4
  have cD := H.do_at (HD.out.below B4) a n c L 64 E S t slot hL1 hL2 hL3 HLim.out
  rw [HSb.out, hL4] at cD
  obtain ⟨p0, p1, p2, p3, p4, p5⟩ := all6 y
  obtain ⟨u4, hu4⟩ : ∃ u, u = u3.alloc (.cells #[.slice a n c, .int .i64 64, .int .i64 E, .int .i64 S, .int .i64 t, .int .i64 slot] 143) := ⟨_, rfl⟩
  have HU4 : Hid (u4 = u3.alloc (.cells #[.slice a n c, .int .i64 64, .int .i64 E, .int .i64 S, .int .i64 t, .int .i64 slot] 143)) := hu4
  rw [← hu4] at x4 y B4 cD
  have hz : Hid (w.heap.size ≤ u3.heap.size) := B3.size
  clear cF k0 k1 k2 k3 k4 k5 k6 x x3 B2 B3 b3 bx hu4 hpi hpi4 hL1 hL2 hL3 hL4 HIm HPI HU2
  go_wp2_with fail
  rw [← HU4.out]
  refine Calls.mono cD ?_
  rintro r u5 ⟨rfl, ⟨F5, hd5, hF5⟩, U5⟩
  have hnF : ∀ i, w.heap.size ≤ i → ¬ F i := fun i h hf => by have := HFl.out i hf; omega
  have x5 := U5.box x4 (hnF _ hu1.out)
  have y5 := U5.box y (hnF _ hz.out)
  have hd5n := hDn
  obtain ⟨gd, cd, vu, ps, hl5⟩ := hd5
  have cJ := J.open_good hl5 (by omega) (by omega) E S t hE hS ⟨ht.1, by rw [hd5n]; exact ht.2⟩
  rw [hd5n] at cJ
  rw [show La.layA 64 = #[.int .i64 64, .int .i64 2, .int .i64 16, .int .i64 18, .int .i64 19, .int .i64 4, .int .i64 23] by rfl] at cJ
  obtain ⟨k0, k1, k2, k3, k4, k5, k6⟩ := all7 x5
  clear p0 p1 p2 p3 p4 p5
  obtain ⟨p0, p1, p2, p3, p4, p5⟩ := all6 y5
  have HD5 : Hid (IsDisk u5 g D' F5) := ⟨gd, cd, vu, ps, hl5⟩
  have HU5 : Hid (Upd F w u5) := (Dk.Upd.of_below B4).trans U5 (fun i h => .inl h)
  have HF5 : Hid (∀ i, F5 i → F i ∨ w.heap.size ≤ i) := fun i hi => by
    rcases hF5 i hi with h | h
    · exact .inl h
    · exact .inr (Nat.le_trans B4.size h)
  clear cD hl5 U5 hF5 x4 y B4 hd5n HU4
  go_wp2_with fail
  refine Calls.mono cJ ?_
  rintro r u6 ⟨j, hj, rfl, xj, b6⟩
  have x6 := x5.below b6
  have y6 := y5.below b6
  clear k0 k1 k2 k3 k4 k5 k6 p0 p1 p2 p3 p4 p5
  obtain ⟨k0, k1, k2, k3, k4, k5, k6⟩ := all7 x6
  obtain ⟨p0, p1, p2, p3, p4, p5⟩ := all6 y6
  have mk := MapI.made u6
  have xv := Box.new (u6.alloc (.map #[] 0)) (vC (u6.heap.size + 1) g j u6.heap.size E false) 80
  rw [show (u6.alloc (.map #[] 0)).heap.size = u6.heap.size + 1 by simp] at xv
  have B8 := ((Below.refl u6.heap.size u6).alloc (Nat.le_refl _) (.map #[] 0)).alloc (by simp) (.cells (vC (u6.heap.size + 1) g j u6.heap.size E false) 80)
  have m8 := mk.below ((Below.refl _ (u6.alloc (.map #[] 0))).alloc (Nat.le_refl _) (.cells (vC (u6.heap.size + 1) g j u6.heap.size E false) 80))
  have hj5 : Hid (¬ F5 j) := fun hf => by have := HD5.out.flt j hf; omega
  have hjlt : Hid (j < u6.heap.size) := xj.lt
  have HJ : Hid (J.JD u6 j g (J.opened 64 E S t) [] D' (fun i => F5 i ∨ i = j)) :=
    ⟨⟨.slice none 0 0, F5, xj, HD5.out.below b6, hj5.out, World.ownsRow_nil _ _ _ _, fun k hk => by simp [Value.ownBlock] at hk, fun i h => .inl h⟩, .inr rfl, fun i hi => by
      rcases hi with h | h
      · exact Nat.lt_of_lt_of_le (HD5.out.flt i h) b6.size
      · rw [h]; exact hjlt.out⟩
  have HU6 : Hid (Upd F w u6) := HU5.out.thenB b6
  have HB8 : Hid (Below u6.heap.size u6 ((u6.alloc (.map #[] 0)).alloc (.cells (vC (u6.heap.size + 1) g j u6.heap.size E false) 80))) := B8
  have HXv : Hid (Box ((u6.alloc (.map #[] 0)).alloc (.cells (vC (u6.heap.size + 1) g j u6.heap.size E false) 80)) (u6.heap.size + 1) (vC (u6.heap.size + 1) g j u6.heap.size E false) 80) := xv
  have HM8 : Hid (MapI ((u6.alloc (.map #[] 0)).alloc (.cells (vC (u6.heap.size + 1) g j u6.heap.size E false) 80)) u6.heap.size 0 (fun _ => none)) := m8
  have hwj : Hid (w.heap.size ≤ j) := Nat.le_trans HU5.out.size hj
  have hw6 : Hid (w.heap.size ≤ u6.heap.size) := HU6.out.size
  clear cJ x5 x6 y5 y6 xv m8 mk B8 b6 xj hj
  go_wp2_with fail
  refine bodyPost_ret (v := .tuple #[.pointer (some ⟨u6.heap.size + 1, 0, none⟩), .int .i64 0]) (by simp [results, Tryz.results19, go_sem]) rfl ?_
  refine ⟨u6.heap.size + 1, j, u6.heap.size, fun i => F5 i ∨ i = j, rfl, ⟨HXv.out, HJ.out.below HJ.out.flt HB8.out HB8.out.size, HM8.out, fun hh => ?_, fun hh => ?_, by omega⟩, fun i hi => ?_, ?_, hw6.out, HU6.out.thenB HB8.out⟩
  · have := HJ.out.flt _ hh; omega
  · have := HJ.out.flt _ hh; omega
  · rcases hi with h | h
    · exact HF5.out i h
    · exact .inr (by rw [h]; exact hwj.out)
  · have := hw6.out; omega
end Go.Proofs.YtnldkpckojhbhaaGreat.V

/-
  Commit where there is room.
-/
namespace Go.Proofs.YtnldkpckojhbhaaGreat.V
open Go.RowKit
open Go.Proofs.YtnldkpckojhbhaaGreat.Dk (Box DS IsDisk Upd Rd RowB)
open Go.Proofs.YtnldkpckojhbhaaGreat.H (MapI)
open Go.Proofs.YtnldkpckojhbhaaGreat.Rc (Imgs)

theorem VD.below {w w' : World} {v dg j gm : Nat} {ep : Int} {br : Bool} {S : J.JS} {xs : List Int} {D : DS} {cn : Nat} {m : Int → Option Value} {F : Nat → Prop} (h : VD w v dg j gm ep br S xs D cn m F) (b : Below w.heap.size w w') : VD w' v dg j gm ep br S xs D cn m F :=
  ⟨h.box.below b, h.jd.below h.jd.flt b b.size, h.map.below b, h.nv, h.nm, h.ne⟩

structure MayG (is : List (Int × List UInt8)) : Prop where
  lo : 1 ≤ is.length
  hi : is.length ≤ 32
  len : ∀ i ∈ is, i.2.length = 4096
  nd : (is.map (·.1)).Nodup
  wf : ∀ i ∈ is, (Lit.int .i64 i.1).wf = true
def seen (ks : List Int) : Int → Option Value := fun j => if j ∈ ks then some (.int .i64 1) else none
theorem seen_snoc (ks : List Int) (k : Int) : (fun j => if j = k then some (Value.int .i64 1) else seen ks j) = seen (ks ++ [k]) := by
  funext j
  unfold seen
  by_cases h : j = k
  · subst h; simp
  · by_cases h2 : j ∈ ks <;> simp [h, h2]
theorem box_map {w w' : World} {g b : Nat} {cs : Array Value} {t : TypeId} {n : Nat} {m : Int → Option Value} (h : Box w g cs t) (hm : MapI w b n m) (hg : w.grownBy w' (some b)) : Box w' g cs t := by
  have hne : some g ≠ some b := fun e => by
    injection e with e
    subst e
    obtain ⟨D, ⟨es, cl, h1, _⟩, _⟩ := hm
    rw [show w.heap[g]? = _ from h] at h1
    cases h1
  exact (hg.block g h.lt hne).trans h

set_option maxRecDepth 100000 in
set_option maxHeartbeats 4000000 in
theorem mayBe_yes (w : World) (a : Option Addr) (n c : Nat) (is : List (Int × List UInt8)) (hl : is.length = n) (hI : Imgs w a is) (hG : MayG is) :
    Calls Tryz.prog 138 #[.slice a n c] w fun r w' => r = .returned (.bool true) ∧ Below w.heap.size w w' := by
  have hn1 : 1 ≤ n := by have := hG.lo; omega
  have hn32 : n ≤ 32 := by have := hG.hi; omega
  have cW := within_at (n : Int) 1 32 w
  rw [decide_eq_true ⟨by omega, by omega⟩] at cW
  have HL : Hid (is.length = n) := hl
  have HI : Hid (Imgs w a is) := hI
  have HG : Hid (MayG is) := hG
  have mk := MapI.made w
  have HM0 : Hid (MapI (w.alloc (.map #[] 0)) w.heap.size 0 (seen ((is.map (·.1)).take 0))) := by
    have : (fun _ => none) = seen ((is.map (·.1)).take 0) := by funext j; simp [seen]
    rw [← this]
    exact mk
  have B0 := (Below.refl w.heap.size w).alloc (Nat.le_refl _) (.map #[] 0)
  clear hl hI hG mk
  have hmk := @run_makeMap Tryz.prog
  go_enter Tryz.func138, Tryz.ntmps138
  go_wp2_with fail
  refine Calls.mono cW ?_
  rintro r w' ⟨rfl, rfl⟩
  clear cW
  go_wp2_with fail
  go_loopw [13] (fun i u => ∃ k : Nat, k ≤ n ∧ i = .int .i64 (k : Int) ∧ MapI u w.heap.size k (seen ((is.map (·.1)).take k)) ∧ Below w.heap.size w u) (fun i _ => n - (intOf i).toNat)
  case atStart => exact ⟨0, Nat.zero_le _, rfl, HM0.out, B0⟩
  case round =>
    obtain ⟨k, hk, rfl, hm, B⟩ := hrel
    have HM : Hid (MapI wr w.heap.size k (seen ((is.map (·.1)).take k))) := hm
    clear hm HM0 B0
    by_cases hlt : k < n
    · have hki : (k : Int) < (n : Int) := by omega
      have hkl : k < is.length := by rw [HL.out]; exact hlt
      obtain ⟨bb, o, rfl, hcc⟩ := HI.out (by omega)
      obtain ⟨z0, ax, cx, z1, _, _, _, _⟩ := hcc k hkl
      have h4 := HG.out.len _ (List.getElem_mem hkl)
      rw [h4] at z1
      have hwf := HG.out.wf _ (List.getElem_mem hkl)
      have hnew : seen ((is.map (·.1)).take k) is[k].1 = none := by
        unfold seen
        rw [if_neg]
        intro hmem
        have hnd := HG.out.nd
        have hkm : k < (is.map (·.1)).length := by simpa using hkl
        rw [← List.take_append_drop k (is.map (·.1)), List.drop_eq_getElem_cons hkm] at hnd
        have := (List.nodup_append.1 hnd).2.2 _ hmem _ (List.mem_cons_self ..)
        rw [List.getElem_map] at this
        exact this rfl
      have hnext : Hid ((is.map (·.1)).take (k + 1) = (is.map (·.1)).take k ++ [is[k].1]) := by
        show _ = _
        rw [List.take_succ_eq_append_getElem (by simpa using hkl), List.getElem_map]
      generalize (is[k]'hkl) = P at z0 z1 h4 hwf hnew hnext
      obtain ⟨pb, xs⟩ := P
      dsimp only at z0 z1 hwf hnew hnext
      have lb := block_lt_of_cell z0
      have x0 := (B.cell (p := ⟨bb, o + k * 2, none⟩) lb).trans z0
      have x1 := (B.cell (p := ⟨bb, o + k * 2 + 1, none⟩) lb).trans z1
      have bx := Box.new wr #[.int .i64 pb, .slice ax 4096 cx] 89
      have bA := (Below.refl wr.heap.size wr).alloc (Nat.le_refl _) (.cells #[.int .i64 pb, .slice ax 4096 cx] 89)
      have m1 := HM.out.below bA
      have B1 := B.trans (bA.mono B.size)
      have y0 := bx.cell 0
      have y1 := bx.cell 1
      simp only [List.getElem?_toArray, List.getElem?_cons_zero, List.getElem?_cons_succ] at y0 y1
      have hlook := lookI m1 pb hwf hnew
      obtain ⟨u', hrun, m2, gb⟩ := updateI m1 (by unfold maxLen; omega) pb hwf (.int .i64 1)
      rw [seen_snoc] at m2
      have HM2 : Hid (MapI u' w.heap.size (k + 1) (seen ((is.map (·.1)).take k ++ [pb]))) := m2
      have B2 : Below w.heap.size w u' := B1.grown gb B1.size (fun i e => by cases e; exact Nat.le_refl _)
      clear hcc z0 z1 lb bx bA m1 m2 gb B B1 h4 hnew
      go_wp2_with fail
      go_roundw
      case rel => exact ⟨k + 1, by omega, by push_cast; rfl, by rw [hnext.out]; exact HM2.out, B2⟩
      case measure => simp [intOf]; omega
    · have hkn : k = n := by omega
      have hlen := lenI HM.out (is.map (·.1)) HG.out.nd (fun x => by
        rw [hkn, List.take_of_length_le (by simp [HL.out])]
        unfold seen
        by_cases hx : x ∈ is.map (·.1) <;> simp [hx]) 3
      rw [List.length_map, HL.out] at hlen
      subst hkn
      go_wp2_with fail
      go_ret
      exact ⟨rfl, B⟩

section
variable {w : World} {v dg j gm : Nat} {ep : Int} {S : J.JS} {xs : List Int} {D : DS} {cn : Nat} {m : Int → Option Value} {F : Nat → Prop}

theorem hasRoom_at (hV : VD w v dg j gm ep false S xs D cn m F) (n : Int) (h0 : 0 ≤ n) (h1 : n ≤ 1000) (hU : 0 ≤ S.U ∧ S.U ≤ 1000) (hr : S.U + (n + 1) ≤ S.S) :
    Calls Tryz.prog 79 #[.pointer (some ⟨v, 0, none⟩), .int .i64 n] w fun r w' => r = .returned (.bool true) ∧ Below w.heap.size w w' := by
  have c10 := (vcells hV.box).c10
  obtain ⟨⟨vs, Fd, hb, _⟩, _, _⟩ := hV.jd
  have cR := J.ring_at hb
  have H3 : Hid (∀ u : World, Calls Tryz.prog 97 #[.int .i64 n] u fun e w' => e = .returned (.int .i64 (n + 1)) ∧ w' = u) := fun u => (blocksOf_at n u (by omega) (by omega)).mono fun e w' ⟨e1, e2⟩ => ⟨e1, e2.symm⟩
  clear hV hb
  go_enter Tryz.func79, Tryz.ntmps79
  go_wp2_with fail
  refine Calls.mono cR ?_
  rintro r u1 ⟨rfl, b1⟩
  have x := Box.new u1 #[.int .i64 S.S, .int .i64 S.T, .int .i64 S.U, .int .i64 S.H] 59
  have B := b1.alloc b1.size (.cells #[.int .i64 S.S, .int .i64 S.T, .int .i64 S.U, .int .i64 S.H] 59)
  have x0 := x.cell 0
  have x2 := x.cell 2
  simp only [List.getElem?_toArray, List.getElem?_cons_zero, List.getElem?_cons_succ] at x0 x2
  clear cR b1 x
  go_wp2_with fail
  go_quiet ((go_at_call 97; exact Calls.quiet_of_same (H3.out _)))
  have B2 := below_drewN B nq
  go_wp2_with fail
  go_ret
  exact ⟨rfl, B2⟩

set_option maxRecDepth 100000 in
set_option maxHeartbeats 4000000 in
theorem mayCommit_yes (hV : VD w v dg j gm ep false S xs D cn m F) (a : Option Addr) (n c : Nat) (is : List (Int × List UInt8)) (hl : is.length = n) (hI : Imgs w a is) (hG : MayG is) (hB : ∀ i ∈ is, 18 ≤ i.1 ∧ i.1 ≤ 63) (h15 : n ≤ 15) :
    Calls Tryz.prog 78 #[.pointer (some ⟨v, 0, none⟩), .slice a n c] w fun r w' => r = .returned (.int .i64 0) ∧ Below w.heap.size w w' := by
  have cA := ahead_at hV.box
  have HV : Hid (Box w v (vC v dg j gm ep false) 80) := hV.box
  have HL : Hid (is.length = n) := hl
  have HI : Hid (Imgs w a is) := hI
  have HG : Hid (MayG is) := hG
  have HB : Hid (∀ i ∈ is, 18 ≤ i.1 ∧ i.1 ≤ 63) := hB
  have hn1 : 1 ≤ n := by have := hG.lo; omega
  clear hV hl hI hG hB
  go_enter Tryz.func78, Tryz.ntmps78
  go_wp2_with fail
  refine Calls.mono cA ?_
  rintro r w' ⟨rfl, rfl⟩
  clear cA
  go_wp2_with fail
  go_loopw [15] (fun i u => ∃ k : Nat, k ≤ n ∧ i = .int .i64 (k : Int) ∧ Below w.heap.size w u) (fun i _ => n - (intOf i).toNat)
  case atStart => exact ⟨0, Nat.zero_le _, rfl, Below.refl _ _⟩
  case round =>
    obtain ⟨k, hk, rfl, B⟩ := hrel
    by_cases hlt : k < n
    · have hki : (k : Int) < (n : Int) := by omega
      have hkl : k < is.length := by rw [HL.out]; exact hlt
      obtain ⟨bb, o, rfl, hcc⟩ := HI.out (by omega)
      obtain ⟨z0, ax, cx, z1, _, _, _, _⟩ := hcc k hkl
      have hb := HB.out _ (List.getElem_mem hkl)
      generalize (is[k]'hkl) = P at z0 z1 hb
      obtain ⟨pb, ys⟩ := P
      dsimp only at z0 z1 hb
      have lb := block_lt_of_cell z0
      have x0 := (B.cell (p := ⟨bb, o + k * 2, none⟩) lb).trans z0
      have x1 := (B.cell (p := ⟨bb, o + k * 2 + 1, none⟩) lb).trans z1
      generalize ys.length = yl at x1 z1
      have bx := Box.new wr #[.int .i64 pb, .slice ax yl cx] 89
      have bA := (Below.refl wr.heap.size wr).alloc (Nat.le_refl _) (.cells #[.int .i64 pb, .slice ax yl cx] 89)
      have B1 := B.trans (bA.mono B.size)
      have y0 := bx.cell 0
      simp only [List.getElem?_toArray, List.getElem?_cons_zero] at y0
      have cs := vcells (HV.out.below B1)
      have c2 := cs.c2
      have c5 := cs.c5
      have H3 : Hid (∀ u : World, Calls Tryz.prog 96 #[.int .i64 pb, .int .i64 18, .int .i64 63] u fun e w' => e = .returned (.bool true) ∧ w' = u) := fun u => (within_at pb 18 63 u).mono fun e w' ⟨e1, e2⟩ => ⟨by rw [e1, decide_eq_true hb], e2.symm⟩
      clear hcc z0 z1 lb bx bA B cs
      go_wp2_with fail
      go_quiet ((go_at_call 96; exact Calls.quiet_of_same (H3.out _)))
      have B2 := below_drewN B1 nq
      clear x0 x1 y0 c2 c5 H3 B1
      go_wp2_with fail
      go_roundw
      case rel => exact ⟨k + 1, by omega, by push_cast; rfl, B2⟩
      case measure => simp [intOf]; omega
    · have hkn : k = n := by omega
      have cM := mayBe_yes wr a n c is HL.out (HI.out.below B) HG.out
      clear hlt hk
      subst hkn
      go_wp2_with fail
      refine Calls.mono cM ?_
      rintro r u2 ⟨rfl, b2⟩
      have B2 := B.trans (b2.mono B.size)
      have cF := fits_at (HV.out.below B2) (k : Int) (by omega) (by omega)
      clear cM
      go_wp2_with fail
      refine Calls.mono cF ?_
      rintro r u3 ⟨rfl, b3⟩
      have B3 := B2.trans (b3.mono B2.size)
      clear cF
      go_wp2_with fail
      go_ret
      exact ⟨rfl, B3⟩
end
end Go.Proofs.YtnldkpckojhbhaaGreat.V

/-
  A volume with what was committed; Commit where there is room; Read.
-/
namespace Go.Proofs.YtnldkpckojhbhaaGreat.V
open Go.RowKit
open Go.Proofs.YtnldkpckojhbhaaGreat.Dk (Box DS IsDisk Upd Rd RowB)
open Go.Proofs.YtnldkpckojhbhaaGreat.H (MapI)
open Go.Proofs.YtnldkpckojhbhaaGreat.Rc (Imgs)

def RowOf (w : World) (F : Nat → Prop) (gm : Nat) (o : Option (List UInt8)) (x : Option Value) : Prop :=
  match o with
  | none => x = none
  | some ys => ∃ g c, x = some (.slice (some ⟨g, 0, none⟩) 4096 c) ∧ RowB w g c ys ∧ ¬ F g ∧ g ≠ gm ∧ ys.length = 4096
def VWA (A : Nat → Prop) (w : World) (v dg j gm : Nat) (ep : Int) (br : Bool) (S : J.JS) (xs : List Int) (D : DS) (cn : Nat) (dat : Int → Option (List UInt8)) (F : Nat → Prop) : Prop :=
  ∃ m, VD w v dg j gm ep br S xs D cn m F ∧ ∀ k, RowOf w (fun i => F i ∨ A i) gm (dat k) (m k)
abbrev VW (w : World) (v dg j gm : Nat) (ep : Int) (br : Bool) (S : J.JS) (xs : List Int) (D : DS) (cn : Nat) (dat : Int → Option (List UInt8)) (F : Nat → Prop) : Prop :=
  VWA (fun _ => False) w v dg j gm ep br S xs D cn dat F
def dats (dat : Int → Option (List UInt8)) (is : List (Int × List UInt8)) : Int → Option (List UInt8) := is.foldl (fun d p => fun k => if k = p.1 then some p.2 else d k) dat
theorem dats_snoc (dat : Int → Option (List UInt8)) (is : List (Int × List UInt8)) (p : Int × List UInt8) : dats dat (is ++ [p]) = fun k => if k = p.1 then some p.2 else dats dat is k := by
  simp [dats, List.foldl_append]
theorem RowOf.kept {w w' : World} {F F' : Nat → Prop} {gm : Nat} {o : Option (List UInt8)} {x : Option Value} (h : RowOf w F gm o x) (hk : ∀ i, i < w.heap.size → ¬ F i → i ≠ gm → w'.heap[i]? = w.heap[i]?) (hF : ∀ i, i < w.heap.size → F' i → F i) : RowOf w' F' gm o x := by
  cases o with
  | none => exact h
  | some ys =>
    obtain ⟨g, c, h1, h2, h3, h4, h5⟩ := h
    exact ⟨g, c, h1, h2.same (hk g h2.lt h3 h4), fun hf => h3 (hF g h2.lt hf), h4, h5⟩
section
variable {A : Nat → Prop} {w w' : World} {v dg j gm : Nat} {ep : Int} {br : Bool} {S S' : J.JS} {xs ys : List Int} {D D' : DS} {cn : Nat} {dat : Int → Option (List UInt8)} {F F' : Nat → Prop}
theorem VWA.below (h : VWA A w v dg j gm ep br S xs D cn dat F) (b : Below w.heap.size w w') : VWA A w' v dg j gm ep br S xs D cn dat F := by
  obtain ⟨m, h1, h2⟩ := h
  exact ⟨m, h1.below b, fun k => (h2 k).kept (fun i hi _ _ => b.block i hi) (fun _ _ h => h)⟩
theorem VWA.vlt (h : VWA A w v dg j gm ep br S xs D cn dat F) : v < w.heap.size ∧ gm < w.heap.size := by
  obtain ⟨m, h1, h2⟩ := h
  exact ⟨h1.box.lt, h1.map.lt⟩
theorem VWA.turn (h : VWA A w v dg j gm ep br S xs D cn dat F) (hj : J.JD w' j dg S' ys D' F') (hF : ∀ i, F' i → F i ∨ w.heap.size ≤ i) (hu : Upd F w w') : VWA A w' v dg j gm ep br S' ys D' cn dat F' := by
  have hl := h.vlt
  obtain ⟨m, h1, h2⟩ := h
  have hf : ∀ i, i < w.heap.size → F' i → F i := fun i hi hf => by
    rcases hF i hf with h | h
    · exact h
    · omega
  refine ⟨m, ⟨hu.box h1.box h1.nv, hj, mapI_same h1.map (hu.block gm hl.2 h1.nm), fun hh => h1.nv (hf _ hl.1 hh), fun hh => h1.nm (hf _ hl.2 hh), h1.ne⟩, fun k => (h2 k).kept (fun i hi h3 _ => hu.block i hi (fun q => h3 (.inl q))) (fun i hi hh => hh.elim (fun q => .inl (hf i hi q)) .inr)⟩
theorem VWA.put (h : VWA A w v dg j gm ep br S xs D cn dat F) (hcn : cn < maxLen) (k : Int) (hk : (Lit.int .i64 k).wf = true) (g c : Nat) (zs : List UInt8) (hr : RowB w g c zs) (hF : ¬ F g) (hA : ¬ A g) (hx : zs.length = 4096) :
    ∃ u', (Instr.mapUpdate 78 (.map (some gm)) (.int .i64 k) (.slice (some ⟨g, 0, none⟩) 4096 c)).run Tryz.prog w = .ok () u' ∧ VWA A u' v dg j gm ep br S xs D (cn + 1) (fun i => if i = k then some zs else dat i) F ∧ w.grownBy u' (some gm) := by
  obtain ⟨m, h1, h2⟩ := h
  obtain ⟨u', r, m2, gb⟩ := updateB h1.map hcn k hk (.slice (some ⟨g, 0, none⟩) 4096 c)
  have hne : ∀ i, i ≠ gm → i < w.heap.size → u'.heap[i]? = w.heap[i]? := fun i hi hl => gb.block i hl (fun e => by injection e with e; exact hi e)
  have hgm : g ≠ gm := fun e => by
    subst e
    obtain ⟨cur, hb, _⟩ := hr
    obtain ⟨_, ⟨es, cl, hm, _⟩, _⟩ := h1.map
    rw [show w.heap[g]? = _ from hb] at hm
    cases hm
  refine ⟨u', r, ⟨_, ⟨(hne v h1.ne h1.box.lt).trans h1.box, h1.jd.kept (fun i hi => hne i (fun e => h1.nm (e ▸ hi)) (h1.jd.flt i hi)) gb.size, m2, h1.nv, h1.nm, h1.ne⟩, fun i => ?_⟩, gb⟩
  dsimp only
  by_cases hi : i = k
  · subst hi
    rw [if_pos rfl, if_pos rfl]
    exact ⟨g, c, rfl, hr.same (hne g hgm hr.lt), fun q => q.elim hF hA, hgm, hx⟩
  · rw [if_neg hi, if_neg hi]
    exact (h2 i).kept (fun i hi _ h3 => hne i h3 hi) (fun _ _ h => h)

theorem read_mem (h : VWA A w v dg j gm ep false S xs D cn dat F) (n : Int) (hn : (Lit.int .i64 n).wf = true) (zs : List UInt8) (hd : dat n = some zs) :
    Calls Tryz.prog 24 #[.pointer (some ⟨v, 0, none⟩), .int .i64 n] w fun r w' => ∃ g c, r = .returned (.tuple #[.slice (some ⟨g, 0, none⟩) 4096 c, .int .i64 0]) ∧ w.heap.size ≤ g ∧ RowB w' g c zs ∧ Below w.heap.size w w' := by
  obtain ⟨m, h1, h2⟩ := h
  have hk := h2 n
  rw [hd] at hk
  obtain ⟨g, c, hm, hr, _, _, hl⟩ := hk
  have cA := ahead_at h1.box
  have c11 := (vcells h1.box).c11
  have hlook := lookB h1.map n hn
  rw [hm] at hlook
  have hlook2 : (Instr.lookup 78 (.map (some gm)) (.int .i64 n) true).run Tryz.prog w = .ok (.tuple #[.slice (some ⟨g, 0, none⟩) 4096 c, .bool true]) w := hlook
  have cC := Dk.clone_at c 4096 ⟨g, 0, none⟩ zs w hl (by decide) (by decide) hr.rd
  clear h1 h2 hm hr hlook
  go_enter Tryz.func24, Tryz.ntmps24
  go_wp2_with fail
  refine Calls.mono cA ?_
  rintro r w' ⟨rfl, rfl⟩
  clear cA
  go_wp2_with fail
  refine Calls.mono cC ?_
  rintro r u ⟨g', c', rfl, hg', hr', b'⟩
  clear cC hlook2
  go_wp2_with fail
  exact bodyPost_ret (v := .tuple #[.slice (some ⟨g', 0, none⟩) 4096 c', .int .i64 0]) (by simp [results, Tryz.results24, go_sem]) rfl ⟨g', c', rfl, hg', hr', b'⟩
theorem read_disk (h : VWA A w v dg j gm ep false S xs D cn dat F) (n : Nat) (hn : n < 64) (hnb : D.nb = 64) (hg : D.gone = false) (hlim : D.uf.length ≤ 1000000) (hd : dat n = none) :
    Calls Tryz.prog 24 #[.pointer (some ⟨v, 0, none⟩), .int .i64 n] w fun r w' => ∃ g c, r = .returned (.tuple #[.slice (some ⟨g, 0, none⟩) 4096 c, .int .i64 0]) ∧ w.heap.size ≤ g ∧ RowB w' g c (D.stand n) ∧ Below w.heap.size w w' := by
  obtain ⟨m, h1, h2⟩ := h
  have hk := h2 n
  rw [hd] at hk
  have hm : m n = none := hk
  have cA := ahead_at h1.box
  have c11 := (vcells h1.box).c11
  have c1 := (vcells h1.box).c1
  have hlook := lookB h1.map n (by simp [Lit.wf, IntKind.min, IntKind.max, IntKind.bits, IntKind.signed]; omega)
  rw [hm] at hlook
  have hlook2 : (Instr.lookup 78 (.map (some gm)) (.int .i64 (n : Int)) true).run Tryz.prog w = .ok (.tuple #[.slice none 0 0, .bool false]) w := hlook
  obtain ⟨Fd, hdk, _⟩ := h1.jd.disk
  have cR := Dk.read_at hdk n (by omega) hg hlim
  clear h1 h2 hm hk hlook hdk
  go_enter Tryz.func24, Tryz.ntmps24
  go_wp2_with fail
  refine Calls.mono cA ?_
  rintro r w' ⟨rfl, rfl⟩
  clear cA
  go_wp2_with fail
  refine Calls.mono cR ?_
  rintro r u ⟨g', c', rfl, hg', hr', b'⟩
  clear cR hlook2
  go_wp2_with fail
  exact bodyPost_ret (v := .tuple #[.slice (some ⟨g', 0, none⟩) 4096 c', .int .i64 0]) (by simp [results, Tryz.results24, go_sem]) rfl ⟨g', c', rfl, hg', hr', b'⟩

set_option maxRecDepth 100000 in
set_option maxHeartbeats 4000000 in
theorem commit_ok (h : VWA A w v dg j gm ep false S xs D cn dat F) (hA : ∀ i, A i → i < w.heap.size) (al : Option Addr) (n cap : Nat) (is : List (Int × List UInt8)) (hl : is.length = n) (hI : Imgs w al is) (hIF : ∀ (ad : Addr), al = some ad → ¬ F ad.block ∧ ad.block ≠ gm) (hID : ∀ k (hk : k < is.length) (b o : Nat) (x : Option Addr) (c : Nat), al = some ⟨b, o, none⟩ → w.cell? ⟨b, o + k * 2 + 1, none⟩ = some (.slice x is[k].2.length c) → ∀ ad, x = some ad → ¬ F ad.block ∧ ad.block ≠ gm)
    (hG : MayG is) (hB : ∀ i ∈ is, 18 ≤ i.1 ∧ i.1 ≤ 63) (h15 : n ≤ 15) (hok : Rc.okGroup S.epoch S.next is) (hJb : S.broken = false) (hR : Rg.R S.S S.T S.U S.H) (hS16 : S.S = 16) (hH : S.H = 0) (hroom : S.U + ((n : Int) + 1) ≤ 16) (hlog : S.log = 2) (hc : J.Calm D) (hnb : D.nb = 64) (hd1 : D.uf.length ≤ 900000) (hd2 : D.n ≤ 900000) (hx : xs.length ≤ 1000) (hcn : cn ≤ 100000) :
    Calls Tryz.prog 15 #[.pointer (some ⟨v, 0, none⟩), .slice al n cap] w fun r w' => r = .returned (.tuple #[.int .i64 S.next, .int .i64 0]) ∧ ∃ F', VWA A w' v dg j gm ep false { S with next := S.next + 1, U := S.U + (n + 1 : Nat), H := S.H - 0 } (xs ++ [((n + 1 : Nat) : Int)]) (J.grow D S.S.toNat ((S.T + S.U) % S.S).toNat (Rc.putL S.epoch.toNat S.next.toNat is) (n + 1)) (cn + n) (dats dat is) F' ∧ (∀ i, F' i → F i ∨ w.heap.size ≤ i) ∧ Upd (fun i => F i ∨ i = gm) w w' := by
  obtain ⟨m0, hV, hm0⟩ := id h
  have hnb1 : 1 ≤ n := by have := hG.lo; omega
  have cM := mayCommit_yes hV al n cap is hl hI hG hB h15
  have HV : Hid (VWA A w v dg j gm ep false S xs D cn dat F) := h
  have HI : Hid (Imgs w al is) := hI
  have HIF : Hid (∀ (ad : Addr), al = some ad → ¬ F ad.block ∧ ad.block ≠ gm) := hIF
  have HID : Hid (∀ k (hk : k < is.length) (b o : Nat) (x : Option Addr) (c : Nat), al = some ⟨b, o, none⟩ → w.cell? ⟨b, o + k * 2 + 1, none⟩ = some (.slice x is[k].2.length c) → ∀ ad, x = some ad → ¬ F ad.block ∧ ad.block ≠ gm) := hID
  have HG : Hid (MayG is) := hG
  have HL : Hid (is.length = n) := hl
  have HAw : Hid (∀ i, A i → i < w.heap.size) := hA
  have HU : Hid (0 ≤ S.U ∧ S.U ≤ 1000) := ⟨hR.2.2.1.1, by have := hR.2.2.1.2; omega⟩
  have HA : Hid (∀ u F2, VWA A u v dg j gm ep false S xs D cn dat F2 → Imgs u al is → Calls Tryz.prog 81 #[.pointer (some ⟨j, 0, none⟩), .slice al n cap, .bool false] u fun r w' => r = .returned (.tuple #[.int .i64 S.next, .int .i64 0]) ∧ J.JTo u F2 j dg { S with next := S.next + 1, U := S.U + (n + 1 : Nat), H := S.H - 0 } (xs ++ [((n + 1 : Nat) : Int)]) (J.grow D S.S.toNat ((S.T + S.U) % S.S).toNat (Rc.putL S.epoch.toNat S.next.toNat is) (n + 1)) w') := fun u F2 hu hi => by
    obtain ⟨m1, hv1, _⟩ := hu
    exact J.append_ok hv1.jd hJb hl hi hok hR (by rw [Rg.fr, if_pos hR, hS16, hH]; push_cast; omega) hlog hc (by rw [hS16]; decide) (by rw [hS16, hnb]; decide) hd1 hd2 hx
  have HRm : Hid (S.U + ((n : Int) + 1) ≤ S.S) := by
    show _ ≤ _
    rw [hS16]
    exact hroom
  clear h hA hV hm0 hI hIF hID hG hB hok hJb hR hS16 hH hroom hlog hc hnb hd1 hd2 hx hl
  generalize { S with next := S.next + 1, U := S.U + (n + 1 : Nat), H := S.H - 0 } = S' at HA ⊢
  generalize J.grow D S.S.toNat ((S.T + S.U) % S.S).toNat (Rc.putL S.epoch.toNat S.next.toNat is) (n + 1) = D' at HA ⊢
  generalize xs ++ [((n + 1 : Nat) : Int)] = ys at HA ⊢
  obtain ⟨nx, hnx⟩ : ∃ nx, nx = S.next := ⟨_, rfl⟩
  rw [← hnx] at HA ⊢
  clear hnx
  go_enter Tryz.func15, Tryz.ntmps15
  go_wp2_with fail
  refine Calls.mono cM ?_
  rintro r u1 ⟨rfl, b1⟩
  have V1 := HV.out.below b1
  obtain ⟨m1, hv1, _⟩ := id V1
  have cR := hasRoom_at hv1 (n : Int) (by omega) (by omega) HU.out HRm.out
  clear cM
  go_wp2_with fail
  refine Calls.mono cR ?_
  rintro r u2 ⟨rfl, b2⟩
  have V2 := V1.below b2
  have B2 := b1.trans (b2.mono b1.size)
  have cA := HA.out u2 F V2 (HI.out.below B2)
  obtain ⟨m2, hv2, _⟩ := id V2
  have c10 := (vcells hv2.box).c10
  clear cR hv1 hv2 V1
  go_wp2_with fail
  refine Calls.mono cA ?_
  rintro r u3 ⟨rfl, F', hj3, hF3, U3⟩
  have V3 := V2.turn hj3 hF3 U3
  have HU3 : Hid (Upd F w u3) := (Dk.Upd.of_below B2).trans U3 (fun i h => .inl h)
  have HF3 : Hid (∀ i, F' i → F i ∨ w.heap.size ≤ i) := fun i hi => by
    rcases hF3 i hi with h | h
    · exact .inl h
    · exact .inr (Nat.le_trans B2.size h)
  have HV3 : Hid (VWA A u3 v dg j gm ep false S' ys D' cn dat F') := V3
  have hvlt := HV.out.vlt
  have HVL : Hid (gm < w.heap.size) := hvlt.2
  clear cA c10 b1 b2 B2 V2 V3 hj3 hF3 U3 HA HU HRm hvlt
  go_wp2_with fail
  go_loopw [44] (fun i u => ∃ k : Nat, k ≤ n ∧ i = .int .i64 (k : Int) ∧ VWA A u v dg j gm ep false S' ys D' (cn + k) (dats dat (is.take k)) F' ∧ Upd (fun i => F i ∨ i = gm) w u) (fun i _ => n - (intOf i).toNat)
  case atStart => exact ⟨0, Nat.zero_le _, rfl, by simpa [dats] using HV3.out, ⟨HU3.out.os, HU3.out.tape, HU3.out.output, HU3.out.size, fun i hi hn => HU3.out.block i hi (fun hf => hn (.inl hf))⟩⟩
  case round =>
    obtain ⟨k, hk, rfl, hV, U⟩ := hrel
    have HVk : Hid (VWA A wr v dg j gm ep false S' ys D' (cn + k) (dats dat (is.take k)) F') := hV
    have HUk : Hid (Upd (fun i => F i ∨ i = gm) w wr) := U
    clear hV U HV3
    by_cases hlt : k < n
    · have hki : (k : Int) < (n : Int) := by omega
      have hkl : k < is.length := by rw [HL.out]; exact hlt
      obtain ⟨bb, o, rfl, hcc⟩ := HI.out (by omega)
      obtain ⟨z0, ax, cx, z1, _, _, hnil, hrd⟩ := hcc k hkl
      have hxF := HID.out k hkl bb o ax cx rfl z1
      have hbF := HIF.out ⟨bb, o, none⟩ rfl
      have h4 := HG.out.len _ (List.getElem_mem hkl)
      have hwf := HG.out.wf _ (List.getElem_mem hkl)
      have hnext : Hid (is.take (k + 1) = is.take k ++ [is[k]]) := List.take_succ_eq_append_getElem hkl
      rw [h4] at z1
      generalize (is[k]'hkl) = P at z0 z1 hrd h4 hwf hnext
      obtain ⟨pb, zs⟩ := P
      dsimp only at z0 z1 hrd h4 hwf
      obtain ⟨xb, xo, rfl, hxc⟩ := hrd (by omega)
      have hxF2 := hxF _ rfl
      dsimp only at hbF hxF2
      have lb := block_lt_of_cell z0
      have lx := block_lt_of_cell (hxc 0 (by omega))
      have x0 : wr.cell? ⟨bb, o + k * 2, none⟩ = some (.int .i64 pb) := (World.cell?_of_block (a := ⟨bb, o + k * 2, none⟩) (HUk.out.block bb lb (fun h => h.elim hbF.1 hbF.2))).trans z0
      have x1 : wr.cell? ⟨bb, o + k * 2 + 1, none⟩ = some (.slice (some ⟨xb, xo, none⟩) 4096 cx) := (World.cell?_of_block (a := ⟨bb, o + k * 2 + 1, none⟩) (HUk.out.block bb lb (fun h => h.elim hbF.1 hbF.2))).trans z1
      have hrw : Rd wr (some ⟨xb, xo, none⟩) zs := fun _ => ⟨xb, xo, rfl, fun j hj => (World.cell?_of_block (a := ⟨xb, xo + j, none⟩) (HUk.out.block xb lx (fun h => h.elim hxF2.1 hxF2.2))).trans (hxc j hj)⟩
      have bx := Box.new wr #[.int .i64 pb, .slice (some ⟨xb, xo, none⟩) 4096 cx] 89
      have bA := (Below.refl wr.heap.size wr).alloc (Nat.le_refl _) (.cells #[.int .i64 pb, .slice (some ⟨xb, xo, none⟩) 4096 cx] 89)
      have VA := HVk.out.below bA
      obtain ⟨wa, hwa⟩ : ∃ u, u = wr.alloc (.cells #[.int .i64 pb, .slice (some ⟨xb, xo, none⟩) 4096 cx] 89) := ⟨_, rfl⟩
      have HWa : Hid (wa = wr.alloc (.cells #[.int .i64 pb, .slice (some ⟨xb, xo, none⟩) 4096 cx] 89)) := hwa
      rw [← hwa] at bx bA VA
      have HBx : Hid (Box wa wr.heap.size #[.int .i64 pb, .slice (some ⟨xb, xo, none⟩) 4096 cx] 89) := bx
      have HVA : Hid (VWA A wa v dg j gm ep false S' ys D' (cn + k) (dats dat (is.take k)) F') := VA
      have HRA : Hid (Rd wa (some ⟨xb, xo, none⟩) zs) := hrw.below bA (Nat.le_refl _)
      have HBA : Hid (Below wr.heap.size wr wa) := bA
      have HS : Hid (∀ u, Below wa.heap.size wa u → u.cell? ⟨v, 11, none⟩ = some (.map (some gm)) ∧ u.cell? ⟨wr.heap.size, 0, none⟩ = some (.int .i64 pb) ∧ u.cell? ⟨wr.heap.size, 1, none⟩ = some (.slice (some ⟨xb, xo, none⟩) 4096 cx)) := fun u bu => by
        obtain ⟨m5, hv5, _⟩ := HVA.out.below bu
        have y := HBx.out.below bu
        have y0 := y.cell 0
        have y1 := y.cell 1
        simp only [List.getElem?_toArray, List.getElem?_cons_zero, List.getElem?_cons_succ] at y0 y1
        exact ⟨(vcells hv5.box).c11, y0, y1⟩
      have cC := Dk.clone_at cx 4096 ⟨xb, xo, none⟩ zs wa.drew h4 (by decide) (by decide) (HRA.out.below ((Below.refl _ wa).drew) (Nat.le_refl _))
      clear hcc z0 z1 lb lx hxc hrd hxF hxF2 hbF bx bA VA hwa hrw hnil
      go_upto_region 14 with fail
      rw [← HWa.out]
      refine wp_region_noPanic ?_
      refine wp_region_held_drew (S := fun u => u.cell? ⟨v, 11, none⟩ = some (.map (some gm)) ∧ u.cell? ⟨wr.heap.size, 0, none⟩ = some (.int .i64 pb) ∧ u.cell? ⟨wr.heap.size, 1, none⟩ = some (.slice (some ⟨xb, xo, none⟩) 4096 cx)) (by kernel_rfl) (HS.out _ ((Below.refl _ wa).drew)) (fun hHeld => ?_)
      refine wpAnyH_take (i := 0) (v := ?_) rfl (by kernel_rfl) (by kernel_rfl) (by kernel_rfl) (fun _ _ _ h => h) (Or.inl ⟨by rfl, ?_⟩) (by assumption) ?_
      rotate_left
      · intro w hSw
        go_simp
        with_reducible rfl
      simp only [Act.put, List.setIfInBounds_toArray, List.set_cons_zero, List.set_cons_succ, List.getElem_toArray, List.getElem_cons_zero]
      refine wpAnyH_take (i := 1) (v := ?_) rfl (by kernel_rfl) (by kernel_rfl) (by kernel_rfl) (fun _ _ _ h => h) (Or.inl ⟨by rfl, ?_⟩) (by assumption) ?_
      rotate_left
      · intro w hSw
        go_simp
        with_reducible rfl
      simp only [Act.put, List.setIfInBounds_toArray, List.set_cons_zero, List.set_cons_succ, List.getElem_toArray, List.getElem_cons_zero, List.getElem_cons_succ]
      refine wpAnyH_take (i := 2) (v := ?_) rfl (by kernel_rfl) (by kernel_rfl) (by kernel_rfl) (fun _ _ _ h => h) (Or.inl ⟨by rfl, ?_⟩) (by assumption) ?_
      rotate_left
      · intro w hSw
        go_simp
        with_reducible rfl
      simp only [Act.put, List.setIfInBounds_toArray, List.set_cons_zero, List.set_cons_succ, List.getElem_toArray, List.getElem_cons_zero, List.getElem_cons_succ]
      refine wpAnyH_take (i := 3) (v := ?_) rfl (by kernel_rfl) (by kernel_rfl) (by kernel_rfl) (fun _ _ _ h => h) (Or.inl ⟨by rfl, ?_⟩) (by assumption) ?_
      rotate_left
      · intro w hSw
        go_simp
        with_reducible rfl
      simp only [Act.put, List.setIfInBounds_toArray, List.set_cons_zero, List.set_cons_succ, List.getElem_toArray, List.getElem_cons_zero, List.getElem_cons_succ]
      refine wpAnyH_take (i := 4) (v := ?_) rfl (by kernel_rfl) (by kernel_rfl) (by kernel_rfl) (fun _ _ _ h => h) (Or.inl ⟨by rfl, ?_⟩) (by assumption) ?_
      rotate_left
      · intro w hSw
        go_simp
        with_reducible rfl
      simp only [Act.put, List.setIfInBounds_toArray, List.set_cons_zero, List.set_cons_succ, List.getElem_toArray, List.getElem_cons_zero, List.getElem_cons_succ]
      refine wpAnyH_take (i := 5) (v := ?_) rfl (by kernel_rfl) (by kernel_rfl) (by kernel_rfl) (fun _ _ _ h => h) (Or.inl ⟨by rfl, ?_⟩) (by assumption) ?_
      rotate_left
      · intro w hSw
        go_simp
        with_reducible rfl
      simp only [Act.put, List.setIfInBounds_toArray, List.set_cons_zero, List.set_cons_succ, List.getElem_toArray, List.getElem_cons_zero, List.getElem_cons_succ]
      refine wpAnyH_take (i := 6) (v := ?_) rfl (by kernel_rfl) (by kernel_rfl) (by kernel_rfl) (fun _ _ _ h => h) (Or.inl ⟨by rfl, ?_⟩) (by assumption) ?_
      rotate_left
      · intro w hSw
        go_simp
        with_reducible rfl
      simp only [Act.put, List.setIfInBounds_toArray, List.set_cons_zero, List.set_cons_succ, List.getElem_toArray, List.getElem_cons_zero, List.getElem_cons_succ]
      refine wpAnyH_take (i := 7) (v := ?_) rfl (by kernel_rfl) (by kernel_rfl) (by kernel_rfl) (fun _ _ _ h => h) (Or.inl ⟨by rfl, ?_⟩) (by assumption) ?_
      rotate_left
      · intro w hSw
        go_simp
        with_reducible rfl
      simp only [Act.put, List.setIfInBounds_toArray, List.set_cons_zero, List.set_cons_succ, List.getElem_toArray, List.getElem_cons_zero, List.getElem_cons_succ]
      refine wpAnyH_ready (rs := [8]) (by kernel_rfl) (by simp) ?_
      refine AllReadyH.cons rfl (fun K hK => ?_) AllReadyH.nil
      go_simp
      refine Calls.mono cC ?_
      rintro r u5 ⟨g5, c5, rfl, hg5, hr5, b5⟩
      have b5' : Below wa.heap.size wa u5 := ((Below.refl _ wa).drew).trans (b5.mono (Nat.le_refl _))
      have V5 := HVA.out.below b5'
      have hF5 : ¬ F' g5 := fun hf => by
        obtain ⟨m5, hv5, _⟩ := HVA.out
        have := hv5.jd.flt g5 hf
        have : wa.heap.size ≤ g5 := hg5
        omega
      have hA5 : ¬ A g5 := fun hf => by
        have h1 := HAw.out g5 hf
        have h2 := HUk.out.size
        have h3 := HBA.out.size
        have h4 : wa.heap.size ≤ g5 := hg5
        omega
      obtain ⟨u6, hrun, V6, gb⟩ := V5.put (by unfold maxLen; omega) pb hwf g5 c5 zs hr5 hF5 hA5 h4
      have HV6 : Hid (VWA A u6 v dg j gm ep false S' ys D' (cn + k + 1) (fun i => if i = pb then some zs else dats dat (is.take k) i) F') := V6
      have HU6 : Hid (Upd (fun i => F i ∨ i = gm) w u6) := by
        have B5 : Below wr.heap.size wr u5 := HBA.out.trans (b5'.mono HBA.out.size)
        exact (HUk.out.thenB B5).grown gb (fun i e => by cases e; exact .inl (.inr rfl))
      have HS2 : Hid (u6.cell? ⟨v, 11, none⟩ = some (.map (some gm)) ∧ u6.cell? ⟨wr.heap.size, 0, none⟩ = some (.int .i64 pb) ∧ u6.cell? ⟨wr.heap.size, 1, none⟩ = some (.slice (some ⟨xb, xo, none⟩) 4096 cx)) := by
        obtain ⟨m6, hv6, _⟩ := V6
        obtain ⟨m5, hv5, _⟩ := V5
        have y := box_map (HBx.out.below b5') hv5.map gb
        have y0 := y.cell 0
        have y1 := y.cell 1
        simp only [List.getElem?_toArray, List.getElem?_cons_zero, List.getElem?_cons_succ] at y0 y1
        exact ⟨(vcells hv6.box).c11, y0, y1⟩
      refine hK.out _ _ (HS.out _ b5') (fun hHeld => ?_)
      clear hK K V5 V6 gb
      refine wpAnyH_ready (rs := [9]) (by kernel_rfl) (by simp) ?_
      refine AllReadyH.cons rfl (fun K hK => ?_) AllReadyH.nil
      go_simp
      refine hK.out _ _ (HS2.out) (fun hHeld => ?_)
      clear hK K
      refine wpAnyH_done (by kernel_rfl) ?_ _
      refine NoPanic.normal ?_
      clear cC hrun HS HVk HUk HRA HBA HBx HVA HWa hr5 b5 b5' HS2
      go_wp2_with fail
      go_roundw
      case rel => exact ⟨k + 1, by omega, by push_cast; rfl, by rw [hnext.out, dats_snoc]; exact HV6.out, HU6.out⟩
      case measure => simp [intOf]; omega
    · have hkn : k = n := by omega
      subst hkn
      have HV6 : Hid (VWA A wr v dg j gm ep false S' ys D' (cn + k) (dats dat is) F') := by
        have := HVk.out
        rw [List.take_of_length_le (by rw [HL.out]; exact Nat.le_refl _)] at this
        exact this
      go_wp2_with fail
      exact bodyPost_ret (v := .tuple #[.int .i64 nx, .int .i64 0]) (by simp [results, Tryz.results15, go_sem]) rfl ⟨rfl, F', HV6.out, HF3.out, HUk.out⟩
end
end Go.Proofs.YtnldkpckojhbhaaGreat.V

/-
  rising of images of any length.
-/
namespace Go.Proofs.YtnldkpckojhbhaaGreat.H
open Go.RowKit Go.Maps
open Go.Proofs.YtnldkpckojhbhaaGreat.Rc (RowB owns_below owns_shape owns_block Box Imgs)

def CloneR (B : Nat) (u : World) (a : Option Addr) (c : Nat) (xs : List UInt8) : Prop := xs.length ≤ c ∧ c ≤ 9223372036854775807 ∧ (a = none → c = 0) ∧ (xs = [] ∨ ∃ g, a = some ⟨g, 0, none⟩ ∧ B ≤ g ∧ RowB u g c xs)
theorem CloneR.rd {B : Nat} {u : World} {a : Option Addr} {c : Nat} {xs : List UInt8} (h : CloneR B u a c xs) : Rc.Rd u a xs := by
  rcases h.2.2.2 with e | ⟨g, rfl, _, r⟩
  · rw [e]; exact Rc.Rd.nil _ _
  · exact r.rd
theorem CloneR.mono {B : Nat} {u u' : World} {a : Option Addr} {c : Nat} {xs : List UInt8} (h : CloneR B u a c xs) (hk : ∀ g cur, Box u g cur 5 → u'.heap[g]? = u.heap[g]?) : CloneR B u' a c xs := by
  refine ⟨h.1, h.2.1, h.2.2.1, h.2.2.2.imp id fun ⟨g, e, hB, r⟩ => ⟨g, e, hB, r.same ?_⟩⟩
  obtain ⟨cur, hb, _⟩ := id r
  exact hk g cur hb
end Go.Proofs.YtnldkpckojhbhaaGreat.H

/-
  Home of a layout that is none.
-/
namespace Go.Proofs.YtnldkpckojhbhaaGreat.H
open Go.RowKit
open Go.Proofs.YtnldkpckojhbhaaGreat.Dk (Box)

end Go.Proofs.YtnldkpckojhbhaaGreat.H

/-
  Home of any layout, of images of any length.
-/
namespace Go.Proofs.YtnldkpckojhbhaaGreat.H
open Go.RowKit Go.Maps
open Go.Proofs.YtnldkpckojhbhaaGreat.Rc (Imgs)
open Go.Proofs.YtnldkpckojhbhaaGreat.Dk (Box)

end Go.Proofs.YtnldkpckojhbhaaGreat.H

/-
  All groups of a disk.
-/
namespace Go.Proofs.YtnldkpckojhbhaaGreat.S
open Go.RowKit Go.Shelf
open Go.Proofs.YtnldkpckojhbhaaGreat.Dk (Box)
attribute [local go_sem] Oper.semAt_some

theorem info52 : (Tryz.prog.info? 203).map (fun i => (i.zero, i.size, i.bytes)) = some (some (.agg #[.int .i64 0, .int .i64 0, .slice none 0 0]), 3, 40) := by kernel_rfl
theorem tot_le : ∀ (xs : List Gx), (∀ y ∈ xs, y.m + 1 ≤ 16) → tot xs ≤ 16 * xs.length
  | [], _ => by simp [tot]
  | x :: r, h => by
    have h1 := tot_le r (fun y hy => h y (List.mem_cons_of_mem _ hy))
    have h2 := h x List.mem_cons_self
    have e : tot (x :: r) = (x.m + 1) + tot r := by simp [tot]
    rw [e, List.length_cons]
    omega
theorem Run.fits {D : Dk.DS} {t E : Nat} : ∀ {xs : List Gx} {b s : Nat}, Run D t E b s xs → b ≤ 16 → b + tot xs ≤ 16
  | [], _, _, _, hb => by simpa [tot] using hb
  | x :: r, b, s, ⟨⟨_, _, hG, hm⟩, h2⟩, _ => by
    have h1 := hG.2.1
    have h3 := Run.fits h2 (by omega)
    have e : tot (x :: r) = (x.m + 1) + tot r := by simp [tot]
    rw [e, hm]
    omega
theorem kp_below {bt bb : Nat} {A B : World} (b : Below A.heap.size A B) (hbt : bt < A.heap.size) : Kp bt bb A B :=
  ⟨b.size, fun k _ h _ _ => (b.block k (Array.getElem?_eq_some_iff.1 h).1).trans h, fun _ hk => .inl (hk.below b hbt)⟩

set_option maxRecDepth 100000 in
set_option maxHeartbeats 2000000 in
theorem groups_at {w : World} {dg : Nat} {D : Dk.DS} {F : Nat → Prop} (hd : Dk.IsDisk w dg D F) (hnb : D.nb = 64) (hgn : D.gone = false) (hlim : D.uf.length ≤ 1000000) (t E S0 : Nat) (ht : t < 16) (hE : 1 ≤ E ∧ E ≤ 8388608) (hS : 1 ≤ S0 ∧ S0 ≤ 549755813888) :
    Calls Tryz.prog 160 #[.pointer (some ⟨dg, 0, none⟩), .agg lay, .agg #[.int .i64 64, .int .i64 (E : Int), .int .i64 (S0 : Int), .int .i64 (t : Int)]] w fun r w' => ∃ xs a c, r = .returned (.tuple #[.slice a xs.length c, .int .i64 (((t + tot xs) % 16 : Nat) : Int), .int .i64 0]) ∧ Run D t E 0 S0 xs ∧ w'.ownsRow w.heap.size 203 3 (.slice a xs.length c) xs.length (gsC E xs) ∧ (∀ x ∈ xs, GA D t E x w') ∧ Below w.heap.size w w' := by
  obtain ⟨i0, hi0, hz0, hz1, hz2⟩ := info_parts info52
  refine (callsIn_wide (n := 4)).1 ?_
  have e0 : ∃ W5, W5 = (((((w.alloc (.cells #[.int .i64 64, .int .i64 2, .int .i64 16, .int .i64 18, .int .i64 19, .int .i64 4, .int .i64 23] 57)).alloc (.cells #[.int .i64 64, .int .i64 (E : Int), .int .i64 (S0 : Int), .int .i64 (t : Int)] 141)).alloc (.cells #[.slice none 0 0] 161)).alloc (.cells #[.int .i64 0] 3)).alloc (.cells #[.int .i64 0] 26)) := ⟨_, rfl⟩
  obtain ⟨W5, hW5⟩ := e0
  have z1 : (w.alloc (.cells #[.int .i64 64, .int .i64 2, .int .i64 16, .int .i64 18, .int .i64 19, .int .i64 4, .int .i64 23] 57)).heap.size = w.heap.size + 1 := by simp
  have z2 : ((w.alloc (.cells #[.int .i64 64, .int .i64 2, .int .i64 16, .int .i64 18, .int .i64 19, .int .i64 4, .int .i64 23] 57)).alloc (.cells #[.int .i64 64, .int .i64 (E : Int), .int .i64 (S0 : Int), .int .i64 (t : Int)] 141)).heap.size = w.heap.size + 2 := by simp
  have z3 : (((w.alloc (.cells #[.int .i64 64, .int .i64 2, .int .i64 16, .int .i64 18, .int .i64 19, .int .i64 4, .int .i64 23] 57)).alloc (.cells #[.int .i64 64, .int .i64 (E : Int), .int .i64 (S0 : Int), .int .i64 (t : Int)] 141)).alloc (.cells #[.slice none 0 0] 161)).heap.size = w.heap.size + 3 := by simp
  have z4 : ((((w.alloc (.cells #[.int .i64 64, .int .i64 2, .int .i64 16, .int .i64 18, .int .i64 19, .int .i64 4, .int .i64 23] 57)).alloc (.cells #[.int .i64 64, .int .i64 (E : Int), .int .i64 (S0 : Int), .int .i64 (t : Int)] 141)).alloc (.cells #[.slice none 0 0] 161)).alloc (.cells #[.int .i64 0] 3)).heap.size = w.heap.size + 4 := by simp
  have z5 : W5.heap.size = w.heap.size + 5 := by rw [hW5]; simp
  have bx0 : Box W5 w.heap.size #[.int .i64 64, .int .i64 2, .int .i64 16, .int .i64 18, .int .i64 19, .int .i64 4, .int .i64 23] 57 := by rw [hW5]; exact ((((Dk.Box.new w #[.int .i64 64, .int .i64 2, .int .i64 16, .int .i64 18, .int .i64 19, .int .i64 4, .int .i64 23] 57).alloc _).alloc _).alloc _).alloc _
  have bx1 : Box W5 (w.heap.size + 1) #[.int .i64 64, .int .i64 (E : Int), .int .i64 (S0 : Int), .int .i64 (t : Int)] 141 := by rw [hW5, ← z1]; exact (((Dk.Box.new (w.alloc (.cells #[.int .i64 64, .int .i64 2, .int .i64 16, .int .i64 18, .int .i64 19, .int .i64 4, .int .i64 23] 57)) #[.int .i64 64, .int .i64 (E : Int), .int .i64 (S0 : Int), .int .i64 (t : Int)] 141).alloc _).alloc _).alloc _
  have bx2 : Box W5 (w.heap.size + 2) #[.slice none 0 0] 161 := by rw [hW5, ← z2]; exact ((Dk.Box.new ((w.alloc (.cells #[.int .i64 64, .int .i64 2, .int .i64 16, .int .i64 18, .int .i64 19, .int .i64 4, .int .i64 23] 57)).alloc (.cells #[.int .i64 64, .int .i64 (E : Int), .int .i64 (S0 : Int), .int .i64 (t : Int)] 141)) #[.slice none 0 0] 161).alloc _).alloc _
  have bx3 : Box W5 (w.heap.size + 3) #[.int .i64 0] 3 := by rw [hW5, ← z3]; exact (Dk.Box.new (((w.alloc (.cells #[.int .i64 64, .int .i64 2, .int .i64 16, .int .i64 18, .int .i64 19, .int .i64 4, .int .i64 23] 57)).alloc (.cells #[.int .i64 64, .int .i64 (E : Int), .int .i64 (S0 : Int), .int .i64 (t : Int)] 141)).alloc (.cells #[.slice none 0 0] 161)) #[.int .i64 0] 3).alloc _
  have bx4 : Box W5 (w.heap.size + 4) #[.int .i64 0] 26 := by rw [hW5, ← z4]; exact Dk.Box.new ((((w.alloc (.cells #[.int .i64 64, .int .i64 2, .int .i64 16, .int .i64 18, .int .i64 19, .int .i64 4, .int .i64 23] 57)).alloc (.cells #[.int .i64 64, .int .i64 (E : Int), .int .i64 (S0 : Int), .int .i64 (t : Int)] 141)).alloc (.cells #[.slice none 0 0] 161)).alloc (.cells #[.int .i64 0] 3)) #[.int .i64 0] 26
  have B5 : Below w.heap.size w W5 := by rw [hW5]; exact (((((Below.refl w.heap.size w).alloc (Nat.le_refl _) _).alloc (by simp) _).alloc (by simp; omega) _).alloc (by simp; omega) _).alloc (by simp; omega) _
  have hA := ahead_ok (hd.below B5) hnb (E : Int) (S0 : Int) (t : Int) (by omega) (by omega) (by omega)
  unfold lay at hA ⊢
  refine callsIn_of_wp_marks Tryz.func160 rfl trivial ?_ rfl
  simp only [Tryz.ntmps160, List.size_toArray, List.length_cons, List.length_nil, Nat.reduceAdd, Nat.reduceSub, Array.replicate_succ, Array.replicate_zero, List.push_toArray, List.append_toArray, List.nil_append, List.cons_append]
  have HZ : Hid (W5.heap.size = w.heap.size + 5) := z5
  clear z1 z2 z3 z4 z5
  have HB5 : Hid (Below w.heap.size w W5 ∧ Box W5 (w.heap.size + 2) #[.slice none 0 0] 161 ∧ Box W5 (w.heap.size + 3) #[.int .i64 0] 3 ∧ Box W5 (w.heap.size + 4) #[.int .i64 0] 26) := ⟨B5, bx2, bx3, bx4⟩
  have HD : Hid (∀ u, Below W5.heap.size W5 u → Box u w.heap.size #[.int .i64 64, .int .i64 2, .int .i64 16, .int .i64 18, .int .i64 19, .int .i64 4, .int .i64 23] 57 ∧ Box u (w.heap.size + 1) #[.int .i64 64, .int .i64 (E : Int), .int .i64 (S0 : Int), .int .i64 (t : Int)] 141) := fun u bu => ⟨bx0.below bu, bx1.below bu⟩
  have f0 := bx0.cell 0
  have f1 := bx0.cell 1
  have f2 := bx0.cell 2
  have f3 := bx0.cell 3
  have f4 := bx0.cell 4
  have f5 := bx0.cell 5
  have f6 := bx0.cell 6
  have h0 := bx1.cell 0
  have h1 := bx1.cell 1
  have h2 := bx1.cell 2
  have h3 := bx1.cell 3
  simp only [List.getElem?_toArray, List.getElem?_cons_zero, List.getElem?_cons_succ] at f0 f1 f2 f3 f4 f5 f6 h0 h1 h2 h3
  clear B5 bx0 bx1 bx2 bx3 bx4
  have HW : Hid (∃ W, W = W5) := ⟨_, rfl⟩
  rw [hW5] at hA f0 f1 f2 f3 f4 f5 f6 h0 h1 h2 h3
  gi_wp2_with fail
  refine ⟨trivial, ?_⟩
  refine ((callsIn_wide (n := 3)).2 hA).mono ?_
  rintro r u1 ⟨rfl, b1⟩
  rw [← hW5] at b1
  clear hA f0 f1 f2 f3 f4 f5 f6 h0 h1 h2 h3
  obtain ⟨y0, y1⟩ := HD.out u1 b1
  have f0 := y0.cell 0
  have f1 := y0.cell 1
  have f2 := y0.cell 2
  have f3 := y0.cell 3
  have f4 := y0.cell 4
  have f5 := y0.cell 5
  have f6 := y0.cell 6
  have h0 := y1.cell 0
  have h1 := y1.cell 1
  have h2 := y1.cell 2
  have h3 := y1.cell 3
  simp only [List.getElem?_toArray, List.getElem?_cons_zero, List.getElem?_cons_succ] at f0 f1 f2 f3 f4 f5 f6 h0 h1 h2 h3
  obtain ⟨W8, hW8⟩ : ∃ W8, W8 = (((u1.alloc (.cells #[.pointer (some ⟨dg, 0, none⟩), .int .i64 64, .int .i64 2, .int .i64 16, .int .i64 18, .int .i64 19, .int .i64 4, .int .i64 23, .int .i64 64, .int .i64 (E : Int), .int .i64 (S0 : Int), .int .i64 (t : Int)] 261)).alloc (.cells #[.slice none 0 0] 161)).alloc (.cells #[.int .i64 0] 3)) := ⟨_, rfl⟩
  have s1 : (u1.alloc (.cells #[.pointer (some ⟨dg, 0, none⟩), .int .i64 64, .int .i64 2, .int .i64 16, .int .i64 18, .int .i64 19, .int .i64 4, .int .i64 23, .int .i64 64, .int .i64 (E : Int), .int .i64 (S0 : Int), .int .i64 (t : Int)] 261)).heap.size = u1.heap.size + 1 := by simp
  have s2 : ((u1.alloc (.cells #[.pointer (some ⟨dg, 0, none⟩), .int .i64 64, .int .i64 2, .int .i64 16, .int .i64 18, .int .i64 19, .int .i64 4, .int .i64 23, .int .i64 64, .int .i64 (E : Int), .int .i64 (S0 : Int), .int .i64 (t : Int)] 261)).alloc (.cells #[.slice none 0 0] 161)).heap.size = u1.heap.size + 2 := by simp
  have s3 : Hid (W8.heap.size = u1.heap.size + 3) := by
    have : W8.heap.size = u1.heap.size + 3 := by rw [hW8]; simp
    exact this
  have r0 : Box W8 u1.heap.size #[.pointer (some ⟨dg, 0, none⟩), .int .i64 64, .int .i64 2, .int .i64 16, .int .i64 18, .int .i64 19, .int .i64 4, .int .i64 23, .int .i64 64, .int .i64 (E : Int), .int .i64 (S0 : Int), .int .i64 (t : Int)] 261 := by rw [hW8]; exact ((Dk.Box.new u1 #[.pointer (some ⟨dg, 0, none⟩), .int .i64 64, .int .i64 2, .int .i64 16, .int .i64 18, .int .i64 19, .int .i64 4, .int .i64 23, .int .i64 64, .int .i64 (E : Int), .int .i64 (S0 : Int), .int .i64 (t : Int)] 261).alloc _).alloc _
  have r1 : Hid (Box W8 (u1.heap.size + 1) #[.slice none 0 0] 161) := by
    have : Box W8 (u1.heap.size + 1) #[.slice none 0 0] 161 := by rw [hW8, ← s1]; exact (Dk.Box.new (u1.alloc (.cells #[.pointer (some ⟨dg, 0, none⟩), .int .i64 64, .int .i64 2, .int .i64 16, .int .i64 18, .int .i64 19, .int .i64 4, .int .i64 23, .int .i64 64, .int .i64 (E : Int), .int .i64 (S0 : Int), .int .i64 (t : Int)] 261)) #[.slice none 0 0] 161).alloc _
    exact this
  have r2 : Hid (Box W8 (u1.heap.size + 2) #[.int .i64 0] 3) := by
    have : Box W8 (u1.heap.size + 2) #[.int .i64 0] 3 := by rw [hW8, ← s2]; exact Dk.Box.new ((u1.alloc (.cells #[.pointer (some ⟨dg, 0, none⟩), .int .i64 64, .int .i64 2, .int .i64 16, .int .i64 18, .int .i64 19, .int .i64 4, .int .i64 23, .int .i64 64, .int .i64 (E : Int), .int .i64 (S0 : Int), .int .i64 (t : Int)] 261)).alloc (.cells #[.slice none 0 0] 161)) #[.int .i64 0] 3
    exact this
  have B8 : Hid (Below u1.heap.size u1 W8) := by
    have : Below u1.heap.size u1 W8 := by rw [hW8]; exact (((Below.refl u1.heap.size u1).alloc (Nat.le_refl _) _).alloc (by simp) _).alloc (by simp; omega) _
    exact this
  have R0 : Hid (Box W8 u1.heap.size #[.pointer (some ⟨dg, 0, none⟩), .int .i64 64, .int .i64 2, .int .i64 16, .int .i64 18, .int .i64 19, .int .i64 4, .int .i64 23, .int .i64 64, .int .i64 (E : Int), .int .i64 (S0 : Int), .int .i64 (t : Int)] 261) := r0
  have cR := reader_at W8 dg 64 (E : Int) (S0 : Int) (t : Int)
  unfold rC at cR
  have g0 := r0.cell 0
  have g1 := r0.cell 1
  have g2 := r0.cell 2
  have g3 := r0.cell 3
  have g4 := r0.cell 4
  have g5 := r0.cell 5
  have g6 := r0.cell 6
  have g7 := r0.cell 7
  have g8 := r0.cell 8
  have g9 := r0.cell 9
  have g10 := r0.cell 10
  have g11 := r0.cell 11
  simp only [List.getElem?_toArray, List.getElem?_cons_zero, List.getElem?_cons_succ] at g0 g1 g2 g3 g4 g5 g6 g7 g8 g9 g10 g11
  clear r0 s1 s2 y0 y1
  have hW8' := hW8
  rw [hW8] at g0 g1 g2 g3 g4 g5 g6 g7 g8 g9 g10 g11
  gi_wp2_with fail
  refine ⟨trivial, ?_⟩
  rw [← hW8]
  refine ((callsIn_wide (n := 3)).2 cR).mono ?_
  rintro r u2 ⟨rfl, hbr, b2⟩
  clear cR g0 g1 g2 g3 g4 g5 g6 g7 g8 g9 g10 g11 f0 f1 f2 f3 f4 f5 f6 h0 h1 h2 h3 hW8 hW8' hW5
  gi_wp2_with fail
  have hz8 := s3.out
  have hz5 := HZ.out
  have e8 := b2.size
  have e1 := b1.size
  have BW8 : Below w.heap.size w W8 := (HB5.out.1.trans (b1.mono HB5.out.1.size)).trans (B8.out.mono (by omega))
  have BU2 : Below w.heap.size w u2 := BW8.trans (b2.mono BW8.size)
  have q1 : Box u2 (u1.heap.size + 1) #[.slice none 0 0] 161 := r1.out.below b2
  have q2 : Box u2 (u1.heap.size + 2) #[.int .i64 0] 3 := r2.out.below b2
  have hq3 : W8.heap.size < u2.heap.size := hbr.lt
  have hT : Tl w.heap.size (u1.heap.size + 1) (u1.heap.size + 2) W8.heap.size u2 := by
    refine ⟨hq3, fun k hk => ?_⟩
    rcases hk with rfl | rfl | ⟨v, h1, h2⟩
    · exact ⟨by omega, by omega, by omega⟩
    · exact ⟨by omega, by omega, by omega⟩
    · rw [q1.cell 0] at h1
      simp at h1
      subst h1
      cases h2
  have hI0 : I9 w D t E S0 dg (u1.heap.size + 1) (u1.heap.size + 2) u1.heap.size [] u2 := by
    obtain ⟨_, p2, p3, p4⟩ := HB5.out
    have bb5 := b1.trans ((B8.out.trans (b2.mono B8.out.size)).mono e1)
    exact ⟨⟨_, q1, World.ownsRow_nil _ _ _ _⟩, q2, fun x hx => (by cases hx), R0.out.below b2, p2.below bb5, p3.below bb5, p4.below bb5, BU2⟩
  have hHd := hands9 (4 - 1) (by omega) W8.heap.size (u1.heap.size + 1) (u1.heap.size + 2) dg w.heap.size D _ t E S0 64 ht hnb hgn hlim hS.2 u2 ((disk_cells hd).kept (fun i hi => BU2.block i (hd.flt i hi.1)) BU2.size)
    (fun k hk => ⟨hd.flt k hk.1, by obtain ⟨_, o, h1, h2⟩ := hk; exact ⟨o, (BU2.block k (hd.flt k (by assumption))).trans h1, h2⟩⟩) hbr hT BU2.size
  have HT : Hid (w.heap.size + 5 ≤ u1.heap.size ∧ u1.heap.size + 3 ≤ u2.heap.size) := ⟨by omega, by omega⟩
  clear hT q1 q2 hz8 hz5 e8 e1 hq3
  refine wpIn_range_told rfl (by omega) (gf := 239) (lb := #[.pointer (some ⟨W8.heap.size, 0, none⟩)]) rfl trivial (enters_of Tryz.func239 (by kernel_rfl) rfl) hHd (Below.refl _ _) Kp.trans (fun W l o o' hl ho hc _ => kp_put o' (B := u2.heap.size) (by have := HT.out; omega) hl ho hc) (fun _ => rfl)
    (fun pre W => I9 w D t E S0 dg (u1.heap.size + 1) (u1.heap.size + 2) u1.heap.size pre W) (I9.own BU2.size) hI0
    (fun pre x a' W => pre.length < 16 ∧ ∃ Bx, Box W Bx #[.int .i64 (E : Int), .int .i64 (x.s : Int), .slice x.a x.m x.c] 203 ∧ (∃ v0 : Value, Box W (u1.heap.size + 1) #[v0] 161 ∧ v0.ownBlock ≠ some Bx) ∧ GA D t E x W ∧ a' = ({ tmps := #[.pointer (some ⟨dg, 0, none⟩), .agg #[.int .i64 64, .int .i64 2, .int .i64 16, .int .i64 18, .int .i64 19, .int .i64 4, .int .i64 23], .agg #[.int .i64 64, .int .i64 (E : Int), .int .i64 (S0 : Int), .int .i64 (t : Int)], undef, .pointer (some ⟨w.heap.size, 0, none⟩), .pointer (some ⟨w.heap.size + 1, 0, none⟩), .pointer (some ⟨w.heap.size + 1 + 1, 0, none⟩), .pointer (some ⟨w.heap.size + 1 + 1 + 1, 0, none⟩), .pointer (some ⟨w.heap.size + 1 + 1 + 1 + 1, 0, none⟩), .int .i64 0, .pointer (some ⟨u1.heap.size, 0, none⟩), .pointer (some ⟨u1.heap.size + 1, 0, none⟩), .pointer (some ⟨u1.heap.size + 1 + 1, 0, none⟩), .pointer (some ⟨Bx, 0, none⟩), .int .i64 0, .pointer (some ⟨dg, 0, none⟩), .agg #[.int .i64 64, .int .i64 2, .int .i64 16, .int .i64 18, .int .i64 19, .int .i64 4, .int .i64 23], .agg #[.int .i64 64, .int .i64 (E : Int), .int .i64 (S0 : Int), .int .i64 (t : Int)], .int .i64 0, .int .i64 0, .bool false, undef, .pointer (some ⟨dg, 0, none⟩), .agg #[.int .i64 64, .int .i64 2, .int .i64 16, .int .i64 18, .int .i64 19, .int .i64 4, .int .i64 23], .agg #[.int .i64 64, .int .i64 (E : Int), .int .i64 (S0 : Int), .int .i64 (t : Int)], .agg #[.pointer (some ⟨dg, 0, none⟩), .int .i64 64, .int .i64 2, .int .i64 16, .int .i64 18, .int .i64 19, .int .i64 4, .int .i64 23, .int .i64 64, .int .i64 (E : Int), .int .i64 (S0 : Int), .int .i64 (t : Int)], .agg #[.pointer (some ⟨dg, 0, none⟩), .int .i64 64, .int .i64 2, .int .i64 16, .int .i64 18, .int .i64 19, .int .i64 4, .int .i64 23, .int .i64 64, .int .i64 (E : Int), .int .i64 (S0 : Int), .int .i64 (t : Int)], .func (.func 239) #[] #[.pointer (some ⟨W8.heap.size, 0, none⟩)], .agg #[.int .i64 (E : Int), .int .i64 (x.s : Int), .slice x.a x.m x.c], .int .i64 0, undef, undef, undef, undef, undef, undef, undef, undef, undef, undef, undef, undef, undef, undef, undef, undef, undef], defers := [] } : Act)) ?hAx ?assign ?body ?done
  case hAx =>
    intro pre x a' _ A C row hs hg hr
    obtain ⟨h0, Bx, h1, h2, h3, h4⟩ := hs
    have hk : ∀ (k : Nat) (cs : Array Value) (ty : TypeId), Box A k cs ty → C.heap[k]? = A.heap[k]? := fun k cs ty hb => hg.block k hb.lt (fun e => by
      obtain ⟨_, o, ho, hc⟩ := hr k e.symm
      have hb' : A.heap[k]? = some (.cells cs ty) := hb
      rw [hb'] at ho
      cases ho
      cases hc)
    obtain ⟨v0, h5, h6⟩ := h2
    exact ⟨h0, Bx, (hk _ _ _ h1).trans h1, ⟨v0, (hk _ _ _ h5).trans h5, h6⟩, h3.kept (fun k cs ty hb _ => hk k cs ty hb), h4⟩
  case assign =>
    rintro l pre x W K hi ⟨hA, hpl⟩ hK
    dsimp only [encG]
    have al := (Below.refl W.heap.size W).alloc (Nat.le_refl _) (.cells #[.int .i64 (E : Int), .int .i64 (x.s : Int), .slice x.a x.m x.c] 203)
    have nb := Dk.Box.new W #[.int .i64 (E : Int), .int .i64 (x.s : Int), .slice x.a x.m x.c] 203
    gi_wp2_with fail
    obtain ⟨v0, hv0, ho0⟩ := hi.row
    exact hK _ _ ((KeepsOthers.alloc _ _).from _) (kp_below al hv0.lt) (hi.below al) ⟨hpl, W.heap.size, nb, ⟨v0, hv0.below al, fun e => by have := (ho0.lt _ e).2; omega⟩, hA.kept (fun k cs ty hb _ => al.block k hb.lt), rfl⟩
  case body =>
    rintro l pre x a' W hl ⟨r, hr⟩ hi ⟨hpl, Bx, hbx, ⟨v0, hv0, hne⟩, hga, rfl⟩
    have HI : Hid (I9 w D t E S0 dg (u1.heap.size + 1) (u1.heap.size + 2) u1.heap.size pre W) := hi
    obtain ⟨⟨v, hv, hown⟩, hsum, _⟩ := hi
    obtain rfl : v0 = v := by
      have := hv.symm.trans hv0
      simpa using this.symm
    obtain ⟨av, cv, rfl⟩ := Rc.owns_shape hown
    have c0 := hv0.cell 0
    have d0 := hbx.cell 0
    have d1 := hbx.cell 1
    have d2 := hbx.cell 2
    have s0 := hsum.cell 0
    simp only [List.getElem?_toArray, List.getElem?_cons_zero, List.getElem?_cons_succ] at c0 d0 d1 d2 s0
    have al := (Below.refl W.heap.size W).alloc (Nat.le_refl _) (.cells #[.int .i64 (E : Int), .int .i64 (x.s : Int), .slice x.a x.m x.c] 203)
    have own1 := Rc.owns_below hown al
    have bsz : w.heap.size ≤ (W.alloc (.cells #[.int .i64 (E : Int), .int .i64 (x.s : Int), .slice x.a x.m x.c] 203)).heap.size := Nat.le_trans HI.out.bel.size al.size
    gi_wp2_with (gi_at_builtin; refine wpListIn_append_own_at _ rfl _ _ 161 rfl w.heap.size 203 i0 _ 3 40 Tryz.underlying161 hi0 hz0 hz1 hz2 rfl (by decide) _ pre.length _ rfl own1 ⟨W.heap.size, 0, none⟩ 1 1 [.int .i64 (E : Int), .int .i64 (x.s : Int), .slice x.a x.m x.c] rfl rfl ?c1 ?c2 ?c3 ?c4 bsz ?_)
    case c1 => exact World.news_of_block (cs := #[.int .i64 (E : Int), .int .i64 (x.s : Int), .slice x.a x.m x.c]) (t := 203) (fr := (0, 0)) (heap_alloc_new W _)
    case c2 => intro u hu; simp at hu; rcases hu with rfl | rfl | rfl <;> rfl
    case c3 => unfold maxLen; omega
    case c4 => omega
    intro v' w4 own4 hg4 _ hat
    obtain ⟨av', cv', rfl⟩ := Rc.owns_shape own4
    have hro : ∀ k cs (ty : TypeId), Box W k cs ty → (203 : TypeId) ≠ ty ∨ (Value.slice av pre.length cv).ownBlock ≠ some k → w4.heap[k]? = W.heap[k]? := fun k cs ty hb hn => by
      have hb1 := hb.below al
      refine (hg4.block k hb1.lt (fun e => ?_)).trans (al.block k hb.lt)
      rcases hn with h | h
      · obtain ⟨_, cur, hb2⟩ := Rc.owns_block own1 k e.symm
        exact hb2.ne hb1 h rfl
      · exact h e.symm
    have k1 : Box w4 (u1.heap.size + 1) #[.slice av pre.length cv] 161 := (hro _ _ _ hv0 (.inl (by decide))).trans hv0
    have k2 : Box w4 (u1.heap.size + 2) #[.int .i64 (tot pre : Int)] 3 := (hro _ _ _ hsum (.inl (by decide))).trans hsum
    have k3 : Box w4 Bx #[.int .i64 (E : Int), .int .i64 (x.s : Int), .slice x.a x.m x.c] 203 := (hro _ _ _ hbx (.inr hne)).trans hbx
    have m1 := k1.cell 0
    have m1f := k1.frozen 0
    simp only [List.getElem?_toArray, List.getElem?_cons_zero] at m1
    have HG4 : Hid (W.alloc (.cells #[.int .i64 (E : Int), .int .i64 (x.s : Int), .slice x.a x.m x.c] 203) |>.grownBy w4 (Value.slice av pre.length cv).ownBlock) := hg4
    have HRO : Hid (∀ k cs (ty : TypeId), Box W k cs ty → (203 : TypeId) ≠ ty ∨ (Value.slice av pre.length cv).ownBlock ≠ some k → w4.heap[k]? = W.heap[k]?) := hro
    clear hg4 hro c0 d0 d1 d2 s0 al bsz
    gi_wp2_with fail
    obtain ⟨V, hV⟩ : ∃ V, V = (w4.setCell ⟨u1.heap.size + 1, 0, none⟩ (.slice av' (pre.length + 1) cv')).drew := ⟨_, rfl⟩
    have n2 : Box V (u1.heap.size + 1 + 1) #[.int .i64 (tot pre : Int)] 3 := by rw [hV]; exact (heap_setCell_other w4 ⟨u1.heap.size + 1, 0, none⟩ (u1.heap.size + 2) _ (by show u1.heap.size + 2 ≠ u1.heap.size + 1; omega)).trans k2
    have n3 : Box V Bx #[.int .i64 (E : Int), .int .i64 (x.s : Int), .slice x.a x.m x.c] 203 := by rw [hV]; exact (heap_setCell_other w4 ⟨u1.heap.size + 1, 0, none⟩ Bx _ (by show Bx ≠ u1.heap.size + 1; exact fun e => by subst e; exact k3.ne k1 (by decide) rfl)).trans k3
    have x0 := n2.cell 0
    have x1 := n3.cell 2
    have x2 := n2.frozen 0
    simp only [List.getElem?_toArray, List.getElem?_cons_zero, List.getElem?_cons_succ] at x0 x1
    refine wpIn_region_any (by kernel_rfl) ?_
    change wpAnyIn _ _ _ _ _ _ _ _ _ (World.drew _)
    rw [← hV]
    have HV : Hid (V = (w4.setCell ⟨u1.heap.size + 1, 0, none⟩ (.slice av' (pre.length + 1) cv')).drew) := hV
    clear hV
    have cB := Rc.blocks_at (x.m : Int)
    have hm16 : x.m + 1 ≤ 16 := by
      have h1 := hga.1.2.1
      rw [← hga.2.1] at h1
      omega
    have htot : tot pre ≤ 256 := by
      have := tot_le pre (fun y hy => by
        have h1 := HI.out.all y hy
        have h2 := h1.1.2.1
        rw [← h1.2.1] at h2
        omega)
      omega
    have hm1 : 1 ≤ x.m := by
      have h := hga.1.1.1.2.1.2.1
      have h' : 1 ≤ cntAt D t x.b ∧ cntAt D t x.b ≤ 32 := by simpa [cntAt] using h
      rw [← hga.2.1] at h'
      exact h'.1
    have ebl : Rc.blocksN (x.m : Int) = (x.m : Int) + 1 := by
      unfold Rc.blocksN
      rw [if_pos (by omega)]
    rw [ebl] at cB
    have HEnd : Hid (KeepsFrom u2.heap.size W (V.setCell ⟨u1.heap.size + 1 + 1, 0, none⟩ (.int .i64 ((tot pre : Int) + ((x.m : Int) + 1)))) ∧ Kp (u1.heap.size + 1) (u1.heap.size + 2) W (V.setCell ⟨u1.heap.size + 1 + 1, 0, none⟩ (.int .i64 ((tot pre : Int) + ((x.m : Int) + 1)))) ∧ I9 w D t E S0 dg (u1.heap.size + 1) (u1.heap.size + 2) u1.heap.size (pre ++ [x]) (V.setCell ⟨u1.heap.size + 1 + 1, 0, none⟩ (.int .i64 ((tot pre : Int) + ((x.m : Int) + 1))))) := by
      obtain ⟨U, hU⟩ : ∃ U, U = (V.setCell ⟨u1.heap.size + 1 + 1, 0, none⟩ (.int .i64 ((tot pre : Int) + ((x.m : Int) + 1)))) := ⟨_, rfl⟩
      rw [← hU]
      have hT0 := HT.out
      have al2 := (Below.refl W.heap.size W).alloc (Nat.le_refl _) (.cells #[.int .i64 (E : Int), .int .i64 (x.s : Int), .slice x.a x.m x.c] 203)
      have szW4 : W.heap.size + 1 ≤ w4.heap.size := by
        have := HG4.out.size
        simpa using this
      have szU : U.heap.size = w4.heap.size := by rw [hU, HV.out]; simp
      have h4 : ∀ k, k ≠ u1.heap.size + 1 → k ≠ u1.heap.size + 2 → U.heap[k]? = w4.heap[k]? := fun k h1 h2 => by
        rw [hU]
        refine (heap_setCell_other V ⟨u1.heap.size + 1 + 1, 0, none⟩ k _ h2).trans ?_
        rw [HV.out]
        exact heap_setCell_other w4 ⟨u1.heap.size + 1, 0, none⟩ k _ h1
      have hk : ∀ k cs (ty : TypeId), Box W k cs ty → k ≠ u1.heap.size + 1 → k ≠ u1.heap.size + 2 → (203 : TypeId) ≠ ty ∨ (Value.slice av pre.length cv).ownBlock ≠ some k → U.heap[k]? = W.heap[k]? := fun k cs ty hb h1 h2 h3 => (h4 k h1 h2).trans (HRO.out k cs ty hb h3)
      have ubt : Box U (u1.heap.size + 1) #[.slice av' (pre.length + 1) cv'] 161 := by
        rw [hU]
        refine (heap_setCell_other V ⟨u1.heap.size + 1 + 1, 0, none⟩ (u1.heap.size + 1) _ (by show u1.heap.size + 1 ≠ u1.heap.size + 1 + 1; omega)).trans ?_
        rw [HV.out]
        have h := k1.store 0 (.slice av' (pre.length + 1) cv')
        simp at h
        exact h
      have ubb : Box U (u1.heap.size + 2) #[.int .i64 (tot (pre ++ [x]) : Int)] 3 := by
        rw [hU]
        have := n2.store 0 (.int .i64 ((tot pre : Int) + ((x.m : Int) + 1)))
        rw [tot_snoc]
        push_cast
        simpa using this
      have hv1 : ∀ k, (Value.slice av pre.length cv).ownBlock = some k → ∃ cur, Box W k cur 203 := fun k e => by
        obtain ⟨_, cur, hb⟩ := Rc.owns_block hown k e
        exact ⟨cur, hb⟩
      have hoth : ∀ (k : Nat) (o : Obj), W.heap[k]? = some o → (k = u1.heap.size + 1 ∨ k = u1.heap.size + 2 ∨ (Value.slice av pre.length cv).ownBlock = some k → False) → U.heap[k]? = some o := fun k o ho hn => by
        have hlt := (Array.getElem?_eq_some_iff.1 ho).1
        rw [h4 k (fun e => hn (.inl e)) (fun e => hn (.inr (.inl e))), HG4.out.block k (by simp; omega) (fun e => hn (.inr (.inr e.symm))), al2.block k hlt, ho]
      refine ⟨⟨by omega, fun k o _ ho hc => hoth k o ho (fun h => ?_)⟩, ⟨by omega, fun k o ho _ hc => hoth k o ho (fun h => hc ?_), fun k hc => ?_⟩, ?_⟩
      · have hcs : ∃ cs ty, Box W k cs ty := by
          rcases h with h | h | h
          · exact ⟨_, _, h ▸ hv0⟩
          · exact ⟨_, _, h ▸ hsum⟩
          · obtain ⟨cur, hb⟩ := hv1 k h
            exact ⟨_, _, hb⟩
        obtain ⟨cs, ty, hb⟩ := hcs
        have hb' : W.heap[k]? = some (.cells cs ty) := hb
        rw [hb'] at ho
        cases ho
        cases hc
      · rcases h with h | h | h
        · exact .inl h
        · exact .inr (.inl h)
        · exact .inr (.inr ⟨_, hv0.cell 0, h⟩)
      · rcases hc with h | h | ⟨v, e1, e2⟩
        · exact .inl (.inl h)
        · exact .inl (.inr (.inl h))
        · rw [ubt.cell 0] at e1
          simp at e1
          subst e1
          rcases hat with h | h
          · exact .inl (.inr (.inr ⟨_, hv0.cell 0, h ▸ e2⟩))
          · right
            have h5 := (own4.lt k e2).2
            rw [h] at e2
            simp at e2
            omega
      · have hi := HI.out
        have ne52 : ∀ k cs (ty : TypeId), Box W k cs ty → (203 : TypeId) ≠ ty → k ≠ u1.heap.size + 1 → k ≠ u1.heap.size + 2 → Box U k cs ty := fun k cs ty hb h1 h2 h3 => (hk k cs ty hb h2 h3 (.inl h1)).trans hb
        have gk : ∀ y, GA D t E y W → GA D t E y U := fun y hy => hy.kept (fun k cs ty hb ht => hk k cs ty hb
          (fun e => by subst e; rcases ht with rfl | rfl <;> exact hb.ne hv0 (by decide) rfl)
          (fun e => by subst e; rcases ht with rfl | rfl <;> exact hb.ne hsum (by decide) rfl)
          (.inl (by rcases ht with rfl | rfl <;> decide)))
        refine ⟨⟨_, ubt, ?_⟩, ubb, fun y hy => ?_, ne52 _ _ _ hi.rdr (by decide) (by omega) (by omega), ne52 _ _ _ hi.o2 (by decide) (by omega) (by omega), ne52 _ _ _ hi.o3 (by decide) (by omega) (by omega), ne52 _ _ _ hi.o4 (by decide) (by omega) (by omega), ?_⟩
        · rw [gsC_snoc, List.length_append]
          refine J.owns_kept own4 (fun k e => ?_)
          obtain ⟨_, cur, hb⟩ := Rc.owns_block own4 k e
          exact h4 k (fun e => by subst e; exact hb.ne k1 (by decide) rfl) (fun e => by subst e; exact hb.ne k2 (by decide) rfl)
        · rcases List.mem_append.1 hy with hy | hy
          · exact gk y (hi.all y hy)
          · obtain rfl : y = x := by simpa using hy
            exact gk y hga
        · have hb4 : Below w.heap.size w w4 := (hi.bel.trans (al2.mono hi.bel.size)).grown HG4.out (Nat.le_trans hi.bel.size al2.size) (fun k e => (hown.lt k e).1)
          rw [hU, HV.out]
          exact ((hb4.setCell (p := ⟨u1.heap.size + 1, 0, none⟩) (by show w.heap.size ≤ u1.heap.size + 1; omega) _).drew).setCell (p := ⟨u1.heap.size + 1 + 1, 0, none⟩) (by show w.heap.size ≤ u1.heap.size + 1 + 1; omega) _
    have hww : IntKind.i64.wrap ((tot pre : Int) + ((x.m : Int) + 1)) = (tot pre : Int) + ((x.m : Int) + 1) := by rw [IntKind.wrap_i64]; omega
    rw [← hww] at HEnd
    clear hww ebl hm1 n2 n3 k1 k2 k3 own4 own1 hat
    refine wpAnyIn_ready (rs := [0, 1]) (by kernel_rfl) (by simp) ?_
    refine AllReadyIn.cons rfl (fun K hK2 => ?_) ?_
    · skip
      go_simp
      refine hK2 _ _ ?_
      clear hK2 K
      refine wpAnyIn_ready (rs := [1]) (by kernel_rfl) (by simp) ?_
      refine AllReadyIn.cons rfl (fun K hK2 => ?_) ?_
      · skip
        go_simp
        refine hK2 _ _ ?_
        clear hK2 K
        refine wpAnyIn_ready (rs := [2]) (by kernel_rfl) (by simp) ?_
        refine AllReadyIn.cons rfl (fun K hK2 => ?_) ?_
        · skip
          go_simp
          refine hK2 _ _ ?_
          clear hK2 K
          refine wpAnyIn_ready (rs := [3]) (by kernel_rfl) (by simp) ?_
          refine AllReadyIn.cons rfl (fun K hK2 => ?_) ?_
          · skip
            go_simp
            refine hK2 _ _ ?_
            clear hK2 K
            refine wpAnyIn_ready (rs := [4]) (by kernel_rfl) (by simp) ?_
            refine AllReadyIn.cons rfl (fun K hK2 => ?_) ?_
            · skip
              go_simp
              refine ⟨trivial, (CallsIn.inRound l ((callsIn_wide (n := 1)).2 (cB V))).mono ?_⟩
              rintro r V' ⟨rfl, rfl⟩
              refine hK2 _ _ ?_
              clear hK2 K
              refine wpAnyIn_ready (rs := [5]) (by kernel_rfl) (by simp) ?_
              refine AllReadyIn.cons rfl (fun K hK2 => ?_) ?_
              · skip
                go_simp
                refine hK2 _ _ ?_
                clear hK2 K
                refine wpAnyIn_ready (rs := [6]) (by kernel_rfl) (by simp) ?_
                refine AllReadyIn.cons rfl (fun K hK2 => ?_) ?_
                · skip
                  go_simp
                  refine hK2 _ _ ?_
                  clear hK2 K
                  refine wpAnyIn_done (by kernel_rfl) ?_ _
                  gi_wp2_with fail
                  exact HEnd.out
                exact AllReadyIn.nil
              exact AllReadyIn.nil
            exact AllReadyIn.nil
          exact AllReadyIn.nil
        exact AllReadyIn.nil
      exact AllReadyIn.nil
    refine AllReadyIn.cons rfl (fun K hK2 => ?_) ?_
    · skip
      go_simp
      refine hK2 _ _ ?_
      clear hK2 K
      refine wpAnyIn_ready (rs := [0, 2]) (by kernel_rfl) (by simp) ?_
      refine AllReadyIn.cons rfl (fun K hK2 => ?_) ?_
      · skip
        go_simp
        refine hK2 _ _ ?_
        clear hK2 K
        refine wpAnyIn_ready (rs := [2]) (by kernel_rfl) (by simp) ?_
        refine AllReadyIn.cons rfl (fun K hK2 => ?_) ?_
        · skip
          go_simp
          refine hK2 _ _ ?_
          clear hK2 K
          refine wpAnyIn_ready (rs := [3]) (by kernel_rfl) (by simp) ?_
          refine AllReadyIn.cons rfl (fun K hK2 => ?_) ?_
          · skip
            go_simp
            refine hK2 _ _ ?_
            clear hK2 K
            refine wpAnyIn_ready (rs := [4]) (by kernel_rfl) (by simp) ?_
            refine AllReadyIn.cons rfl (fun K hK2 => ?_) ?_
            · skip
              go_simp
              refine ⟨trivial, (CallsIn.inRound l ((callsIn_wide (n := 1)).2 (cB V))).mono ?_⟩
              rintro r V' ⟨rfl, rfl⟩
              refine hK2 _ _ ?_
              clear hK2 K
              refine wpAnyIn_ready (rs := [5]) (by kernel_rfl) (by simp) ?_
              refine AllReadyIn.cons rfl (fun K hK2 => ?_) ?_
              · skip
                go_simp
                refine hK2 _ _ ?_
                clear hK2 K
                refine wpAnyIn_ready (rs := [6]) (by kernel_rfl) (by simp) ?_
                refine AllReadyIn.cons rfl (fun K hK2 => ?_) ?_
                · skip
                  go_simp
                  refine hK2 _ _ ?_
                  clear hK2 K
                  refine wpAnyIn_done (by kernel_rfl) ?_ _
                  gi_wp2_with fail
                  exact HEnd.out
                exact AllReadyIn.nil
              exact AllReadyIn.nil
            exact AllReadyIn.nil
          exact AllReadyIn.nil
        exact AllReadyIn.nil
      refine AllReadyIn.cons rfl (fun K hK2 => ?_) ?_
      · skip
        go_simp
        refine hK2 _ _ ?_
        clear hK2 K
        refine wpAnyIn_ready (rs := [0, 3]) (by kernel_rfl) (by simp) ?_
        refine AllReadyIn.cons rfl (fun K hK2 => ?_) ?_
        · skip
          go_simp
          refine hK2 _ _ ?_
          clear hK2 K
          refine wpAnyIn_ready (rs := [3]) (by kernel_rfl) (by simp) ?_
          refine AllReadyIn.cons rfl (fun K hK2 => ?_) ?_
          · skip
            go_simp
            refine hK2 _ _ ?_
            clear hK2 K
            refine wpAnyIn_ready (rs := [4]) (by kernel_rfl) (by simp) ?_
            refine AllReadyIn.cons rfl (fun K hK2 => ?_) ?_
            · skip
              go_simp
              refine ⟨trivial, (CallsIn.inRound l ((callsIn_wide (n := 1)).2 (cB V))).mono ?_⟩
              rintro r V' ⟨rfl, rfl⟩
              refine hK2 _ _ ?_
              clear hK2 K
              refine wpAnyIn_ready (rs := [5]) (by kernel_rfl) (by simp) ?_
              refine AllReadyIn.cons rfl (fun K hK2 => ?_) ?_
              · skip
                go_simp
                refine hK2 _ _ ?_
                clear hK2 K
                refine wpAnyIn_ready (rs := [6]) (by kernel_rfl) (by simp) ?_
                refine AllReadyIn.cons rfl (fun K hK2 => ?_) ?_
                · skip
                  go_simp
                  refine hK2 _ _ ?_
                  clear hK2 K
                  refine wpAnyIn_done (by kernel_rfl) ?_ _
                  gi_wp2_with fail
                  exact HEnd.out
                exact AllReadyIn.nil
              exact AllReadyIn.nil
            exact AllReadyIn.nil
          exact AllReadyIn.nil
        refine AllReadyIn.cons rfl (fun K hK2 => ?_) ?_
        · skip
          go_simp
          refine hK2 _ _ ?_
          clear hK2 K
          refine wpAnyIn_ready (rs := [0, 4]) (by kernel_rfl) (by simp) ?_
          refine AllReadyIn.cons rfl (fun K hK2 => ?_) ?_
          · skip
            go_simp
            refine hK2 _ _ ?_
            clear hK2 K
            refine wpAnyIn_ready (rs := [4]) (by kernel_rfl) (by simp) ?_
            refine AllReadyIn.cons rfl (fun K hK2 => ?_) ?_
            · skip
              go_simp
              refine ⟨trivial, (CallsIn.inRound l ((callsIn_wide (n := 1)).2 (cB V))).mono ?_⟩
              rintro r V' ⟨rfl, rfl⟩
              refine hK2 _ _ ?_
              clear hK2 K
              refine wpAnyIn_ready (rs := [5]) (by kernel_rfl) (by simp) ?_
              refine AllReadyIn.cons rfl (fun K hK2 => ?_) ?_
              · skip
                go_simp
                refine hK2 _ _ ?_
                clear hK2 K
                refine wpAnyIn_ready (rs := [6]) (by kernel_rfl) (by simp) ?_
                refine AllReadyIn.cons rfl (fun K hK2 => ?_) ?_
                · skip
                  go_simp
                  refine hK2 _ _ ?_
                  clear hK2 K
                  refine wpAnyIn_done (by kernel_rfl) ?_ _
                  gi_wp2_with fail
                  exact HEnd.out
                exact AllReadyIn.nil
              exact AllReadyIn.nil
            exact AllReadyIn.nil
          refine AllReadyIn.cons rfl (fun K hK2 => ?_) ?_
          · skip
            go_simp
            refine ⟨trivial, (CallsIn.inRound l ((callsIn_wide (n := 1)).2 (cB V))).mono ?_⟩
            rintro r V' ⟨rfl, rfl⟩
            refine hK2 _ _ ?_
            clear hK2 K
            refine wpAnyIn_ready (rs := [0]) (by kernel_rfl) (by simp) ?_
            refine AllReadyIn.cons rfl (fun K hK2 => ?_) ?_
            · skip
              go_simp
              refine hK2 _ _ ?_
              clear hK2 K
              refine wpAnyIn_ready (rs := [5]) (by kernel_rfl) (by simp) ?_
              refine AllReadyIn.cons rfl (fun K hK2 => ?_) ?_
              · skip
                go_simp
                refine hK2 _ _ ?_
                clear hK2 K
                refine wpAnyIn_ready (rs := [6]) (by kernel_rfl) (by simp) ?_
                refine AllReadyIn.cons rfl (fun K hK2 => ?_) ?_
                · skip
                  go_simp
                  refine hK2 _ _ ?_
                  clear hK2 K
                  refine wpAnyIn_done (by kernel_rfl) ?_ _
                  gi_wp2_with fail
                  exact HEnd.out
                exact AllReadyIn.nil
              exact AllReadyIn.nil
            exact AllReadyIn.nil
          exact AllReadyIn.nil
        exact AllReadyIn.nil
      exact AllReadyIn.nil
    exact AllReadyIn.nil
  case done =>
    rintro D' xs W hD hR hi hdf
    have hfit := hR.fits (by omega)
    obtain ⟨⟨v, hv, hown⟩, hsum, hall, hrd, p2, p3, p4, hbel⟩ := hi
    obtain ⟨av, cv, rfl⟩ := Rc.owns_shape hown
    have HS : Hid (∀ u, Below W.heap.size W u → u.cell? ⟨u1.heap.size, 0, none⟩ = some (.pointer (some ⟨dg, 0, none⟩)) ∧ u.cell? ⟨u1.heap.size, 1, none⟩ = some (.int .i64 64) ∧ u.cell? ⟨u1.heap.size, 2, none⟩ = some (.int .i64 2) ∧ u.cell? ⟨u1.heap.size, 3, none⟩ = some (.int .i64 16) ∧ u.cell? ⟨u1.heap.size, 4, none⟩ = some (.int .i64 18) ∧ u.cell? ⟨u1.heap.size, 5, none⟩ = some (.int .i64 19) ∧ u.cell? ⟨u1.heap.size, 6, none⟩ = some (.int .i64 4) ∧ u.cell? ⟨u1.heap.size, 7, none⟩ = some (.int .i64 23) ∧ u.cell? ⟨u1.heap.size, 8, none⟩ = some (.int .i64 64) ∧ u.cell? ⟨u1.heap.size, 9, none⟩ = some (.int .i64 (E : Int)) ∧ u.cell? ⟨u1.heap.size, 10, none⟩ = some (.int .i64 (S0 : Int)) ∧ u.cell? ⟨u1.heap.size, 11, none⟩ = some (.int .i64 (t : Int)) ∧ u.cell? ⟨u1.heap.size + 1, 0, none⟩ = some (.slice av xs.length cv) ∧ u.cell? ⟨u1.heap.size + 1 + 1, 0, none⟩ = some (.int .i64 (tot xs : Int))) := fun u bu => by
      have y := hrd.below bu
      unfold rC at y
      exact ⟨y.cell 0, y.cell 1, y.cell 2, y.cell 3, y.cell 4, y.cell 5, y.cell 6, y.cell 7, y.cell 8, y.cell 9, y.cell 10, y.cell 11, (hv.below bu).cell 0, (hsum.below bu).cell 0⟩
    have HS2 : Hid (∀ (u : World) (b : Nat) (v : Value), b < u1.heap.size → (u.cell? ⟨u1.heap.size, 0, none⟩ = some (.pointer (some ⟨dg, 0, none⟩)) ∧ u.cell? ⟨u1.heap.size, 1, none⟩ = some (.int .i64 64) ∧ u.cell? ⟨u1.heap.size, 2, none⟩ = some (.int .i64 2) ∧ u.cell? ⟨u1.heap.size, 3, none⟩ = some (.int .i64 16) ∧ u.cell? ⟨u1.heap.size, 4, none⟩ = some (.int .i64 18) ∧ u.cell? ⟨u1.heap.size, 5, none⟩ = some (.int .i64 19) ∧ u.cell? ⟨u1.heap.size, 6, none⟩ = some (.int .i64 4) ∧ u.cell? ⟨u1.heap.size, 7, none⟩ = some (.int .i64 23) ∧ u.cell? ⟨u1.heap.size, 8, none⟩ = some (.int .i64 64) ∧ u.cell? ⟨u1.heap.size, 9, none⟩ = some (.int .i64 (E : Int)) ∧ u.cell? ⟨u1.heap.size, 10, none⟩ = some (.int .i64 (S0 : Int)) ∧ u.cell? ⟨u1.heap.size, 11, none⟩ = some (.int .i64 (t : Int)) ∧ u.cell? ⟨u1.heap.size + 1, 0, none⟩ = some (.slice av xs.length cv) ∧ u.cell? ⟨u1.heap.size + 1 + 1, 0, none⟩ = some (.int .i64 (tot xs : Int))) → ((fun u : World => u.cell? ⟨u1.heap.size, 0, none⟩ = some (.pointer (some ⟨dg, 0, none⟩)) ∧ u.cell? ⟨u1.heap.size, 1, none⟩ = some (.int .i64 64) ∧ u.cell? ⟨u1.heap.size, 2, none⟩ = some (.int .i64 2) ∧ u.cell? ⟨u1.heap.size, 3, none⟩ = some (.int .i64 16) ∧ u.cell? ⟨u1.heap.size, 4, none⟩ = some (.int .i64 18) ∧ u.cell? ⟨u1.heap.size, 5, none⟩ = some (.int .i64 19) ∧ u.cell? ⟨u1.heap.size, 6, none⟩ = some (.int .i64 4) ∧ u.cell? ⟨u1.heap.size, 7, none⟩ = some (.int .i64 23) ∧ u.cell? ⟨u1.heap.size, 8, none⟩ = some (.int .i64 64) ∧ u.cell? ⟨u1.heap.size, 9, none⟩ = some (.int .i64 (E : Int)) ∧ u.cell? ⟨u1.heap.size, 10, none⟩ = some (.int .i64 (S0 : Int)) ∧ u.cell? ⟨u1.heap.size, 11, none⟩ = some (.int .i64 (t : Int)) ∧ u.cell? ⟨u1.heap.size + 1, 0, none⟩ = some (.slice av xs.length cv) ∧ u.cell? ⟨u1.heap.size + 1 + 1, 0, none⟩ = some (.int .i64 (tot xs : Int))) (u.setCell ⟨b, 0, none⟩ v))) := fun u b v hb hu => by
      have ho : ∀ k j, u1.heap.size ≤ k → (u.setCell ⟨b, 0, none⟩ v).cell? ⟨k, j, none⟩ = u.cell? ⟨k, j, none⟩ := fun k j hk => World.cell?_of_block (heap_setCell_other u ⟨b, 0, none⟩ k v (by show k ≠ b; omega))
      simp only [ho _ _ (Nat.le_refl _), ho (u1.heap.size + 1) _ (by omega), ho (u1.heap.size + 1 + 1) _ (by omega)]
      exact hu
    have hlo : w.heap.size + 1 + 1 + 1 + 1 < u1.heap.size := by have := HT.out; omega
    have cP := place_at dg t (tot xs) 64 (E : Int) (S0 : Int) W.drew ht (by omega)
    unfold rC at cP
    have Bd : Below W.heap.size W W.drew := (Below.refl W.heap.size W).drew
    gi_wp2_with fail
    refine wpIn_wide.2 ?_
    go_region_held3 (fun u => u.cell? ⟨u1.heap.size, 0, none⟩ = some (.pointer (some ⟨dg, 0, none⟩)) ∧ u.cell? ⟨u1.heap.size, 1, none⟩ = some (.int .i64 64) ∧ u.cell? ⟨u1.heap.size, 2, none⟩ = some (.int .i64 2) ∧ u.cell? ⟨u1.heap.size, 3, none⟩ = some (.int .i64 16) ∧ u.cell? ⟨u1.heap.size, 4, none⟩ = some (.int .i64 18) ∧ u.cell? ⟨u1.heap.size, 5, none⟩ = some (.int .i64 19) ∧ u.cell? ⟨u1.heap.size, 6, none⟩ = some (.int .i64 4) ∧ u.cell? ⟨u1.heap.size, 7, none⟩ = some (.int .i64 23) ∧ u.cell? ⟨u1.heap.size, 8, none⟩ = some (.int .i64 64) ∧ u.cell? ⟨u1.heap.size, 9, none⟩ = some (.int .i64 (E : Int)) ∧ u.cell? ⟨u1.heap.size, 10, none⟩ = some (.int .i64 (S0 : Int)) ∧ u.cell? ⟨u1.heap.size, 11, none⟩ = some (.int .i64 (t : Int)) ∧ u.cell? ⟨u1.heap.size + 1, 0, none⟩ = some (.slice av xs.length cv) ∧ u.cell? ⟨u1.heap.size + 1 + 1, 0, none⟩ = some (.int .i64 (tot xs : Int)))
      (first | with_reducible exact HS.out _ Bd | with_reducible exact HS.out _ BW | exact HS2.out _ _ _ (by omega) (HS.out _ BW) | exact HS2.out _ _ _ (by omega) (HS2.out _ _ _ (by omega) (HS.out _ BW)) | exact HS2.out _ _ _ (by omega) (HS2.out _ _ _ (by omega) (HS2.out _ _ _ (by omega) (HS.out _ BW))))
      (first
        | (go_at_call 207; refine Calls.mono cP ?_; rintro r u7 ⟨rfl, bW⟩; have BW : Below W.heap.size W u7 := Bd.trans (bW.mono Bd.size); have z2 := (show Box u7 (w.heap.size + 1 + 1) _ 161 from p2.below BW).cell 0; have z2f := (show Box u7 (w.heap.size + 1 + 1) _ 161 from p2.below BW).frozen 0; have z3 := (show Box u7 (w.heap.size + 1 + 1 + 1) _ 3 from p3.below BW).cell 0; have z3f := (show Box u7 (w.heap.size + 1 + 1 + 1) _ 3 from p3.below BW).frozen 0; have z4 := (show Box u7 (w.heap.size + 1 + 1 + 1 + 1) _ 26 from p4.below BW).cell 0; have z4f := (show Box u7 (w.heap.size + 1 + 1 + 1 + 1) _ 26 from p4.below BW).frozen 0; simp only [List.getElem?_toArray, List.getElem?_cons_zero] at z2 z3 z4))
    obtain ⟨V, hV⟩ : ∃ V, V = (((u7.setCell ⟨w.heap.size + 1 + 1, 0, none⟩ (.slice av xs.length cv)).setCell ⟨w.heap.size + 1 + 1 + 1, 0, none⟩ (.int .i64 (((t : Int) + (tot xs : Int)) % 16))).setCell ⟨w.heap.size + 1 + 1 + 1 + 1, 0, none⟩ (.int .i64 0)) := ⟨_, rfl⟩
    rw [← hV]
    have hot : ∀ k, k ≠ w.heap.size + 1 + 1 → k ≠ w.heap.size + 1 + 1 + 1 → k ≠ w.heap.size + 1 + 1 + 1 + 1 → V.heap[k]? = u7.heap[k]? := fun k h1 h2 h3 => by
      rw [hV]
      exact (heap_setCell_other _ ⟨w.heap.size + 1 + 1 + 1 + 1, 0, none⟩ k _ h3).trans ((heap_setCell_other _ ⟨w.heap.size + 1 + 1 + 1, 0, none⟩ k _ h2).trans (heap_setCell_other _ ⟨w.heap.size + 1 + 1, 0, none⟩ k _ h1))
    have hDl := (Array.getElem?_eq_some_iff.1 hdf).1
    have hu2 := BU2.size
    have hT9 := HT.out
    have hK' : V.heap[D']? = some (.deferred (some [])) := (hot D' (by omega) (by omega) (by omega)).trans ((BW.block D' hDl).trans hdf)
    have q2 : Box u7 (w.heap.size + 1 + 1) #[.slice none 0 0] 161 := p2.below BW
    have q3 : Box u7 (w.heap.size + 1 + 1 + 1) #[.int .i64 0] 3 := p3.below BW
    have q4 : Box u7 (w.heap.size + 1 + 1 + 1 + 1) #[.int .i64 0] 26 := p4.below BW
    have t2 : V.cell? ⟨w.heap.size + 1 + 1, 0, none⟩ = some (.slice av xs.length cv) := by
      rw [hV]
      have h := q2.store 0 (.slice av xs.length cv)
      simp at h
      have h' := World.cell?_of_block (a := ⟨w.heap.size + 1 + 1, 0, none⟩) ((heap_setCell_other _ ⟨w.heap.size + 1 + 1 + 1 + 1, 0, none⟩ (w.heap.size + 1 + 1) (.int .i64 0) (by show w.heap.size + 1 + 1 ≠ w.heap.size + 1 + 1 + 1 + 1; omega)).trans (heap_setCell_other (u7.setCell ⟨w.heap.size + 1 + 1, 0, none⟩ (.slice av xs.length cv)) ⟨w.heap.size + 1 + 1 + 1, 0, none⟩ (w.heap.size + 1 + 1) (.int .i64 (((t : Int) + (tot xs : Int)) % 16)) (by show w.heap.size + 1 + 1 ≠ w.heap.size + 1 + 1 + 1; omega)))
      exact h'.trans (Dk.Box.cell h 0)
    have t3 : V.cell? ⟨w.heap.size + 1 + 1 + 1, 0, none⟩ = some (.int .i64 (((t : Int) + (tot xs : Int)) % 16)) := by
      rw [hV]
      have q3' : Box (u7.setCell ⟨w.heap.size + 1 + 1, 0, none⟩ (.slice av xs.length cv)) (w.heap.size + 1 + 1 + 1) #[.int .i64 0] 3 := (heap_setCell_other u7 ⟨w.heap.size + 1 + 1, 0, none⟩ (w.heap.size + 1 + 1 + 1) _ (by show w.heap.size + 1 + 1 + 1 ≠ w.heap.size + 1 + 1; omega)).trans q3
      have h := q3'.store 0 (.int .i64 (((t : Int) + (tot xs : Int)) % 16))
      simp at h
      exact (World.cell?_of_block (a := ⟨w.heap.size + 1 + 1 + 1, 0, none⟩) (heap_setCell_other _ ⟨w.heap.size + 1 + 1 + 1 + 1, 0, none⟩ (w.heap.size + 1 + 1 + 1) (.int .i64 0) (by show w.heap.size + 1 + 1 + 1 ≠ w.heap.size + 1 + 1 + 1 + 1; omega))).trans (Dk.Box.cell h 0)
    have t4 : V.cell? ⟨w.heap.size + 1 + 1 + 1 + 1, 0, none⟩ = some (.int .i64 0) := by
      rw [hV]
      exact World.cell?_setCell_same' _ _ _ (by
        rw [World.cell?_of_block (a := ⟨w.heap.size + 1 + 1 + 1 + 1, 0, none⟩) ((heap_setCell_other _ ⟨w.heap.size + 1 + 1 + 1, 0, none⟩ (w.heap.size + 1 + 1 + 1 + 1) _ (by show w.heap.size + 1 + 1 + 1 + 1 ≠ w.heap.size + 1 + 1 + 1; omega)).trans (heap_setCell_other u7 ⟨w.heap.size + 1 + 1, 0, none⟩ (w.heap.size + 1 + 1 + 1 + 1) _ (by show w.heap.size + 1 + 1 + 1 + 1 ≠ w.heap.size + 1 + 1; omega))), q4.cell 0]
        rfl)
    have hBV : Below w.heap.size w V := by
      rw [hV]
      exact (((hbel.trans (BW.mono hbel.size)).setCell (p := ⟨w.heap.size + 1 + 1, 0, none⟩) (by show w.heap.size ≤ w.heap.size + 1 + 1; omega) _).setCell (p := ⟨w.heap.size + 1 + 1 + 1, 0, none⟩) (by show w.heap.size ≤ w.heap.size + 1 + 1 + 1; omega) _).setCell (p := ⟨w.heap.size + 1 + 1 + 1 + 1, 0, none⟩) (by show w.heap.size ≤ w.heap.size + 1 + 1 + 1 + 1; omega) _
    have hkp : ∀ k cs (ty : TypeId), Box W k cs ty → ty = 203 ∨ ty = 89 ∨ ty = 5 → (V.putObj D' (.deferred none)).heap[k]? = W.heap[k]? := fun k cs ty hb hty => by
      have hb7 := hb.below BW
      have n1 : k ≠ D' := fun e => by
        subst e
        have hb' : W.heap[k]? = some (.cells cs ty) := hb
        rw [hb'] at hdf
        cases hdf
      refine (World.putObj_heap_other n1).trans ((hot k (fun e => ?_) (fun e => ?_) (fun e => ?_)).trans (BW.block k hb.lt))
      · subst e; rcases hty with rfl | rfl | rfl <;> exact hb7.ne q2 (by decide) rfl
      · subst e; rcases hty with rfl | rfl | rfl <;> exact hb7.ne q3 (by decide) rfl
      · subst e; rcases hty with rfl | rfl | rfl <;> exact hb7.ne q4 (by decide) rfl
    have c2 := cell_kept t2 (grownBy_putObj' _ D' (.deferred none)) (fun r e => by cases e; exact ⟨_, hK', rfl⟩)
    have c3 := cell_kept t3 (grownBy_putObj' _ D' (.deferred none)) (fun r e => by cases e; exact ⟨_, hK', rfl⟩)
    have c4 := cell_kept t4 (grownBy_putObj' _ D' (.deferred none)) (fun r e => by cases e; exact ⟨_, hK', rfl⟩)
    clear hV hot t2 t3 t4
    gi_wp2
    refine ⟨by simp, .inl ⟨_, _, rfl, run_takeDeferred hK', ?_⟩⟩
    refine ⟨.tuple #[.slice av xs.length cv, .int .i64 (((t : Int) + (tot xs : Int)) % 16), .int .i64 0], ?_, ⟨xs, av, cv, by push_cast; rfl, hR, J.owns_kept hown (fun k e => ?_), fun y hy => (hall y hy).kept (fun k cs ty hb ht => hkp k cs ty hb (.inr ht)), hBV.trans (belowK_b (w := w) (Nat.le_refl _) _ D' _ _ (by omega) hK' rfl rfl)⟩⟩
    · simp [results, Tryz.f160, go_sem, c2, c3, c4]
    · obtain ⟨_, cur, hb⟩ := Rc.owns_block hown k e
      exact hkp k _ _ hb (.inl rfl)
end Go.Proofs.YtnldkpckojhbhaaGreat.S

/-
  Mount of a disk whose ring has no groups; fresh.
-/
namespace Go.Proofs.YtnldkpckojhbhaaGreat.V
open Go.RowKit
open Go.Proofs.YtnldkpckojhbhaaGreat.Dk (Box DS IsDisk Upd Rd RowB nought)
open Go.Proofs.YtnldkpckojhbhaaGreat.H (MapI doR doD)
open Go.Proofs.YtnldkpckojhbhaaGreat.Su (getSuper)

theorem home_nil (w : World) (ga : Option Addr) (gc : Nat) : Calls Tryz.prog 161 #[.agg #[.int .i64 64, .int .i64 2, .int .i64 16, .int .i64 18, .int .i64 19, .int .i64 4, .int .i64 23], .slice ga 0 gc] w fun r w' => ∃ a c, r = .returned (.tuple #[.slice a 0 c, .int .i64 0]) ∧ (∀ ad, a = some ad → w.heap.size ≤ ad.block) ∧ Below w.heap.size w w' := by
  have c := H.home_at w ga 0 gc [] [] rfl (by decide) (fun h => absurd h (by decide)) rfl (fun p hp => (by cases hp)) (fun p hp => (by cases hp))
  refine c.mono ?_
  rintro r w' ⟨a, c, ks, qs, rfl, h, b⟩
  have : ks = [] := by
    cases ks with
    | nil => rfl
    | cons x r => exact absurd ((h.keys x).1 (List.mem_cons_self ..)) (by simp [H.pl, H.lastD])
  subst this
  have hi := (h.imsD (fun i => i < w.heap.size) (fun i h => h)).1.out
  exact ⟨a, c, rfl, fun ad e => Nat.le_of_not_lt (hi ad e), b⟩
theorem groups_zero {g : Nat} {w : World} {D : DS} {F : Nat → Prop} {f : Nat → List UInt8} {n : Nat} (hd : IsDisk w g D F) (h : Mq D f n) (hu : D.uf.length ≤ 1000000) (hf : ∀ k, 2 ≤ k → k < 18 → f k = nought 4096) (E S0 : Nat) (hE : 1 ≤ E ∧ E ≤ 8388608) (hS : 1 ≤ S0 ∧ S0 ≤ 549755813888) :
    Calls Tryz.prog 160 #[.pointer (some ⟨g, 0, none⟩), .agg #[.int .i64 64, .int .i64 2, .int .i64 16, .int .i64 18, .int .i64 19, .int .i64 4, .int .i64 23], .agg #[.int .i64 64, .int .i64 (E : Int), .int .i64 (S0 : Int), .int .i64 0]] w fun r w' => ∃ ga gc, r = .returned (.tuple #[.slice ga 0 gc, .int .i64 0, .int .i64 0]) ∧ Below w.heap.size w w' := by
  refine (S.groups_at hd h.nb h.calm.1 hu 0 E S0 (by decide) hE hS).mono ?_
  rintro r w' ⟨xs, a, c, rfl, hr, _, _, b⟩
  obtain rfl := run_zero h hf hr
  exact ⟨a, c, rfl, b⟩
theorem put_ok (E S0 : Nat) (hE : 1 ≤ E ∧ E ≤ 8388608) (hS : 1 ≤ S0 ∧ S0 ≤ 549755813888) : Su.putSuper 64 E S0 0 = some (Su.superB 64 E S0 0) := by
  unfold Su.putSuper
  have : Su.rightS 64 E S0 0 = true := by
    unfold Su.rightS Su.wi
    simp
    omega
  rw [if_pos this]
  rfl
theorem mount_zero {g : Nat} {w : World} {D : DS} {F : Nat → Prop} {f : Nat → List UInt8} {n : Nat} (hd : IsDisk w g D F) (h : Mq D f n) (hn : n ≤ 800000) (hu : D.uf.length ≤ 800000) (hf : ∀ k, 2 ≤ k → k < 18 → f k = nought 4096) (hl0 : (f 0).length = 4096) (hl1 : (f 1).length = 4096) (E S0 : Nat) (k : Int) (s : Nat) (hE : 1 ≤ E ∧ E < 8388608) (hS : 1 ≤ S0 ∧ S0 ≤ 549755813888) (hk : k = 0 ∧ s = 1 ∨ k = 1 ∧ s = 0) (hch : H.choose (getSuper (f 0)) (getSuper (f 1)) = (⟨64, E, S0, 0⟩, k, true)) :
    Calls Tryz.prog 19 #[.pointer (some ⟨g, 0, none⟩)] w fun r w' => ∃ v j gm F' D', r = .returned (.tuple #[.pointer (some ⟨v, 0, none⟩), .int .i64 0]) ∧ VW w' v g j gm (E + 1 : Nat) false (J.opened 64 (E + 1 : Nat) S0 0) [] D' 0 (fun _ => none) F' ∧ Mq D' (upd f s (Su.superB 64 (E + 1) S0 0)) (n + 1) ∧ D'.uf = [] ∧ (∀ i, F' i → F i ∨ w.heap.size ≤ i) ∧ w.heap.size ≤ v ∧ w.heap.size ≤ gm ∧ Upd F w w' := by
  have hes : (1 - k : Int) = (s : Int) := by rcases hk with ⟨rfl, rfl⟩ | ⟨rfl, rfl⟩ <;> rfl
  have hs1 : s ≤ 1 := by omega
  have q0 := h.at_ 0 (by decide)
  have q1 := h.at_ 1 (by decide)
  have cF : ∀ u, Below w.heap.size w u → Calls Tryz.prog 90 #[.pointer (some ⟨g, 0, none⟩), .agg #[.int .i64 64, .int .i64 2, .int .i64 16, .int .i64 18, .int .i64 19, .int .i64 4, .int .i64 23]] u fun r w' => ∃ a n c, r = .returned (.tuple #[.agg #[.slice a n c, .int .i64 64, .int .i64 ((E + 1 : Nat) : Int), .int .i64 (S0 : Int), .int .i64 0, .int .i64 (s : Int)], .int .i64 0]) ∧ (fun a n _ _ => n = 0 ∧ ∀ ad : Addr, a = some ad → w.heap.size ≤ ad.block) a n c w' ∧ Below u.heap.size u w' := fun u bu => by
    have c := find_in (hd.below bu) h.nb h.calm.1 (by omega) E S0 0 k 0 (by rw [q0, q1]; exact hch) (by omega) (by omega) (by decide) (by omega) 0 (by omega) (by decide) (by rw [q0]; exact hl0) (by rw [q1]; exact hl1) (fun _ _ _ => True) (fun a n _ _ => n = 0 ∧ ∀ ad : Addr, a = some ad → w.heap.size ≤ ad.block)
      (fun x bx => (groups_zero ((hd.below bu).below bx) h (by omega) hf E S0 (by omega) hS).mono (fun r w' hh => by
        obtain ⟨ga, gc, h1, h2⟩ := hh
        exact ⟨ga, gc, h1, trivial, h2⟩))
      (fun x ga gc _ hz => (home_nil x ga gc).mono (fun r w' hh => by
        obtain ⟨a, c, h1, h3, h2⟩ := hh
        exact ⟨a, 0, c, h1, ⟨rfl, fun ad e => by have := h3 ad e; have := bu.size; omega⟩, h2⟩))
      (fun a n c x x' hx _ _ => hx)
    rw [hes, show (S0 : Int) + ((0 : Nat) : Int) = S0 by omega, show (E : Int) + 1 = ((E + 1 : Nat) : Int) by omega] at c
    exact c
  have hdo := h.do_ [] (fun p hp => (by cases hp)) s (by omega) (Su.superB 64 (E + 1) S0 0) (Su.superB_length _ _ _ _)
  obtain ⟨d1, d2, d3⟩ := hdo
  have c := mount_in hd h.nb ⟨hu, by have := h.cnt; omega⟩ ((E + 1 : Nat) : Int) S0 0 s (by omega) (by omega) (by decide) _ (put_ok (E + 1) S0 (by omega) hS) (doD [] (s : Int) (Su.superB 64 (E + 1) S0 0) D).1 d2.nb (fun a n _ _ => n = 0 ∧ ∀ ad : Addr, a = some ad → w.heap.size ≤ ad.block) cF (fun _ _ _ _ _ h _ => h) (fun a n c u hp bu => ⟨[], hp.1.symm, by have : n = 0 := hp.1; omega, ⟨fun hh => absurd hh (by decide), fun p hp => (by cases hp), fun ad e hf => by have := hp.2 ad e; have := hd.flt _ hf; omega⟩, by
    unfold doR
    dsimp only
    rw [if_pos (by unfold Su.wi; simp; omega)]
    exact Prod.ext rfl d1⟩)
  refine c.mono ?_
  rintro r w' ⟨v, j, gm, F', rfl, hv, hF, hvl, hgl, hU⟩
  exact ⟨v, j, gm, F', _, rfl, ⟨_, hv, fun k => rfl⟩, d2, d3, hF, hvl, hgl, hU⟩
end Go.Proofs.YtnldkpckojhbhaaGreat.V

/-
  The law of volume: its images (JImg has them).
-/


/-
  fresh, has, a Commit of images that were made, the chapter's examples.
-/
namespace Go.Proofs.YtnldkpckojhbhaaGreat.V
open Go.RowKit
open Go.Proofs.YtnldkpckojhbhaaGreat.Dk (Box DS IsDisk Upd Rd RowB nought)
open Go.Proofs.YtnldkpckojhbhaaGreat.H (MapI doR doD)
open Go.Proofs.YtnldkpckojhbhaaGreat.Su (getSuper)
open Go.Proofs.YtnldkpckojhbhaaGreat.Rc (GG GetJ imgC Imgs madeL)

theorem upd_low {F : Nat → Prop} {w w1 w2 : World} (b : Below w.heap.size w w1) (h : Upd F w1 w2) (hF : ∀ i, F i → w.heap.size ≤ i) : Below w.heap.size w w2 :=
  b.trans ⟨h.os, h.tape, h.output, h.size, fun k hk => h.block k (Nat.lt_of_lt_of_le hk b.size) (fun hf => by have := hF k hf; omega)⟩
theorem f1_zero (k : Nat) (h : 2 ≤ k) : f1 k = nought 4096 := by
  unfold f1 upd
  rw [if_neg (by omega)]
theorem f2_zero (k : Nat) (h : 2 ≤ k) : f2 k = nought 4096 := by
  unfold f2 upd
  rw [if_neg (by omega)]
  exact f1_zero k h
theorem new64 (N : Nat) (hN : N = 64 * 4096) (w : World) : Calls Tryz.prog 33 #[.int .i64 64] w fun e w' => ∃ g F, e = .returned (.tuple #[.pointer (some ⟨g, 0, none⟩), .int .i64 0]) ∧ IsDisk w' g (DS.new 64 (nought N)) F ∧ (∀ i, F i → w.heap.size ≤ i) ∧ Below w.heap.size w w' := by
  have c := Dk.new_at 64 w (by decide) (by decide)
  rw [← hN] at c
  refine c.mono ?_
  rintro r w' ⟨g, h1, F, h2, h3, h4⟩
  exact ⟨g, F, h1, h2, h3, h4⟩
set_option maxRecDepth 100000 in
theorem fresh_at (w : World) : Calls Tryz.prog 14 #[] w fun r w' => ∃ g v j gm F D, r = .returned (.tuple #[.pointer (some ⟨g, 0, none⟩), .pointer (some ⟨v, 0, none⟩), .bool true]) ∧ VW w' v g j gm 2 false (J.opened 64 2 1 0) [] D 0 (fun _ => none) F ∧ Mq D f2 24 ∧ D.uf = [] ∧ (∀ i, F i → w.heap.size ≤ i) ∧ w.heap.size ≤ v ∧ w.heap.size ≤ gm ∧ Below w.heap.size w w' := by
  obtain ⟨N, hN⟩ : ∃ N, N = 64 * 4096 := ⟨_, rfl⟩
  have cN := new64 N hN w
  have hm := fmt_new N hN
  obtain ⟨D0, hD0⟩ : ∃ D, D = DS.new 64 (nought N) := ⟨_, rfl⟩
  have h0 : D0.nb = 64 ∧ D0.uf.length ≤ 800000 ∧ D0.n ≤ 800000 := by
    rw [hD0]
    exact ⟨rfl, Nat.zero_le _, Nat.zero_le _⟩
  rw [← hD0] at hm cN
  clear hD0 hN
  go_enter Tryz.func14, Tryz.ntmps14
  go_wp2_with fail
  refine Calls.mono cN ?_
  rintro r wu1 ⟨g, F, rfl, hd, hF, b1⟩
  have cF := format_at hd h0.1 h0.2
  rw [hm.1] at cF
  clear cN h0
  go_wp2_with fail
  refine Calls.mono cF ?_
  rintro r wu2 ⟨rfl, ⟨F2, hd2, hF2⟩, U2⟩
  have B2 := upd_low b1 U2 hF
  have hF2' : ∀ i, F2 i → w.heap.size ≤ i := fun i hi => by
    rcases hF2 i hi with h | h
    · exact hF i h
    · have := b1.size; omega
  have cM := mount_zero hd2 hm.2.1 (by decide) (by rw [hm.2.2]; decide) (fun k h1 _ => f1_zero k h1) (Su.superB_length 64 1 1 0) (Dk.nought_length 4096) 1 1 0 1 (by decide) (by decide) (.inl ⟨rfl, rfl⟩) ch1
  clear cF hm hF2 U2 hF b1 hd
  go_wp2_with fail
  refine Calls.mono cM ?_
  rintro r wu3 ⟨v, j, gm, F3, D3, rfl, hv, hq, hu, hF3, hvl, hgl, U3⟩
  have B3 := upd_low B2 U3 hF2'
  have HV : Hid (VW wu3 v g j gm 2 false (J.opened 64 2 1 0) [] D3 0 (fun _ => none) F3) := hv
  have HQ : Hid (Mq D3 f2 24) := hq
  have hF3' : ∀ i, F3 i → w.heap.size ≤ i := fun i hi => by
    rcases hF3 i hi with h | h
    · exact hF2' i h
    · have := B2.size; omega
  have hvl2 : w.heap.size ≤ v := Nat.le_trans B2.size hvl
  have hgl2 : w.heap.size ≤ gm := Nat.le_trans B2.size hgl
  clear cM hv hq hF3
  go_wp2_with fail
  exact bodyPost_ret (v := .tuple #[.pointer (some ⟨g, 0, none⟩), .pointer (some ⟨v, 0, none⟩), .bool true]) (by simp [results, Tryz.results14, go_sem]) rfl ⟨g, v, j, gm, F3, D3, rfl, HV.out, HQ.out, hu, hF3', hvl2, hgl2, B3⟩

theorem has_at {w : World} {v : Nat} {n : Int} {zs : List UInt8} (cR : Calls Tryz.prog 24 #[.pointer (some ⟨v, 0, none⟩), .int .i64 n] w fun r w' => ∃ g c, r = .returned (.tuple #[.slice (some ⟨g, 0, none⟩) 4096 c, .int .i64 0]) ∧ w.heap.size ≤ g ∧ RowB w' g c zs ∧ Below w.heap.size w w') (hz : zs.length = 4096) (a : Option Addr) (c : Nat) (hr : Rd w a zs) :
    Calls Tryz.prog 20 #[.pointer (some ⟨v, 0, none⟩), .int .i64 n, .slice a 4096 c] w fun r w' => r = .returned (.bool true) ∧ Below w.heap.size w w' := by
  have HR : Hid (Rd w a zs) := hr
  clear hr
  go_enter Tryz.func20, Tryz.ntmps20
  go_wp2_with fail
  refine Calls.mono cR ?_
  rintro r wu1 ⟨g1, c1, rfl, hg, hr1, b1⟩
  have cS := Dk.same_at c1 c 4096 4096 (some ⟨g1, 0, none⟩) a zs zs wu1 hz hz hr1.rd (HR.out.below b1 (Nat.le_refl _))
  rw [show (zs == zs) = true by simp] at cS
  clear cR hr1
  go_wp2_with fail
  refine Calls.mono cS ?_
  rintro r w' ⟨rfl, rfl⟩
  clear cS
  go_wp2_with fail
  exact bodyPost_ret (v := .bool true) (by simp [results, Tryz.results20, go_sem]) rfl ⟨rfl, b1⟩

theorem made_out {u : World} {B n : Nat} {a : Option Addr} {c : Nat} {qs : List GG} {is : List (Int × List UInt8)} (ho : u.ownsRow B 89 2 (.slice a n c) n (imgC qs)) (hg : GetJ B u qs) (hq : qs.map (fun p => (p.b, p.xs)) = is) (hl : is.length = n) (h0 : 0 < n) :
    Imgs u a is ∧ (∀ ad : Addr, a = some ad → B ≤ ad.block) ∧ ∀ k (hk : k < is.length) (b o : Nat) (x : Option Addr) (c : Nat), a = some ⟨b, o, none⟩ → u.cell? ⟨b, o + k * 2 + 1, none⟩ = some (.slice x is[k].2.length c) → ∀ ad, x = some ad → B ≤ ad.block := by
  have hn : qs.length = n := by rw [← hl, ← hq]; simp
  have h1 := Rc.imgs_of ho hg hn
  rw [hq] at h1
  obtain ⟨g, rfl, hB, _, hc⟩ := Rc.owns_cells ho h0
  refine ⟨h1, fun ad e => by injection e with e; rw [← e]; exact hB, fun k hk b o x c e hcell ad ex => ?_⟩
  injection e with e
  injection e with e1 e2
  subst e1 e2
  have hk2 : k < qs.length := by omega
  rw [show 0 + k * 2 + 1 = k * 2 + 1 by omega, hc _ (by omega), (Rc.imgC_at qs k hk2).2] at hcell
  injection hcell with hcell
  injection hcell with q1 q2 q3
  rw [ex] at q1
  injection q1 with q1
  rw [← q1]
  exact (hg.rows _ (List.getElem_mem hk2)).2.1
end Go.Proofs.YtnldkpckojhbhaaGreat.V

/-
  The chapter's examples.
-/
namespace Go.Proofs.YtnldkpckojhbhaaGreat.V
open Go.RowKit
open Go.Proofs.YtnldkpckojhbhaaGreat.Dk (Box DS IsDisk Upd Rd RowB nought)
open Go.Proofs.YtnldkpckojhbhaaGreat.Rc (GG GetJ imgC Imgs madeL)
section
variable {A : Nat → Prop} {w u : World} {v dg j gm : Nat} {ep : Int} {br : Bool} {S : J.JS} {xs : List Int} {D : DS} {cn : Nat} {dat : Int → Option (List UInt8)} {F : Nat → Prop}
theorem next_vw (h : VWA A w v dg j gm ep br S xs D cn dat F) : Calls Tryz.prog 22 #[.pointer (some ⟨v, 0, none⟩)] w fun e w' => e = .returned (.int .i64 S.next) ∧ w = w' := by
  obtain ⟨m, h1, _⟩ := h
  obtain ⟨vs, Fd, hj, _⟩ := h1.jd.ex
  exact next_at h1.box hj
theorem synced_vw (h : VWA A w v dg j gm ep br S xs D cn dat F) : Calls Tryz.prog 23 #[.pointer (some ⟨v, 0, none⟩)] w fun e w' => e = .returned (.int .i64 S.synced) ∧ w = w' := by
  obtain ⟨m, h1, _⟩ := h
  obtain ⟨vs, Fd, hj, _⟩ := h1.jd.ex
  exact synced_at h1.box hj
theorem commit_made (h : VWA A w v dg j gm ep false S xs D cn dat F) (hA : ∀ i, A i → i < u.heap.size) (b : Below w.heap.size w u) {B n c : Nat} {a : Option Addr} {qs : List GG} {is : List (Int × List UInt8)} (hB : w.heap.size ≤ B) (ho : u.ownsRow B 89 2 (.slice a n c) n (imgC qs)) (hg : GetJ B u qs) (hq : qs.map (fun p => (p.b, p.xs)) = is) (hl : is.length = n)
    (hG : MayG is) (hBl : ∀ i ∈ is, 18 ≤ i.1 ∧ i.1 ≤ 63) (h15 : n ≤ 15) (hok : Rc.okGroup S.epoch S.next is) (hJb : S.broken = false) (hR : Rg.R S.S S.T S.U S.H) (hS16 : S.S = 16) (hH : S.H = 0) (hroom : S.U + ((n : Int) + 1) ≤ 16) (hlog : S.log = 2) (hc : J.Calm D) (hnb : D.nb = 64) (hd1 : D.uf.length ≤ 900000) (hd2 : D.n ≤ 900000) (hx : xs.length ≤ 1000) (hcn : cn ≤ 100000) :
    Calls Tryz.prog 15 #[.pointer (some ⟨v, 0, none⟩), .slice a n c] u fun r w' => r = .returned (.tuple #[.int .i64 S.next, .int .i64 0]) ∧ ∃ F', VWA A w' v dg j gm ep false { S with next := S.next + 1, U := S.U + (n + 1 : Nat), H := S.H - 0 } (xs ++ [((n + 1 : Nat) : Int)]) (J.grow D S.S.toNat ((S.T + S.U) % S.S).toNat (Rc.putL S.epoch.toNat S.next.toNat is) (n + 1)) (cn + n) (dats dat is) F' ∧ (∀ i, F' i → F i ∨ u.heap.size ≤ i) ∧ Upd (fun i => F i ∨ i = gm) u w' := by
  have h0 : 0 < n := by have := hG.lo; omega
  obtain ⟨hI, o1, o2⟩ := made_out ho hg hq hl h0
  have hlt := h.vlt
  have hfl : ∀ i, F i ∨ i = gm → i < w.heap.size := fun i hi => by
    rcases hi with hi | hi
    · obtain ⟨m, h1, _⟩ := h
      exact h1.jd.flt i hi
    · rw [hi]; exact hlt.2
  have hno : ∀ i, B ≤ i → ¬ F i ∧ i ≠ gm := fun i hi => ⟨fun hf => by have := hfl i (.inl hf); omega, fun e => by have := hfl i (.inr e); omega⟩
  exact commit_ok (h.below b) hA a n c is hl hI (fun ad e => hno _ (o1 ad e)) (fun k hk b o x c e1 e2 ad e3 => hno _ (o2 k hk b o x c e1 e2 ad e3)) hG hBl h15 hok hJb hR hS16 hH hroom hlog hc hnb hd1 hd2 hx hcn
theorem VWA.wide (h : VWA A w v dg j gm ep br S xs D cn (fun _ => none) F) (A' : Nat → Prop) : VWA A' w v dg j gm ep br S xs D cn (fun _ => none) F := by
  obtain ⟨m, h1, h2⟩ := h
  exact ⟨m, h1, h2⟩
theorem VWA.kept (h : VWA A w v dg j gm ep br S xs D cn dat F) (hk : ∀ i, i < w.heap.size → ¬ A i → u.heap[i]? = w.heap[i]?) (hA : ∀ i, A i → ¬ F i ∧ i ≠ v ∧ i ≠ gm) (hs : w.heap.size ≤ u.heap.size) : VWA A u v dg j gm ep br S xs D cn dat F := by
  have hl := h.vlt
  obtain ⟨m, h1, h2⟩ := h
  refine ⟨m, ⟨(hk v hl.1 (fun q => (hA v q).2.1 rfl)).trans h1.box, h1.jd.kept (fun i hi => hk i (h1.jd.flt i hi) (fun q => (hA i q).1 hi)) hs, mapI_same h1.map (hk gm hl.2 (fun q => (hA gm q).2.2 rfl)), h1.nv, h1.nm, h1.ne⟩, fun k => (h2 k).kept (fun i hi h3 _ => hk i hi (fun q => h3 (.inr q))) (fun _ _ h => h)⟩
end
def is5 : List (Int × List UInt8) := J.imgL [30, 31] 5 2
theorem is5_eq : is5 = [(30, madeL 5 4096), (31, madeL 2 4096)] := rfl
set_option maxRecDepth 100000 in
theorem is5_ok : MayG is5 ∧ (∀ i ∈ is5, 18 ≤ i.1 ∧ i.1 ≤ 63) ∧ Rc.okGroup 2 1 is5 := by
  have hlen : ∀ i ∈ is5, i.2.length = 4096 := fun i hi => by
    rw [is5_eq] at hi
    rcases List.mem_cons.1 hi with h | h
    · rw [h]; exact Rc.madeK_length 5 4096 4096
    · rw [List.mem_singleton.1 h]; exact Rc.madeK_length 2 4096 4096
  have hm : is5.map (·.1) = [30, 31] := rfl
  have hin : ∀ i ∈ is5, i.1 = 30 ∨ i.1 = 31 := fun i hi => by
    have : i.1 ∈ is5.map (·.1) := List.mem_map_of_mem hi
    rw [hm] at this
    simpa using this
  refine ⟨⟨by decide, by decide, hlen, by rw [hm]; decide, fun i hi => ?_⟩, fun i hi => ?_, ?_, hlen⟩
  · rcases hin i hi with h | h <;> rw [h] <;> rfl
  · have := hin i hi; omega
  · rw [hm]
    refine ⟨rfl, by decide, ?_⟩
    intro j h _
    match j, h with
    | 0, _ => simp
    | 1, _ => simp
set_option maxRecDepth 100000 in
theorem awake_at (w : World) : Calls Tryz.prog 32 #[] w fun r w' => r = .returned (.bool true) ∧ Below w.heap.size w w' := by
  have c0 := fresh_at w
  go_enter Tryz.func32, Tryz.ntmps32
  go_wp2_with fail
  refine Calls.mono c0 ?_
  rintro r wu1 ⟨g, v, j, gm, F, D, rfl, hv, hq, hu, hFl, _, hgl, B1⟩
  have HB1 : Hid ((∀ i, F i → w.heap.size ≤ i) ∧ w.heap.size ≤ gm ∧ Below w.heap.size w wu1) := ⟨hFl, hgl, B1⟩
  have cN := next_vw hv
  have cS := synced_vw hv
  rw [show (J.opened 64 2 1 0).next = 1 by rfl] at cN
  rw [show (J.opened 64 2 1 0).synced = 0 by rfl] at cS
  have HV : Hid (VW wu1 v g j gm 2 false (J.opened 64 2 1 0) [] D 0 (fun _ => none) F) := hv
  have HQ : Hid (Mq D f2 24 ∧ D.uf = []) := ⟨hq, hu⟩
  clear c0 hv hq hu hFl hgl B1
  go_wp2_with fail
  refine Calls.mono cN ?_
  rintro r w' ⟨rfl, rfl⟩
  go_wp2_with fail
  refine Calls.mono cS ?_
  rintro r w' ⟨rfl, rfl⟩
  clear cN cS
  go_wp2_with fail
  have b0 := (Below.refl wu1.heap.size wu1).alloc (Nat.le_refl _) (.cells #[.int .i64 30, .int .i64 31] 3)
  have x0 := Box.new wu1 #[.int .i64 30, .int .i64 31] 3
  obtain ⟨W0, hW0⟩ : ∃ W, W = wu1.alloc (.cells #[.int .i64 30, .int .i64 31] 3) := ⟨_, rfl⟩
  rw [← hW0] at b0 x0 ⊢
  have cI := J.images_at W0 wu1.heap.size 0 2 2 5 [30, 31] rfl (by decide) (by decide) (fun k hk => by
    match k, hk with
    | 0, _ => exact x0.cell 0
    | 1, _ => exact x0.cell 1)
  refine Calls.mono cI ?_
  rintro r wu2 ⟨a, c, qs, rfl, ho, hg, hqs, b2⟩
  have cC := commit_made HV.out (fun _ h => h.elim) (b0.trans (b2.mono b0.size)) b0.size ho hg hqs (is := is5) rfl is5_ok.1 is5_ok.2.1 (by decide) is5_ok.2.2 rfl (by decide) rfl rfl (by decide) rfl HQ.out.1.calm HQ.out.1.nb (by rw [HQ.out.2]; decide) (by have := HQ.out.1.cnt; omega) (by decide) (by decide)
  rw [show (J.opened 64 2 1 0).next = 1 by rfl] at cC
  have HB2 : Hid (Below w.heap.size w wu2) := HB1.out.2.2.trans ((b0.trans (b2.mono b0.size)).mono HB1.out.2.2.size)
  clear cI ho hg hqs b2 b0 x0 hW0 HV
  go_wp2_with fail
  refine Calls.mono cC ?_
  rintro r wu3 ⟨rfl, F3, hv3, hF3, U3⟩
  have HB3 : Hid (Below w.heap.size w wu3) := upd_low HB2.out U3 (fun i hi => by
    rcases hi with h | h
    · exact HB1.out.1 i h
    · rw [h]; exact HB1.out.2.1)
  have HF3 : Hid (∀ i, F3 i → w.heap.size ≤ i) := fun i hi => by
    rcases hF3 i hi with h | h
    · exact HB1.out.1 i h
    · have := HB2.out.size; omega
  obtain ⟨D3, hD3⟩ : ∃ X, X = J.grow D 16 0 (Rc.putL 2 1 is5) 3 := ⟨_, rfl⟩
  have HV3 : Hid (∃ S xs, VW wu3 v g j gm 2 false S xs D3 2 (dats (fun _ => none) is5) F3) := ⟨_, _, by rw [hD3]; exact hv3⟩
  have HD3 : Hid (D3.n ≤ 27 ∧ D3.dur = D.dur ∧ D3.nb = D.nb) := by
    rw [hD3]
    exact ⟨by show D.n + 3 ≤ 27; have := HQ.out.1.cnt; omega, rfl, rfl⟩
  have cM : Calls Tryz.prog 21 #[.int .i64 5, .int .i64 4096] wu3 fun e w' => e = .returned (.slice (some ⟨wu3.heap.size, 0, none⟩) 4096 4096) ∧ Rc.Own w' wu3.heap.size (madeL 5 4096) ∧ Below wu3.heap.size wu3 w' := Rc.made_at 5 4096 wu3 (by decide)
  clear cC hv3 hF3 hD3 U3
  go_wp2_with fail
  refine Calls.mono cM ?_
  rintro r wu4 ⟨rfl, om, b4⟩
  obtain ⟨S3, xs3, hv3⟩ := HV3.out
  have hv4 := hv3.below b4
  have cH := has_at (read_mem hv4 30 rfl (madeL 5 4096) (by rw [is5_eq]; rfl)) (Rc.madeK_length 5 4096 4096) (some ⟨wu3.heap.size, 0, none⟩) 4096 om.rd
  have HV4 : Hid (VW wu4 v g j gm 2 false S3 xs3 D3 2 (dats (fun _ => none) is5) F3) := hv4
  have HB4 : Hid (Below w.heap.size w wu4) := HB3.out.trans (b4.mono HB3.out.size)
  clear cM om b4 HV3 hv3 hv4
  go_wp2_with fail
  refine Calls.mono cH ?_
  rintro r wu5 ⟨rfl, b5⟩
  obtain ⟨m5, h5, _⟩ := HV4.out.below b5
  obtain ⟨Fd, hd5, hFd⟩ := h5.jd.disk
  have HB5 : Hid (Below w.heap.size w wu5) := HB4.out.trans (b5.mono HB4.out.size)
  have HFd : Hid (∀ i, Fd i → w.heap.size ≤ i) := fun i hi => HF3.out i (hFd i hi)
  have cX := Dk.crash_at hd5 none 0 0 [] (-1) 0 (by decide) rfl (by decide) (Dk.RdBl.nil _ _) (fun ad e => by cases e)
  obtain ⟨hq6, hu6⟩ := HQ.out.1.crash HQ.out.2 HD3.out.1 HD3.out.2.1 HD3.out.2.2 0
  clear cH b5 HV4 h5 hd5 hFd
  go_wp2_with fail
  refine Calls.mono cX ?_
  rintro r wu6 ⟨rfl, hd6, U6⟩
  have HB6 : Hid (Below w.heap.size w wu6) := upd_low HB5.out U6 HFd.out
  have cM := mount_zero hd6 hq6 (by decide) (by rw [hu6]; decide) (fun k h1 _ => f2_zero k h1) (Su.superB_length 64 1 1 0) (Su.superB_length 64 2 1 0) 2 1 1 0 (by decide) (by decide) (.inr ⟨rfl, rfl⟩) ch2
  clear cX hd6 hq6 hu6 HD3 U6
  go_wp2_with fail
  refine Calls.mono cM ?_
  rintro r wu7 ⟨v7, j7, gm7, F7, D7, rfl, hv7, hq7, hu7, _, _, _, U7⟩
  have HB7 : Hid (Below w.heap.size w wu7) := upd_low HB6.out U7 HFd.out
  have HV7 : Hid (VW wu7 v7 g j7 gm7 3 false (J.opened 64 3 1 0) [] D7 0 (fun _ => none) F7) := hv7
  have HQ7 : Hid (Mq D7 f3 28 ∧ D7.uf = []) := ⟨hq7, hu7⟩
  have hmk : ∀ u : World, (Instr.makeSlice 37 (.int .i64 4096) (.int .i64 4096)).run Tryz.prog u = .ok (.slice (some ⟨u.heap.size, 0, none⟩) 4096 4096) (u.alloc (.cells (Dk.bcs (nought 4096)).toArray 5)) := Dk.make_run 4096 (by decide)
  have ol := Dk.own_lit wu7 (nought 4096)
  have b8 := (Below.refl wu7.heap.size wu7).alloc (Nat.le_refl _) (.cells (Dk.bcs (nought 4096)).toArray 5)
  obtain ⟨Z, hZ⟩ : ∃ Z, Z = (Dk.bcs (nought 4096)).toArray := ⟨_, rfl⟩
  rw [← hZ] at hmk ol b8
  have hv8 := hv7.below b8
  have st : D7.stand 30 = nought 4096 := hq7.at_ 30 (by decide)
  have cR := read_disk hv8 30 (by decide) hq7.nb hq7.calm.1 (by rw [hu7]; decide) rfl
  rw [st] at cR
  have cH := has_at cR (Dk.nought_length 4096) (some ⟨wu7.heap.size, 0, none⟩) 4096 ol.rd
  have HV8 : Hid (VW (wu7.alloc (.cells Z 5)) v7 g j7 gm7 3 false (J.opened 64 3 1 0) [] D7 0 (fun _ => none) F7) := hv8
  have HB8 : Hid (Below w.heap.size w (wu7.alloc (.cells Z 5))) := HB7.out.trans (b8.mono HB7.out.size)
  clear cM hv7 hq7 hu7 ol b8 hv8 st cR hZ U7
  go_wp2_with fail
  refine Calls.mono cH ?_
  rintro r wu9 ⟨rfl, b9⟩
  have cN := next_vw (HV8.out.below b9)
  rw [show (J.opened 64 3 1 0).next = 1 by rfl] at cN
  have HB9 : Hid (Below w.heap.size w wu9) := HB8.out.trans (b9.mono HB8.out.size)
  clear cH hmk b9
  go_wp2_with fail
  refine Calls.mono cN ?_
  rintro r w' ⟨rfl, rfl⟩
  clear cN
  go_wp2_with fail
  exact bodyPost_ret (v := .bool true) (by simp [results, Tryz.results32, go_sem]) rfl ⟨rfl, HB9.out⟩
end Go.Proofs.YtnldkpckojhbhaaGreat.V
