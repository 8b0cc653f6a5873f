/-
  SameLists, SameImages, SameGroup.
-/
import Derived.Test.YtghcmlkgpedkkaaMix
import Derived.BigQuiet
import Derived.Deep.QuietTactic
namespace Go.Proofs.Ytghcmlkgpedkkaa
open Go.RowKit

theorem below_drewN {B : Nat} {a w : World} (h : Below B a w) (n : Nat) : Below B a (w.drewN n) := ⟨h.os, h.tape, h.output, h.size, h.block⟩
theorem LstAt.drewN {w : World} {b o : Nat} {xs : List UInt8} (h : LstAt w b o xs) (n : Nat) : LstAt (w.drewN n) b o xs := h.below (below_drewN (Below.refl _ _) n)

set_option maxRecDepth 100000 in
theorem sameLists_at (a a' : Option Addr) (n c n' c' : Nat) (ls ms : List (List UInt8)) (w : World) (hl : ls.length = n) (hm : ms.length = n') (hn : n ≤ 1000000000) (hL : Lsts w a ls) (hM : Lsts w a' ms) :
    Calls Try.prog 22 #[.slice a n c, .slice a' n' c'] w fun r w' => r = .returned (.bool (decide (ls = ms))) ∧ Below w.heap.size w w' := by
  by_cases hnn : n = n'
  · subst hnn
    have HL : Hid (ls.length = n) := hl
    have HM : Hid (ms.length = n) := hm
    have HLL : Hid (Lsts w a ls) := hL
    have HMM : Hid (Lsts w a' ms) := hM
    clear hl hm hL hM
    obtain ⟨q, hq⟩ : ∃ q, q = decide (ls = ms) := ⟨_, rfl⟩
    rw [← hq]
    have HQ : Hid (q = decide (ls = ms)) := hq
    clear hq
    go_enter Try.func22, Try.ntmps22
    go_wp2_with fail
    go_loopw [5] (fun v u => ∃ k : Nat, k ≤ n ∧ v = .int .i64 (k : Int) ∧ ls.take k = ms.take k ∧ Below w.heap.size w u) (fun v _ => n - (intOf v).toNat)
    case atStart => exact ⟨0, Nat.zero_le _, rfl, by simp, Below.refl _ _⟩
    case round =>
      obtain ⟨k, hk, rfl, ht, B⟩ := hrel
      have HT : Hid (ls.take k = ms.take k) := ht
      clear ht
      by_cases hlt : k < n
      · have k1 : k < ls.length := by rw [HL.out]; exact hlt
        have k2 : k < ms.length := by rw [HM.out]; exact hlt
        obtain ⟨b, o, rfl, hc⟩ := HLL.out (by omega)
        obtain ⟨b', o', rfl, hc'⟩ := HMM.out (by omega)
        obtain ⟨x, cx, g1, g2, g3, g4, g5⟩ := hc k k1
        obtain ⟨y, cy, f1, f2, f3, f4, f5⟩ := hc' k k2
        have lb : b < w.heap.size := block_lt_of_cell g1
        have lb' : b' < w.heap.size := block_lt_of_cell f1
        rw [← B.cell (p := ⟨b, o + k, none⟩) lb] at g1
        rw [← B.cell (p := ⟨b', o' + k, none⟩) lb'] at f1
        have r1 := g5.below B (Nat.le_refl _)
        have r2 := f5.below B (Nat.le_refl _)
        have hstep : Hid (ls.take (k + 1) = ls.take k ++ [ls[k]] ∧ ms.take (k + 1) = ms.take k ++ [ms[k]]) := ⟨List.take_succ_eq_append_getElem k1, List.take_succ_eq_append_getElem k2⟩
        have hmem : Hid (ls = ms → (ls[k]'k1) = (ms[k]'k2)) := fun e => by subst e; rfl
        generalize (ls[k]'k1) = xs at g1 g2 r1 hstep hmem
        generalize (ms[k]'k2) = ys at f1 f2 r2 hstep hmem
        have cS : ∀ q : Nat, Calls Try.prog 9 #[.slice x xs.length cx, .slice y ys.length cy] (wr.drewN q) fun e w' => e = .returned (.bool (xs == ys)) ∧ w' = wr.drewN q := fun q => (same_at cx cy xs.length ys.length x y xs ys (wr.drewN q) rfl rfl r1 r2).mono fun e w' ⟨h1, h2⟩ => ⟨h1, h2.symm⟩
        clear hc hc' g2 g3 g4 g5 f2 f3 f4 f5 lb lb' r1 r2
        by_cases hxy : xs = ys
        · have hb : (xs == ys) = true := by simp [hxy]
          rw [hb] at cS
          have HCS : Hid _ := cS
          have HXY : Hid _ := hxy
          clear cS hb hxy
          go_wp2_with fail
          go_quiet ((go_at_call 9; exact Calls.quiet_of_same (HCS.out _)))
          have B2 := below_drewN B nq
          clear HCS g1 f1
          go_wp2_with fail
          go_roundw
          case rel => exact ⟨k + 1, by omega, by push_cast; rfl, by rw [hstep.out.1, hstep.out.2, HT.out, HXY.out], B2⟩
          case measure => simp [intOf]; omega
        · have hb : (xs == ys) = false := by simp [hxy]
          rw [hb] at cS
          have HCS : Hid _ := cS
          have hqf : q = false := by rw [HQ.out]; exact decide_eq_false (fun e => hxy (hmem.out e))
          have HXY : Hid _ := hxy
          clear cS hb hxy
          go_wp2_with fail
          go_quiet ((go_at_call 9; exact Calls.quiet_of_same (HCS.out _)))
          have B2 := below_drewN B nq
          clear HCS g1 f1
          go_wp2_with fail
          go_ret
          exact ⟨by rw [hqf]; rfl, B2⟩
      · have hke : k = n := by omega
        have hqt : q = true := by
          rw [HQ.out]
          refine decide_eq_true ?_
          have := HT.out
          rwa [List.take_of_length_le (by rw [HL.out]; omega), List.take_of_length_le (by rw [HM.out]; omega)] at this
        go_wp2_with fail
        go_ret
        exact ⟨by rw [hqt]; rfl, B⟩
  · rw [decide_eq_false (fun e => hnn (by rw [← hl, ← hm, e]))]
    have hnb : ((n : Int) == (n' : Int)) = false := by simp; omega
    clear hl hm
    go_enter Try.func22, Try.ntmps22
    go_wp2_with fail
    go_ret
    exact ⟨rfl, Below.refl _ _⟩

set_option maxRecDepth 100000 in
set_option maxHeartbeats 1000000 in
theorem sameImages_at (a a' : Option Addr) (n c n' c' : Nat) (ls ms : List (Int × List UInt8)) (w : World) (hl : ls.length = n) (hm : ms.length = n') (hn : n ≤ 1000000000) (hL : Imgs w a ls) (hM : Imgs w a' ms) :
    Calls Try.prog 26 #[.slice a n c, .slice a' n' c'] w fun r w' => r = .returned (.bool (decide (ls = ms))) ∧ Below w.heap.size w w' := by
  by_cases hnn : n = n'
  · subst hnn
    have HL : Hid (ls.length = n) := hl
    have HM : Hid (ms.length = n) := hm
    have HLL : Hid (Imgs w a ls) := hL
    have HMM : Hid (Imgs w a' ms) := hM
    clear hl hm hL hM
    obtain ⟨q, hq⟩ : ∃ q, q = decide (ls = ms) := ⟨_, rfl⟩
    rw [← hq]
    have HQ : Hid (q = decide (ls = ms)) := hq
    clear hq
    go_enter Try.func26, Try.ntmps26
    go_wp2_with fail
    go_loopw [5] (fun v u => ∃ k : Nat, k ≤ n ∧ v = .int .i64 (k : Int) ∧ ls.take k = ms.take k ∧ Below w.heap.size w u) (fun v _ => n - (intOf v).toNat)
    case atStart => exact ⟨0, Nat.zero_le _, rfl, by simp, Below.refl _ _⟩
    case round =>
      obtain ⟨k, hk, rfl, ht, B⟩ := hrel
      have HT : Hid (ls.take k = ms.take k) := ht
      clear ht
      by_cases hlt : k < n
      · have k1 : k < ls.length := by rw [HL.out]; exact hlt
        have k2 : k < ms.length := by rw [HM.out]; exact hlt
        obtain ⟨b, o, rfl, hc⟩ := HLL.out (by omega)
        obtain ⟨b', o', rfl, hc'⟩ := HMM.out (by omega)
        obtain ⟨g0, x, cx, g1, g2, g3, g4, g5⟩ := hc k k1
        obtain ⟨f0, y, cy, f1, f2, f3, f4, f5⟩ := hc' k k2
        have lb : b < w.heap.size := block_lt_of_cell g1
        have lb' : b' < w.heap.size := block_lt_of_cell f1
        rw [← B.cell (p := ⟨b, o + k * 2, none⟩) lb] at g0
        rw [← B.cell (p := ⟨b', o' + k * 2, none⟩) lb'] at f0
        rw [← B.cell (p := ⟨b, o + k * 2 + 1, none⟩) lb] at g1
        rw [← B.cell (p := ⟨b', o' + k * 2 + 1, none⟩) lb'] at f1
        have r1 := g5.below B (Nat.le_refl _)
        have r2 := f5.below B (Nat.le_refl _)
        have hstep : Hid (ls.take (k + 1) = ls.take k ++ [ls[k]] ∧ ms.take (k + 1) = ms.take k ++ [ms[k]]) := ⟨List.take_succ_eq_append_getElem k1, List.take_succ_eq_append_getElem k2⟩
        have hmem : Hid (ls = ms → (ls[k]'k1) = (ms[k]'k2)) := fun e => by subst e; rfl
        generalize (ls[k]'k1) = X at g0 g1 g2 r1 hstep hmem
        generalize (ms[k]'k2) = Y at f0 f1 f2 r2 hstep hmem
        obtain ⟨bx, xs⟩ := X
        obtain ⟨bY, ys⟩ := Y
        dsimp only at g0 g1 g2 r1 f0 f1 f2 r2
        clear hc hc' g2 g3 g4 g5 f2 f3 f4 f5 lb lb'
        by_cases hbb : bx = bY
        · subst hbb
          have cS : ∀ q : Nat, Calls Try.prog 9 #[.slice x xs.length cx, .slice y ys.length cy] (wr.drewN q) fun e w' => e = .returned (.bool (xs == ys)) ∧ w' = wr.drewN q := fun q => (same_at cx cy xs.length ys.length x y xs ys (wr.drewN q) rfl rfl r1 r2).mono fun e w' ⟨h1, h2⟩ => ⟨h1, h2.symm⟩
          clear r1 r2
          by_cases hxy : xs = ys
          · have hb : (xs == ys) = true := by simp [hxy]
            rw [hb] at cS
            have HCS : Hid _ := cS
            have HXY : Hid _ := hxy
            clear cS hb hxy
            go_wp2_with fail
            go_quiet ((go_at_call 9; exact Calls.quiet_of_same (HCS.out _)))
            have B2 := below_drewN B nq
            clear HCS g0 f0 g1 f1
            go_wp2_with fail
            go_roundw
            case rel => exact ⟨k + 1, by omega, by push_cast; rfl, by rw [hstep.out.1, hstep.out.2, HT.out, HXY.out], B2⟩
            case measure => simp [intOf]; omega
          · have hb : (xs == ys) = false := by simp [hxy]
            rw [hb] at cS
            have HCS : Hid _ := cS
            have hqf : q = false := by rw [HQ.out]; exact decide_eq_false (fun e => hxy (Prod.mk.inj (hmem.out e)).2)
            clear cS hb hxy
            go_wp2_with fail
            go_quiet ((go_at_call 9; exact Calls.quiet_of_same (HCS.out _)))
            have B2 := below_drewN B nq
            clear HCS g0 f0 g1 f1
            go_wp2_with fail
            go_ret
            exact ⟨by rw [hqf]; rfl, B2⟩
        · have hbf : (bx == bY) = false := by simp [hbb]
          have hbn : (bx != bY) = true := by simp [hbb]
          have hqf : q = false := by rw [HQ.out]; exact decide_eq_false (fun e => hbb (Prod.mk.inj (hmem.out e)).1)
          clear r1 r2
          go_wp2_with fail
          go_quiet (fail)
          have B2 := below_drewN B nq
          clear g0 f0 g1 f1
          go_wp2_with fail
          go_ret
          exact ⟨by rw [hqf]; rfl, B2⟩
      · have hke : k = n := by omega
        have hqt : q = true := by
          rw [HQ.out]
          refine decide_eq_true ?_
          have := HT.out
          rwa [List.take_of_length_le (by rw [HL.out]; omega), List.take_of_length_le (by rw [HM.out]; omega)] at this
        go_wp2_with fail
        go_ret
        exact ⟨by rw [hqt]; rfl, B⟩
  · rw [decide_eq_false (fun e => hnn (by rw [← hl, ← hm, e]))]
    have hnb : ((n : Int) == (n' : Int)) = false := by simp; omega
    clear hl hm
    go_enter Try.func26, Try.ntmps26
    go_wp2_with fail
    go_ret
    exact ⟨rfl, Below.refl _ _⟩

set_option maxRecDepth 100000 in
theorem sameGroup_at (e s e' s' : Int) (a a' : Option Addr) (n c n' c' : Nat) (ls ms : List (Int × List UInt8)) (w : World) (hl : ls.length = n) (hm : ms.length = n') (hn : n ≤ 1000000000) (hL : Imgs w a ls) (hM : Imgs w a' ms) :
    Calls Try.prog 14 #[.agg #[.int .i64 e, .int .i64 s, .slice a n c], .agg #[.int .i64 e', .int .i64 s', .slice a' n' c']] w fun r w' => r = .returned (.bool (decide (e = e' ∧ s = s' ∧ ls = ms))) ∧ Below w.heap.size w w' := by
  have x1 := (Box.new w #[.int .i64 e, .int .i64 s, .slice a n c] 28).alloc (.cells #[.int .i64 e', .int .i64 s', .slice a' n' c'] 28)
  have B1 := (Below.refl w.heap.size w).alloc (Nat.le_refl _) (.cells #[.int .i64 e, .int .i64 s, .slice a n c] 28)
  have B2 := B1.alloc B1.size (.cells #[.int .i64 e', .int .i64 s', .slice a' n' c'] 28)
  have cc := sameImages_at a a' n c n' c' ls ms _ hl hm hn (hL.below B2) (hM.below B2)
  clear hl hm hL hM
  by_cases he : e = e'
  · subst he
    by_cases hs : s = s'
    · subst hs
      have eq : decide (e = e ∧ s = s ∧ ls = ms) = decide (ls = ms) := decide_eq_decide.2 ⟨fun h => h.2.2, fun h => ⟨rfl, rfl, h⟩⟩
      rw [eq]
      clear eq
      obtain ⟨q, hq⟩ : ∃ q, q = decide (ls = ms) := ⟨_, rfl⟩
      rw [← hq] at cc ⊢
      clear hq
      go_enter Try.func14, Try.ntmps14
      go_wp2_with fail
      refine cc.mono ?_
      rintro r w1 ⟨rfl, b⟩
      have B3 := B2.trans (b.mono B2.size)
      go_wp2_with fail
      go_ret
      exact ⟨rfl, B3⟩
    · rw [decide_eq_false (fun h => hs h.2.1)]
      have hsb : (s == s') = false := by simp [hs]
      go_enter Try.func14, Try.ntmps14
      go_wp2_with fail
      go_ret
      exact ⟨rfl, B2⟩
  · rw [decide_eq_false (fun h => he h.1)]
    have heb : (e == e') = false := by simp [he]
    go_enter Try.func14, Try.ntmps14
    go_wp2_with fail
    go_ret
    exact ⟨rfl, B2⟩
end Go.Proofs.Ytghcmlkgpedkkaa
