/-
  Step of a transaction: one that is open.
-/
import Derived.Test.YtafiopjgegmfoaaTStep
namespace Go.Proofs.Ytafiopjgegmfoaa.T
open Go.RowKit Go.Proofs.Ytafiopjgegmfoaa.C
set_option maxRecDepth 100000 in
set_option maxHeartbeats 8000000 in
theorem step_open {w : World} {B g m gm : Nat} {S : M} {X : TX} {F : Nat → Prop} (hM : MM w B m gm S) (hX : IsX w B g m X F) (hm : ¬ F m) (hgm : ¬ F gm) (hN : Num S) (hs : X.st = 1) : Calls Try.prog 17 #[ptr g] w fun r w' => r = .returned (.tuple #[.int .u8 (X.step S).1, .int .i64 (X.step S).2.1]) ∧ ToX w B g m gm (X.step S).2.2.1 (X.step S).2.2.2 F w' := by
  obtain ⟨s, L, hl⟩ : ∃ s L, X.ends = s :: L := by
    cases he : X.ends with
    | nil => exact absurd he (ends_ne X)
    | cons s L => exact ⟨s, L, rfl⟩
  obtain ⟨Y, hY⟩ : ∃ Y : TX, Y = { X with st := 2, left := X.ends } := ⟨_, rfl⟩
  have hYl : Y.left = s :: L := by rw [hY]; exact hl
  have hYs : Y.st = 2 := by rw [hY]
  have e : X.step S = TX.fin Y.own L (TX.do1 S { Y with left := L } s) := by
    unfold TX.step
    rw [if_neg (by rw [hs]; omega), if_pos hs, ← hY]
    unfold TX.go
    rw [hYl]
  rw [e]
  clear e
  obtain ⟨R, hRd⟩ : ∃ R, R = TX.do1 S { Y with left := L } s := ⟨_, rfl⟩
  have hkp := do1_keeps { Y with left := L } S s
  rw [← hRd] at hkp
  obtain ⟨R1, R2, R3⟩ := R
  dsimp only at hkp
  have BE : Hid (∀ w', ToX w B g m gm R2 R3 F w' → Beh w B g m gm R2 R3 F L.length w') := fun w' ht => ht.beh hM hm hgm (hkp.2.2.trans hYs) (by rw [hkp.1])
  obtain ⟨fn, hfn⟩ : ∃ fn, fn = TX.fin Y.own L (R1, R2, R3) := ⟨_, rfl⟩
  have HF : Hid ((R1 ≠ 0 → fn = (4, R1, R2.rel R3.own, R3.fail)) ∧ (R1 = 0 → L.length = 0 → fn = (3, 0, R2, { R3 with st := 3, left := [] })) ∧ (R1 = 0 → L.length ≠ 0 → fn = (2, 0, R2, R3))) := by
    refine ⟨fun h => ?_, fun h h' => ?_, fun h h' => ?_⟩
    · rw [hfn]; unfold TX.fin; rw [if_pos h]; rw [hkp.2.1]
    · rw [hfn]; unfold TX.fin; rw [if_neg (by simpa using h), if_pos h']
    · rw [hfn]; unfold TX.fin; rw [if_neg (by simpa using h), if_neg h']; show (R3.st, _, _, _) = _; rw [hkp.2.2, hYs]
  rw [← hRd, ← hfn]
  have cE := end_at hX
  obtain ⟨s0, lv, P, Q, h⟩ := hX
  have cm := isMade_at h.box
  have co := isOver_at h.box h.ok
  rw [hs, show decide ((1 : Int) = 3 ∨ (1 : Int) = 4) = false by decide] at co
  have c5 : w.cell? ⟨g, 5, none⟩ = some (.int .u8 1) := by rw [← hs]; exact h.box.cell 5
  have EN : Hid (∀ w1 lv1, LeftAt w1 (fun x => w.heap.size ≤ x ∧ x < w1.heap.size) g lv1 X.ends → Below w.heap.size w w1 → (w1.cell? ⟨g, 5, none⟩ = some (.int .u8 X.st) ∧ w1.frozen? ⟨g, 5, none⟩ = false ∧ (w1.setCell ⟨g, 5, none⟩ (.int .u8 2)).cell? ⟨g, 6, none⟩ = some lv ∧ (w1.setCell ⟨g, 5, none⟩ (.int .u8 2)).frozen? ⟨g, 6, none⟩ = false ∧ ((w1.setCell ⟨g, 5, none⟩ (.int .u8 2)).setCell ⟨g, 6, none⟩ lv1).cell? ⟨g, 6, none⟩ = some lv1 ∧ ToX w B g m gm S Y F ((w1.setCell ⟨g, 5, none⟩ (.int .u8 2)).setCell ⟨g, 6, none⟩ lv1))) := fun w1 lv1 hl1 hb1 => by
    rw [hY]; exact ToX.ended hM h hm hgm hl1 hb1
  have HM : Hid (MM w B m gm S) := hM
  have HNN : Hid (Num S) := hN
  have HRD : Hid ((R1, R2, R3) = TX.do1 S { Y with left := L } s) := hRd
  have HYY : Hid (Y.left = s :: L ∧ Y.st = 2) := ⟨hYl, hYs⟩
  clear h hM hRd hkp hfn hN hY hYl hYs hl hs
  unfold ptr at *
  go_enter Try.func17, Try.ntmps17
  go_wp2_with (first | (go_at_call 30; refine cm.mono ?_; rintro e wx ⟨rfl, hwx⟩; subst wx) | (go_at_call 31; refine co.mono ?_; rintro e wx ⟨rfl, hwx⟩; subst wx) | fail)
  refine Calls.mono cE ?_
  rintro e w1 ⟨lv1, rfl, hl1, hb1⟩
  obtain ⟨q5, p5, q6, p6, q7, key⟩ := EN.out w1 lv1 hl1 hb1
  obtain ⟨lb, off, c, v, hA⟩ := key.at HYY.out.2 HYY.out.1
  have elv : lv1 = .slice (some ⟨lb, off, none⟩) (L.length + 1) c := by
    have := q7.symm.trans hA.c6
    injection this
  subst elv
  have c5 := hA.c5
  have c6 := hA.c6
  have cv := hA.cv
  have f6 := hA.f6
  have hc := hA.hc
  have hlt := hA.lt
  clear q7 key hl1 hb1 cE EN
  by_cases hc1 : c = 1
  · have hn0 : L.length = 0 := by omega
    obtain ⟨f, caps, rfl, hf, cC⟩ := hA.next HM.out hm hgm HNN.out (a := some ⟨lb, off, none⟩) (c' := 0) (by omega) (fun h => absurd (List.length_eq_zero_iff.1 hn0) h)
    rw [← HRD.out] at cC
    clear hA HM HRD HNN
    generalize L.length = n at *
    subst hn0
    subst hc1
    rcases hf with rfl | rfl | rfl | rfl | rfl
    all_goals
      go_wp2_with (first | (go_at_call 30; refine cm.mono ?_; rintro e wx ⟨rfl, hwx⟩; subst wx) | (go_at_call 31; refine co.mono ?_; rintro e wx ⟨rfl, hwx⟩; subst wx) | fail)
      refine Calls.mono cC ?_
      rintro e w3 ⟨rfl, ht⟩
      have hB := BE.out _ ht
      have d5 := hB.c5
      obtain ⟨a9, c9, d6⟩ := hB.c6
      have cF := hB.cf
      have f5 := hB.f5
      obtain ⟨l9, k6⟩ := hB.d6
      have g6 := hB.g6
      have e5 := hB.e5
      have DN : Hid (ToX w B g m gm R2 { R3 with st := 3, left := [] } F ((w3.setCell ⟨g, 5, none⟩ (.int .u8 3)).setCell ⟨g, 6, none⟩ (.slice none 0 0))) := hB.dn
      have TO : Hid (ToX w B g m gm R2 R3 F w3) := hB.to
      clear hB ht cC
      unfold ptr at *
      generalize { R3 with st := 3, left := [] } = R3' at *
      generalize R3.fail = R3'' at *
      by_cases hR : R1 ≠ 0
      · have hR' : (R1 == 0) = false := by simpa using hR
        have eF := HF.out.1 hR
        clear HF
        go_wp2_with (first | ((go_at_call 27); refine Calls.mono cF ?_; rintro e w5 ⟨rfl, kt, k5⟩) | fail)
        go_ret2
        rw [eF]
        exact ⟨rfl, kt⟩
      · have hR' : R1 = 0 := Classical.byContradiction hR
        subst hR'
        have eF := HF.out.2.1 rfl (by simp)
        clear HF hR
        go_wp2_with (first | ((go_at_call 27); refine Calls.mono cF ?_; rintro e w5 ⟨rfl, kt, k5⟩) | fail)
        go_ret2
        rw [eF]
        exact ⟨rfl, DN.out⟩
  · obtain ⟨f, caps, rfl, hf, cC⟩ := hA.next HM.out hm hgm HNN.out (a := some ⟨lb, off + 1, none⟩) (c' := c - 1) (by omega) (fun _ => rfl)
    rw [← HRD.out] at cC
    clear hA HM HRD HNN
    generalize L.length = n at *
    rcases hf with rfl | rfl | rfl | rfl | rfl
    all_goals
      go_wp2_with (first | (go_at_call 30; refine cm.mono ?_; rintro e wx ⟨rfl, hwx⟩; subst wx) | (go_at_call 31; refine co.mono ?_; rintro e wx ⟨rfl, hwx⟩; subst wx) | fail)
      refine Calls.mono cC ?_
      rintro e w3 ⟨rfl, ht⟩
      have hB := BE.out _ ht
      have d5 := hB.c5
      obtain ⟨a9, c9, d6⟩ := hB.c6
      have cF := hB.cf
      have f5 := hB.f5
      obtain ⟨l9, k6⟩ := hB.d6
      have g6 := hB.g6
      have e5 := hB.e5
      have DN : Hid (ToX w B g m gm R2 { R3 with st := 3, left := [] } F ((w3.setCell ⟨g, 5, none⟩ (.int .u8 3)).setCell ⟨g, 6, none⟩ (.slice none 0 0))) := hB.dn
      have TO : Hid (ToX w B g m gm R2 R3 F w3) := hB.to
      clear hB ht cC
      unfold ptr at *
      generalize { R3 with st := 3, left := [] } = R3' at *
      generalize R3.fail = R3'' at *
      by_cases hR : R1 ≠ 0
      · have hR' : (R1 == 0) = false := by simpa using hR
        have eF := HF.out.1 hR
        clear HF
        go_wp2_with (first | ((go_at_call 27); refine Calls.mono cF ?_; rintro e w5 ⟨rfl, kt, k5⟩) | fail)
        go_ret2
        rw [eF]
        exact ⟨rfl, kt⟩
      · have hR' : R1 = 0 := Classical.byContradiction hR
        subst hR'
        by_cases hn : n = 0
        · have eF := HF.out.2.1 rfl hn
          clear HF hR
          subst hn
          go_wp2_with (first | ((go_at_call 27); refine Calls.mono cF ?_; rintro e w5 ⟨rfl, kt, k5⟩) | fail)
          go_ret2
          rw [eF]
          exact ⟨rfl, DN.out⟩
        · have eF := HF.out.2.2 rfl hn
          clear HF hR
          have hn' : ((n : Int) == 0) = false := by simp; omega
          go_wp2_with (first | ((go_at_call 27); refine Calls.mono cF ?_; rintro e w5 ⟨rfl, kt, k5⟩) | fail)
          go_ret2
          rw [eF]
          exact ⟨rfl, TO.out⟩
end Go.Proofs.Ytafiopjgegmfoaa.T
