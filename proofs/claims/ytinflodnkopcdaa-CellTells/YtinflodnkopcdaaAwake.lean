/-
  The chapter's example.
-/
import Derived.Test.YtinflodnkopcdaaOps
namespace Go.Proofs.Ytinflodnkopcdaa
open Go.RowKit
theorem Below.drewN {B : Nat} {a w : World} (h : Below B a w) (q : Nat) : Below B a (w.drewN q) := ⟨h.os, h.tape, h.output, h.size, h.block⟩
set_option maxRecDepth 100000 in
theorem awake_at (w : World) : Calls Try.prog 13 #[] w fun r w' => r = .returned (.bool true) ∧ Below w.heap.size w w' := by
  have cN := snew_at w 2 (by omega) (by omega)
  go_enter Try.func13, Try.ntmps13
  go_wp2_with fail
  refine Calls.mono cN ?_
  rintro e w1 ⟨m, rfl, i1, b1⟩
  have HB1 : Hid (Below w.heap.size w w1) := b1
  clear cN b1
  have c2 := sfill_at i1 0 ⟨#[97]⟩ (fun c hc => ⟨⟨#[]⟩, by simp [M.cell?, sM0] at hc; rw [← hc]⟩)
  have e2 : (sM0 2).fill 0 (.string ⟨#[97]⟩) = (⟨[⟨.string ⟨#[97]⟩, 0, 0⟩, ⟨.string ⟨#[]⟩, 0, 0⟩], 0⟩, 0) := by simp [sM0, M.fill, M.cell?, M.put, List.replicate]
  rw [e2] at c2
  clear e2 i1
  unfold ptr at *
  go_wp2_with fail
  refine Calls.mono c2 ?_
  rintro e w2 ⟨rfl, t2⟩
  have HB2 : Hid (Below w.heap.size w w2) := HB1.out.trans t2.bel
  have i2 := t2.is
  clear c2 t2 HB1
  have c3 := slock_at i2 0 7
  simp [M.lock, M.cell?, M.put] at c3
  unfold ptr at *
  go_wp2_with fail
  refine Calls.mono c3 ?_
  rintro e w3 ⟨rfl, t3⟩
  have HB3 : Hid (Below w.heap.size w w3) := HB2.out.trans t3.bel
  have i3 := t3.is
  clear c3 t3 HB2 i2
  have c4 := slock_at i3 0 8
  simp [M.lock, M.cell?] at c4
  unfold ptr at *
  go_wp2_with fail
  refine Calls.mono c4 ?_
  rintro e w4 ⟨rfl, t4⟩
  have HB4 : Hid (Below w.heap.size w w4) := HB3.out.trans t4.bel
  have i4 := t4.is
  clear c4 t4 HB3 i3
  have c5 := spublish_at i4 0 7 ⟨#[98]⟩ 1 (fun c hc => ⟨⟨#[97]⟩, by simp [M.cell?] at hc; rw [← hc]⟩)
  simp [M.publish, M.cell?] at c5
  unfold ptr at *
  go_wp2_with fail
  refine Calls.mono c5 ?_
  rintro e w5 ⟨rfl, t5⟩
  have HB5 : Hid (Below w.heap.size w w5) := HB4.out.trans t5.bel
  have i5 := t5.is
  clear c5 t5 HB4 i4
  have c6 := sadv_at i5
  simp [M.adv] at c6
  unfold ptr at *
  go_wp2_with fail
  refine Calls.mono c6 ?_
  rintro e w6 ⟨rfl, t6⟩
  have HB6 : Hid (Below w.heap.size w w6) := HB5.out.trans t6.bel
  have i6 := t6.is
  clear c6 t6 HB5 i5
  have c7 := spublish_at i6 0 7 ⟨#[98]⟩ 1 (fun c hc => ⟨⟨#[97]⟩, by simp [M.cell?] at hc; rw [← hc]⟩)
  simp [M.publish, M.cell?, M.put] at c7
  unfold ptr at *
  go_wp2_with fail
  refine Calls.mono c7 ?_
  rintro e w7 ⟨rfl, t7⟩
  have HB7 : Hid (Below w.heap.size w w7) := HB6.out.trans t7.bel
  have i7 := t7.is
  clear c7 t7 HB6 i6
  have c8 := sload_at i7 0
  simp [sM.load, M.cell?] at c8
  unfold ptr at *
  go_wp2_with fail
  refine Calls.mono c8 ?_
  rintro e w8 ⟨rfl, n8, rfl⟩
  have HB8 : Hid (Below w.heap.size w (w7.drewN n8)) := Below.drewN HB7.out n8
  have i8 := i7.kt (p := fun _ => True) (Kt.below (Below.drewN (Below.refl w7.heap.size w7) n8)) trivial trivial
  obtain ⟨wd, hwd⟩ : ∃ wd, wd = w7.drewN n8 := ⟨_, rfl⟩
  rw [← hwd] at HB8 i8 ⊢
  clear c8 HB7 i7 hwd
  have c9 := sload_at i8 2
  simp [sM.load, M.cell?] at c9
  unfold ptr at *
  go_wp2_with fail
  refine Calls.mono c9 ?_
  rintro e w9 ⟨rfl, n9, rfl⟩
  have HB9 : Hid (Below w.heap.size w (wd.drewN n9)) := Below.drewN HB8.out n9
  have i9 := i8.kt (p := fun _ => True) (Kt.below (Below.drewN (Below.refl wd.heap.size wd) n9)) trivial trivial
  obtain ⟨we, hwe⟩ : ∃ we, we = wd.drewN n9 := ⟨_, rfl⟩
  rw [← hwe] at HB9 i9 ⊢
  clear c9 HB8 i8 hwe
  have c10 := sfill_at i9 0 ⟨#[99]⟩ (fun c hc => ⟨⟨#[98]⟩, by simp [M.cell?] at hc; rw [← hc]⟩)
  simp [M.fill, M.cell?] at c10
  unfold ptr at *
  go_wp2_with fail
  refine Calls.mono c10 ?_
  rintro e w10 ⟨rfl, t10⟩
  have HB10 : Hid (Below w.heap.size w w10) := HB9.out.trans t10.bel
  clear c10 t10 HB9 i9
  go_wp2_with fail
  go_ret
  exact ⟨rfl, HB10.out⟩
end Go.Proofs.Ytinflodnkopcdaa
