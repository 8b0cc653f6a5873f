/-
  CellNumbers' walk.
-/
import Derived.Test.YtinflodnkopcdaaAwake
namespace Go.Proofs.Ytinflodnkopcdaa
open Go.RowKit
set_option maxRecDepth 100000 in
theorem numbers_at (w : World) : Calls Try.prog 3 #[] w fun r w' => r = .returned (.bool true) ∧ Below w.heap.size w w' := by
  have cN := new_at w 1 (by omega) (by omega)
  have e0 : M0 1 = ⟨[⟨.int .i64 0, 0, 0⟩], 0⟩ := rfl
  rw [e0] at cN
  clear e0
  go_enter Try.func3, Try.ntmps3
  go_wp2_with fail
  refine Calls.mono cN ?_
  rintro e w0 ⟨m, rfl, i0, b0⟩
  have HB0 : Hid (Below w.heap.size w w0) := b0
  have h0 := i0.hB
  clear cN b0
  have c1 := adv_at i0
  simp [M.adv] at c1
  unfold ptr at *
  go_wp2_with fail
  refine Calls.mono c1 ?_
  rintro e w1 ⟨rfl, t1⟩
  have HB1 : Hid (Below w.heap.size w w1) := HB0.out.trans t1.bel
  have i1 := t1.is
  clear c1 t1 HB0 i0
  have c2 := adv_at i1
  simp [M.adv] at c2
  unfold ptr at *
  go_wp2_with fail
  refine Calls.mono c2 ?_
  rintro e w2 ⟨rfl, t2⟩
  have HB2 : Hid (Below w.heap.size w w2) := HB1.out.trans t2.bel
  have i2 := t2.is
  clear c2 t2 HB1 i1
  have c3 := lock_at i2 0 1
  simp [M.lock, M.cell?, M.put] at c3
  unfold ptr at *
  go_wp2_with fail
  refine Calls.mono c3 ?_
  rintro e w3 ⟨rfl, t3⟩
  have HB3 : Hid (Below w.heap.size w w3) := HB2.out.trans t3.bel
  have i3 := t3.is
  clear c3 t3 HB2 i2
  have c4 := publish_at i3 0 1 5 2 (fun c hc => by simp [M.cell?] at hc; rw [← hc]; exact ⟨_, rfl⟩)
  simp [M.publish, M.cell?, M.put] at c4
  unfold ptr at *
  go_wp2_with fail
  refine Calls.mono c4 ?_
  rintro e w4 ⟨rfl, t4⟩
  have HB4 : Hid (Below w.heap.size w w4) := HB3.out.trans t4.bel
  have i4 := t4.is
  clear c4 t4 HB3 i3
  have c5 := lock_at i4 0 1
  simp [M.lock, M.cell?, M.put] at c5
  unfold ptr at *
  go_wp2_with fail
  refine Calls.mono c5 ?_
  rintro e w5 ⟨rfl, t5⟩
  have HB5 : Hid (Below w.heap.size w w5) := HB4.out.trans t5.bel
  have i5 := t5.is
  clear c5 t5 HB4 i4
  have c6 := publish_at i5 0 1 6 2 (fun c hc => by simp [M.cell?] at hc; rw [← hc]; exact ⟨_, rfl⟩)
  simp [M.publish, M.cell?] at c6
  unfold ptr at *
  go_wp2_with fail
  refine Calls.mono c6 ?_
  rintro e w6 ⟨rfl, t6⟩
  have HB6 : Hid (Below w.heap.size w w6) := HB5.out.trans t6.bel
  have i6 := t6.is
  clear c6 t6 HB5 i5
  have c7 := publish_at i6 0 1 6 3 (fun c hc => by simp [M.cell?] at hc; rw [← hc]; exact ⟨_, rfl⟩)
  simp [M.publish, M.cell?] at c7
  unfold ptr at *
  go_wp2_with fail
  refine Calls.mono c7 ?_
  rintro e w7 ⟨rfl, t7⟩
  have HB7 : Hid (Below w.heap.size w w7) := HB6.out.trans t7.bel
  have i7 := t7.is
  clear c7 t7 HB6 i6
  have c8 := adv_at i7
  simp [M.adv] at c8
  unfold ptr at *
  go_wp2_with fail
  refine Calls.mono c8 ?_
  rintro e w8 ⟨rfl, t8⟩
  have HB8 : Hid (Below w.heap.size w w8) := HB7.out.trans t8.bel
  have i8 := t8.is
  clear c8 t8 HB7 i7
  have c9 := publish_at i8 0 1 7 3 (fun c hc => by simp [M.cell?] at hc; rw [← hc]; exact ⟨_, rfl⟩)
  simp [M.publish, M.cell?, M.put] at c9
  unfold ptr at *
  go_wp2_with fail
  refine Calls.mono c9 ?_
  rintro e w9 ⟨rfl, t9⟩
  have HB9 : Hid (Below w.heap.size w w9) := HB8.out.trans t9.bel
  have i9 := t9.is
  clear c9 t9 HB8 i8
  have c10 := load_at i9 0
  simp [M.load, M.cell?] at c10
  unfold ptr at *
  go_wp2_with fail
  refine Calls.mono c10 ?_
  rintro e w10 ⟨rfl, n10, rfl⟩
  have HB10 : Hid (Below w.heap.size w (w9.drewN n10)) := Below.drewN HB9.out n10
  obtain ⟨wd, hwd⟩ : ∃ wd, wd = w9.drewN n10 := ⟨_, rfl⟩
  rw [← hwd] at HB10 ⊢
  clear c10 HB9 i9 hwd
  have cA := awake_at wd
  go_wp2_with fail
  refine Calls.mono cA ?_
  rintro e w11 ⟨rfl, b11⟩
  clear cA
  go_wp2_with fail
  go_ret
  exact ⟨rfl, HB10.out.trans (b11.mono HB10.out.size)⟩
end Go.Proofs.Ytinflodnkopcdaa
