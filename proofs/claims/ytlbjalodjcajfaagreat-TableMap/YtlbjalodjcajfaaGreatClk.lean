/-
  A memory's Lock, Advance and Publish.
-/
import Derived.Test.YtlbjalodjcajfaaGreatEnt
import Derived.Test.YtlbjalodjcajfaaGreatRow
import Derived.Deep.Cut
import Derived.Deep.CutRange
namespace Go.Proofs.YtlbjalodjcajfaaGreat
open Go.RowKit
theorem cls_set : ∀ {C : List Cl} {i : Nat}, i < C.length → ∀ c : Cl, (((((cls C).set (i * 5) (.bool c.e.u)).set (i * 5 + 1) (.string c.e.k)).set (i * 5 + 2) (.string c.e.v)).set (i * 5 + 3) (.int .i64 c.ver)).set (i * 5 + 4) (.int .i64 c.own) = cls (C.set i c)
  | [], i, h, _ => by simp at h
  | x :: C, 0, h, c => by simp [cls_cons]
  | x :: C, i + 1, h, c => by
    have ih := cls_set (C := C) (i := i) (by simpa using h) c
    rw [cls_cons, show (i + 1) * 5 = i * 5 + 1 + 1 + 1 + 1 + 1 by omega, show i * 5 + 1 + 1 + 1 + 1 + 1 + 1 = (i * 5 + 1) + 1 + 1 + 1 + 1 + 1 by omega, show i * 5 + 1 + 1 + 1 + 1 + 1 + 2 = (i * 5 + 2) + 1 + 1 + 1 + 1 + 1 by omega, show i * 5 + 1 + 1 + 1 + 1 + 1 + 3 = (i * 5 + 3) + 1 + 1 + 1 + 1 + 1 by omega, show i * 5 + 1 + 1 + 1 + 1 + 1 + 4 = (i * 5 + 4) + 1 + 1 + 1 + 1 + 1 by omega]
    simp only [List.set_cons_succ, ih, cls_cons]
theorem list_set_same {α : Type} {l : List α} {i : Nat} {a : α} (h : l[i]? = some a) : l.set i a = l := by
  obtain ⟨h1, h2⟩ := List.getElem?_eq_some_iff.1 h
  subst h2
  exact List.set_getElem_self h1
section
variable {w : World} {m g n : Nat} {k : Int} {C : List Cl}
/-- a memory of cells C at clock k -/
structure MB (w : World) (m g n : Nat) (k : Int) (C : List Cl) : Prop where
  bm : Box w m #[ptr m, .slice (some ⟨g, 0, none⟩) n n, .int .i64 k] 56
  bg : Box w g (cls C).toArray 119
  hl : C.length = n
theorem findFor_in (h : MB w m g n k C) (i : Nat) (hi : i < n) : Calls Tryz.prog 70 #[ptr m, .int .i64 (i : Int), .int .i64 1] w fun r w' => r = .returned (.tuple #[.pointer (some ⟨g, i * 5, none⟩), .int .i64 0]) ∧ w' = w := by
  have c := find_in h.bm i hi
  have c2 := isOwner_at w 1
  rw [show decide ((1 : Int) ≤ 1) = true from rfl] at c2
  clear h
  unfold ptr at *
  go_enter Tryz.func70, Tryz.ntmps70
  go_wp2_with (first | (go_at_call 76; refine c.mono ?_; rintro e w' ⟨rfl, rfl⟩) | (go_at_call 74; refine c2.mono ?_; rintro e w' ⟨rfl, rfl⟩))
  go_ret2
  simp
theorem findOf_in (h : MB w m g n k C) (i : Nat) (c0 : Cl) (hc : C[i]? = some c0) (ho : c0.own = 1) : Calls Tryz.prog 75 #[ptr m, .int .i64 (i : Int), .int .i64 1] w fun r w' => r = .returned (.tuple #[.pointer (some ⟨g, i * 5, none⟩), .int .i64 0]) ∧ w' = w := by
  have hi : i < n := by rw [← h.hl]; exact (List.getElem?_eq_some_iff.1 hc).1
  have c := findFor_in h i hi
  obtain ⟨a0, a1, a2, a3, a4⟩ := row_get h.bg hc
  rw [ho] at a4
  clear h a0 a1 a2 a3 ho hc
  unfold ptr at *
  go_enter Tryz.func75, Tryz.ntmps75
  go_wp2_with (go_at_call 70; refine c.mono ?_; rintro e w' ⟨rfl, rfl⟩)
  go_ret2
  simp
theorem lock_at (h : MB w m g n k C) (i : Nat) (c0 : Cl) (hc : C[i]? = some c0) (ho : c0.own = 0) : Calls Tryz.prog 50 #[ptr m, .int .i64 (i : Int), .int .i64 1] w fun r w' => r = .returned (.int .i64 0) ∧ Box w' g (cls (C.set i ⟨c0.e, c0.ver, 1⟩)).toArray 119 ∧ Chg (fun y => y = g) w w' := by
  have hil := (List.getElem?_eq_some_iff.1 hc).1
  have hi : i < n := by rw [← h.hl]; exact hil
  have c := findFor_in h i hi
  obtain ⟨a0, a1, a2, a3, a4⟩ := row_get h.bg hc
  rw [ho] at a4
  have fz := h.bg.frozen (i * 5 + 4)
  have HS : Hid (Box (w.setCell ⟨g, i * 5 + 4, none⟩ (.int .i64 1)) g (cls (C.set i ⟨c0.e, c0.ver, 1⟩)).toArray 119 ∧ Chg (fun y => y = g) w (w.setCell ⟨g, i * 5 + 4, none⟩ (.int .i64 1))) := ⟨by
    have := h.bg.store (i * 5 + 4) (.int .i64 1)
    rw [← cls_set hil ⟨c0.e, c0.ver, 1⟩]
    obtain ⟨b0, b1, b2, b3, b4⟩ := cls_get hc
    rw [list_set_same b0, list_set_same b1, list_set_same b2, list_set_same b3]
    simpa using this, (Chg.refl _ w).setCell g _ _ (fun _ => rfl)⟩
  clear h a0 a1 a2 a3 ho hc hil
  unfold ptr at *
  go_enter Tryz.func50, Tryz.ntmps50
  go_wp2_with (go_at_call 70; refine c.mono ?_; rintro e w' ⟨rfl, rfl⟩)
  go_ret
  exact ⟨rfl, HS.out⟩
theorem adv_at (h : MB w m g n k C) (h0 : 0 ≤ k) (hk : k < 1099511627776) : Calls Tryz.prog 71 #[ptr m] w fun r w' => r = .returned (.tuple #[.int .i64 (k + 1), .int .i64 0]) ∧ Box w' m #[ptr m, .slice (some ⟨g, 0, none⟩) n n, .int .i64 (k + 1)] 56 ∧ Chg (fun y => y = m) w w' := by
  have c := madeM h.bm
  have c2 : w.cell? ⟨m, 2, none⟩ = some (.int .i64 k) := h.bm.cell 2
  have fz := h.bm.frozen 2
  have hge : ¬ (1099511627776 : Int) ≤ k := by omega
  have wr1 : IntKind.i64.wrap (k + 1) = k + 1 := by rw [IntKind.wrap_i64]; omega
  have b2 := h.bm.store 2 (.int .i64 (k + 1))
  have d2 : (w.setCell ⟨m, 2, none⟩ (.int .i64 (k + 1))).cell? ⟨m, 2, none⟩ = some (.int .i64 (k + 1)) := b2.cell 2
  have HS : Hid (Box (w.setCell ⟨m, 2, none⟩ (.int .i64 (k + 1))) m #[ptr m, .slice (some ⟨g, 0, none⟩) n n, .int .i64 (k + 1)] 56 ∧ Chg (fun y => y = m) w (w.setCell ⟨m, 2, none⟩ (.int .i64 (k + 1)))) := ⟨b2, (Chg.refl _ w).setCell m _ _ (fun _ => rfl)⟩
  clear h b2
  unfold ptr at *
  go_enter Tryz.func71, Tryz.ntmps71
  go_wp2_with (go_at_call 38; refine c.mono ?_; rintro e w' ⟨rfl, rfl⟩)
  go_ret2
  exact ⟨rfl, HS.out⟩
set_option maxRecDepth 100000 in
set_option maxHeartbeats 2000000 in
theorem pub_at (h : MB w m g n k C) (i : Nat) (c0 : Cl) (hc : C[i]? = some c0) (ho : c0.own = 1) (e : En) (v : Int) (h1 : c0.ver < v) (h2 : v ≤ k) : Calls Tryz.prog 73 #[ptr m, .int .i64 (i : Int), .int .i64 1, ag e, .int .i64 v] w fun r w' => r = .returned (.int .i64 0) ∧ Box w' g (cls (C.set i ⟨e, v, 0⟩)).toArray 119 ∧ Chg (fun y => y = g) w w' := by
  have hil := (List.getElem?_eq_some_iff.1 hc).1
  obtain ⟨w1, hw1⟩ : ∃ w1, w1 = w.alloc (.cells #[.bool e.u, .string e.k, .string e.v] 28) := ⟨_, rfl⟩
  have hb : Below w.heap.size w w1 := by rw [hw1]; exact (Below.refl _ w).alloc (Nat.le_refl _) _
  have hM : MB w1 m g n k C := ⟨h.bm.below hb h.bm.lt, h.bg.below hb h.bg.lt, h.hl⟩
  have bx : Box w1 w.heap.size #[.bool e.u, .string e.k, .string e.v] 28 := by rw [hw1]; exact Box.new w _ 28
  have c := findOf_in hM i c0 hc ho
  obtain ⟨a0, a1, a2, a3, a4⟩ := row_get hM.bg hc
  have cm : w1.cell? ⟨m, 2, none⟩ = some (.int .i64 k) := hM.bm.cell 2
  have x0 : w1.cell? ⟨w.heap.size, 0, none⟩ = some (.bool e.u) := bx.cell 0
  have x1 : w1.cell? ⟨w.heap.size, 1, none⟩ = some (.string e.k) := bx.cell 1
  have x2 : w1.cell? ⟨w.heap.size, 2, none⟩ = some (.string e.v) := bx.cell 2
  have fz := fun q => hM.bg.frozen q
  have k1 : ¬ v ≤ c0.ver := by omega
  have k2 : ¬ k < v := by omega
  have HS : Hid (∀ w', w' = ((((w1.setCell ⟨g, i * 5, none⟩ (.bool e.u)).setCell ⟨g, i * 5 + 1, none⟩ (.string e.k)).setCell ⟨g, i * 5 + 2, none⟩ (.string e.v)).setCell ⟨g, i * 5 + 3, none⟩ (.int .i64 v)).setCell ⟨g, i * 5 + 4, none⟩ (.int .i64 0) → Box w' g (cls (C.set i ⟨e, v, 0⟩)).toArray 119 ∧ Chg (fun y => y = g) w w') := fun w' hw' => by
    subst hw'
    have s0 := ((((hM.bg.store (i * 5) (.bool e.u)).store (i * 5 + 1) (.string e.k)).store (i * 5 + 2) (.string e.v)).store (i * 5 + 3) (.int .i64 v)).store (i * 5 + 4) (.int .i64 0)
    rw [← cls_set hil ⟨e, v, 0⟩]
    refine ⟨by simpa using s0, ?_⟩
    exact (((((Chg.ofBelow (S := fun y => y = g) hb).setCell g _ _ (fun _ => rfl)).setCell g _ _ (fun _ => rfl)).setCell g _ _ (fun _ => rfl)).setCell g _ _ (fun _ => rfl)).setCell g _ _ (fun _ => rfl)
  have HW := hid hw1
  obtain ⟨eu, ek, ev⟩ := e
  obtain ⟨ce, cv, co⟩ := c0
  simp only at *
  clear h hb hM bx hil hc ho hw1
  unfold ptr ag at *
  go_enter Tryz.func73, Tryz.ntmps73
  go_upto_region 1 with fail
  rw [← HW.out]
  go_wp2_with (go_at_call 75; refine c.mono ?_; rintro e w' ⟨rfl, rfl⟩)
  go_ret
  exact ⟨rfl, HS.out _ rfl⟩
end
end Go.Proofs.YtlbjalodjcajfaaGreat
