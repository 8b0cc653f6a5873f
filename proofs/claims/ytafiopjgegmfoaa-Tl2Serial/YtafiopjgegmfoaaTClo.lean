/-
  The closures that do the steps of a transaction's end.
-/
import Derived.Test.YtafiopjgegmfoaaTStp
import Derived.Test.YtafiopjgegmfoaaTEnd
namespace Go.Proofs.Ytafiopjgegmfoaa.T
open Go.RowKit Go.Proofs.Ytafiopjgegmfoaa.C
section
variable {w : World} {B g m gm tb ib : Nat} {S : M} {X : TX} {F : Nat → Prop}
theorem clo_stay (hM : MM w B m gm S) (hX : IsX w B g m X F) (hm : ¬ F m) (hgm : ¬ F gm) (ht : Box w tb #[ptr g] 42) : Calls Try.prog 41 #[ptr tb] w fun r w' => r = .returned (.int .i64 (X.do1 S .stay).1) ∧ ToX w B g m gm (X.do1 S .stay).2.1 (X.do1 S .stay).2.2 F w' := by
  have c := stay_at hM hX hm hgm
  have ct : w.cell? ⟨tb, 0, none⟩ = some (ptr g) := ht.cell 0
  have e : X.do1 S .stay = (0, S, { X with ver := X.beg }) := rfl
  rw [e]
  generalize { X with ver := X.beg } = X' at *
  clear hM hX ht e
  unfold ptr at *
  go_enter Try.func41, Try.ntmps41
  go_wp2_with (go_at_call 42; refine c.mono ?_; rintro e w1 ⟨rfl, k⟩)
  go_ret
  exact ⟨rfl, k⟩
theorem clo_adv (hM : MM w B m gm S) (hX : IsX w B g m X F) (hm : ¬ F m) (hgm : ¬ F gm) (ht : Box w tb #[ptr g] 42) : Calls Try.prog 45 #[ptr tb] w fun r w' => r = .returned (.int .i64 (X.do1 S .adv).1) ∧ ToX w B g m gm (X.do1 S .adv).2.1 (X.do1 S .adv).2.2 F w' := by
  have c := adv_at hM hX hm hgm
  have ct : w.cell? ⟨tb, 0, none⟩ = some (ptr g) := ht.cell 0
  have e : X.do1 S .adv = (S.adv.2.2, S.adv.1, { X with ver := S.adv.2.1 }) := rfl
  rw [e]
  generalize S.adv = R at *
  generalize { X with ver := R.2.1 } = X' at *
  clear hM hX ht e
  unfold ptr at *
  go_enter Try.func45, Try.ntmps45
  go_wp2_with (go_at_call 46; refine c.mono ?_; rintro e w1 ⟨rfl, k⟩)
  go_ret
  exact ⟨rfl, k⟩
theorem clo_look (hM : MM w B m gm S) (hX : IsX w B g m X F) (hN : Num S) (i : Int) (hi : (Lit.int .i64 i).wf = true) (ht : Box w tb #[ptr g] 42) (hb : Box w ib #[.int .i64 i] 3) : Calls Try.prog 48 #[ptr tb, ptr ib] w fun r w' => r = .returned (.int .i64 (X.do1 S (.look i)).1) ∧ ToX w B g m gm (X.do1 S (.look i)).2.1 (X.do1 S (.look i)).2.2 F w' := by
  have c := look_at hM hX i hi hN
  have ct : w.cell? ⟨tb, 0, none⟩ = some (ptr g) := ht.cell 0
  have ci : w.cell? ⟨ib, 0, none⟩ = some (.int .i64 i) := hb.cell 0
  generalize X.do1 S (.look i) = R at *
  clear hM hX ht hb
  unfold ptr at *
  go_enter Try.func48, Try.ntmps48
  go_wp2_with (go_at_call 49; refine c.mono ?_; rintro e w1 ⟨rfl, k⟩)
  go_ret
  exact ⟨rfl, k⟩
theorem clo_pub (hM : MM w B m gm S) (hX : IsX w B g m X F) (hm : ¬ F m) (hgm : ¬ F gm) (hN : Num S) (i : Int) (hi : (Lit.int .i64 i).wf = true) (ht : Box w tb #[ptr g] 42) (hb : Box w ib #[.int .i64 i] 3) : Calls Try.prog 50 #[ptr tb, ptr ib] w fun r w' => r = .returned (.int .i64 (X.do1 S (.pub i)).1) ∧ ToX w B g m gm (X.do1 S (.pub i)).2.1 (X.do1 S (.pub i)).2.2 F w' := by
  have c := pub_at hM hX hm hgm i hi hN
  have ct : w.cell? ⟨tb, 0, none⟩ = some (ptr g) := ht.cell 0
  have ci : w.cell? ⟨ib, 0, none⟩ = some (.int .i64 i) := hb.cell 0
  generalize X.do1 S (.pub i) = R at *
  clear hM hX ht hb
  unfold ptr at *
  go_enter Try.func50, Try.ntmps50
  go_wp2_with (go_at_call 51; refine c.mono ?_; rintro e w1 ⟨rfl, k⟩)
  go_ret
  exact ⟨rfl, k⟩
set_option maxRecDepth 100000 in
set_option maxHeartbeats 1000000 in
theorem clo_lock (hM : MM w B m gm S) (hX : IsX w B g m X F) (hm : ¬ F m) (hgm : ¬ F gm) (i : Int) (ht : Box w tb #[ptr g] 42) (hb : Box w ib #[.int .i64 i] 3) (ft : F tb) (fi : F ib) : Calls Try.prog 43 #[ptr tb, ptr ib] w fun r w' => r = .returned (.int .i64 (X.do1 S (.lock i)).1) ∧ ToX w B g m gm (X.do1 S (.lock i)).2.1 (X.do1 S (.lock i)).2.2 F w' := by
  have hX0 := hX
  obtain ⟨s, lv, P, Q, h⟩ := hX
  have e : X.do1 S (.lock i) = ((S.lock i X.own).2, (S.lock i X.own).1, X) := rfl
  rw [e]
  have cl := C.lock_at (hM.stay rfl rfl : MM w.drew B m gm S).is i X.own
  have c1 : w.cell? ⟨g, 1, none⟩ = some (ptr m) := h.box.cell 1
  have c2 : w.cell? ⟨g, 2, none⟩ = some (.int .i64 X.own) := h.box.cell 2
  have ct : w.cell? ⟨tb, 0, none⟩ = some (ptr g) := ht.cell 0
  have ci : w.cell? ⟨ib, 0, none⟩ = some (.int .i64 i) := hb.cell 0
  generalize S.lock i X.own = R at *
  have K : Hid (∀ w1, C.To 65 81 w.drew B m R.1 w1 → ToX w B g m gm R.1 X F w1 ∧ w1.cell? ⟨tb, 0, none⟩ = some (ptr g) ∧ w1.cell? ⟨g, 1, none⟩ = some (ptr m) ∧ w1.cell? ⟨ib, 0, none⟩ = some (.int .i64 i) ∧ w1.cell? ⟨g, 2, none⟩ = some (.int .i64 X.own)) := fun w1 hto => by
    have t1 : ToX w B g m gm R.1 X F w1 := ToX.base (⟨rfl, rfl, rfl, Nat.le_refl _, fun _ _ => rfl⟩ : Below w.heap.size w w.drew) hM.hB (ToX.mem (hM.stay rfl rfl : MM w.drew B m gm S) (hX0.stay (Nat.le_refl _) (fun _ _ => rfl)) hm hgm hto)
    have hh := (hM.stay rfl rfl : MM w.drew B m gm S).to hto
    have st : ∀ x, F x → w1.heap[x]? = w.heap[x]? := fun x hx => hh.2.2 x (h.fB x hx).2 (fun e => e.elim (fun e => hm (e ▸ hx)) (fun e => hgm (e ▸ hx)))
    have bt : Box w1 tb #[ptr g] 42 := (st tb ft).trans ht
    have bi : Box w1 ib #[.int .i64 i] 3 := (st ib fi).trans hb
    have bg : Box w1 g (cells g m s lv X) 71 := (st g ((h.fF g).2 (.inr h.qg))).trans h.box
    exact ⟨t1, bt.cell 0, bg.cell 1, bi.cell 0, bg.cell 2⟩
  clear hM hX0 h ht hb e
  generalize X.own = ow at *
  unfold ptr at *
  go_enter Try.func43, Try.ntmps43
  go_wp2_with fail
  go_region_held3 (fun u => u.cell? ⟨tb, 0, none⟩ = some (.pointer (some ⟨g, 0, none⟩)) ∧ u.cell? ⟨g, 1, none⟩ = some (.pointer (some ⟨m, 0, none⟩)) ∧ u.cell? ⟨ib, 0, none⟩ = some (.int .i64 i) ∧ u.cell? ⟨g, 2, none⟩ = some (.int .i64 ow)) (first | exact (K.out _ hto).2 | go_keep) ((go_at_call 44; refine Calls.mono cl ?_; rintro e w1 ⟨rfl, hto⟩))
  go_wp2
  go_ret
  exact ⟨rfl, (K.out _ hto).1⟩
end
end Go.Proofs.Ytafiopjgegmfoaa.T
