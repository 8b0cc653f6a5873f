/-
  The steps of a transaction's end, one by one.
-/
import Derived.Test.YtafiopjgegmfoaaTOps
namespace Go.Proofs.Ytafiopjgegmfoaa.T
open Go.RowKit Go.Proofs.Ytafiopjgegmfoaa.C
theorem grow_not {F : Nat → Prop} {w w' : World} {x : Nat} (h : ¬ F x) (hl : x < w.heap.size) : ¬ grow F w w' x := fun e => e.elim h (fun e => by omega)
theorem TX.Ok.same {X Y : TX} (h : X.Ok) (h1 : Y.own = X.own) (h2 : Y.st = X.st) (h3 : Y.left = X.left) : Y.Ok := ⟨by rw [h1]; exact h.own, by rw [h2]; exact h.st, by rw [h3]; exact h.len, by rw [h3]; exact h.bnd⟩
section
variable {w : World} {B g m gm : Nat} {S : M} {X : TX} {F : Nat → Prop}
theorem stay_at (hM : MM w B m gm S) (hX : IsX w B g m X F) (hm : ¬ F m) (hgm : ¬ F gm) : Calls Try.prog 42 #[ptr g] w fun r w' => r = .returned (.int .i64 0) ∧ ToX w B g m gm S { X with ver := X.beg } F w' := by
  obtain ⟨s, lv, P, Q, h⟩ := hX
  have c3 : w.cell? ⟨g, 3, none⟩ = some (.int .i64 X.beg) := h.box.cell 3
  have c7 : w.cell? ⟨g, 7, none⟩ = some (.int .i64 X.ver) := h.box.cell 7
  have f7 := h.box.frozen 7
  have b7 := h.box.store 7 (.int .i64 X.beg)
  have K : Hid (ToX w B g m gm S { X with ver := X.beg } F (w.setCell ⟨g, 7, none⟩ (.int .i64 X.beg))) := ToX.own (lv' := lv) hM h hm hgm (grown_store _ _ _ _) b7 rfl h.left (h.ok.same rfl rfl rfl)
  clear h b7 hM
  unfold ptr at *
  generalize { X with ver := X.beg } = X' at *
  go_enter Try.func42, Try.ntmps42
  go_wp2
  go_ret
  exact ⟨rfl, K.out⟩
theorem adv_at (hM : MM w B m gm S) (hX : IsX w B g m X F) (hm : ¬ F m) (hgm : ¬ F gm) : Calls Try.prog 46 #[ptr g] w fun r w' => r = .returned (.int .i64 S.adv.2.2) ∧ ToX w B g m gm S.adv.1 { X with ver := S.adv.2.1 } F w' := by
  have hX0 := hX
  obtain ⟨s, lv, P, Q, h⟩ := hX
  have c1 : w.cell? ⟨g, 1, none⟩ = some (ptr m) := h.box.cell 1
  have ca := C.adv_at hM.is
  generalize S.adv = R at *
  obtain ⟨R1, R2, R3⟩ := R
  have K : Hid (∀ w1, C.To 65 81 w B m R1 w1 → w1.cell? ⟨g, 7, none⟩ = some (.int .i64 X.ver) ∧ w1.frozen? ⟨g, 7, none⟩ = false ∧ ToX w B g m gm R1 { X with ver := R2 } F (w1.setCell ⟨g, 7, none⟩ (.int .i64 R2))) := fun w1 ht => by
    have t1 := ToX.mem hM hX0 hm hgm ht
    obtain ⟨s1, lv1, P1, Q1, h1⟩ := t1.tx
    have b7 := h1.box.store 7 (.int .i64 R2)
    refine ⟨h1.box.cell 7, h1.box.frozen 7, t1.trans (ToX.own (lv' := lv1) t1.mm h1 (grow_not hm hM.lt.1.2) (grow_not hgm hM.lt.2.2) (grown_store _ _ _ _) b7 rfl h1.left (h1.ok.same rfl rfl rfl))⟩
  clear h hX0 hM
  unfold ptr at *
  generalize { X with ver := R2 } = X' at *
  dsimp only at *
  go_enter Try.func46, Try.ntmps46
  go_wp2_with (go_at_call 56; refine ca.mono ?_; rintro e w1 ⟨rfl, ht⟩; obtain ⟨k1, k2, k3⟩ := K.out w1 ht; have K3 : Hid (ToX w B g m gm R1 X' F (w1.setCell ⟨g, 7, none⟩ (.int .i64 R2))) := k3; clear k3)
  go_ret
  exact ⟨rfl, K3.out⟩
set_option maxRecDepth 100000 in
theorem look_at (hM : MM w B m gm S) (hX : IsX w B g m X F) (i : Int) (hi : (Lit.int .i64 i).wf = true) (hN : Num S) : Calls Try.prog 49 #[ptr g, .int .i64 i] w fun r w' => r = .returned (.int .i64 (X.do1 S (.look i)).1) ∧ ToX w B g m gm (X.do1 S (.look i)).2.1 (X.do1 S (.look i)).2.2 F w' := by
  have H0 : Hid (ToX w B g m gm S X F w) := ToX.refl hM hX
  obtain ⟨s, lv, P, Q, h⟩ := hX
  have c1 : w.cell? ⟨g, 1, none⟩ = some (ptr m) := h.box.cell 1
  have cl := C.load_at hM.is i
  cases hc : S.cell? i with
  | none =>
    have e : X.do1 S (.look i) = (2, S, X) := by simp only [TX.do1, hc]
    rw [e]
    have el : M.load S i = (.int .i64 0, 0, 0, 2) := by simp [M.load, hc]
    rw [el] at cl
    clear h hM el hc e
    unfold ptr at *
    go_enter Try.func49, Try.ntmps49
    go_wp2_with (go_at_call 19; refine cl.mono ?_; rintro e wx ⟨rfl, q, hwx⟩; subst wx)
    go_ret
    exact ⟨rfl, H0.out.drew q⟩
  | some x =>
    obtain ⟨y, hy⟩ := hN i x hc
    have el : M.load S i = (.int .i64 y, x.ver, x.own, 0) := by simp [M.load, hc, hy]
    rw [el] at cl
    have hT : ∀ q, IsT (w.drewN q) B g m X F s lv P Q := fun q => h.stay (Nat.le_refl _) (fun _ _ => rfl)
    have c2 : ∀ q, (w.drewN q).cell? ⟨g, 2, none⟩ = some (.int .i64 X.own) := fun q => (hT q).box.cell 2
    have ca : ∀ q, Calls Try.prog 26 #[ptr g, .int .i64 i, .int .i64 x.ver] (w.drewN q) fun r w' => r = .returned (.bool (!X.oth i x.ver)) ∧ w' = w.drewN q := fun q => agrees_at (hT q) i x.ver hi
    have hb : ((x.own ≠ 0 ∧ x.own ≠ X.own) ∨ (¬ (x.own ≠ 0 ∧ x.own ≠ X.own) ∧ X.oth i x.ver = true)) ∨ (¬ (x.own ≠ 0 ∧ x.own ≠ X.own) ∧ X.oth i x.ver = false) := by
      by_cases a : x.own ≠ 0 ∧ x.own ≠ X.own
      · exact .inl (.inl a)
      · cases X.oth i x.ver
        · exact .inr ⟨a, rfl⟩
        · exact .inl (.inr ⟨a, rfl⟩)
    rcases hb with hb | hb
    · have e : X.do1 S (.look i) = (131, S, X) := by
        simp only [TX.do1, hc]
        rw [if_pos (hb.imp id (fun h => h.2))]
      rw [e]
      clear e
      generalize X.own = ow at *
      generalize X.oth i x.ver = ot at *
      obtain ⟨xv, xk, xo⟩ := x
      dsimp only at *
      clear h hM el hc hT hN hy
      unfold ptr at *
      rcases hb with ⟨a1, a2⟩ | ⟨a1, rfl⟩
      · go_enter Try.func49, Try.ntmps49
        go_wp2_with (first | (go_at_call 19; refine cl.mono ?_; rintro e wx ⟨rfl, q, hwx⟩; subst wx; have d2 := c2 q) | (go_at_call 26; refine (ca q).mono ?_; rintro e wx ⟨rfl, hwx⟩; subst wx))
        go_ret
        exact ⟨rfl, H0.out.drew q⟩
      · by_cases a3 : xo = 0
        · subst a3
          go_enter Try.func49, Try.ntmps49
          go_wp2_with (first | (go_at_call 19; refine cl.mono ?_; rintro e wx ⟨rfl, q, hwx⟩; subst wx; have d2 := c2 q) | (go_at_call 26; refine (ca q).mono ?_; rintro e wx ⟨rfl, hwx⟩; subst wx))
          go_ret
          exact ⟨rfl, H0.out.drew q⟩
        · have a4 : xo = ow := Classical.byContradiction fun e => a1 ⟨a3, e⟩
          subst a4
          clear a1
          go_enter Try.func49, Try.ntmps49
          go_wp2_with (first | (go_at_call 19; refine cl.mono ?_; rintro e wx ⟨rfl, q, hwx⟩; subst wx; have d2 := c2 q) | (go_at_call 26; refine (ca q).mono ?_; rintro e wx ⟨rfl, hwx⟩; subst wx))
          go_ret
          exact ⟨rfl, H0.out.drew q⟩
    · have e : X.do1 S (.look i) = (0, S, X) := by
        simp only [TX.do1, hc]
        rw [if_neg (fun h => Or.elim h hb.1 (fun h => by rw [hb.2] at h; cases h))]
      rw [e]
      clear e
      generalize X.own = ow at *
      generalize X.oth i x.ver = ot at *
      obtain ⟨xv, xk, xo⟩ := x
      dsimp only at *
      clear h hM el hc hT hN hy
      unfold ptr at *
      obtain ⟨a1, rfl⟩ := hb
      by_cases a3 : xo = 0
      · subst a3
        go_enter Try.func49, Try.ntmps49
        go_wp2_with (first | (go_at_call 19; refine cl.mono ?_; rintro e wx ⟨rfl, q, hwx⟩; subst wx; have d2 := c2 q) | (go_at_call 26; refine (ca q).mono ?_; rintro e wx ⟨rfl, hwx⟩; subst wx))
        go_ret
        exact ⟨rfl, H0.out.drew q⟩
      · have a4 : xo = ow := Classical.byContradiction fun e => a1 ⟨a3, e⟩
        subst a4
        clear a1
        go_enter Try.func49, Try.ntmps49
        go_wp2_with (first | (go_at_call 19; refine cl.mono ?_; rintro e wx ⟨rfl, q, hwx⟩; subst wx; have d2 := c2 q) | (go_at_call 26; refine (ca q).mono ?_; rintro e wx ⟨rfl, hwx⟩; subst wx))
        go_ret
        exact ⟨rfl, H0.out.drew q⟩
set_option maxRecDepth 100000 in
set_option maxHeartbeats 2000000 in
theorem pub_at (hM : MM w B m gm S) (hX : IsX w B g m X F) (hm : ¬ F m) (hgm : ¬ F gm) (i : Int) (hi : (Lit.int .i64 i).wf = true) (hN : Num S) : Calls Try.prog 51 #[ptr g, .int .i64 i] w fun r w' => r = .returned (.int .i64 (X.do1 S (.pub i)).1) ∧ ToX w B g m gm (X.do1 S (.pub i)).2.1 (X.do1 S (.pub i)).2.2 F w' := by
  have hX0 := hX
  obtain ⟨s, lv, P, Q, h⟩ := hX
  have c4 : w.cell? ⟨g, 4, none⟩ = some (ptr s) := h.box.cell 4
  have cv := Ytafiopjgegmfoaa.value_at h.sets i hi
  unfold encI at cv
  have cp := C.publish_at (hM.stay rfl rfl : MM w.drew B m gm S).is i X.own ((gt X.S.W i).getD 0) X.ver (fun c hc => hN i c hc)
  have e : X.do1 S (.pub i) = ((S.publish i X.own (.int .i64 ((gt X.S.W i).getD 0)) X.ver).2, (S.publish i X.own (.int .i64 ((gt X.S.W i).getD 0)) X.ver).1, if (S.publish i X.own (.int .i64 ((gt X.S.W i).getD 0)) X.ver).2 = 0 then { X with pub := true } else X) := rfl
  rw [e]
  clear e
  generalize (gt X.S.W i).getD 0 = y at *
  generalize (gt X.S.W i).isSome = z at *
  generalize S.publish i X.own (.int .i64 y) X.ver = R at *
  obtain ⟨R1, R2⟩ := R
  dsimp only at *
  have K : Hid (∀ w1, C.To 65 81 w.drew B m R1 w1 → w1.cell? ⟨g, 1, none⟩ = some (ptr m) ∧ w1.cell? ⟨g, 2, none⟩ = some (.int .i64 X.own) ∧ w1.cell? ⟨g, 7, none⟩ = some (.int .i64 X.ver) ∧ w1.cell? ⟨g, 8, none⟩ = some (.bool X.pub) ∧ w1.frozen? ⟨g, 8, none⟩ = false ∧ ToX w B g m gm R1 X F w1 ∧ ToX w B g m gm R1 { X with pub := true } F (w1.setCell ⟨g, 8, none⟩ (.bool true))) := fun w1 ht => by
    have t1 : ToX w B g m gm R1 X F w1 := ToX.base (⟨rfl, rfl, rfl, Nat.le_refl _, fun _ _ => rfl⟩ : Below w.heap.size w w.drew) hM.hB (ToX.mem (hM.stay rfl rfl : MM w.drew B m gm S) (hX0.stay (Nat.le_refl _) (fun _ _ => rfl)) hm hgm ht)
    have t1' := t1
    obtain ⟨s1, lv1, P1, Q1, h1⟩ := t1.tx
    have b8 := h1.box.store 8 (.bool true)
    refine ⟨h1.box.cell 1, h1.box.cell 2, h1.box.cell 7, h1.box.cell 8, h1.box.frozen 8, t1', t1'.trans (ToX.own (lv' := lv1) t1'.mm h1 (grow_not hm hM.lt.1.2) (grow_not hgm hM.lt.2.2) (grown_store _ _ _ _) b8 rfl h1.left (h1.ok.same rfl rfl rfl))⟩
  have c1 : w.cell? ⟨g, 1, none⟩ = some (ptr m) := h.box.cell 1
  have c2 : w.cell? ⟨g, 2, none⟩ = some (.int .i64 X.own) := h.box.cell 2
  have c7 : w.cell? ⟨g, 7, none⟩ = some (.int .i64 X.ver) := h.box.cell 7
  clear h hX0 hM hN
  generalize { X with pub := true } = X' at *
  obtain ⟨X2, hX2⟩ : ∃ X2, X2 = if R2 = 0 then X' else X := ⟨_, rfl⟩
  rw [← hX2]
  have HX2 : Hid (X2 = if R2 = 0 then X' else X) := hX2
  clear hX2
  generalize X.own = ow at *
  generalize X.ver = vr at *
  generalize X.pub = pb at *
  unfold ptr at *
  go_enter Try.func51, Try.ntmps51
  go_wp2_with (go_at_call 25; refine cv.mono ?_; rintro e wx ⟨rfl, hwx⟩; subst wx)
  go_region_held3 (fun u => u.cell? ⟨g, 1, none⟩ = some (.pointer (some ⟨m, 0, none⟩)) ∧ u.cell? ⟨g, 2, none⟩ = some (.int .i64 ow) ∧ u.cell? ⟨g, 7, none⟩ = some (.int .i64 vr)) (first | exact ⟨(K.out _ ht).1, (K.out _ ht).2.1, (K.out _ ht).2.2.1⟩ | go_keep) ((go_at_call 58; refine Calls.mono cp ?_; rintro e w1 ⟨rfl, ht⟩))
  obtain ⟨_, _, _, k8, f8, t1, t2⟩ := K.out _ ht
  have K1 : Hid (ToX w B g m gm R1 X F w1) := t1
  have K2 : Hid (ToX w B g m gm R1 X' F (w1.setCell ⟨g, 8, none⟩ (.bool true))) := t2
  clear K t1 t2 ht
  by_cases hR : R2 = 0
  · have hR' : (R2 == 0) = true := by simpa using hR
    have e : X2 = X' := by rw [HX2.out, if_pos hR]
    rw [← e] at K2
    clear e HX2
    subst hR
    go_wp2
    go_ret
    exact ⟨rfl, K2.out⟩
  · have hR' : (R2 == 0) = false := by simpa using hR
    have e : X2 = X := by rw [HX2.out, if_neg hR]
    rw [← e] at K1
    clear e HX2
    go_wp2
    go_ret
    exact ⟨rfl, K1.out⟩
end
end Go.Proofs.Ytafiopjgegmfoaa.T
