/-
  The document's own sets: Keep, Undo.
-/
import Derived.Test.YtdneikfocefnfaaRfCut
namespace Go.Proofs.Ytdneikfocefnfaa
open Go.RowKit
set_option maxRecDepth 100000 in
set_option maxHeartbeats 4000000 in
theorem qundo_at {w : World} {B r o : Nat} {t : TypeId} {S : SS Int} {F : Nat → Prop} {cs : Array Value} (h0 : IsR w B r o t S F cs) :
    Calls Try.prog 17 #[.pointer (some ⟨r, o, none⟩)] w fun e w' => e = .returned (.int .i64 S.undo.1) ∧ ToR w B r o t S.undo.2 F cs w' := by
  have H0 : Hid (ToR w B r o t S F cs w) := ToR.refl h0
  obtain ⟨vR, vW, vM, Y, hq⟩ := h0
  have c2 : w.cell? ⟨r, o + 2, none⟩ = some vM := (hq.box.cell _).trans hq.cM
  by_cases hm : S.M.length = 0
  · have e1 : Hid (S.undo = (136, S)) := by unfold Hid SS.undo; rw [if_pos hm]
    obtain ⟨a, c, e0⟩ := ownsRow_slice hq.rM
    rw [hq.lM, hm] at e0
    subst e0
    clear hq
    generalize S.undo = q at *
    go_enter Try.func17, Try.ntmps17
    go_wp2
    go_ret
    rw [e1.out]; exact ⟨rfl, H0.out⟩
  obtain ⟨k, gM, c, hk, hk2, hk7, e0, hkc⟩ := hq.len hm
  subst e0
  have HQ0 : Hid (IsQ w B r o t S F cs vR vW (.slice (some ⟨gM, 0, none⟩) (k + 1) c) Y ∧ Y.length = k + 1) := ⟨hq, hk⟩
  have wk : IntKind.i64.wrap ((k : Int) + 1 - 1) = (k : Int) := by rw [IntKind.wrap_i64]; omega
  have wk2 : IntKind.i64.wrap (((k + 1 : Nat) : Int) - 1) = (k : Int) := by rw [IntKind.wrap_i64]; omega
  have wk3 : IntKind.i64.wrap (k : Int) = (k : Int) := by rw [IntKind.wrap_i64]; omega
  have wk4 : ((k : Int)).toNat = k := by omega
  have hk00 : (0 : Int) ≤ (k : Int) := by omega
  have hk0 : ¬ ((k : Int) + 1 = 0) := by omega
  have hk1 : ((k : Int) + 1 == 0) = false := by simp; omega
  have hkk : (k : Int) ≤ (c : Int) := by omega
  have fM : w.frozen? ⟨r, o + 2, none⟩ = false := hq.box.frozen _
  have e1 : Hid (S.undo = (0, { S with W := S.M.getLastD [], M := S.M.dropLast })) := by unfold Hid SS.undo; rw [if_neg hm]
  obtain ⟨y, hy⟩ : ∃ y, y = Y[k]'(by omega) := ⟨_, rfl⟩
  obtain ⟨ay, cy0, hys⟩ := ownsRow_slice (hq.rY k (by omega) (by omega))
  rw [← hy] at hys
  generalize (S.M[k]'(by omega)).length = ny at hys
  have cy : w.cell? ⟨gM, k, none⟩ = some y := by
    obtain ⟨g', cap, e, x1⟩ := ownsRow_cell hq.rM k (by omega)
    injection e with e
    injection e with e
    injection e with e
    rw [e, x1, hy, List.getElem?_eq_getElem]
  have fW : w.frozen? ⟨r, o + 1, none⟩ = false := hq.box.frozen _
  have c1 : w.cell? ⟨r, o + 1, none⟩ = some vW := (hq.box.cell _).trans hq.cW
  have b1 := hq.box.store (o + 1) y
  have f1 : (w.setCell ⟨r, o + 1, none⟩ y).frozen? ⟨r, o + 2, none⟩ = false := b1.frozen _
  have d2 : (w.setCell ⟨r, o + 1, none⟩ y).cell? ⟨r, o + 2, none⟩ = some (.slice (some ⟨gM, 0, none⟩) (k + 1) c) := by
    rw [Box.cell b1, Array.getElem?_setIfInBounds_ne (by omega)]
    exact hq.cM
  have K : Hid (ToR w B r o t { S with W := S.M.getLastD [], M := S.M.dropLast } F cs ((w.setCell ⟨r, o + 1, none⟩ y).setCell ⟨r, o + 2, none⟩ (.slice (some ⟨gM, 0, none⟩) k c))) := by
    have hgr := grown_trans (grown_store w r (o + 1) y) (grown_store (w.setCell ⟨r, o + 1, none⟩ y) r (o + 2) (.slice (some ⟨gM, 0, none⟩) k c))
    exact hq.back hk ((Below.refl B w).grown hgr hq.hB (fun x e => by cases e; exact (hq.fB r hq.fr).1)) (Upd.grown hgr (fun x e => by cases e; exact .inl hq.fr)) (by rw [← hy]; exact b1.store (o + 2) _) (fun x hx hxr => hgr.block x hx (fun e => hxr (by injection e)))
  clear hq hm hk hk2 b1 hy HQ0
  subst hys
  generalize S.undo = q at *
  go_enter Try.func17, Try.ntmps17
  go_wp2
  go_ret
  rw [e1.out]; exact ⟨rfl, K.out⟩
set_option maxRecDepth 100000 in
set_option maxHeartbeats 4000000 in
theorem qkeep_at {w : World} {B r o : Nat} {t : TypeId} {S : SS Int} {F : Nat → Prop} {cs : Array Value} (h0 : IsR w B r o t S F cs) :
    Calls Try.prog 15 #[.pointer (some ⟨r, o, none⟩)] w fun e w' => e = .returned (.int .i64 S.keep.1) ∧ ToR w B r o t S.keep.2 F cs w' := by
  have H0 : Hid (ToR w B r o t S F cs w) := ToR.refl h0
  obtain ⟨vR, vW, vM, Y, hq⟩ := h0
  have c2 : w.cell? ⟨r, o + 2, none⟩ = some vM := (hq.box.cell _).trans hq.cM
  by_cases hm : S.M.length = 0
  · have e1 : Hid (S.keep = (136, S)) := by unfold Hid SS.keep; rw [if_pos hm]
    obtain ⟨a, c, e0⟩ := ownsRow_slice hq.rM
    rw [hq.lM, hm] at e0
    subst e0
    clear hq
    generalize S.keep = q at *
    go_enter Try.func15, Try.ntmps15
    go_wp2
    go_ret
    rw [e1.out]; exact ⟨rfl, H0.out⟩
  obtain ⟨k, gM, c, hk, hk2, hk7, e0, hkc⟩ := hq.len hm
  subst e0
  have HQ0 : Hid (IsQ w B r o t S F cs vR vW (.slice (some ⟨gM, 0, none⟩) (k + 1) c) Y ∧ Y.length = k + 1) := ⟨hq, hk⟩
  have wk : IntKind.i64.wrap ((k : Int) + 1 - 1) = (k : Int) := by rw [IntKind.wrap_i64]; omega
  have wk2 : IntKind.i64.wrap (((k + 1 : Nat) : Int) - 1) = (k : Int) := by rw [IntKind.wrap_i64]; omega
  have wk3 : IntKind.i64.wrap (k : Int) = (k : Int) := by rw [IntKind.wrap_i64]; omega
  have wk4 : ((k : Int)).toNat = k := by omega
  have hk00 : (0 : Int) ≤ (k : Int) := by omega
  have hk0 : ¬ ((k : Int) + 1 = 0) := by omega
  have hk1 : ((k : Int) + 1 == 0) = false := by simp; omega
  have hkk : (k : Int) ≤ (c : Int) := by omega
  have fM : w.frozen? ⟨r, o + 2, none⟩ = false := hq.box.frozen _
  have e1 : Hid (S.keep = (0, { S with M := S.M.dropLast })) := by unfold Hid SS.keep; rw [if_neg hm]
  have K : Hid (ToR w B r o t { S with M := S.M.dropLast } F cs (w.drew.setCell ⟨r, o + 2, none⟩ (.slice (some ⟨gM, 0, none⟩) k c))) := by
    have hgr := grown_store w.drew r (o + 2) (.slice (some ⟨gM, 0, none⟩) k c)
    have q2 : IsQ w.drew B r o t S F cs vR vW (.slice (some ⟨gM, 0, none⟩) (k + 1) c) Y := hq.stay (Nat.le_refl _) (fun _ _ => rfl)
    exact (q2.cut hk ((Below.refl B w.drew).grown hgr hq.hB (fun x e => by cases e; exact (hq.fB r hq.fr).1)) (Upd.grown hgr (fun x e => by cases e; exact .inl hq.fr)) (q2.box.store (o + 2) _) (fun x hx hxr => hgr.block x hx (fun e => hxr (by injection e)))).drew
  have HCS : Hid (∀ q ∈ [((⟨r, o + 2, none⟩ : Addr), (.slice (some ⟨gM, 0, none⟩) (k + 1) c : Value))], w.drew.cell? q.1 = some q.2) := fun q hq' => by
    simp at hq'
    subst hq'
    exact c2
  have fM2 : w.drew.frozen? ⟨r, o + 2, none⟩ = false := fM
  have c22 : w.drew.cell? ⟨r, o + 2, none⟩ = some (.slice (some ⟨gM, 0, none⟩) (k + 1) c) := c2
  clear hq hm hk hk2
  generalize S.keep = q at *
  go_enter Try.func15, Try.ntmps15
  go_wp2_with fail
  refine wp_region_any (by kernel_rfl) ?_
  refine wpAny_take (i := 0) (v := ?_) rfl (by kernel_rfl) (by kernel_rfl) (by kernel_rfl) (fun _ _ _ h => h) (Or.inl ⟨by rfl, ?_⟩) ?_
  rotate_left
  · intro u
    go_simp
    with_reducible rfl
  simp only [Act.put, List.setIfInBounds_toArray, List.set_cons_zero, List.set_cons_succ, List.getElem_toArray, List.getElem_cons_zero]
  refine wpAny_take (i := 1) (v := ?_) rfl (by kernel_rfl) (by kernel_rfl) (by kernel_rfl) (fun _ _ _ h => h) (Or.inl ⟨by rfl, ?_⟩) ?_
  rotate_left
  · intro u
    go_simp
    with_reducible rfl
  simp only [Act.put, List.setIfInBounds_toArray, List.set_cons_zero, List.set_cons_succ, List.getElem_toArray, List.getElem_cons_zero, List.getElem_cons_succ]
  refine wpAny_take (i := 2) (v := ?_) rfl (by kernel_rfl) (by kernel_rfl) (by kernel_rfl) (fun _ _ _ h => h) (Or.inl ⟨by rfl, ?_⟩) ?_
  rotate_left
  · intro u
    go_simp
    with_reducible rfl
  simp only [Act.put, List.setIfInBounds_toArray, List.set_cons_zero, List.set_cons_succ, List.getElem_toArray, List.getElem_cons_zero, List.getElem_cons_succ]
  refine wpAny_take (i := 3) (v := ?_) rfl (by kernel_rfl) (by kernel_rfl) (by kernel_rfl) (fun _ _ _ h => h) (Or.inl ⟨by rfl, ?_⟩) ?_
  rotate_left
  · intro u
    go_simp
    with_reducible rfl
  simp only [Act.put, List.setIfInBounds_toArray, List.set_cons_zero, List.set_cons_succ, List.getElem_toArray, List.getElem_cons_zero, List.getElem_cons_succ]
  refine wpAny_take (i := 5) (v := ?_) rfl (by kernel_rfl) (by kernel_rfl) (by kernel_rfl) (fun _ _ _ h => h) (Or.inl ⟨by rfl, ?_⟩) ?_
  rotate_left
  · intro u
    go_simp
    with_reducible rfl
  simp only [Act.put, List.setIfInBounds_toArray, List.set_cons_zero, List.set_cons_succ, List.getElem_toArray, List.getElem_cons_zero, List.getElem_cons_succ]
  refine wpAny_take (i := 6) (v := ?_) rfl (by kernel_rfl) (by kernel_rfl) (by kernel_rfl) (fun _ _ _ h => h) (Or.inl ⟨by rfl, ?_⟩) ?_
  rotate_left
  · intro u
    go_simp
    with_reducible rfl
  simp only [Act.put, List.setIfInBounds_toArray, List.set_cons_zero, List.set_cons_succ, List.getElem_toArray, List.getElem_cons_zero, List.getElem_cons_succ]
  refine wpAny_take (i := 7) (v := ?_) rfl (by kernel_rfl) (by kernel_rfl) (by kernel_rfl) (fun _ _ _ h => h) (Or.inl ⟨by rfl, ?_⟩) ?_
  rotate_left
  · intro u
    go_simp
    with_reducible rfl
  simp only [Act.put, List.setIfInBounds_toArray, List.set_cons_zero, List.set_cons_succ, List.getElem_toArray, List.getElem_cons_zero, List.getElem_cons_succ]
  refine wpAny_of_E (C := SlotsCells [(12, .pointer (some ⟨r, o + 2, none⟩)), (16, .pointer (some ⟨r, o + 2, none⟩))] [(⟨r, o + 2, none⟩, .slice (some ⟨gM, 0, none⟩) (k + 1) c)]) (late := [14]) _ _ _ _ ?_
  refine wpAnyE_take (i := 4) (v := .slice (some ⟨gM, 0, none⟩) (k + 1) c) rfl (by kernel_rfl) (by kernel_rfl) (by kernel_rfl) (by kernel_rfl) (by kernel_rfl) (by kernel_rfl) (fun _ _ _ h => h) ?_ (fun fr u h => (SlotsCells.put 13 _ (by rfl)).1 h) (fun fr u h => (SlotsCells.put 13 _ (by rfl)).2 h) ?_ ?_
  · intro fr u hh
    obtain ⟨e1, e2⟩ := hh.load (s := 12) (p := ⟨r, o + 2, none⟩) (v := .slice (some ⟨gM, 0, none⟩) (k + 1) c) (by simp) (by simp)
    exact ⟨rfl, by simp [execOp, e1, go_sem, e2]⟩
  · exact ⟨fun q hq => by simp at hq; rcases hq with rfl | rfl <;> rfl, HCS.out⟩
  simp only [Act.put, List.setIfInBounds_toArray, List.set_cons_zero, List.set_cons_succ, List.getElem_toArray, List.getElem_cons_zero, List.getElem_cons_succ]
  refine wpAnyE_take (i := 8) (v := .slice (some ⟨gM, 0, none⟩) (k + 1) c) rfl (by kernel_rfl) (by kernel_rfl) (by kernel_rfl) (by kernel_rfl) (by kernel_rfl) (by kernel_rfl) (fun _ _ _ h => h) ?_ (fun fr u h => (SlotsCells.put 17 _ (by rfl)).1 h) (fun fr u h => (SlotsCells.put 17 _ (by rfl)).2 h) ?_ ?_
  · intro fr u hh
    obtain ⟨e1, e2⟩ := hh.load (s := 16) (p := ⟨r, o + 2, none⟩) (v := .slice (some ⟨gM, 0, none⟩) (k + 1) c) (by simp) (by simp)
    exact ⟨rfl, by simp [execOp, e1, go_sem, e2]⟩
  · exact ⟨fun q hq => by simp at hq; rcases hq with rfl | rfl <;> rfl, HCS.out⟩
  simp only [Act.put, List.setIfInBounds_toArray, List.set_cons_zero, List.set_cons_succ, List.getElem_toArray, List.getElem_cons_zero, List.getElem_cons_succ]
  refine wpAnyE_pure (i := 9) (v := ?_) rfl (by kernel_rfl) (by kernel_rfl) (by kernel_rfl) (by kernel_rfl) (fun _ _ _ h => h) (fun fr u h => (SlotsCells.put 18 _ (by rfl)).1 h) (fun fr u h => (SlotsCells.put 18 _ (by rfl)).2 h) (.inr ⟨fun q hq => by simp at hq; rcases hq with rfl | rfl <;> rfl, HCS.out⟩) (Or.inl ⟨by rfl, ?_⟩) ?_
  rotate_left
  · intro u
    go_simp
    with_reducible rfl
  simp only [Act.put, List.setIfInBounds_toArray, List.set_cons_zero, List.set_cons_succ, List.getElem_toArray, List.getElem_cons_zero, List.getElem_cons_succ]
  refine wpAnyE_pure (i := 10) (v := ?_) rfl (by kernel_rfl) (by kernel_rfl) (by kernel_rfl) (by kernel_rfl) (fun _ _ _ h => h) (fun fr u h => (SlotsCells.put 19 _ (by rfl)).1 h) (fun fr u h => (SlotsCells.put 19 _ (by rfl)).2 h) (.inr ⟨fun q hq => by simp at hq; rcases hq with rfl | rfl <;> rfl, HCS.out⟩) (Or.inl ⟨by rfl, ?_⟩) ?_
  rotate_left
  · intro u
    go_simp
    with_reducible rfl
  simp only [Act.put, List.setIfInBounds_toArray, List.set_cons_zero, List.set_cons_succ, List.getElem_toArray, List.getElem_cons_zero, List.getElem_cons_succ]
  refine wpAnyE_pure (i := 11) (v := ?_) rfl (by kernel_rfl) (by kernel_rfl) (by kernel_rfl) (by kernel_rfl) (fun _ _ _ h => h) (fun fr u h => (SlotsCells.put 20 _ (by rfl)).1 h) (fun fr u h => (SlotsCells.put 20 _ (by rfl)).2 h) (.inr ⟨fun q hq => by simp at hq; rcases hq with rfl | rfl <;> rfl, HCS.out⟩) (Or.inl ⟨by rfl, ?_⟩) ?_
  rotate_left
  · intro u
    go_simp
    with_reducible rfl
  simp only [Act.put, List.setIfInBounds_toArray, List.set_cons_zero, List.set_cons_succ, List.getElem_toArray, List.getElem_cons_zero, List.getElem_cons_succ]
  refine wpAnyE_pure (i := 12) (v := ?_) rfl (by kernel_rfl) (by kernel_rfl) (by kernel_rfl) (by kernel_rfl) (fun _ _ _ h => h) (fun fr u h => (SlotsCells.put 21 _ (by rfl)).1 h) (fun fr u h => (SlotsCells.put 21 _ (by rfl)).2 h) (.inr ⟨fun q hq => by simp at hq; rcases hq with rfl | rfl <;> rfl, HCS.out⟩) (Or.inl ⟨by rfl, ?_⟩) ?_
  rotate_left
  · intro u
    go_simp
    with_reducible rfl
  simp only [Act.put, List.setIfInBounds_toArray, List.set_cons_zero, List.set_cons_succ, List.getElem_toArray, List.getElem_cons_zero, List.getElem_cons_succ]
  refine wpAnyE_pure (i := 13) (v := ?_) rfl (by kernel_rfl) (by kernel_rfl) (by kernel_rfl) (by kernel_rfl) (fun _ _ _ h => h) (fun fr u h => (SlotsCells.put 22 _ (by rfl)).1 h) (fun fr u h => (SlotsCells.put 22 _ (by rfl)).2 h) (.inr ⟨fun q hq => by simp at hq; rcases hq with rfl | rfl <;> rfl, HCS.out⟩) (Or.inl ⟨by rfl, ?_⟩) ?_
  rotate_left
  · intro u
    go_simp
    with_reducible rfl
  simp only [Act.put, List.setIfInBounds_toArray, List.set_cons_zero, List.set_cons_succ, List.getElem_toArray, List.getElem_cons_zero, List.getElem_cons_succ]
  refine wpAnyE_some (rs := [14]) (by kernel_rfl) (by simp) (fun i hi => ?_)
  simp only [List.mem_cons, List.not_mem_nil, or_false] at hi
  subst hi
  refine wpOp_step rfl (fun Kc hKc => ?_)
  go_simp
  refine hKc _ _ ⟨.inr (.inl rfl), ?_⟩
  clear hKc Kc
  refine wpAnyE_done (by kernel_rfl) ?_ _
  go_wp2
  go_ret
  rw [e1.out]; exact ⟨rfl, K.out⟩
end Go.Proofs.Ytdneikfocefnfaa
