/-
  Mark.
-/
import Derived.Test.YtafiopjgegmfoaaGreatClone
import Derived.Deep.Cut
namespace Go.Proofs.YtafiopjgegmfoaaGreat
open Go.RowKit Go.Maps

set_option maxRecDepth 100000 in
set_option maxHeartbeats 2000000 in
theorem mark_at {w : World} {B g : Nat} {S : SS Int} {F : Nat → Prop} (h : IsS encI 88 85 w B g S F) :
    Calls Tryz.prog 73 #[ptr g] w fun r w' => r = .returned (.int .i64 (S.mark).1) ∧ To encI 88 85 w B g (S.mark).2 F w' := by
  have hto := To.refl h
  obtain ⟨rb, wb, v, X, h⟩ := h
  have c := isMade_at h.box
  have c3 : w.cell? ⟨g, 3, none⟩ = some v := h.box.cell 3
  have c2 : w.cell? ⟨g, 2, none⟩ = some (mp wb) := h.box.cell 2
  have hm : S.M.length = X.length := by rw [h.em]; simp
  obtain ⟨a, cap, rfl⟩ := ownsRow_slice h.row
  by_cases h8 : 8 ≤ X.length
  · have e1 : S.mark = (3, S) := by unfold SS.mark; rw [if_pos (by omega)]
    rw [e1]
    have h8' : (8 : Int) ≤ (X.length : Int) := by omega
    clear h hm e1
    unfold ptr mp at *
    go_enter Tryz.func73, Tryz.ntmps73
    go_wp2_with (go_at_call 62; refine c.mono ?_; rintro e w' ⟨rfl, rfl⟩)
    go_ret
    exact ⟨rfl, hto⟩
  · have e1 : S.mark = (0, { S with M := S.M ++ [S.W] }) := by unfold SS.mark; rw [if_neg (by omega)]
    rw [e1]
    clear hto
    have h8' : ¬ (8 : Int) ≤ (X.length : Int) := by omega
    obtain ⟨es, cl, hes, hcl⟩ := h.wr.clone
    have cc := clone_at (w := w.drew) hes
    obtain ⟨i0, hi0, hz0, hz1, hz2⟩ := info_parts infoM
    have fin := (h.stay (w' := w.drew) (Nat.le_refl _) (fun _ _ => rfl)).marked hcl (by decide) (by omega)
    have hB : B ≤ w.heap.size := by have := h.fB g h.fg; omega
    generalize X.length = n at *
    generalize X.map (fun p => mp p.1) = xs at *
    generalize { S with M := S.M ++ [S.W] } = S' at *
    clear h hm e1 hes hcl
    unfold ptr mp at *
    have C3b : (w.alloc (.map es cl)).cell? ⟨g, 3, none⟩ = some (.slice a n cap) := fin.c3.2.1
    have C3c : ((w.alloc (.map es cl)).alloc (.cells #[.map (some w.heap.size)] 85)).cell? ⟨g, 3, none⟩ = some (.slice a n cap) := fin.c3.2.2
    have C2 := fin.c2
    have FIN : Hid (Mrk encI 88 85 w.drew (w.drew.alloc (.map es cl)) ((w.drew.alloc (.map es cl)).alloc (.cells #[.map (some w.drew.heap.size)] 85)) B g S' F wb (.slice a n cap) n xs) := fin
    clear fin
    go_enter Tryz.func73, Tryz.ntmps73
    go_upto_region 5 with (go_at_call 62; refine c.mono ?_; rintro e w' ⟨rfl, rfl⟩)
    refine wp_region_noPanic ?_
    refine wp_region_held_drew (S := fun u => u.cell? ⟨g, 2, none⟩ = some (.map (some wb))) (by kernel_rfl) C2.1 (fun hHeld => ?_)
    refine wpAnyH_take (i := 0) (v := ?_) rfl (by kernel_rfl) (by kernel_rfl) (by kernel_rfl) (fun _ _ _ h => h) (Or.inl ⟨by rfl, ?_⟩) (by assumption) ?_
    rotate_left
    · intro w hSw
      go_simp
      with_reducible rfl
    simp only [Act.put, List.setIfInBounds_toArray, List.set_cons_zero, List.set_cons_succ, List.getElem_toArray, List.getElem_cons_zero]
    refine wpAnyH_take (i := 1) (v := ?_) rfl (by kernel_rfl) (by kernel_rfl) (by kernel_rfl) (fun _ _ _ h => h) (Or.inl ⟨by rfl, ?_⟩) (by assumption) ?_
    rotate_left
    · intro w hSw
      go_simp
      with_reducible rfl
    simp only [Act.put, List.setIfInBounds_toArray, List.set_cons_zero, List.set_cons_succ, List.getElem_toArray, List.getElem_cons_zero, List.getElem_cons_succ]
    refine wpAnyH_take (i := 2) (v := ?_) rfl (by kernel_rfl) (by kernel_rfl) (by kernel_rfl) (fun _ _ _ h => h) (Or.inl ⟨by rfl, ?_⟩) (by assumption) ?_
    rotate_left
    · intro w hSw
      go_simp
      with_reducible rfl
    simp only [Act.put, List.setIfInBounds_toArray, List.set_cons_zero, List.set_cons_succ, List.getElem_toArray, List.getElem_cons_zero, List.getElem_cons_succ]
    refine wpAnyH_take (i := 3) (v := ?_) rfl (by kernel_rfl) (by kernel_rfl) (by kernel_rfl) (fun _ _ _ h => h) (Or.inl ⟨by rfl, ?_⟩) (by assumption) ?_
    rotate_left
    · intro w hSw
      go_simp
      with_reducible rfl
    simp only [Act.put, List.setIfInBounds_toArray, List.set_cons_zero, List.set_cons_succ, List.getElem_toArray, List.getElem_cons_zero, List.getElem_cons_succ]
    refine wpAnyH_take (i := 5) (v := ?_) rfl (by kernel_rfl) (by kernel_rfl) (by kernel_rfl) (fun _ _ _ h => h) (Or.inl ⟨by rfl, ?_⟩) (by assumption) ?_
    rotate_left
    · intro w hSw
      go_simp
      with_reducible rfl
    simp only [Act.put, List.setIfInBounds_toArray, List.set_cons_zero, List.set_cons_succ, List.getElem_toArray, List.getElem_cons_zero, List.getElem_cons_succ]
    refine wpAnyH_take (i := 6) (v := ?_) rfl (by kernel_rfl) (by kernel_rfl) (by kernel_rfl) (fun _ _ _ h => h) (Or.inl ⟨by rfl, ?_⟩) (by assumption) ?_
    rotate_left
    · intro w hSw
      go_simp
      with_reducible rfl
    simp only [Act.put, List.setIfInBounds_toArray, List.set_cons_zero, List.set_cons_succ, List.getElem_toArray, List.getElem_cons_zero, List.getElem_cons_succ]
    refine wpAnyH_take (i := 7) (v := ?_) rfl (by kernel_rfl) (by kernel_rfl) (by kernel_rfl) (fun _ _ _ h => h) (Or.inl ⟨by rfl, ?_⟩) (by assumption) ?_
    rotate_left
    · intro w hSw
      go_simp
      with_reducible rfl
    simp only [Act.put, List.setIfInBounds_toArray, List.set_cons_zero, List.set_cons_succ, List.getElem_toArray, List.getElem_cons_zero, List.getElem_cons_succ]
    refine wpAnyH_take (i := 8) (v := ?_) rfl (by kernel_rfl) (by kernel_rfl) (by kernel_rfl) (fun _ _ _ h => h) (Or.inl ⟨by rfl, ?_⟩) (by assumption) ?_
    rotate_left
    · intro w hSw
      go_simp
      with_reducible rfl
    simp only [Act.put, List.setIfInBounds_toArray, List.set_cons_zero, List.set_cons_succ, List.getElem_toArray, List.getElem_cons_zero, List.getElem_cons_succ]
    refine wpAnyH_ready (rs := [4, 9]) (by kernel_rfl) (by simp) ?_
    refine AllReadyH.cons rfl (fun K hK => ?_) (AllReadyH.cons rfl (fun K hK => ?_) AllReadyH.nil)
    · go_simp
      refine hK.out _ _ C2.1 (fun hHeld => ?_)
      clear hK K
      refine wpAnyH_ready (rs := [9]) (by kernel_rfl) (by simp) ?_
      refine AllReadyH.cons rfl (fun K hK => ?_) AllReadyH.nil
      go_simp
      refine Calls.mono cc ?_
      rintro e w1 ⟨rfl, rfl⟩
      refine hK.out _ _ C2.2.1 (fun hHeld => ?_)
      clear hK K
      refine wpAnyH_ready (rs := [10]) (by kernel_rfl) (by simp) ?_
      refine AllReadyH.cons rfl (fun K hK => ?_) AllReadyH.nil
      go_simp
      refine hK.out _ _ C2.2.2 (fun hHeld => ?_)
      clear hK K
      refine wpAnyH_ready (rs := [11]) (by kernel_rfl) (by simp) ?_
      refine AllReadyH.cons rfl (fun K hK => ?_) AllReadyH.nil
      refine step_append_lies _ (by rfl) _ _ _ (by rfl) B 85 i0 _ 1 8 Tryz.underlying86 hi0 hz0 hz1 hz2 rfl (by omega) (.slice a n cap) n xs (by rfl) FIN.out.own
        ⟨w'.heap.size + 1, 0, none⟩ 1 1 [.map (some w'.heap.size)] (by rfl) (by rfl) (World.news_of_block (cs := #[.map (some w'.heap.size)]) (t := 85) (fr := (0, 0)) FIN.out.nb) (by intro u hu; simp at hu; subst hu; rfl)
        (by omega) (by unfold maxLen; omega) (by omega) (Nat.le_trans (Nat.le_trans hB (Nat.le_add_right _ 2)) (Nat.le_of_eq FIN.out.sz.symm)) (w'.heap.size + 2) FIN.out.sz ?_
      intro gg gc w8 hown8 hgrow hat hlt8
      have key := FIN.out.fin gg gc w8 hown8 hgrow hat
      clear hown8 hgrow hat hlt8
      refine hK.out _ _ key.1 (fun hHeld => ?_)
      clear hK K
      simp only [Act.put, List.setIfInBounds_toArray, List.set_cons_zero, List.set_cons_succ, List.getElem_toArray, List.getElem_cons_zero, List.getElem_cons_succ]
      refine wpAnyH_take (i := 12) (v := ?_) rfl (by kernel_rfl) (by kernel_rfl) (by kernel_rfl) (fun _ _ _ h => h) (Or.inl ⟨by rfl, ?_⟩) (by assumption) ?_
      rotate_left
      · intro w hSw
        go_simp
        with_reducible rfl
      simp only [Act.put, List.setIfInBounds_toArray, List.set_cons_zero, List.set_cons_succ, List.getElem_toArray, List.getElem_cons_zero, List.getElem_cons_succ]
      refine wpAnyH_take (i := 13) (v := ?_) rfl (by kernel_rfl) (by kernel_rfl) (by kernel_rfl) (fun _ _ _ h => h) (Or.inl ⟨by rfl, ?_⟩) (by assumption) ?_
      rotate_left
      · intro w hSw
        go_simp
        with_reducible rfl
      simp only [Act.put, List.setIfInBounds_toArray, List.set_cons_zero, List.set_cons_succ, List.getElem_toArray, List.getElem_cons_zero, List.getElem_cons_succ]
      refine wpAnyH_ready (rs := [14]) (by kernel_rfl) (by simp) ?_
      refine AllReadyH.cons rfl (fun K hK => ?_) AllReadyH.nil
      have k2 := key.2.1
      have k3 := key.2.2.1
      go_simp
      refine hK.out _ _ key.2.2.2.1 (fun hHeld => ?_)
      clear hK K
      refine wpAnyH_done (by kernel_rfl) ?_ _
      refine NoPanic.normal ?_
      go_wp2
      go_ret
      exact ⟨rfl, key.2.2.2.2.drew⟩
    · go_simp
      refine Calls.mono cc ?_
      rintro e w1 ⟨rfl, rfl⟩
      refine hK.out _ _ C2.2.1 (fun hHeld => ?_)
      clear hK K
      refine wpAnyH_ready (rs := [4, 10]) (by kernel_rfl) (by simp) ?_
      refine AllReadyH.cons rfl (fun K hK => ?_) (AllReadyH.cons rfl (fun K hK => ?_) AllReadyH.nil)
      · go_simp
        refine hK.out _ _ C2.2.1 (fun hHeld => ?_)
        clear hK K
        refine wpAnyH_ready (rs := [10]) (by kernel_rfl) (by simp) ?_
        refine AllReadyH.cons rfl (fun K hK => ?_) AllReadyH.nil
        go_simp
        refine hK.out _ _ C2.2.2 (fun hHeld => ?_)
        clear hK K
        refine wpAnyH_ready (rs := [11]) (by kernel_rfl) (by simp) ?_
        refine AllReadyH.cons rfl (fun K hK => ?_) AllReadyH.nil
        refine step_append_lies _ (by rfl) _ _ _ (by rfl) B 85 i0 _ 1 8 Tryz.underlying86 hi0 hz0 hz1 hz2 rfl (by omega) (.slice a n cap) n xs (by rfl) FIN.out.own
          ⟨w'.heap.size + 1, 0, none⟩ 1 1 [.map (some w'.heap.size)] (by rfl) (by rfl) (World.news_of_block (cs := #[.map (some w'.heap.size)]) (t := 85) (fr := (0, 0)) FIN.out.nb) (by intro u hu; simp at hu; subst hu; rfl)
          (by omega) (by unfold maxLen; omega) (by omega) (Nat.le_trans (Nat.le_trans hB (Nat.le_add_right _ 2)) (Nat.le_of_eq FIN.out.sz.symm)) (w'.heap.size + 2) FIN.out.sz ?_
        intro gg gc w8 hown8 hgrow hat hlt8
        have key := FIN.out.fin gg gc w8 hown8 hgrow hat
        clear hown8 hgrow hat hlt8
        refine hK.out _ _ key.1 (fun hHeld => ?_)
        clear hK K
        simp only [Act.put, List.setIfInBounds_toArray, List.set_cons_zero, List.set_cons_succ, List.getElem_toArray, List.getElem_cons_zero, List.getElem_cons_succ]
        refine wpAnyH_take (i := 12) (v := ?_) rfl (by kernel_rfl) (by kernel_rfl) (by kernel_rfl) (fun _ _ _ h => h) (Or.inl ⟨by rfl, ?_⟩) (by assumption) ?_
        rotate_left
        · intro w hSw
          go_simp
          with_reducible rfl
        simp only [Act.put, List.setIfInBounds_toArray, List.set_cons_zero, List.set_cons_succ, List.getElem_toArray, List.getElem_cons_zero, List.getElem_cons_succ]
        refine wpAnyH_take (i := 13) (v := ?_) rfl (by kernel_rfl) (by kernel_rfl) (by kernel_rfl) (fun _ _ _ h => h) (Or.inl ⟨by rfl, ?_⟩) (by assumption) ?_
        rotate_left
        · intro w hSw
          go_simp
          with_reducible rfl
        simp only [Act.put, List.setIfInBounds_toArray, List.set_cons_zero, List.set_cons_succ, List.getElem_toArray, List.getElem_cons_zero, List.getElem_cons_succ]
        refine wpAnyH_ready (rs := [14]) (by kernel_rfl) (by simp) ?_
        refine AllReadyH.cons rfl (fun K hK => ?_) AllReadyH.nil
        have k2 := key.2.1
        have k3 := key.2.2.1
        go_simp
        refine hK.out _ _ key.2.2.2.1 (fun hHeld => ?_)
        clear hK K
        refine wpAnyH_done (by kernel_rfl) ?_ _
        refine NoPanic.normal ?_
        go_wp2
        go_ret
        exact ⟨rfl, key.2.2.2.2.drew⟩
      · go_simp
        refine hK.out _ _ C2.2.2 (fun hHeld => ?_)
        clear hK K
        refine wpAnyH_ready (rs := [4]) (by kernel_rfl) (by simp) ?_
        refine AllReadyH.cons rfl (fun K hK => ?_) AllReadyH.nil
        go_simp
        refine hK.out _ _ C2.2.2 (fun hHeld => ?_)
        clear hK K
        refine wpAnyH_ready (rs := [11]) (by kernel_rfl) (by simp) ?_
        refine AllReadyH.cons rfl (fun K hK => ?_) AllReadyH.nil
        refine step_append_lies _ (by rfl) _ _ _ (by rfl) B 85 i0 _ 1 8 Tryz.underlying86 hi0 hz0 hz1 hz2 rfl (by omega) (.slice a n cap) n xs (by rfl) FIN.out.own
          ⟨w'.heap.size + 1, 0, none⟩ 1 1 [.map (some w'.heap.size)] (by rfl) (by rfl) (World.news_of_block (cs := #[.map (some w'.heap.size)]) (t := 85) (fr := (0, 0)) FIN.out.nb) (by intro u hu; simp at hu; subst hu; rfl)
          (by omega) (by unfold maxLen; omega) (by omega) (Nat.le_trans (Nat.le_trans hB (Nat.le_add_right _ 2)) (Nat.le_of_eq FIN.out.sz.symm)) (w'.heap.size + 2) FIN.out.sz ?_
        intro gg gc w8 hown8 hgrow hat hlt8
        have key := FIN.out.fin gg gc w8 hown8 hgrow hat
        clear hown8 hgrow hat hlt8
        refine hK.out _ _ key.1 (fun hHeld => ?_)
        clear hK K
        simp only [Act.put, List.setIfInBounds_toArray, List.set_cons_zero, List.set_cons_succ, List.getElem_toArray, List.getElem_cons_zero, List.getElem_cons_succ]
        refine wpAnyH_take (i := 12) (v := ?_) rfl (by kernel_rfl) (by kernel_rfl) (by kernel_rfl) (fun _ _ _ h => h) (Or.inl ⟨by rfl, ?_⟩) (by assumption) ?_
        rotate_left
        · intro w hSw
          go_simp
          with_reducible rfl
        simp only [Act.put, List.setIfInBounds_toArray, List.set_cons_zero, List.set_cons_succ, List.getElem_toArray, List.getElem_cons_zero, List.getElem_cons_succ]
        refine wpAnyH_take (i := 13) (v := ?_) rfl (by kernel_rfl) (by kernel_rfl) (by kernel_rfl) (fun _ _ _ h => h) (Or.inl ⟨by rfl, ?_⟩) (by assumption) ?_
        rotate_left
        · intro w hSw
          go_simp
          with_reducible rfl
        simp only [Act.put, List.setIfInBounds_toArray, List.set_cons_zero, List.set_cons_succ, List.getElem_toArray, List.getElem_cons_zero, List.getElem_cons_succ]
        refine wpAnyH_ready (rs := [14]) (by kernel_rfl) (by simp) ?_
        refine AllReadyH.cons rfl (fun K hK => ?_) AllReadyH.nil
        have k2 := key.2.1
        have k3 := key.2.2.1
        go_simp
        refine hK.out _ _ key.2.2.2.1 (fun hHeld => ?_)
        clear hK K
        refine wpAnyH_done (by kernel_rfl) ?_ _
        refine NoPanic.normal ?_
        go_wp2
        go_ret
        exact ⟨rfl, key.2.2.2.2.drew⟩

end Go.Proofs.YtafiopjgegmfoaaGreat
