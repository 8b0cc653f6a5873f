/-
  Sets' Write and Read.
-/
import Derived.Test.YtafiopjgegmfoaaLook
namespace Go.Proofs.Ytafiopjgegmfoaa
open Go.RowKit Go.Maps

set_option maxRecDepth 100000 in
set_option maxHeartbeats 1000000 in
theorem write_at {w : World} {B g : Nat} {S : SS Int} {F : Nat → Prop} (h : IsS encI 85 30 w B g S F) (i : Int) (x : Int) :
    Calls Try.prog 29 #[ptr g, .int .i64 i, encI x] w fun r w' => r = .returned (.int .i64 (S.write i x).1) ∧ To encI 85 30 w B g (S.write i x).2 F w' := by
  have hto := To.refl h
  obtain ⟨rb, wb, v, X, h⟩ := h
  have c := isMade_at h.box
  have ci := isCell_at w i
  have c2 : w.cell? ⟨g, 2, none⟩ = some (mp wb) := h.box.cell 2
  by_cases h1 : 0 ≤ i ∧ i < 1024
  · have hn : ¬ (i < 0 ∨ 1024 ≤ i) := by omega
    rw [decide_eq_true h1] at ci
    have hl := h.wr.look 30 3 0 Try.underlying30 Try.zeroValue3 i (cell_wf h1)
    have hln := h.wr.len 30 3 Try.underlying30
    generalize encI ((gt S.W i).getD 0) = z at *
    by_cases h2 : (gt S.W i).isSome = false ∧ 256 ≤ S.W.length
    · have e1 : S.write i x = (3, S) := by unfold SS.write; rw [if_neg hn, if_pos h2]
      rw [e1]
      have h3 : (256 : Int) ≤ (S.W.length : Int) := by omega
      rw [h2.1] at hl
      clear h e1
      unfold ptr mp at *
      go_enter Try.func29, Try.ntmps29
      go_wp2_with (first | (go_at_call 35; refine c.mono ?_; rintro e w' ⟨rfl, rfl⟩) | (go_at_call 39; refine ci.mono ?_; rintro e w' ⟨rfl, rfl⟩))
      go_ret
      exact ⟨rfl, hto⟩
    · have e1 : S.write i x = (0, { S with W := pt S.W i x }) := by unfold SS.write; rw [if_neg hn, if_neg h2]
      rw [e1]
      have hcap : (gt S.W i).isSome = true ∨ S.W.length < 256 := by
        cases hb : (gt S.W i).isSome with
        | true => exact .inl rfl
        | false => rw [hb] at h2; simp at h2; exact .inr h2
      obtain ⟨w', hr, hm, hg⟩ := h.wr.update 30 3 Try.underlying30 i h1 x hcap
      have key : To encI 85 30 w B g { S with W := pt S.W i x } F w' := h.writes hg hm
      generalize { S with W := pt S.W i x } = S' at *
      have hcap' : (gt S.W i).isSome = true ∨ ((gt S.W i).isSome = false ∧ ¬ (256 : Int) ≤ (S.W.length : Int)) := by
        cases hb : (gt S.W i).isSome with
        | true => exact .inl rfl
        | false => rw [hb] at hcap; simp at hcap; exact .inr ⟨rfl, by omega⟩
      clear h e1 hto hcap h2 hm hg
      generalize encI x = y at *
      unfold ptr mp at *
      rcases hcap' with hc | ⟨hc, hc2⟩
      · rw [hc] at hl
        clear hc
        go_enter Try.func29, Try.ntmps29
        go_wp2_with (first | (go_at_call 35; refine c.mono ?_; rintro e w1 ⟨rfl, rfl⟩) | (go_at_call 39; refine ci.mono ?_; rintro e w1 ⟨rfl, rfl⟩))
        go_ret
        exact ⟨rfl, key⟩
      · rw [hc] at hl
        clear hc
        go_enter Try.func29, Try.ntmps29
        go_wp2_with (first | (go_at_call 35; refine c.mono ?_; rintro e w1 ⟨rfl, rfl⟩) | (go_at_call 39; refine ci.mono ?_; rintro e w1 ⟨rfl, rfl⟩))
        go_ret
        exact ⟨rfl, key⟩
  · have e1 : S.write i x = (2, S) := by unfold SS.write; rw [if_pos (by omega)]
    rw [e1]
    rw [decide_eq_false h1] at ci
    clear h e1 h1
    generalize encI x = y at *
    unfold ptr mp at *
    go_enter Try.func29, Try.ntmps29
    go_wp2_with (first | (go_at_call 35; refine c.mono ?_; rintro e w' ⟨rfl, rfl⟩) | (go_at_call 39; refine ci.mono ?_; rintro e w' ⟨rfl, rfl⟩))
    go_ret
    exact ⟨rfl, hto⟩
set_option maxRecDepth 100000 in
set_option maxHeartbeats 1000000 in
theorem read_at {w : World} {B g : Nat} {S : SS Int} {F : Nat → Prop} (h : IsS encI 85 30 w B g S F) (i x : Int) :
    Calls Try.prog 28 #[ptr g, .int .i64 i, .int .i64 x] w fun r w' => r = .returned (.int .i64 (S.read i x).1) ∧ To encI 85 30 w B g (S.read i x).2 F w' := by
  have hto := To.refl h
  obtain ⟨rb, wb, v, X, h⟩ := h
  have c := isMade_at h.box
  have ci := isCell_at w i
  have c1 : w.cell? ⟨g, 1, none⟩ = some (mp rb) := h.box.cell 1
  by_cases h1 : 0 ≤ i ∧ i < 1024
  · rw [decide_eq_true h1] at ci
    by_cases hx : x < 0
    · have e1 : S.read i x = (2, S) := by unfold SS.read; rw [if_pos (by omega)]
      rw [e1]
      clear h e1 h1
      unfold ptr mp at *
      go_enter Try.func28, Try.ntmps28
      go_wp2_with (first | (go_at_call 35; refine c.mono ?_; rintro e w' ⟨rfl, rfl⟩) | (go_at_call 39; refine ci.mono ?_; rintro e w' ⟨rfl, rfl⟩))
      go_ret
      exact ⟨rfl, hto⟩
    have hn : ¬ (i < 0 ∨ 1024 ≤ i ∨ x < 0) := by omega
    have hl := h.rd.look 82 2 0 Try.underlying82 Try.zeroValue2 i (cell_wf h1)
    have hln := h.rd.len 82 2 Try.underlying82
    cases hv : gt S.R i with
    | some u =>
      rw [hv] at hl
      simp only [Option.getD_some, Option.isSome_some, encI] at hl
      by_cases hu : u = x
      · subst hu
        have e1 : S.read i u = (0, S) := by unfold SS.read; rw [if_neg hn, hv]; simp
        rw [e1]
        obtain ⟨w', hr, hm, hg⟩ := h.rd.update 82 2 Try.underlying82 i h1 u (.inl (by rw [hv]; rfl))
        rw [pt_same _ _ _ h.rd.gd.nd hv] at hm
        have key : To encI 85 30 w B g S F w' := h.reads hg hm
        clear h e1 hto hm hg hv hn
        unfold ptr mp encI at *
        go_enter Try.func28, Try.ntmps28
        go_wp2_with (first | (go_at_call 35; refine c.mono ?_; rintro e w1 ⟨rfl, rfl⟩) | (go_at_call 39; refine ci.mono ?_; rintro e w1 ⟨rfl, rfl⟩))
        go_ret
        exact ⟨rfl, key⟩
      · have e1 : S.read i x = (131, S) := by unfold SS.read; rw [if_neg hn, hv]; simp [hu]
        rw [e1]
        clear h e1 hv hn
        unfold ptr mp at *
        go_enter Try.func28, Try.ntmps28
        go_wp2_with (first | (go_at_call 35; refine c.mono ?_; rintro e w' ⟨rfl, rfl⟩) | (go_at_call 39; refine ci.mono ?_; rintro e w' ⟨rfl, rfl⟩))
        go_ret
        exact ⟨rfl, hto⟩
    | none =>
      rw [hv] at hl
      simp only [Option.getD_none, Option.isSome_none, encI] at hl
      by_cases h2 : 256 ≤ S.R.length
      · have e1 : S.read i x = (3, S) := by unfold SS.read; rw [if_neg hn, hv]; simp [h2]
        rw [e1]
        have h3 : (256 : Int) ≤ (S.R.length : Int) := by omega
        clear h e1 hv hn
        unfold ptr mp at *
        go_enter Try.func28, Try.ntmps28
        go_wp2_with (first | (go_at_call 35; refine c.mono ?_; rintro e w' ⟨rfl, rfl⟩) | (go_at_call 39; refine ci.mono ?_; rintro e w' ⟨rfl, rfl⟩))
        go_ret
        exact ⟨rfl, hto⟩
      · have e1 : S.read i x = (0, { S with R := S.R ++ [(i, x)] }) := by unfold SS.read; rw [if_neg hn, hv]; simp [h2]
        rw [e1]
        obtain ⟨w', hr, hm, hg⟩ := h.rd.update 82 2 Try.underlying82 i h1 x (.inr (by omega))
        rw [pt_none _ _ _ hv] at hm
        have key : To encI 85 30 w B g { S with R := S.R ++ [(i, x)] } F w' := h.reads hg hm
        have h3 : ¬ (256 : Int) ≤ (S.R.length : Int) := by omega
        generalize { S with R := S.R ++ [(i, x)] } = S' at *
        clear h e1 hto hm hg hv hn
        unfold ptr mp encI at *
        go_enter Try.func28, Try.ntmps28
        go_wp2_with (first | (go_at_call 35; refine c.mono ?_; rintro e w1 ⟨rfl, rfl⟩) | (go_at_call 39; refine ci.mono ?_; rintro e w1 ⟨rfl, rfl⟩))
        go_ret
        exact ⟨rfl, key⟩
  · have e1 : S.read i x = (2, S) := by unfold SS.read; rw [if_pos (by omega)]
    rw [e1]
    rw [decide_eq_false h1] at ci
    clear h e1 h1
    unfold ptr mp at *
    go_enter Try.func28, Try.ntmps28
    go_wp2_with (first | (go_at_call 35; refine c.mono ?_; rintro e w' ⟨rfl, rfl⟩) | (go_at_call 39; refine ci.mono ?_; rintro e w' ⟨rfl, rfl⟩))
    go_ret
    exact ⟨rfl, hto⟩

end Go.Proofs.Ytafiopjgegmfoaa
