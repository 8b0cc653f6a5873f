/-
  Sets' calls, over entries.
-/
import Derived.Test.YtlbjalodjcajfaaGreatCnw
namespace Go.Proofs.YtlbjalodjcajfaaGreat
open Go.RowKit Go.Maps
abbrev W0 (w : World) : World := w.alloc (.cells #[.bool false, .string ⟨#[]⟩, .string ⟨#[]⟩] 28)
theorem w0_below (w : World) : Below w.heap.size w (W0 w) := (Below.refl _ w).alloc (Nat.le_refl _) _
theorem isCell_in (w : World) (i : Int) (h : 0 ≤ i ∧ i < 1024) : Calls Tryz.prog 78 #[.int .i64 i] w fun r w' => r = .returned (.bool true) ∧ w' = w := by
  obtain ⟨h1, h2⟩ := h
  go_enter Tryz.func78, Tryz.ntmps78
  go_wp2
  go_ret
  simp
theorem infoS : (Tryz.prog.info? 93).map (fun i => (i.zero.isSome, i.size)) = some (true, 4) := by kernel_rfl
theorem poinS : Tryz.prog.underlying 59 = some (.pointer 93) := by kernel_rfl
theorem eqlS (g : Nat) (w : World) : (binOp .eql 59 (.pointer (some ⟨g, 0, none⟩)) (.pointer (some ⟨g, 0, none⟩))).run Tryz.prog w = .ok (.bool true) w := by
  cases h : Tryz.prog.info? 93 with
  | none => have := infoS; rw [h] at this; cases this
  | some i => exact run_eql_ptr_same w ⟨g, 0, none⟩ poinS h
theorem madeS {w : World} {m : Nat} {a b c : Value} (h : Box w m #[ptr m, a, b, c] 93) : Calls Tryz.prog 68 #[ptr m] w fun r w' => r = .returned (.bool true) ∧ w' = w := by
  have c0 : w.cell? ⟨m, 0, none⟩ = some (ptr m) := h.cell 0
  unfold ptr at *
  have he := eqlS m
  go_enter Tryz.func68, Tryz.ntmps68
  go_wp2
  go_ret
  simp
set_option maxRecDepth 100000 in
set_option maxHeartbeats 2000000 in
theorem value_at {w : World} {B g : Nat} {S : SS En} {F : Nat → Prop} (h : IsS ag 93 91 w B g S F) (i : Int) (hi : (Lit.int .i64 i).wf = true) :
    Calls Tryz.prog 61 #[ptr g, .int .i64 i] w fun r w' => r = .returned (.tuple #[ag ((gt S.W i).getD E0), .bool (gt S.W i).isSome]) ∧ Below w.heap.size w w' := by
  obtain ⟨rb, wb, v, X, h⟩ := h.below (w0_below w)
  have c := madeS h.box
  have c2 : (W0 w).cell? ⟨g, 2, none⟩ = some (mp wb) := h.box.cell 2
  have hl := h.wr.look 90 28 E0 Tryz.underlying90 Tryz.zeroValue28 i hi
  clear h
  obtain ⟨⟨xu, xk, xv⟩, hx⟩ : ∃ x, x = (gt S.W i).getD E0 := ⟨_, rfl⟩
  rw [← hx] at hl ⊢
  clear hx
  generalize (gt S.W i).isSome = y at *
  unfold ptr mp ag at *
  go_enter Tryz.func61, Tryz.ntmps61
  go_wp2_with (go_at_call 68; refine c.mono ?_; rintro e wx ⟨rfl, hwx⟩; subst wx)
  exact bodyPost_ret (v := .tuple #[.agg #[.bool xu, .string xk, .string xv], .bool y]) (by simp [results, Tryz.results61, go_sem]) rfl ⟨rfl, ((Below.refl _ w).alloc (Nat.le_refl _) _).alloc (by simp) _⟩
set_option maxRecDepth 100000 in
theorem seen_at {w : World} {B g : Nat} {S : SS En} {F : Nat → Prop} (h : IsS ag 93 91 w B g S F) (i : Int) (hi : (Lit.int .i64 i).wf = true) :
    Calls Tryz.prog 77 #[ptr g, .int .i64 i] w fun r w' => r = .returned (.tuple #[.int .i64 ((gt S.R i).getD 0), .bool (gt S.R i).isSome]) ∧ w' = w := by
  obtain ⟨rb, wb, v, X, h⟩ := h
  have c := madeS h.box
  have c1 : w.cell? ⟨g, 1, none⟩ = some (mp rb) := h.box.cell 1
  have hl := h.rd.look 89 2 0 Tryz.underlying89 Tryz.zeroValue2 i hi
  clear h
  unfold ptr mp encI at *
  generalize ((gt S.R i).getD 0) = x at *
  generalize (gt S.R i).isSome = y at *
  go_enter Tryz.func77, Tryz.ntmps77
  go_wp2_with (go_at_call 68; refine c.mono ?_; rintro e w' ⟨rfl, rfl⟩)
  go_ret2
  simp
/-- a version that agrees is noted -/
def SS.rd (S : SS En) (i x : Int) : SS En := if (gt S.R i).isSome then S else { S with R := S.R ++ [(i, x)] }
set_option maxRecDepth 100000 in
set_option maxHeartbeats 1000000 in
theorem sread_at {w : World} {B g : Nat} {S : SS En} {F : Nat → Prop} (h : IsS ag 93 91 w B g S F) (i x : Int) (h1 : 0 ≤ i ∧ i < 1024) (hx : 0 ≤ x) (hv : gt S.R i = some x ∨ (gt S.R i = none ∧ S.R.length < 256)) :
    Calls Tryz.prog 64 #[ptr g, .int .i64 i, .int .i64 x] w fun r w' => r = .returned (.int .i64 0) ∧ To ag 93 91 w B g (S.rd i x) F w' := by
  obtain ⟨rb, wb, v, X, h⟩ := h
  have c := madeS h.box
  have ci := isCell_in w i h1
  have c1 : w.cell? ⟨g, 1, none⟩ = some (mp rb) := h.box.cell 1
  have hl := h.rd.look 89 2 0 Tryz.underlying89 Tryz.zeroValue2 i (cell_wf h1)
  have hln := h.rd.len 89 2 Tryz.underlying89
  have hx0 : ¬ x < 0 := by omega
  rcases hv with hv | ⟨hv, h2⟩
  · have e : S.rd i x = S := by unfold SS.rd; rw [hv]; rfl
    rw [e]
    rw [hv] at hl
    simp only [Option.getD_some, Option.isSome_some, encI] at hl
    obtain ⟨w', hr, hm, hg⟩ := h.rd.update 89 2 Tryz.underlying89 i h1 x (.inl (by rw [hv]; rfl))
    rw [pt_same _ _ _ h.rd.gd.nd hv] at hm
    have key : To ag 93 91 w B g S F w' := h.reads hg hm
    clear h hm hg hv e
    unfold ptr mp encI at *
    go_enter Tryz.func64, Tryz.ntmps64
    go_wp2_with (first | (go_at_call 68; refine c.mono ?_; rintro e w1 ⟨rfl, rfl⟩) | (go_at_call 78; refine ci.mono ?_; rintro e w1 ⟨rfl, rfl⟩))
    go_ret
    exact ⟨rfl, key⟩
  · have e : S.rd i x = { S with R := S.R ++ [(i, x)] } := by unfold SS.rd; rw [hv]; rfl
    rw [e]
    rw [hv] at hl
    simp only [Option.getD_none, Option.isSome_none, encI] at hl
    obtain ⟨w', hr, hm, hg⟩ := h.rd.update 89 2 Tryz.underlying89 i h1 x (.inr h2)
    rw [pt_none _ _ _ hv] at hm
    have key : To ag 93 91 w B g { S with R := S.R ++ [(i, x)] } F w' := h.reads hg hm
    have h3 : ¬ (256 : Int) ≤ (S.R.length : Int) := by omega
    generalize { S with R := S.R ++ [(i, x)] } = S' at *
    clear h hm hg hv e
    unfold ptr mp encI at *
    go_enter Tryz.func64, Tryz.ntmps64
    go_wp2_with (first | (go_at_call 68; refine c.mono ?_; rintro e w1 ⟨rfl, rfl⟩) | (go_at_call 78; refine ci.mono ?_; rintro e w1 ⟨rfl, rfl⟩))
    go_ret
    exact ⟨rfl, key⟩
end Go.Proofs.YtlbjalodjcajfaaGreat
