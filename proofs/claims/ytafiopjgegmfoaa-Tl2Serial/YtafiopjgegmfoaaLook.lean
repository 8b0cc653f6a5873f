/-
  Sets' calls that look: isMade, isCell, Value, Seen, Depth.
-/
import Derived.Test.YtafiopjgegmfoaaSet
namespace Go.Proofs.Ytafiopjgegmfoaa
open Go.RowKit Go.Maps
def encS (x : ByteArray) : Value := .string x
theorem isCell_at (w : World) (i : Int) : Calls Try.prog 39 #[.int .i64 i] w fun r w' => r = .returned (.bool (decide (0 ≤ i ∧ i < 1024))) ∧ w' = w := by
  by_cases h1 : 0 ≤ i
  · by_cases h2 : i < 1024
    · rw [decide_eq_true ⟨h1, h2⟩]
      go_enter Try.func39, Try.ntmps39
      go_wp2
      go_ret
      simp
    · rw [decide_eq_false (fun h => h2 h.2)]
      go_enter Try.func39, Try.ntmps39
      go_wp2
      go_ret
      simp
  · rw [decide_eq_false (fun h => h1 h.1)]
    go_enter Try.func39, Try.ntmps39
    go_wp2
    go_ret
    simp

theorem infoS : (Try.prog.info? 85).map (fun i => (i.zero.isSome, i.size)) = some (true, 4) := by kernel_rfl
theorem point : Try.prog.underlying 67 = some (.pointer 85) := by kernel_rfl
theorem eqlSelf (g : Nat) (w : World) : (binOp .eql 67 (.pointer (some ⟨g, 0, none⟩)) (.pointer (some ⟨g, 0, none⟩))).run Try.prog w = .ok (.bool true) w := by
  cases h : Try.prog.info? 85 with
  | none => have := infoS; rw [h] at this; cases this
  | some i => exact run_eql_ptr_same w ⟨g, 0, none⟩ point h
theorem eqlNone (g : Nat) (w : World) : (binOp .eql 67 (.pointer none) (.pointer (some ⟨g, 0, none⟩))).run Try.prog w = .ok (.bool false) w := by
  have h : ∀ d : Nat, (Op.equalIn (d + 1) 67 (.pointer none) (.pointer (some ⟨g, 0, none⟩))).run Try.prog w = .ok false w := fun d => by
    simp [Op.equalIn, run_underlying point]
  simp only [binOp]
  simp [Op.equal, Op.maxDepth, h]
theorem isMade_at {w : World} {m : Nat} {a b c : Value} (h : Box w m #[ptr m, a, b, c] 85) : Calls Try.prog 35 #[ptr m] w fun r w' => r = .returned (.bool true) ∧ w' = w := by
  have c0 : w.cell? ⟨m, 0, none⟩ = some (ptr m) := h.cell 0
  unfold ptr at *
  have he := eqlSelf m
  go_enter Try.func35, Try.ntmps35
  go_wp2
  go_ret
  simp
theorem isMade_zero {w : World} {m : Nat} {a b c : Value} (h : Box w m #[.pointer none, a, b, c] 85) : Calls Try.prog 35 #[ptr m] w fun r w' => r = .returned (.bool false) ∧ w' = w := by
  have c0 : w.cell? ⟨m, 0, none⟩ = some (.pointer none) := h.cell 0
  unfold ptr at *
  have he := eqlNone m
  go_enter Try.func35, Try.ntmps35
  go_wp2
  go_ret
  simp
theorem isMade_nil (w : World) : Calls Try.prog 35 #[.pointer none] w fun r w' => r = .returned (.bool false) ∧ w' = w := by
  go_enter Try.func35, Try.ntmps35
  go_wp2
  go_ret
  simp
theorem value_at {w : World} {B g : Nat} {S : SS Int} {F : Nat → Prop} (h : IsS encI 85 30 w B g S F) (i : Int) (hi : (Lit.int .i64 i).wf = true) :
    Calls Try.prog 25 #[ptr g, .int .i64 i] w fun r w' => r = .returned (.tuple #[encI ((gt S.W i).getD 0), .bool (gt S.W i).isSome]) ∧ w' = w := by
  obtain ⟨rb, wb, v, X, h⟩ := h
  have c := isMade_at h.box
  have c2 : w.cell? ⟨g, 2, none⟩ = some (mp wb) := h.box.cell 2
  have hl := h.wr.look 30 3 0 Try.underlying30 Try.zeroValue3 i hi
  clear h
  unfold ptr mp at *
  generalize encI ((gt S.W i).getD 0) = x at *
  generalize (gt S.W i).isSome = y at *
  go_enter Try.func25, Try.ntmps25
  go_wp2_with (go_at_call 35; refine c.mono ?_; rintro e w' ⟨rfl, rfl⟩)
  go_ret2
  simp
theorem seen_at {w : World} {B g : Nat} {S : SS Int} {F : Nat → Prop} (h : IsS encI 85 30 w B g S F) (i : Int) (hi : (Lit.int .i64 i).wf = true) :
    Calls Try.prog 36 #[ptr g, .int .i64 i] w fun r w' => r = .returned (.tuple #[.int .i64 ((gt S.R i).getD 0), .bool (gt S.R i).isSome]) ∧ w' = w := by
  obtain ⟨rb, wb, v, X, h⟩ := h
  have c := isMade_at h.box
  have c1 : w.cell? ⟨g, 1, none⟩ = some (mp rb) := h.box.cell 1
  have hl := h.rd.look 82 2 0 Try.underlying82 Try.zeroValue2 i hi
  clear h
  unfold ptr mp encI at *
  generalize ((gt S.R i).getD 0) = x at *
  generalize (gt S.R i).isSome = y at *
  go_enter Try.func36, Try.ntmps36
  go_wp2_with (go_at_call 35; refine c.mono ?_; rintro e w' ⟨rfl, rfl⟩)
  go_ret2
  simp
end Go.Proofs.Ytafiopjgegmfoaa
