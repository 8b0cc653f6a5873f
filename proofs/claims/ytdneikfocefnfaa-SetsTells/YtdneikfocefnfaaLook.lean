/-
  Sets' calls that look: isMade, isCell, Value, Seen, Depth.
-/
import Derived.Test.YtdneikfocefnfaaSet
namespace Go.Proofs.Ytdneikfocefnfaa
open Go.RowKit Go.Maps
def encS (x : ByteArray) : Value := .string x
theorem isCell_at (w : World) (i : Int) : Calls Try.prog 51 #[.int .i64 i] w fun r w' => r = .returned (.bool (decide (0 ≤ i ∧ i < 1024))) ∧ w' = w := by
  by_cases h1 : 0 ≤ i
  · by_cases h2 : i < 1024
    · rw [decide_eq_true ⟨h1, h2⟩]
      go_enter Try.func51, Try.ntmps51
      go_wp2
      go_ret
      simp
    · rw [decide_eq_false (fun h => h2 h.2)]
      go_enter Try.func51, Try.ntmps51
      go_wp2
      go_ret
      simp
  · rw [decide_eq_false (fun h => h1 h.1)]
    go_enter Try.func51, Try.ntmps51
    go_wp2
    go_ret
    simp

theorem infoS : (Try.prog.info? 86).map (fun i => (i.zero.isSome, i.size)) = some (true, 4) := by kernel_rfl
theorem point : Try.prog.underlying 23 = some (.pointer 86) := by kernel_rfl
theorem eqlSelf (g : Nat) (w : World) : (binOp .eql 23 (.pointer (some ⟨g, 0, none⟩)) (.pointer (some ⟨g, 0, none⟩))).run Try.prog w = .ok (.bool true) w := by
  cases h : Try.prog.info? 86 with
  | none => have := infoS; rw [h] at this; cases this
  | some i => exact run_eql_ptr_same w ⟨g, 0, none⟩ point h
theorem eqlNone (g : Nat) (w : World) : (binOp .eql 23 (.pointer none) (.pointer (some ⟨g, 0, none⟩))).run Try.prog w = .ok (.bool false) w := by
  have h : ∀ d : Nat, (Op.equalIn (d + 1) 23 (.pointer none) (.pointer (some ⟨g, 0, none⟩))).run Try.prog w = .ok false w := fun d => by
    simp [Op.equalIn, run_underlying point]
  simp only [binOp]
  simp [Op.equal, Op.maxDepth, h]
theorem isMade_at {w : World} {m : Nat} {a b c : Value} (h : Box w m #[ptr m, a, b, c] 86) : Calls Try.prog 50 #[ptr m] w fun r w' => r = .returned (.bool true) ∧ w' = w := by
  have c0 : w.cell? ⟨m, 0, none⟩ = some (ptr m) := h.cell 0
  unfold ptr at *
  have he := eqlSelf m
  go_enter Try.func50, Try.ntmps50
  go_wp2
  go_ret
  simp
theorem isMade_zero {w : World} {m : Nat} {a b c : Value} (h : Box w m #[.pointer none, a, b, c] 86) : Calls Try.prog 50 #[ptr m] w fun r w' => r = .returned (.bool false) ∧ w' = w := by
  have c0 : w.cell? ⟨m, 0, none⟩ = some (.pointer none) := h.cell 0
  unfold ptr at *
  have he := eqlNone m
  go_enter Try.func50, Try.ntmps50
  go_wp2
  go_ret
  simp
theorem isMade_nil (w : World) : Calls Try.prog 50 #[.pointer none] w fun r w' => r = .returned (.bool false) ∧ w' = w := by
  go_enter Try.func50, Try.ntmps50
  go_wp2
  go_ret
  simp
theorem value_at {w : World} {B g : Nat} {S : SS Int} {F : Nat → Prop} (h : IsS encI 86 76 w B g S F) (i : Int) (hi : (Lit.int .i64 i).wf = true) :
    Calls Try.prog 20 #[ptr g, .int .i64 i] w fun r w' => r = .returned (.tuple #[encI ((gt S.W i).getD 0), .bool (gt S.W i).isSome]) ∧ w' = w := by
  obtain ⟨rb, wb, v, X, h⟩ := h
  have c := isMade_at h.box
  have c2 : w.cell? ⟨g, 2, none⟩ = some (mp wb) := h.box.cell 2
  have hl := h.wr.look 76 3 0 Try.underlying76 Try.zeroValue3 i hi
  clear h
  unfold ptr mp at *
  generalize encI ((gt S.W i).getD 0) = x at *
  generalize (gt S.W i).isSome = y at *
  go_enter Try.func20, Try.ntmps20
  go_wp2_with (go_at_call 50; refine c.mono ?_; rintro e w' ⟨rfl, rfl⟩)
  go_ret2
  simp
theorem seen_at {w : World} {B g : Nat} {S : SS Int} {F : Nat → Prop} (h : IsS encI 86 76 w B g S F) (i : Int) (hi : (Lit.int .i64 i).wf = true) :
    Calls Try.prog 22 #[ptr g, .int .i64 i] w fun r w' => r = .returned (.tuple #[.int .i64 ((gt S.R i).getD 0), .bool (gt S.R i).isSome]) ∧ w' = w := by
  obtain ⟨rb, wb, v, X, h⟩ := h
  have c := isMade_at h.box
  have c1 : w.cell? ⟨g, 1, none⟩ = some (mp rb) := h.box.cell 1
  have hl := h.rd.look 83 2 0 Try.underlying83 Try.zeroValue2 i hi
  clear h
  unfold ptr mp encI at *
  generalize ((gt S.R i).getD 0) = x at *
  generalize (gt S.R i).isSome = y at *
  go_enter Try.func22, Try.ntmps22
  go_wp2_with (go_at_call 50; refine c.mono ?_; rintro e w' ⟨rfl, rfl⟩)
  go_ret2
  simp
theorem depth_at {w : World} {B g : Nat} {S : SS Int} {F : Nat → Prop} (h : IsS encI 86 76 w B g S F) :
    Calls Try.prog 24 #[ptr g] w fun r w' => r = .returned (.int .i64 (S.M.length : Int)) ∧ w' = w := by
  obtain ⟨rb, wb, v, X, h⟩ := h
  have c := isMade_at h.box
  have c3 : w.cell? ⟨g, 3, none⟩ = some v := h.box.cell 3
  have hm : S.M.length = X.length := by rw [h.em]; simp
  obtain ⟨a, cap, rfl⟩ := ownsRow_slice h.row
  rw [hm]
  clear h hm
  unfold ptr at *
  go_enter Try.func24, Try.ntmps24
  go_wp2_with (go_at_call 50; refine c.mono ?_; rintro e w' ⟨rfl, rfl⟩)
  go_ret
  simp

theorem sinfoS : (Try.prog.info? 119).map (fun i => (i.zero.isSome, i.size)) = some (true, 4) := by kernel_rfl
theorem spoint : Try.prog.underlying 98 = some (.pointer 119) := by kernel_rfl
theorem seqlSelf (g : Nat) (w : World) : (binOp .eql 98 (.pointer (some ⟨g, 0, none⟩)) (.pointer (some ⟨g, 0, none⟩))).run Try.prog w = .ok (.bool true) w := by
  cases h : Try.prog.info? 119 with
  | none => have := sinfoS; rw [h] at this; cases this
  | some i => exact run_eql_ptr_same w ⟨g, 0, none⟩ spoint h
theorem seqlNone (g : Nat) (w : World) : (binOp .eql 98 (.pointer none) (.pointer (some ⟨g, 0, none⟩))).run Try.prog w = .ok (.bool false) w := by
  have h : ∀ d : Nat, (Op.equalIn (d + 1) 98 (.pointer none) (.pointer (some ⟨g, 0, none⟩))).run Try.prog w = .ok false w := fun d => by
    simp [Op.equalIn, run_underlying spoint]
  simp only [binOp]
  simp [Op.equal, Op.maxDepth, h]
theorem sisMade_at {w : World} {m : Nat} {a b c : Value} (h : Box w m #[ptr m, a, b, c] 119) : Calls Try.prog 84 #[ptr m] w fun r w' => r = .returned (.bool true) ∧ w' = w := by
  have c0 : w.cell? ⟨m, 0, none⟩ = some (ptr m) := h.cell 0
  unfold ptr at *
  have he := seqlSelf m
  go_enter Try.func84, Try.ntmps84
  go_wp2
  go_ret
  simp
theorem sisMade_zero {w : World} {m : Nat} {a b c : Value} (h : Box w m #[.pointer none, a, b, c] 119) : Calls Try.prog 84 #[ptr m] w fun r w' => r = .returned (.bool false) ∧ w' = w := by
  have c0 : w.cell? ⟨m, 0, none⟩ = some (.pointer none) := h.cell 0
  unfold ptr at *
  have he := seqlNone m
  go_enter Try.func84, Try.ntmps84
  go_wp2
  go_ret
  simp
theorem sisMade_nil (w : World) : Calls Try.prog 84 #[.pointer none] w fun r w' => r = .returned (.bool false) ∧ w' = w := by
  go_enter Try.func84, Try.ntmps84
  go_wp2
  go_ret
  simp
theorem svalue_at {w : World} {B g : Nat} {S : SS ByteArray} {F : Nat → Prop} (h : IsS encS 119 116 w B g S F) (i : Int) (hi : (Lit.int .i64 i).wf = true) :
    Calls Try.prog 62 #[ptr g, .int .i64 i] w fun r w' => r = .returned (.tuple #[encS ((gt S.W i).getD ByteArray.empty), .bool (gt S.W i).isSome]) ∧ w' = w := by
  obtain ⟨rb, wb, v, X, h⟩ := h
  have c := sisMade_at h.box
  have c2 : w.cell? ⟨g, 2, none⟩ = some (mp wb) := h.box.cell 2
  have hl := h.wr.look 116 9 ByteArray.empty Try.underlying116 Try.zeroValue9 i hi
  clear h
  unfold ptr mp at *
  generalize encS ((gt S.W i).getD ByteArray.empty) = x at *
  generalize (gt S.W i).isSome = y at *
  go_enter Try.func62, Try.ntmps62
  go_wp2_with (go_at_call 84; refine c.mono ?_; rintro e w' ⟨rfl, rfl⟩)
  go_ret2
  simp
theorem sseen_at {w : World} {B g : Nat} {S : SS ByteArray} {F : Nat → Prop} (h : IsS encS 119 116 w B g S F) (i : Int) (hi : (Lit.int .i64 i).wf = true) :
    Calls Try.prog 63 #[ptr g, .int .i64 i] w fun r w' => r = .returned (.tuple #[.int .i64 ((gt S.R i).getD 0), .bool (gt S.R i).isSome]) ∧ w' = w := by
  obtain ⟨rb, wb, v, X, h⟩ := h
  have c := sisMade_at h.box
  have c1 : w.cell? ⟨g, 1, none⟩ = some (mp rb) := h.box.cell 1
  have hl := h.rd.look 83 2 0 Try.underlying83 Try.zeroValue2 i hi
  clear h
  unfold ptr mp encI at *
  generalize ((gt S.R i).getD 0) = x at *
  generalize (gt S.R i).isSome = y at *
  go_enter Try.func63, Try.ntmps63
  go_wp2_with (go_at_call 84; refine c.mono ?_; rintro e w' ⟨rfl, rfl⟩)
  go_ret2
  simp
theorem sdepth_at {w : World} {B g : Nat} {S : SS ByteArray} {F : Nat → Prop} (h : IsS encS 119 116 w B g S F) :
    Calls Try.prog 65 #[ptr g] w fun r w' => r = .returned (.int .i64 (S.M.length : Int)) ∧ w' = w := by
  obtain ⟨rb, wb, v, X, h⟩ := h
  have c := sisMade_at h.box
  have c3 : w.cell? ⟨g, 3, none⟩ = some v := h.box.cell 3
  have hm : S.M.length = X.length := by rw [h.em]; simp
  obtain ⟨a, cap, rfl⟩ := ownsRow_slice h.row
  rw [hm]
  clear h hm
  unfold ptr at *
  go_enter Try.func65, Try.ntmps65
  go_wp2_with (go_at_call 84; refine c.mono ?_; rintro e w' ⟨rfl, rfl⟩)
  go_ret
  simp
end Go.Proofs.Ytdneikfocefnfaa
