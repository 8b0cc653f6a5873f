/-
  Transactions: isMade, mayGoOn, isOver, agrees, versionAs, and what they tell of themselves.
-/
import Derived.Test.YtafiopjgegmfoaaGreatTMem
import Derived.Test.YtafiopjgegmfoaaGreatCOps
import Derived.Test.YtafiopjgegmfoaaGreatCOps2
namespace Go.Proofs.YtafiopjgegmfoaaGreat.T
open Go.RowKit Go.Proofs.YtafiopjgegmfoaaGreat.C

theorem infoT : (Tryz.prog.info? 63).map (fun i => (i.zero.isSome, i.size)) = some (true, 9) := by kernel_rfl
theorem pointT : Tryz.prog.underlying 35 = some (.pointer 63) := by kernel_rfl
theorem eqlSelf (g : Nat) (w : World) : (binOp .eql 35 (.pointer (some ⟨g, 0, none⟩)) (.pointer (some ⟨g, 0, none⟩))).run Tryz.prog w = .ok (.bool true) w := by
  cases h : Tryz.prog.info? 63 with
  | none => have := infoT; rw [h] at this; cases this
  | some i => exact run_eql_ptr_same w ⟨g, 0, none⟩ pointT h
theorem eqlNone (g : Nat) (w : World) : (binOp .eql 35 (.pointer none) (.pointer (some ⟨g, 0, none⟩))).run Tryz.prog w = .ok (.bool false) w := by
  have h : ∀ d : Nat, (Op.equalIn (d + 1) 35 (.pointer none) (.pointer (some ⟨g, 0, none⟩))).run Tryz.prog w = .ok false w := fun d => by
    simp [Op.equalIn, run_underlying pointT]
  simp only [binOp]
  simp [Op.equal, Op.maxDepth, h]
/-- no transaction -/
def NoT (w : World) (p : Option Addr) : Prop := Calls Tryz.prog 53 #[.pointer p] w fun r w' => r = .returned (.bool false) ∧ w' = w
theorem noT_nil (w : World) : NoT w none := by
  unfold NoT
  go_enter Tryz.func53, Tryz.ntmps53
  go_wp2
  go_ret
  simp
theorem noT_zero {w : World} {g : Nat} {cs : Array Value} (h : Box w g cs 63) (hc : cs[0]? = some (.pointer none)) : NoT w (some ⟨g, 0, none⟩) := by
  have c0 : w.cell? ⟨g, 0, none⟩ = some (.pointer none) := (h.cell 0).trans hc
  have he := eqlNone g
  unfold NoT
  go_enter Tryz.func53, Tryz.ntmps53
  go_wp2
  go_ret
  simp
section
variable {w : World} {B g m gm s : Nat} {X : TX} {F P Q : Nat → Prop} {lv : Value} {S : M}
theorem isMade_at (h : Box w g (cells g m s lv X) 63) : Calls Tryz.prog 53 #[ptr g] w fun r w' => r = .returned (.bool true) ∧ w' = w := by
  have c0 : w.cell? ⟨g, 0, none⟩ = some (ptr g) := h.cell 0
  clear h
  unfold ptr at *
  have he := eqlSelf g
  go_enter Tryz.func53, Tryz.ntmps53
  go_wp2
  go_ret
  simp
theorem mayGo_at (h : Box w g (cells g m s lv X) 63) (ok : X.Ok) : Calls Tryz.prog 43 #[ptr g] w fun r w' => r = .returned (.int .i64 (if X.st ≠ 1 then 132 else 0)) ∧ w' = w := by
  have c := isMade_at h
  have c5 : w.cell? ⟨g, 5, none⟩ = some (.int .u8 X.st) := h.cell 5
  have hs := ok.st
  generalize X.st = st at *
  clear h ok
  unfold ptr at *
  rcases hs with rfl | rfl | rfl | rfl
  all_goals
    go_enter Tryz.func43, Tryz.ntmps43
    go_wp2_with (go_at_call 53; refine c.mono ?_; rintro e w' ⟨rfl, rfl⟩)
    go_ret
    simp
theorem agrees_at (h : IsT w B g m X F s lv P Q) (i k : Int) (hi : (Lit.int .i64 i).wf = true) : Calls Tryz.prog 46 #[ptr g, .int .i64 i, .int .i64 k] w fun r w' => r = .returned (.bool (!X.oth i k)) ∧ w' = w := by
  have c := seen_at h.sets i hi
  have c4 : w.cell? ⟨g, 4, none⟩ = some (ptr s) := h.box.cell 4
  clear h
  unfold TX.oth
  cases hg : gt X.S.R i with
  | none =>
    rw [hg] at c
    simp only [Option.getD_none, Option.isSome_none] at c
    unfold ptr at *
    go_enter Tryz.func46, Tryz.ntmps46
    go_wp2_with (go_at_call 64; refine c.mono ?_; rintro e w' ⟨rfl, rfl⟩)
    go_ret
    simp
  | some u =>
    rw [hg] at c
    simp only [Option.getD_some, Option.isSome_some] at c
    unfold ptr at *
    by_cases e : u = k
    · subst e
      go_enter Tryz.func46, Tryz.ntmps46
      go_wp2_with (go_at_call 64; refine c.mono ?_; rintro e w' ⟨rfl, rfl⟩)
      go_ret
      simp
    · go_enter Tryz.func46, Tryz.ntmps46
      go_wp2_with (go_at_call 64; refine c.mono ?_; rintro e w' ⟨rfl, rfl⟩)
      go_ret
      simp [bne]
theorem status_at (h : IsX w B g m X F) : Calls Tryz.prog 39 #[ptr g] w fun r w' => r = .returned (.int .u8 X.st) ∧ w' = w := by
  obtain ⟨s, lv, P, Q, h⟩ := h
  have c := isMade_at h.box
  have c5 : w.cell? ⟨g, 5, none⟩ = some (.int .u8 X.st) := h.box.cell 5
  generalize X.st = st at *
  clear h
  unfold ptr at *
  go_enter Tryz.func39, Tryz.ntmps39
  go_wp2_with (go_at_call 53; refine c.mono ?_; rintro e w' ⟨rfl, rfl⟩)
  go_ret
  simp
theorem depth_at (h : IsX w B g m X F) : Calls Tryz.prog 26 #[ptr g] w fun r w' => r = .returned (.int .i64 (X.S.M.length : Int)) ∧ w' = w := by
  obtain ⟨s, lv, P, Q, h⟩ := h
  have c := isMade_at h.box
  have c4 : w.cell? ⟨g, 4, none⟩ = some (ptr s) := h.box.cell 4
  have cd := YtafiopjgegmfoaaGreat.depth_at h.sets
  generalize X.S.M.length = n at *
  clear h
  unfold ptr at *
  go_enter Tryz.func26, Tryz.ntmps26
  go_wp2_with (first | (go_at_call 53; refine c.mono ?_; rintro e w' ⟨rfl, rfl⟩) | (go_at_call 54; refine cd.mono ?_; rintro e w' ⟨rfl, rfl⟩))
  go_ret
  simp
end
section
variable {w : World} {p : Option Addr}
theorem mayGo_no (h : NoT w p) : Calls Tryz.prog 43 #[.pointer p] w fun r w' => r = .returned (.int .i64 1) ∧ w' = w := by
  go_enter Tryz.func43, Tryz.ntmps43
  go_wp2_with (go_at_call 53; refine Calls.mono h ?_; rintro e w' ⟨rfl, rfl⟩)
  go_ret
  simp
theorem read_no (h : NoT w p) (i : Int) : Calls Tryz.prog 18 #[.pointer p, .int .i64 i] w fun r w' => r = .returned (.tuple #[.int .i64 0, .int .i64 1]) ∧ w' = w := by
  have c := mayGo_no h
  clear h
  go_enter Tryz.func18, Tryz.ntmps18
  go_wp2_with (go_at_call 43; refine c.mono ?_; rintro e w' ⟨rfl, rfl⟩)
  go_ret2
  simp
theorem write_no (h : NoT w p) (i v : Int) : Calls Tryz.prog 24 #[.pointer p, .int .i64 i, .int .i64 v] w fun r w' => r = .returned (.int .i64 1) ∧ w' = w := by
  have c := mayGo_no h
  clear h
  go_enter Tryz.func24, Tryz.ntmps24
  go_wp2_with (go_at_call 43; refine c.mono ?_; rintro e w' ⟨rfl, rfl⟩)
  go_ret
  simp
theorem mark_no (h : NoT w p) : Calls Tryz.prog 60 #[.pointer p] w fun r w' => r = .returned (.int .i64 1) ∧ w' = w := by
  have c := mayGo_no h
  clear h
  go_enter Tryz.func60, Tryz.ntmps60
  go_wp2_with (go_at_call 43; refine c.mono ?_; rintro e w' ⟨rfl, rfl⟩)
  go_ret
  simp
theorem keep_no (h : NoT w p) : Calls Tryz.prog 90 #[.pointer p] w fun r w' => r = .returned (.int .i64 1) ∧ w' = w := by
  have c := mayGo_no h
  clear h
  go_enter Tryz.func90, Tryz.ntmps90
  go_wp2_with (go_at_call 43; refine c.mono ?_; rintro e w' ⟨rfl, rfl⟩)
  go_ret
  simp
theorem undo_no (h : NoT w p) : Calls Tryz.prog 91 #[.pointer p] w fun r w' => r = .returned (.int .i64 1) ∧ w' = w := by
  have c := mayGo_no h
  clear h
  go_enter Tryz.func91, Tryz.ntmps91
  go_wp2_with (go_at_call 43; refine c.mono ?_; rintro e w' ⟨rfl, rfl⟩)
  go_ret
  simp
theorem depth_no (h : NoT w p) : Calls Tryz.prog 26 #[.pointer p] w fun r w' => r = .returned (.int .i64 0) ∧ w' = w := by
  go_enter Tryz.func26, Tryz.ntmps26
  go_wp2_with (go_at_call 53; refine Calls.mono h ?_; rintro e w' ⟨rfl, rfl⟩)
  go_ret
  simp
theorem status_no (h : NoT w p) : Calls Tryz.prog 39 #[.pointer p] w fun r w' => r = .returned (.int .u8 0) ∧ w' = w := by
  go_enter Tryz.func39, Tryz.ntmps39
  go_wp2_with (go_at_call 53; refine Calls.mono h ?_; rintro e w' ⟨rfl, rfl⟩)
  go_ret
  simp
end
end Go.Proofs.YtafiopjgegmfoaaGreat.T
