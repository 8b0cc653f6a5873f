/-
  Transactions: isMade, mayGoOn, isOver, agrees, versionAs, and what they tell of themselves.
-/
import Derived.Test.YtafiopjgegmfoaaTMem
import Derived.Test.YtafiopjgegmfoaaCOps
import Derived.Test.YtafiopjgegmfoaaCOps2
namespace Go.Proofs.Ytafiopjgegmfoaa.T
open Go.RowKit Go.Proofs.Ytafiopjgegmfoaa.C

theorem infoT : (Try.prog.info? 71).map (fun i => (i.zero.isSome, i.size)) = some (true, 9) := by kernel_rfl
theorem pointT : Try.prog.underlying 42 = some (.pointer 71) := by kernel_rfl
theorem eqlSelf (g : Nat) (w : World) : (binOp .eql 42 (.pointer (some ⟨g, 0, none⟩)) (.pointer (some ⟨g, 0, none⟩))).run Try.prog w = .ok (.bool true) w := by
  cases h : Try.prog.info? 71 with
  | none => have := infoT; rw [h] at this; cases this
  | some i => exact run_eql_ptr_same w ⟨g, 0, none⟩ pointT h
theorem eqlNone (g : Nat) (w : World) : (binOp .eql 42 (.pointer none) (.pointer (some ⟨g, 0, none⟩))).run Try.prog w = .ok (.bool false) w := by
  have h : ∀ d : Nat, (Op.equalIn (d + 1) 42 (.pointer none) (.pointer (some ⟨g, 0, none⟩))).run Try.prog w = .ok false w := fun d => by
    simp [Op.equalIn, run_underlying pointT]
  simp only [binOp]
  simp [Op.equal, Op.maxDepth, h]
/-- no transaction -/
def NoT (w : World) (p : Option Addr) : Prop := Calls Try.prog 30 #[.pointer p] w fun r w' => r = .returned (.bool false) ∧ w' = w
theorem noT_nil (w : World) : NoT w none := by
  unfold NoT
  go_enter Try.func30, Try.ntmps30
  go_wp2
  go_ret
  simp
theorem noT_zero {w : World} {g : Nat} {cs : Array Value} (h : Box w g cs 71) (hc : cs[0]? = some (.pointer none)) : NoT w (some ⟨g, 0, none⟩) := by
  have c0 : w.cell? ⟨g, 0, none⟩ = some (.pointer none) := (h.cell 0).trans hc
  have he := eqlNone g
  unfold NoT
  go_enter Try.func30, Try.ntmps30
  go_wp2
  go_ret
  simp
section
variable {w : World} {B g m gm s : Nat} {X : TX} {F P Q : Nat → Prop} {lv : Value} {S : M}
theorem isMade_at (h : Box w g (cells g m s lv X) 71) : Calls Try.prog 30 #[ptr g] w fun r w' => r = .returned (.bool true) ∧ w' = w := by
  have c0 : w.cell? ⟨g, 0, none⟩ = some (ptr g) := h.cell 0
  clear h
  unfold ptr at *
  have he := eqlSelf g
  go_enter Try.func30, Try.ntmps30
  go_wp2
  go_ret
  simp
theorem mayGo_at (h : Box w g (cells g m s lv X) 71) (ok : X.Ok) : Calls Try.prog 24 #[ptr g] w fun r w' => r = .returned (.int .i64 (if X.st ≠ 1 then 132 else 0)) ∧ w' = w := by
  have c := isMade_at h
  have c5 : w.cell? ⟨g, 5, none⟩ = some (.int .u8 X.st) := h.cell 5
  have hs := ok.st
  generalize X.st = st at *
  clear h ok
  unfold ptr at *
  rcases hs with rfl | rfl | rfl | rfl
  all_goals
    go_enter Try.func24, Try.ntmps24
    go_wp2_with (go_at_call 30; refine c.mono ?_; rintro e w' ⟨rfl, rfl⟩)
    go_ret
    simp
theorem isOver_at (h : Box w g (cells g m s lv X) 71) (ok : X.Ok) : Calls Try.prog 31 #[ptr g] w fun r w' => r = .returned (.bool (decide (X.st = 3 ∨ X.st = 4))) ∧ w' = w := by
  have c5 : w.cell? ⟨g, 5, none⟩ = some (.int .u8 X.st) := h.cell 5
  have hs := ok.st
  generalize X.st = st at *
  clear h ok
  unfold ptr at *
  rcases hs with rfl | rfl | rfl | rfl
  all_goals
    go_enter Try.func31, Try.ntmps31
    go_wp2
    go_ret
    simp
theorem agrees_at (h : IsT w B g m X F s lv P Q) (i k : Int) (hi : (Lit.int .i64 i).wf = true) : Calls Try.prog 26 #[ptr g, .int .i64 i, .int .i64 k] w fun r w' => r = .returned (.bool (!X.oth i k)) ∧ w' = w := by
  have c := seen_at h.sets i hi
  have c4 : w.cell? ⟨g, 4, none⟩ = some (ptr s) := h.box.cell 4
  clear h
  unfold TX.oth
  cases hg : gt X.S.R i with
  | none =>
    rw [hg] at c
    simp only [Option.getD_none, Option.isSome_none] at c
    unfold ptr at *
    go_enter Try.func26, Try.ntmps26
    go_wp2_with (go_at_call 36; refine c.mono ?_; rintro e w' ⟨rfl, rfl⟩)
    go_ret
    simp
  | some u =>
    rw [hg] at c
    simp only [Option.getD_some, Option.isSome_some] at c
    unfold ptr at *
    by_cases e : u = k
    · subst e
      go_enter Try.func26, Try.ntmps26
      go_wp2_with (go_at_call 36; refine c.mono ?_; rintro e w' ⟨rfl, rfl⟩)
      go_ret
      simp
    · go_enter Try.func26, Try.ntmps26
      go_wp2_with (go_at_call 36; refine c.mono ?_; rintro e w' ⟨rfl, rfl⟩)
      go_ret
      simp [bne]
theorem versionAs_at (h : Box w g (cells g m s lv X) 71) (ok : X.Ok) (k : Int) (hk : k = 2 ∨ k = 3) : Calls Try.prog 33 #[ptr g, .int .u8 k] w fun r w' => r = .returned (.int .i64 (if X.st = k then X.ver else 0)) ∧ w' = w := by
  have c := isMade_at h
  have c5 : w.cell? ⟨g, 5, none⟩ = some (.int .u8 X.st) := h.cell 5
  have c7 : w.cell? ⟨g, 7, none⟩ = some (.int .i64 X.ver) := h.cell 7
  have hs := ok.st
  generalize X.st = st at *
  generalize X.ver = v at *
  clear h ok
  unfold ptr at *
  rcases hk with rfl | rfl <;> rcases hs with rfl | rfl | rfl | rfl
  all_goals
    go_enter Try.func33, Try.ntmps33
    go_wp2_with (go_at_call 30; refine c.mono ?_; rintro e w' ⟨rfl, rfl⟩)
    go_ret
    simp
theorem version_at (h : IsX w B g m X F) : Calls Try.prog 18 #[ptr g] w fun r w' => r = .returned (.int .i64 (if X.st = 3 then X.ver else 0)) ∧ w' = w := by
  obtain ⟨s, lv, P, Q, h⟩ := h
  have c := versionAs_at h.box h.ok 3 (.inr rfl)
  clear h
  unfold ptr at *
  generalize (if X.st = 3 then X.ver else 0) = v at *
  go_enter Try.func18, Try.ntmps18
  go_wp2_with (go_at_call 33; refine c.mono ?_; rintro e w' ⟨rfl, rfl⟩)
  go_ret
  simp
theorem status_at (h : IsX w B g m X F) : Calls Try.prog 16 #[ptr g] w fun r w' => r = .returned (.int .u8 X.st) ∧ w' = w := by
  obtain ⟨s, lv, P, Q, h⟩ := h
  have c := isMade_at h.box
  have c5 : w.cell? ⟨g, 5, none⟩ = some (.int .u8 X.st) := h.box.cell 5
  generalize X.st = st at *
  clear h
  unfold ptr at *
  go_enter Try.func16, Try.ntmps16
  go_wp2_with (go_at_call 30; refine c.mono ?_; rintro e w' ⟨rfl, rfl⟩)
  go_ret
  simp
end
section
variable {w : World} {p : Option Addr}
theorem mayGo_no (h : NoT w p) : Calls Try.prog 24 #[.pointer p] w fun r w' => r = .returned (.int .i64 1) ∧ w' = w := by
  go_enter Try.func24, Try.ntmps24
  go_wp2_with (go_at_call 30; refine Calls.mono h ?_; rintro e w' ⟨rfl, rfl⟩)
  go_ret
  simp
theorem read_no (h : NoT w p) (i : Int) : Calls Try.prog 13 #[.pointer p, .int .i64 i] w fun r w' => r = .returned (.tuple #[.int .i64 0, .int .i64 1]) ∧ w' = w := by
  have c := mayGo_no h
  clear h
  go_enter Try.func13, Try.ntmps13
  go_wp2_with (go_at_call 24; refine c.mono ?_; rintro e w' ⟨rfl, rfl⟩)
  go_ret2
  simp
theorem write_no (h : NoT w p) (i v : Int) : Calls Try.prog 14 #[.pointer p, .int .i64 i, .int .i64 v] w fun r w' => r = .returned (.int .i64 1) ∧ w' = w := by
  have c := mayGo_no h
  clear h
  go_enter Try.func14, Try.ntmps14
  go_wp2_with (go_at_call 24; refine c.mono ?_; rintro e w' ⟨rfl, rfl⟩)
  go_ret
  simp
theorem step_no (h : NoT w p) : Calls Try.prog 17 #[.pointer p] w fun r w' => r = .returned (.tuple #[.int .u8 0, .int .i64 1]) ∧ w' = w := by
  go_enter Try.func17, Try.ntmps17
  go_wp2_with (go_at_call 30; refine Calls.mono h ?_; rintro e w' ⟨rfl, rfl⟩)
  go_ret2
  simp
theorem abort_no (h : NoT w p) : Calls Try.prog 15 #[.pointer p] w fun r w' => r = .returned (.int .i64 1) ∧ w' = w := by
  go_enter Try.func15, Try.ntmps15
  go_wp2_with (go_at_call 30; refine Calls.mono h ?_; rintro e w' ⟨rfl, rfl⟩)
  go_ret
  simp
theorem status_no (h : NoT w p) : Calls Try.prog 16 #[.pointer p] w fun r w' => r = .returned (.int .u8 0) ∧ w' = w := by
  go_enter Try.func16, Try.ntmps16
  go_wp2_with (go_at_call 30; refine Calls.mono h ?_; rintro e w' ⟨rfl, rfl⟩)
  go_ret
  simp
theorem versionAs_no (h : NoT w p) (k : Int) : Calls Try.prog 33 #[.pointer p, .int .u8 k] w fun r w' => r = .returned (.int .i64 0) ∧ w' = w := by
  go_enter Try.func33, Try.ntmps33
  go_wp2_with (go_at_call 30; refine Calls.mono h ?_; rintro e w' ⟨rfl, rfl⟩)
  go_ret
  simp
theorem version_no (h : NoT w p) : Calls Try.prog 18 #[.pointer p] w fun r w' => r = .returned (.int .i64 0) ∧ w' = w := by
  have c := versionAs_no h 3
  clear h
  go_enter Try.func18, Try.ntmps18
  go_wp2_with (go_at_call 33; refine c.mono ?_; rintro e w' ⟨rfl, rfl⟩)
  go_ret
  simp
end
end Go.Proofs.Ytafiopjgegmfoaa.T
