/-
  A memory's small calls.
-/
import Derived.Test.YtafiopjgegmfoaaGreatCMem
namespace Go.Proofs.YtafiopjgegmfoaaGreat.C
open Go.RowKit
theorem isOwner_at (w : World) (o : Int) : Calls Tryz.prog 68 #[.int .i64 o] w fun r w' => r = .returned (.bool (decide (1 ≤ o))) ∧ w' = w := by
  go_enter Tryz.func68, Tryz.ntmps68
  go_wp2
  go_ret
  simp

theorem infoM : (Tryz.prog.info? 29).map (fun i => (i.zero.isSome, i.size)) = some (true, 3) := by kernel_rfl
theorem poin54 : Tryz.prog.underlying 26 = some (.pointer 29) := by kernel_rfl
theorem eqlSelf (g : Nat) (w : World) : (binOp .eql 26 (.pointer (some ⟨g, 0, none⟩)) (.pointer (some ⟨g, 0, none⟩))).run Tryz.prog w = .ok (.bool true) w := by
  cases h : Tryz.prog.info? 29 with
  | none => have := infoM; rw [h] at this; cases this
  | some i => exact run_eql_ptr_same w ⟨g, 0, none⟩ poin54 h
theorem eqlNone (g : Nat) (w : World) : (binOp .eql 26 (.pointer none) (.pointer (some ⟨g, 0, none⟩))).run Tryz.prog w = .ok (.bool false) w := by
  have h : ∀ d : Nat, (Op.equalIn (d + 1) 26 (.pointer none) (.pointer (some ⟨g, 0, none⟩))).run Tryz.prog w = .ok false w := fun d => by
    simp [Op.equalIn, run_underlying poin54]
  simp only [binOp]
  simp [Op.equal, Op.maxDepth, h]
theorem isMade_at {w : World} {m : Nat} {a b : Value} (h : Box w m #[ptr m, a, b] 29) : Calls Tryz.prog 49 #[ptr m] w fun r w' => r = .returned (.bool true) ∧ w' = w := by
  have c0 : w.cell? ⟨m, 0, none⟩ = some (ptr m) := h.cell 0
  unfold ptr at *
  have he := eqlSelf m
  go_enter Tryz.func49, Tryz.ntmps49
  go_wp2
  go_ret
  simp
theorem find_in {w : World} {m g n : Nat} {k : Value} (h : Box w m #[ptr m, .slice (some ⟨g, 0, none⟩) n n, k] 29) (i : Nat) (hi : i < n) (_hn : n ≤ 1024) : Calls Tryz.prog 63 #[ptr m, .int .i64 (i : Int)] w fun r w' => r = .returned (.tuple #[.pointer (some ⟨g, i * 3, none⟩), .int .i64 0]) ∧ w' = w := by
  have c := isMade_at h
  have c1 : w.cell? ⟨m, 1, none⟩ = some (.slice (some ⟨g, 0, none⟩) n n) := h.cell 1
  clear h
  unfold ptr at *
  have h1 : (i : Int) < (n : Int) := by omega
  go_enter Tryz.func63, Tryz.ntmps63
  go_wp2_with (go_at_call 49; refine c.mono ?_; rintro e w' ⟨rfl, rfl⟩)
  go_ret2
  simp
theorem find_out {w : World} {m g n : Nat} {k : Value} (h : Box w m #[ptr m, .slice (some ⟨g, 0, none⟩) n n, k] 29) (i : Int) (hi : i < 0 ∨ (n : Int) ≤ i) : Calls Tryz.prog 63 #[ptr m, .int .i64 i] w fun r w' => r = .returned (.tuple #[.pointer none, .int .i64 2]) ∧ w' = w := by
  have c := isMade_at h
  have c1 : w.cell? ⟨m, 1, none⟩ = some (.slice (some ⟨g, 0, none⟩) n n) := h.cell 1
  clear h
  unfold ptr at *
  by_cases h1 : i < 0
  · go_enter Tryz.func63, Tryz.ntmps63
    go_wp2_with (go_at_call 49; refine c.mono ?_; rintro e w' ⟨rfl, rfl⟩)
    go_ret2
    simp
  · have h2 : (n : Int) ≤ i := by omega
    clear hi
    go_enter Tryz.func63, Tryz.ntmps63
    go_wp2_with (go_at_call 49; refine c.mono ?_; rintro e w' ⟨rfl, rfl⟩)
    go_ret2
    simp

end Go.Proofs.YtafiopjgegmfoaaGreat.C
