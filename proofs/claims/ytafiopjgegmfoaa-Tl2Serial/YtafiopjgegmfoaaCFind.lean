/-
  A memory's small calls.
-/
import Derived.Test.YtafiopjgegmfoaaCMem
namespace Go.Proofs.Ytafiopjgegmfoaa.C
open Go.RowKit
theorem isOwner_at (w : World) (o : Int) : Calls Try.prog 52 #[.int .i64 o] w fun r w' => r = .returned (.bool (decide (1 ≤ o))) ∧ w' = w := by
  go_enter Try.func52, Try.ntmps52
  go_wp2
  go_ret
  simp

theorem infoM : (Try.prog.info? 65).map (fun i => (i.zero.isSome, i.size)) = some (true, 3) := by kernel_rfl
theorem poin54 : Try.prog.underlying 38 = some (.pointer 65) := by kernel_rfl
theorem eqlSelf (g : Nat) (w : World) : (binOp .eql 38 (.pointer (some ⟨g, 0, none⟩)) (.pointer (some ⟨g, 0, none⟩))).run Try.prog w = .ok (.bool true) w := by
  cases h : Try.prog.info? 65 with
  | none => have := infoM; rw [h] at this; cases this
  | some i => exact run_eql_ptr_same w ⟨g, 0, none⟩ poin54 h
theorem eqlNone (g : Nat) (w : World) : (binOp .eql 38 (.pointer none) (.pointer (some ⟨g, 0, none⟩))).run Try.prog w = .ok (.bool false) w := by
  have h : ∀ d : Nat, (Op.equalIn (d + 1) 38 (.pointer none) (.pointer (some ⟨g, 0, none⟩))).run Try.prog w = .ok false w := fun d => by
    simp [Op.equalIn, run_underlying poin54]
  simp only [binOp]
  simp [Op.equal, Op.maxDepth, h]
theorem isMade_at {w : World} {m : Nat} {a b : Value} (h : Box w m #[ptr m, a, b] 65) : Calls Try.prog 23 #[ptr m] w fun r w' => r = .returned (.bool true) ∧ w' = w := by
  have c0 : w.cell? ⟨m, 0, none⟩ = some (ptr m) := h.cell 0
  unfold ptr at *
  have he := eqlSelf m
  go_enter Try.func23, Try.ntmps23
  go_wp2
  go_ret
  simp
theorem find_in {w : World} {m g n : Nat} {k : Value} (h : Box w m #[ptr m, .slice (some ⟨g, 0, none⟩) n n, k] 65) (i : Nat) (hi : i < n) (_hn : n ≤ 1024) : Calls Try.prog 34 #[ptr m, .int .i64 (i : Int)] w fun r w' => r = .returned (.tuple #[.pointer (some ⟨g, i * 3, none⟩), .int .i64 0]) ∧ w' = w := by
  have c := isMade_at h
  have c1 : w.cell? ⟨m, 1, none⟩ = some (.slice (some ⟨g, 0, none⟩) n n) := h.cell 1
  clear h
  unfold ptr at *
  have h1 : (i : Int) < (n : Int) := by omega
  go_enter Try.func34, Try.ntmps34
  go_wp2_with (go_at_call 23; refine c.mono ?_; rintro e w' ⟨rfl, rfl⟩)
  go_ret2
  simp
theorem find_out {w : World} {m g n : Nat} {k : Value} (h : Box w m #[ptr m, .slice (some ⟨g, 0, none⟩) n n, k] 65) (i : Int) (hi : i < 0 ∨ (n : Int) ≤ i) : Calls Try.prog 34 #[ptr m, .int .i64 i] w fun r w' => r = .returned (.tuple #[.pointer none, .int .i64 2]) ∧ w' = w := by
  have c := isMade_at h
  have c1 : w.cell? ⟨m, 1, none⟩ = some (.slice (some ⟨g, 0, none⟩) n n) := h.cell 1
  clear h
  unfold ptr at *
  by_cases h1 : i < 0
  · go_enter Try.func34, Try.ntmps34
    go_wp2_with (go_at_call 23; refine c.mono ?_; rintro e w' ⟨rfl, rfl⟩)
    go_ret2
    simp
  · have h2 : (n : Int) ≤ i := by omega
    clear hi
    go_enter Try.func34, Try.ntmps34
    go_wp2_with (go_at_call 23; refine c.mono ?_; rintro e w' ⟨rfl, rfl⟩)
    go_ret2
    simp

end Go.Proofs.Ytafiopjgegmfoaa.C
