/-
  The small functions of disk.
-/
import Derived.Test.YtagnmmapnpcijaaMem
import Derived.LaidEqlPtr
namespace Go.Proofs.Ytagnmmapnpcijaa
open Go.RowKit

theorem box_cells {w : World} {g : Nat} {vd vu : Value} {D : DS} (h : Box w g (diskC g vd vu D) 69) :
    w.cell? ⟨g, 0, none⟩ = some (.pointer (some ⟨g, 0, none⟩)) ∧ w.cell? ⟨g, 1, none⟩ = some vd ∧ w.cell? ⟨g, 2, none⟩ = some vu ∧ w.cell? ⟨g, 3, none⟩ = some (.int .i64 (D.n : Int)) ∧ w.cell? ⟨g, 4, none⟩ = some (.bool D.gone) ∧ w.cell? ⟨g, 5, none⟩ = some (.bool D.arm.set) ∧ w.cell? ⟨g, 6, none⟩ = some (.int .i64 (D.arm.left : Int)) ∧ w.cell? ⟨g, 7, none⟩ = some (.bool D.fail.set) ∧ w.cell? ⟨g, 8, none⟩ = some (.int .i64 (D.fail.left : Int)) :=
  ⟨h.cell 0, h.cell 1, h.cell 2, h.cell 3, h.cell 4, h.cell 5, h.cell 6, h.cell 7, h.cell 8⟩

theorem info69 : (Try.prog.info? 69).map (fun i => (i.zero.isSome, i.size)) = some (true, 9) := by kernel_rfl
theorem point22 : Try.prog.underlying 22 = some (.pointer 69) := by kernel_rfl
theorem eqlSelf (g : Nat) (w : World) : (binOp .eql 22 (.pointer (some ⟨g, 0, none⟩)) (.pointer (some ⟨g, 0, none⟩))).run Try.prog w = .ok (.bool true) w := by
  cases h : Try.prog.info? 69 with
  | none => have := info69; rw [h] at this; cases this
  | some i => exact run_eql_ptr_same w ⟨g, 0, none⟩ point22 h
theorem eqlNone (g : Nat) (w : World) : (binOp .eql 22 (.pointer none) (.pointer (some ⟨g, 0, none⟩))).run Try.prog w = .ok (.bool false) w := by
  have h : ∀ d : Nat, (Op.equalIn (d + 1) 22 (.pointer none) (.pointer (some ⟨g, 0, none⟩))).run Try.prog w = .ok false w := fun d => by
    simp [Op.equalIn, run_underlying point22]
  simp only [binOp]
  simp [Op.equal, Op.maxDepth, h 9999]

theorem isMade_cell (g : Nat) (w : World) (h : w.cell? ⟨g, 0, none⟩ = some (.pointer (some ⟨g, 0, none⟩))) :
    Calls Try.prog 36 #[.pointer (some ⟨g, 0, none⟩)] w fun e w' => e = .returned (.bool true) ∧ w = w' := by
  have he := eqlSelf g
  go_enter Try.func36, Try.ntmps36
  go_wp2
  go_ret
  exact ⟨rfl, rfl⟩
theorem isMade_at {g : Nat} {w : World} {D : DS} {F : Nat → Prop} {gd cd : Nat} {vu : Value} {ps : List (Nat × Nat × Nat)} (h : Lies w g D F gd cd vu ps) :
    Calls Try.prog 36 #[.pointer (some ⟨g, 0, none⟩)] w fun e w' => e = .returned (.bool true) ∧ w = w' := isMade_cell g w (box_cells h.box).1
theorem isMade_none (w : World) : Calls Try.prog 36 #[.pointer none] w fun e w' => e = .returned (.bool false) ∧ w = w' := by
  go_enter Try.func36, Try.ntmps36
  go_wp2
  go_ret
  exact ⟨rfl, rfl⟩
theorem isMade_zero (g : Nat) (w : World) (h : w.cell? ⟨g, 0, none⟩ = some (.pointer none)) :
    Calls Try.prog 36 #[.pointer (some ⟨g, 0, none⟩)] w fun e w' => e = .returned (.bool false) ∧ w = w' := by
  have he := eqlNone g
  go_enter Try.func36, Try.ntmps36
  go_wp2
  go_ret
  exact ⟨rfl, rfl⟩

theorem rightSize_at (n : Int) (w : World) : Calls Try.prog 34 #[.int .i64 n] w fun e w' => e = .returned (.bool (decide (1 ≤ n) && decide (n ≤ 512))) ∧ w = w' := by
  by_cases h : 1 ≤ n
  · go_enter Try.func34, Try.ntmps34
    go_wp2
    go_ret
    simp [h]
  · go_enter Try.func34, Try.ntmps34
    go_wp2
    go_ret
    simp
    omega

theorem size_at {g : Nat} {w : World} {D : DS} {F : Nat → Prop} {gd cd : Nat} {vu : Value} {ps : List (Nat × Nat × Nat)} (h : Lies w g D F gd cd vu ps) :
    Calls Try.prog 22 #[.pointer (some ⟨g, 0, none⟩)] w fun e w' => e = .returned (.int .i64 (D.nb : Int)) ∧ w = w' := by
  obtain ⟨_, h1, _⟩ := box_cells h.box
  have hi := h.ok.hi
  have c := isMade_at h
  go_enter Try.func22, Try.ntmps22
  go_wp2_with fail
  refine c.mono ?_
  rintro e w' ⟨rfl, rfl⟩
  have e2 : ((D.nb : Int) * 4096) / 4096 = D.nb := by omega
  go_wp2
  go_ret
  exact ⟨by simp, rfl⟩

theorem has_at {g : Nat} {w : World} {D : DS} {F : Nat → Prop} {gd cd : Nat} {vu : Value} {ps : List (Nat × Nat × Nat)} (h : Lies w g D F gd cd vu ps) (n : Int) :
    Calls Try.prog 37 #[.pointer (some ⟨g, 0, none⟩), .int .i64 n] w fun e w' => e = .returned (.bool (D.has n)) ∧ w = w' := by
  have c := size_at h
  unfold DS.has
  by_cases h0 : 0 ≤ n
  · go_enter Try.func37, Try.ntmps37
    go_wp2_with fail
    refine c.mono ?_
    rintro e w' ⟨rfl, rfl⟩
    go_wp2
    go_ret
    simp [h0]
  · go_enter Try.func37, Try.ntmps37
    go_wp2
    go_ret
    simp
    omega

/-- number n of the parts of so many bytes -/
theorem part_at (g o len cap n size : Nat) (w : World) (hf : n * size + size ≤ cap) (hc : cap ≤ 9223372036854775807) (hs : 0 < size) :
    Calls Try.prog 57 #[.slice (some ⟨g, o, none⟩) len cap, .int .i64 n, .int .i64 size] w fun e w' => e = .returned (.slice (some ⟨g, o + n * size, none⟩) size size) ∧ w = w' := by
  obtain ⟨M, hM⟩ : ∃ M, M = n * size := ⟨_, rfl⟩
  have e1 : (n : Int) * (size : Int) = (M : Int) := by rw [hM]; push_cast; rfl
  rw [← hM] at hf ⊢
  clear hM
  have h1 : (M : Int) + size ≤ cap := by omega
  have e2 : M + size - M = size := by omega
  go_enter Try.func57, Try.ntmps57
  go_wp2
  go_ret
  rw [e2]
  exact ⟨rfl, rfl⟩
end Go.Proofs.Ytagnmmapnpcijaa
