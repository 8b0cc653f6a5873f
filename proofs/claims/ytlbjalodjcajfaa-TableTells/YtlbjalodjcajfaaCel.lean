/-
  A memory's calls.
-/
import Derived.Test.YtlbjalodjcajfaaEnt
import Derived.Deep.RegionHeld3
namespace Go.Proofs.Ytlbjalodjcajfaa
open Go.RowKit
theorem infoM : (Try.prog.info? 72).map (fun i => (i.zero.isSome, i.size)) = some (true, 3) := by kernel_rfl
theorem poinM : Try.prog.underlying 22 = some (.pointer 72) := by kernel_rfl
theorem eqlM (g : Nat) (w : World) : (binOp .eql 22 (.pointer (some ⟨g, 0, none⟩)) (.pointer (some ⟨g, 0, none⟩))).run Try.prog w = .ok (.bool true) w := by
  cases h : Try.prog.info? 72 with
  | none => have := infoM; rw [h] at this; cases this
  | some i => exact run_eql_ptr_same w ⟨g, 0, none⟩ poinM h
theorem madeM {w : World} {m : Nat} {a b : Value} (h : Box w m #[ptr m, a, b] 72) : Calls Try.prog 49 #[ptr m] w fun r w' => r = .returned (.bool true) ∧ w' = w := by
  have c0 : w.cell? ⟨m, 0, none⟩ = some (ptr m) := h.cell 0
  unfold ptr at *
  have he := eqlM m
  go_enter Try.func49, Try.ntmps49
  go_wp2
  go_ret
  simp
section
variable {w : World} {m g n : Nat} {k : Int}
theorem size_at (h : Box w m #[ptr m, .slice (some ⟨g, 0, none⟩) n n, .int .i64 k] 72) : Calls Try.prog 25 #[ptr m] w fun r w' => r = .returned (.int .i64 (n : Int)) ∧ w' = w := by
  have c := madeM h
  have c1 : w.cell? ⟨m, 1, none⟩ = some (.slice (some ⟨g, 0, none⟩) n n) := h.cell 1
  clear h
  unfold ptr at *
  go_enter Try.func25, Try.ntmps25
  go_wp2_with (go_at_call 49; refine c.mono ?_; rintro e w' ⟨rfl, rfl⟩)
  go_ret
  simp
theorem clock_at (h : Box w m #[ptr m, .slice (some ⟨g, 0, none⟩) n n, .int .i64 k] 72) : Calls Try.prog 26 #[ptr m] w fun r w' => r = .returned (.int .i64 k) ∧ w' = w := by
  have c := madeM h
  have c1 : w.cell? ⟨m, 2, none⟩ = some (.int .i64 k) := h.cell 2
  clear h
  unfold ptr at *
  go_enter Try.func26, Try.ntmps26
  go_wp2_with (go_at_call 49; refine c.mono ?_; rintro e w' ⟨rfl, rfl⟩)
  go_ret
  simp
theorem find_in (h : Box w m #[ptr m, .slice (some ⟨g, 0, none⟩) n n, .int .i64 k] 72) (i : Nat) (hi : i < n) : Calls Try.prog 57 #[ptr m, .int .i64 (i : Int)] w fun r w' => r = .returned (.tuple #[.pointer (some ⟨g, i * 5, none⟩), .int .i64 0]) ∧ w' = w := by
  have c := madeM h
  have c1 : w.cell? ⟨m, 1, none⟩ = some (.slice (some ⟨g, 0, none⟩) n n) := h.cell 1
  clear h
  unfold ptr at *
  have h1 : (i : Int) < (n : Int) := by omega
  go_enter Try.func57, Try.ntmps57
  go_wp2_with (go_at_call 49; refine c.mono ?_; rintro e w' ⟨rfl, rfl⟩)
  go_ret2
  simp
theorem isOwner_at (w : World) (o : Int) : Calls Try.prog 63 #[.int .i64 o] w fun r w' => r = .returned (.bool (decide (1 ≤ o))) ∧ w' = w := by
  go_enter Try.func63, Try.ntmps63
  go_wp2
  go_ret
  simp
set_option maxRecDepth 100000 in
set_option maxHeartbeats 2000000 in
theorem load_at {C : List Cl} (h : Box w m #[ptr m, .slice (some ⟨g, 0, none⟩) n n, .int .i64 k] 72) (hr : Box w g (cls C).toArray 110) (hl : C.length = n) (i : Nat) (c : Cl) (hc : C[i]? = some c) : Calls Try.prog 42 #[ptr m, .int .i64 (i : Int)] w fun r w' => r = .returned (.tuple #[ag c.e, .int .i64 c.ver, .int .i64 c.own, .int .i64 0]) ∧ Below w.heap.size w w' := by
  have hi : i < n := by rw [← hl]; exact (List.getElem?_eq_some_iff.1 hc).1
  have hb2 : Below w.heap.size w (w.alloc (.cells #[.bool false, .string ⟨#[]⟩, .string ⟨#[]⟩] 27)) := (Below.refl _ w).alloc (Nat.le_refl _) _
  have h' : Box (w.alloc (.cells #[.bool false, .string ⟨#[]⟩, .string ⟨#[]⟩] 27)) m #[ptr m, .slice (some ⟨g, 0, none⟩) n n, .int .i64 k] 72 := h.below hb2 h.lt
  have cf := find_in h' i hi
  obtain ⟨d0, d1, d2, d3, d4⟩ := row_get (hr.below hb2 hr.lt) hc
  have HK : Hid (∀ o : Obj, _) := fun o => row_get ((hr.alloc o).drew 1) hc
  obtain ⟨⟨xu, xk, xv⟩, ver, own⟩ := c
  unfold ag
  simp only at *
  clear h h' hr hb2 hc hl
  unfold ptr at *
  go_enter Try.func42, Try.ntmps42
  go_wp2_with (go_at_call 57; refine cf.mono ?_; rintro e w' ⟨rfl, rfl⟩)
  go_region_held3 (fun u => u.cell? ⟨g, i * 5, none⟩ = some (.bool xu) ∧ u.cell? ⟨g, i * 5 + 1, none⟩ = some (.string xk) ∧ u.cell? ⟨g, i * 5 + 2, none⟩ = some (.string xv) ∧ u.cell? ⟨g, i * 5 + 3, none⟩ = some (.int .i64 ver) ∧ u.cell? ⟨g, i * 5 + 4, none⟩ = some (.int .i64 own)) (first | exact HK.out _ | go_keep) (fail)
  go_wp2
  refine bodyPost_ret (v := .tuple #[.agg #[.bool xu, .string xk, .string xv], .int .i64 ver, .int .i64 own, .int .i64 0]) (by simp [results, Try.results42, go_sem]) rfl ⟨rfl, ((Below.refl _ w).alloc (Nat.le_refl _) _).drew⟩
end
end Go.Proofs.Ytlbjalodjcajfaa
