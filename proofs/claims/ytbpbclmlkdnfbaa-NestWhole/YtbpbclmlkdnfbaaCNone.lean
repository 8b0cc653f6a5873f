/-
  A memory that is none: nil, or one that New did not make.
-/
import Derived.Test.YtbpbclmlkdnfbaaCNew
namespace Go.Proofs.Ytbpbclmlkdnfbaa.C
open Go.RowKit
def NoM (w : World) (v : Value) : Prop := v = .pointer none ∨ ∃ s a b, v = ptr s ∧ Box w s #[.pointer none, a, b] 77
theorem isMade_no {w : World} {v : Value} (h : NoM w v) : Calls Try.prog 60 #[v] w fun r w' => r = .returned (.bool false) ∧ w' = w := by
  rcases h with rfl | ⟨s, a, b, rfl, h⟩
  · go_enter Try.func60, Try.ntmps60
    go_wp2
    go_ret
    simp
  · have c0 : w.cell? ⟨s, 0, none⟩ = some (.pointer none) := h.cell 0
    have he := eqlNone s
    unfold ptr at *
    go_enter Try.func60, Try.ntmps60
    go_wp2
    go_ret
    simp
theorem find_none {w : World} {v : Value} (h : NoM w v) (i : Int) : Calls Try.prog 63 #[v, .int .i64 i] w fun r w' => r = .returned (.tuple #[.pointer none, .int .i64 1]) ∧ w' = w := by
  have c := isMade_no h
  clear h
  go_enter Try.func63, Try.ntmps63
  go_wp2_with (go_at_call 60; refine c.mono ?_; rintro e w' ⟨rfl, rfl⟩)
  go_ret2
  simp
theorem findFor_none {w : World} {v : Value} (h : NoM w v) (i o : Int) : Calls Try.prog 93 #[v, .int .i64 i, .int .i64 o] w fun r w' => r = .returned (.tuple #[.pointer none, .int .i64 1]) ∧ w' = w := by
  have c := find_none h i
  clear h
  go_enter Try.func93, Try.ntmps93
  go_wp2_with (go_at_call 63; refine c.mono ?_; rintro e w' ⟨rfl, rfl⟩)
  go_ret2
  simp
theorem findOf_none {w : World} {v : Value} (h : NoM w v) (i o : Int) : Calls Try.prog 90 #[v, .int .i64 i, .int .i64 o] w fun r w' => r = .returned (.tuple #[.pointer none, .int .i64 1]) ∧ w' = w := by
  have c := findFor_none h i o
  clear h
  go_enter Try.func90, Try.ntmps90
  go_wp2_with (go_at_call 93; refine c.mono ?_; rintro e w' ⟨rfl, rfl⟩)
  go_ret2
  simp
theorem adv_none {w : World} {v : Value} (h : NoM w v) : Calls Try.prog 94 #[v] w fun r w' => r = .returned (.tuple #[.int .i64 0, .int .i64 1]) ∧ w' = w := by
  have c := isMade_no h
  clear h
  go_enter Try.func94, Try.ntmps94
  go_wp2_with (go_at_call 60; refine c.mono ?_; rintro e w' ⟨rfl, rfl⟩)
  go_ret2
  simp
theorem load_none {w : World} {v : Value} (h : NoM w v) (i : Int) : Calls Try.prog 39 #[v, .int .i64 i] w fun r w' => r = .returned (.tuple #[.int .i64 0, .int .i64 0, .int .i64 0, .int .i64 1]) ∧ w' = w := by
  have c := find_none h i
  clear h
  go_enter Try.func39, Try.ntmps39
  go_wp2_with (go_at_call 63; refine c.mono ?_; rintro e w' ⟨rfl, rfl⟩)
  exact bodyPost_ret (v := .tuple #[.int .i64 0, .int .i64 0, .int .i64 0, .int .i64 1]) (by simp [results, Try.results39, go_sem]) rfl ⟨rfl, rfl⟩
theorem fill_none {w : World} {v : Value} (h : NoM w v) (i x : Int) : Calls Try.prog 40 #[v, .int .i64 i, .int .i64 x] w fun r w' => r = .returned (.int .i64 1) ∧ w' = w := by
  have c := find_none h i
  clear h
  go_enter Try.func40, Try.ntmps40
  go_wp2_with (go_at_call 63; refine c.mono ?_; rintro e w' ⟨rfl, rfl⟩)
  go_ret
  simp
theorem lock_none {w : World} {v : Value} (h : NoM w v) (i o : Int) : Calls Try.prog 77 #[v, .int .i64 i, .int .i64 o] w fun r w' => r = .returned (.int .i64 1) ∧ w' = w := by
  have c := findFor_none h i o
  clear h
  go_enter Try.func77, Try.ntmps77
  go_wp2_with (go_at_call 93; refine c.mono ?_; rintro e w' ⟨rfl, rfl⟩)
  go_ret
  simp
theorem unlock_none {w : World} {v : Value} (h : NoM w v) (i o : Int) : Calls Try.prog 69 #[v, .int .i64 i, .int .i64 o] w fun r w' => r = .returned (.int .i64 1) ∧ w' = w := by
  have c := findOf_none h i o
  clear h
  go_enter Try.func69, Try.ntmps69
  go_wp2_with (go_at_call 90; refine c.mono ?_; rintro e w' ⟨rfl, rfl⟩)
  go_ret
  simp
theorem publish_none {w : World} {v : Value} (h : NoM w v) (i o x k : Int) : Calls Try.prog 96 #[v, .int .i64 i, .int .i64 o, .int .i64 x, .int .i64 k] w fun r w' => r = .returned (.int .i64 1) ∧ w' = w := by
  have c := findOf_none h i o
  clear h
  go_enter Try.func96, Try.ntmps96
  go_wp2_with (go_at_call 90; refine c.mono ?_; rintro e w' ⟨rfl, rfl⟩)
  go_ret
  simp
theorem clock_none {w : World} {v : Value} (h : NoM w v) : Calls Try.prog 35 #[v] w fun r w' => r = .returned (.int .i64 0) ∧ w' = w := by
  have c := isMade_no h
  clear h
  go_enter Try.func35, Try.ntmps35
  go_wp2_with (go_at_call 60; refine c.mono ?_; rintro e w' ⟨rfl, rfl⟩)
  go_ret
  simp
theorem size_none {w : World} {v : Value} (h : NoM w v) : Calls Try.prog 41 #[v] w fun r w' => r = .returned (.int .i64 0) ∧ w' = w := by
  have c := isMade_no h
  clear h
  go_enter Try.func41, Try.ntmps41
  go_wp2_with (go_at_call 60; refine c.mono ?_; rintro e w' ⟨rfl, rfl⟩)
  go_ret
  simp
theorem owned_none {w : World} {v : Value} (h : NoM w v) (o : Int) : Calls Try.prog 68 #[v, .int .i64 o] w fun r w' => r = .returned (.slice none 0 0) ∧ w' = w := by
  have c := isMade_no h
  clear h
  go_enter Try.func68, Try.ntmps68
  go_wp2_with (go_at_call 60; refine c.mono ?_; rintro e w' ⟨rfl, rfl⟩)
  go_ret
  simp
end Go.Proofs.Ytbpbclmlkdnfbaa.C
