/-
  A memory that is none: nil, or one that New did not make.
-/
import Derived.Test.YtinflodnkopcdaaNew
namespace Go.Proofs.Ytinflodnkopcdaa
open Go.RowKit
def NoM (w : World) (v : Value) : Prop := v = .pointer none ∨ ∃ s a b, v = ptr s ∧ Box w s #[.pointer none, a, b] 54
theorem isMade_no {w : World} {v : Value} (h : NoM w v) : Calls Try.prog 28 #[v] w fun r w' => r = .returned (.bool false) ∧ w' = w := by
  rcases h with rfl | ⟨s, a, b, rfl, h⟩
  · go_enter Try.func28, Try.ntmps28
    go_wp2
    go_ret
    simp
  · have c0 : w.cell? ⟨s, 0, none⟩ = some (.pointer none) := h.cell 0
    have he := eqlNone s
    unfold ptr at *
    go_enter Try.func28, Try.ntmps28
    go_wp2
    go_ret
    simp
theorem find_none {w : World} {v : Value} (h : NoM w v) (i : Int) : Calls Try.prog 31 #[v, .int .i64 i] w fun r w' => r = .returned (.tuple #[.pointer none, .int .i64 1]) ∧ w' = w := by
  have c := isMade_no h
  clear h
  go_enter Try.func31, Try.ntmps31
  go_wp2_with (go_at_call 28; refine c.mono ?_; rintro e w' ⟨rfl, rfl⟩)
  go_ret2
  simp
theorem findFor_none {w : World} {v : Value} (h : NoM w v) (i o : Int) : Calls Try.prog 29 #[v, .int .i64 i, .int .i64 o] w fun r w' => r = .returned (.tuple #[.pointer none, .int .i64 1]) ∧ w' = w := by
  have c := find_none h i
  clear h
  go_enter Try.func29, Try.ntmps29
  go_wp2_with (go_at_call 31; refine c.mono ?_; rintro e w' ⟨rfl, rfl⟩)
  go_ret2
  simp
theorem findOf_none {w : World} {v : Value} (h : NoM w v) (i o : Int) : Calls Try.prog 30 #[v, .int .i64 i, .int .i64 o] w fun r w' => r = .returned (.tuple #[.pointer none, .int .i64 1]) ∧ w' = w := by
  have c := findFor_none h i o
  clear h
  go_enter Try.func30, Try.ntmps30
  go_wp2_with (go_at_call 29; refine c.mono ?_; rintro e w' ⟨rfl, rfl⟩)
  go_ret2
  simp
theorem adv_none {w : World} {v : Value} (h : NoM w v) : Calls Try.prog 9 #[v] w fun r w' => r = .returned (.tuple #[.int .i64 0, .int .i64 1]) ∧ w' = w := by
  have c := isMade_no h
  clear h
  go_enter Try.func9, Try.ntmps9
  go_wp2_with (go_at_call 28; refine c.mono ?_; rintro e w' ⟨rfl, rfl⟩)
  go_ret2
  simp
theorem load_none {w : World} {v : Value} (h : NoM w v) (i : Int) : Calls Try.prog 12 #[v, .int .i64 i] w fun r w' => r = .returned (.tuple #[.int .i64 0, .int .i64 0, .int .i64 0, .int .i64 1]) ∧ w' = w := by
  have c := find_none h i
  clear h
  go_enter Try.func12, Try.ntmps12
  go_wp2_with (go_at_call 31; refine c.mono ?_; rintro e w' ⟨rfl, rfl⟩)
  exact bodyPost_ret (v := .tuple #[.int .i64 0, .int .i64 0, .int .i64 0, .int .i64 1]) (by simp [results, Try.results12, go_sem]) rfl ⟨rfl, rfl⟩
theorem fill_none {w : World} {v : Value} (h : NoM w v) (i x : Int) : Calls Try.prog 17 #[v, .int .i64 i, .int .i64 x] w fun r w' => r = .returned (.int .i64 1) ∧ w' = w := by
  have c := find_none h i
  clear h
  go_enter Try.func17, Try.ntmps17
  go_wp2_with (go_at_call 31; refine c.mono ?_; rintro e w' ⟨rfl, rfl⟩)
  go_ret
  simp
theorem lock_none {w : World} {v : Value} (h : NoM w v) (i o : Int) : Calls Try.prog 10 #[v, .int .i64 i, .int .i64 o] w fun r w' => r = .returned (.int .i64 1) ∧ w' = w := by
  have c := findFor_none h i o
  clear h
  go_enter Try.func10, Try.ntmps10
  go_wp2_with (go_at_call 29; refine c.mono ?_; rintro e w' ⟨rfl, rfl⟩)
  go_ret
  simp
theorem unlock_none {w : World} {v : Value} (h : NoM w v) (i o : Int) : Calls Try.prog 20 #[v, .int .i64 i, .int .i64 o] w fun r w' => r = .returned (.int .i64 1) ∧ w' = w := by
  have c := findOf_none h i o
  clear h
  go_enter Try.func20, Try.ntmps20
  go_wp2_with (go_at_call 30; refine c.mono ?_; rintro e w' ⟨rfl, rfl⟩)
  go_ret
  simp
theorem publish_none {w : World} {v : Value} (h : NoM w v) (i o x k : Int) : Calls Try.prog 11 #[v, .int .i64 i, .int .i64 o, .int .i64 x, .int .i64 k] w fun r w' => r = .returned (.int .i64 1) ∧ w' = w := by
  have c := findOf_none h i o
  clear h
  go_enter Try.func11, Try.ntmps11
  go_wp2_with (go_at_call 30; refine c.mono ?_; rintro e w' ⟨rfl, rfl⟩)
  go_ret
  simp
theorem clock_none {w : World} {v : Value} (h : NoM w v) : Calls Try.prog 23 #[v] w fun r w' => r = .returned (.int .i64 0) ∧ w' = w := by
  have c := isMade_no h
  clear h
  go_enter Try.func23, Try.ntmps23
  go_wp2_with (go_at_call 28; refine c.mono ?_; rintro e w' ⟨rfl, rfl⟩)
  go_ret
  simp
theorem size_none {w : World} {v : Value} (h : NoM w v) : Calls Try.prog 27 #[v] w fun r w' => r = .returned (.int .i64 0) ∧ w' = w := by
  have c := isMade_no h
  clear h
  go_enter Try.func27, Try.ntmps27
  go_wp2_with (go_at_call 28; refine c.mono ?_; rintro e w' ⟨rfl, rfl⟩)
  go_ret
  simp
theorem owned_none {w : World} {v : Value} (h : NoM w v) (o : Int) : Calls Try.prog 25 #[v, .int .i64 o] w fun r w' => r = .returned (.slice none 0 0) ∧ w' = w := by
  have c := isMade_no h
  clear h
  go_enter Try.func25, Try.ntmps25
  go_wp2_with (go_at_call 28; refine c.mono ?_; rintro e w' ⟨rfl, rfl⟩)
  go_ret
  simp
end Go.Proofs.Ytinflodnkopcdaa
