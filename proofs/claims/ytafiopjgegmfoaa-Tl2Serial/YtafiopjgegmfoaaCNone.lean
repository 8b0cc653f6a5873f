/-
  A memory that is none: nil, or one that New did not make.
-/
import Derived.Test.YtafiopjgegmfoaaCNew
namespace Go.Proofs.Ytafiopjgegmfoaa.C
open Go.RowKit
def NoM (w : World) (v : Value) : Prop := v = .pointer none ∨ ∃ s a b, v = ptr s ∧ Box w s #[.pointer none, a, b] 65
theorem isMade_no {w : World} {v : Value} (h : NoM w v) : Calls Try.prog 23 #[v] w fun r w' => r = .returned (.bool false) ∧ w' = w := by
  rcases h with rfl | ⟨s, a, b, rfl, h⟩
  · go_enter Try.func23, Try.ntmps23
    go_wp2
    go_ret
    simp
  · have c0 : w.cell? ⟨s, 0, none⟩ = some (.pointer none) := h.cell 0
    have he := eqlNone s
    unfold ptr at *
    go_enter Try.func23, Try.ntmps23
    go_wp2
    go_ret
    simp
theorem find_none {w : World} {v : Value} (h : NoM w v) (i : Int) : Calls Try.prog 34 #[v, .int .i64 i] w fun r w' => r = .returned (.tuple #[.pointer none, .int .i64 1]) ∧ w' = w := by
  have c := isMade_no h
  clear h
  go_enter Try.func34, Try.ntmps34
  go_wp2_with (go_at_call 23; refine c.mono ?_; rintro e w' ⟨rfl, rfl⟩)
  go_ret2
  simp
theorem findFor_none {w : World} {v : Value} (h : NoM w v) (i o : Int) : Calls Try.prog 55 #[v, .int .i64 i, .int .i64 o] w fun r w' => r = .returned (.tuple #[.pointer none, .int .i64 1]) ∧ w' = w := by
  have c := find_none h i
  clear h
  go_enter Try.func55, Try.ntmps55
  go_wp2_with (go_at_call 34; refine c.mono ?_; rintro e w' ⟨rfl, rfl⟩)
  go_ret2
  simp
theorem findOf_none {w : World} {v : Value} (h : NoM w v) (i o : Int) : Calls Try.prog 53 #[v, .int .i64 i, .int .i64 o] w fun r w' => r = .returned (.tuple #[.pointer none, .int .i64 1]) ∧ w' = w := by
  have c := findFor_none h i o
  clear h
  go_enter Try.func53, Try.ntmps53
  go_wp2_with (go_at_call 55; refine c.mono ?_; rintro e w' ⟨rfl, rfl⟩)
  go_ret2
  simp
theorem adv_none {w : World} {v : Value} (h : NoM w v) : Calls Try.prog 56 #[v] w fun r w' => r = .returned (.tuple #[.int .i64 0, .int .i64 1]) ∧ w' = w := by
  have c := isMade_no h
  clear h
  go_enter Try.func56, Try.ntmps56
  go_wp2_with (go_at_call 23; refine c.mono ?_; rintro e w' ⟨rfl, rfl⟩)
  go_ret2
  simp
theorem load_none {w : World} {v : Value} (h : NoM w v) (i : Int) : Calls Try.prog 19 #[v, .int .i64 i] w fun r w' => r = .returned (.tuple #[.int .i64 0, .int .i64 0, .int .i64 0, .int .i64 1]) ∧ w' = w := by
  have c := find_none h i
  clear h
  go_enter Try.func19, Try.ntmps19
  go_wp2_with (go_at_call 34; refine c.mono ?_; rintro e w' ⟨rfl, rfl⟩)
  exact bodyPost_ret (v := .tuple #[.int .i64 0, .int .i64 0, .int .i64 0, .int .i64 1]) (by simp [results, Try.results19, go_sem]) rfl ⟨rfl, rfl⟩
theorem fill_none {w : World} {v : Value} (h : NoM w v) (i x : Int) : Calls Try.prog 20 #[v, .int .i64 i, .int .i64 x] w fun r w' => r = .returned (.int .i64 1) ∧ w' = w := by
  have c := find_none h i
  clear h
  go_enter Try.func20, Try.ntmps20
  go_wp2_with (go_at_call 34; refine c.mono ?_; rintro e w' ⟨rfl, rfl⟩)
  go_ret
  simp
theorem lock_none {w : World} {v : Value} (h : NoM w v) (i o : Int) : Calls Try.prog 44 #[v, .int .i64 i, .int .i64 o] w fun r w' => r = .returned (.int .i64 1) ∧ w' = w := by
  have c := findFor_none h i o
  clear h
  go_enter Try.func44, Try.ntmps44
  go_wp2_with (go_at_call 55; refine c.mono ?_; rintro e w' ⟨rfl, rfl⟩)
  go_ret
  simp
theorem unlock_none {w : World} {v : Value} (h : NoM w v) (i o : Int) : Calls Try.prog 38 #[v, .int .i64 i, .int .i64 o] w fun r w' => r = .returned (.int .i64 1) ∧ w' = w := by
  have c := findOf_none h i o
  clear h
  go_enter Try.func38, Try.ntmps38
  go_wp2_with (go_at_call 53; refine c.mono ?_; rintro e w' ⟨rfl, rfl⟩)
  go_ret
  simp
theorem publish_none {w : World} {v : Value} (h : NoM w v) (i o x k : Int) : Calls Try.prog 58 #[v, .int .i64 i, .int .i64 o, .int .i64 x, .int .i64 k] w fun r w' => r = .returned (.int .i64 1) ∧ w' = w := by
  have c := findOf_none h i o
  clear h
  go_enter Try.func58, Try.ntmps58
  go_wp2_with (go_at_call 53; refine c.mono ?_; rintro e w' ⟨rfl, rfl⟩)
  go_ret
  simp
theorem clock_none {w : World} {v : Value} (h : NoM w v) : Calls Try.prog 11 #[v] w fun r w' => r = .returned (.int .i64 0) ∧ w' = w := by
  have c := isMade_no h
  clear h
  go_enter Try.func11, Try.ntmps11
  go_wp2_with (go_at_call 23; refine c.mono ?_; rintro e w' ⟨rfl, rfl⟩)
  go_ret
  simp
theorem size_none {w : World} {v : Value} (h : NoM w v) : Calls Try.prog 21 #[v] w fun r w' => r = .returned (.int .i64 0) ∧ w' = w := by
  have c := isMade_no h
  clear h
  go_enter Try.func21, Try.ntmps21
  go_wp2_with (go_at_call 23; refine c.mono ?_; rintro e w' ⟨rfl, rfl⟩)
  go_ret
  simp
theorem owned_none {w : World} {v : Value} (h : NoM w v) (o : Int) : Calls Try.prog 37 #[v, .int .i64 o] w fun r w' => r = .returned (.slice none 0 0) ∧ w' = w := by
  have c := isMade_no h
  clear h
  go_enter Try.func37, Try.ntmps37
  go_wp2_with (go_at_call 23; refine c.mono ?_; rintro e w' ⟨rfl, rfl⟩)
  go_ret
  simp
end Go.Proofs.Ytafiopjgegmfoaa.C
