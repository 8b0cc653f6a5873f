/-
  A memory that is none: nil, or one that New did not make.
-/
import Derived.Test.YtafiopjgegmfoaaGreatCNew
namespace Go.Proofs.YtafiopjgegmfoaaGreat.C
open Go.RowKit
def NoM (w : World) (v : Value) : Prop := v = .pointer none ∨ ∃ s a b, v = ptr s ∧ Box w s #[.pointer none, a, b] 29
theorem isMade_no {w : World} {v : Value} (h : NoM w v) : Calls Tryz.prog 49 #[v] w fun r w' => r = .returned (.bool false) ∧ w' = w := by
  rcases h with rfl | ⟨s, a, b, rfl, h⟩
  · go_enter Tryz.func49, Tryz.ntmps49
    go_wp2
    go_ret
    simp
  · have c0 : w.cell? ⟨s, 0, none⟩ = some (.pointer none) := h.cell 0
    have he := eqlNone s
    unfold ptr at *
    go_enter Tryz.func49, Tryz.ntmps49
    go_wp2
    go_ret
    simp
theorem find_none {w : World} {v : Value} (h : NoM w v) (i : Int) : Calls Tryz.prog 63 #[v, .int .i64 i] w fun r w' => r = .returned (.tuple #[.pointer none, .int .i64 1]) ∧ w' = w := by
  have c := isMade_no h
  clear h
  go_enter Tryz.func63, Tryz.ntmps63
  go_wp2_with (go_at_call 49; refine c.mono ?_; rintro e w' ⟨rfl, rfl⟩)
  go_ret2
  simp
theorem findFor_none {w : World} {v : Value} (h : NoM w v) (i o : Int) : Calls Tryz.prog 50 #[v, .int .i64 i, .int .i64 o] w fun r w' => r = .returned (.tuple #[.pointer none, .int .i64 1]) ∧ w' = w := by
  have c := find_none h i
  clear h
  go_enter Tryz.func50, Tryz.ntmps50
  go_wp2_with (go_at_call 63; refine c.mono ?_; rintro e w' ⟨rfl, rfl⟩)
  go_ret2
  simp
theorem findOf_none {w : World} {v : Value} (h : NoM w v) (i o : Int) : Calls Tryz.prog 51 #[v, .int .i64 i, .int .i64 o] w fun r w' => r = .returned (.tuple #[.pointer none, .int .i64 1]) ∧ w' = w := by
  have c := findFor_none h i o
  clear h
  go_enter Tryz.func51, Tryz.ntmps51
  go_wp2_with (go_at_call 50; refine c.mono ?_; rintro e w' ⟨rfl, rfl⟩)
  go_ret2
  simp
theorem adv_none {w : World} {v : Value} (h : NoM w v) : Calls Tryz.prog 20 #[v] w fun r w' => r = .returned (.tuple #[.int .i64 0, .int .i64 1]) ∧ w' = w := by
  have c := isMade_no h
  clear h
  go_enter Tryz.func20, Tryz.ntmps20
  go_wp2_with (go_at_call 49; refine c.mono ?_; rintro e w' ⟨rfl, rfl⟩)
  go_ret2
  simp
theorem load_none {w : World} {v : Value} (h : NoM w v) (i : Int) : Calls Tryz.prog 45 #[v, .int .i64 i] w fun r w' => r = .returned (.tuple #[.int .i64 0, .int .i64 0, .int .i64 0, .int .i64 1]) ∧ w' = w := by
  have c := find_none h i
  clear h
  go_enter Tryz.func45, Tryz.ntmps45
  go_wp2_with (go_at_call 63; refine c.mono ?_; rintro e w' ⟨rfl, rfl⟩)
  exact bodyPost_ret (v := .tuple #[.int .i64 0, .int .i64 0, .int .i64 0, .int .i64 1]) (by simp [results, Tryz.results45, go_sem]) rfl ⟨rfl, rfl⟩
theorem lock_none {w : World} {v : Value} (h : NoM w v) (i o : Int) : Calls Tryz.prog 21 #[v, .int .i64 i, .int .i64 o] w fun r w' => r = .returned (.int .i64 1) ∧ w' = w := by
  have c := findFor_none h i o
  clear h
  go_enter Tryz.func21, Tryz.ntmps21
  go_wp2_with (go_at_call 50; refine c.mono ?_; rintro e w' ⟨rfl, rfl⟩)
  go_ret
  simp
theorem unlock_none {w : World} {v : Value} (h : NoM w v) (i o : Int) : Calls Tryz.prog 66 #[v, .int .i64 i, .int .i64 o] w fun r w' => r = .returned (.int .i64 1) ∧ w' = w := by
  have c := findOf_none h i o
  clear h
  go_enter Tryz.func66, Tryz.ntmps66
  go_wp2_with (go_at_call 51; refine c.mono ?_; rintro e w' ⟨rfl, rfl⟩)
  go_ret
  simp
theorem publish_none {w : World} {v : Value} (h : NoM w v) (i o x k : Int) : Calls Tryz.prog 22 #[v, .int .i64 i, .int .i64 o, .int .i64 x, .int .i64 k] w fun r w' => r = .returned (.int .i64 1) ∧ w' = w := by
  have c := findOf_none h i o
  clear h
  go_enter Tryz.func22, Tryz.ntmps22
  go_wp2_with (go_at_call 51; refine c.mono ?_; rintro e w' ⟨rfl, rfl⟩)
  go_ret
  simp
theorem clock_none {w : World} {v : Value} (h : NoM w v) : Calls Tryz.prog 28 #[v] w fun r w' => r = .returned (.int .i64 0) ∧ w' = w := by
  have c := isMade_no h
  clear h
  go_enter Tryz.func28, Tryz.ntmps28
  go_wp2_with (go_at_call 49; refine c.mono ?_; rintro e w' ⟨rfl, rfl⟩)
  go_ret
  simp
theorem size_none {w : World} {v : Value} (h : NoM w v) : Calls Tryz.prog 27 #[v] w fun r w' => r = .returned (.int .i64 0) ∧ w' = w := by
  have c := isMade_no h
  clear h
  go_enter Tryz.func27, Tryz.ntmps27
  go_wp2_with (go_at_call 49; refine c.mono ?_; rintro e w' ⟨rfl, rfl⟩)
  go_ret
  simp
theorem owned_none {w : World} {v : Value} (h : NoM w v) (o : Int) : Calls Tryz.prog 65 #[v, .int .i64 o] w fun r w' => r = .returned (.slice none 0 0) ∧ w' = w := by
  have c := isMade_no h
  clear h
  go_enter Tryz.func65, Tryz.ntmps65
  go_wp2_with (go_at_call 49; refine c.mono ?_; rintro e w' ⟨rfl, rfl⟩)
  go_ret
  simp
end Go.Proofs.YtafiopjgegmfoaaGreat.C
