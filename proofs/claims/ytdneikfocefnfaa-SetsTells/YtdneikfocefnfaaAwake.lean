/-
  awake: the chapter's example.
-/
import Derived.Test.YtdneikfocefnfaaNew
namespace Go.Proofs.Ytdneikfocefnfaa
open Go.RowKit Go.Maps
section
variable {w0 w : World} {g : Nat} {S : SS ByteArray}
theorem ssit_value (h : Sit encS 119 116 w0 w g S) (i : Int) (hi : (Lit.int .i64 i).wf = true) (x : ByteArray) (y : Bool) (hx : (gt S.W i).getD ByteArray.empty = x) (hy : (gt S.W i).isSome = y) : Calls Try.prog 62 #[ptr g, .int .i64 i] w fun r w' => r = .returned (.tuple #[.string x, .bool y]) ∧ w' = w := by
  obtain ⟨⟨F, h⟩, hb⟩ := h
  subst hx hy
  exact svalue_at h i hi
theorem ssit_seen (h : Sit encS 119 116 w0 w g S) (i : Int) (hi : (Lit.int .i64 i).wf = true) (x : Int) (y : Bool) (hx : (gt S.R i).getD 0 = x) (hy : (gt S.R i).isSome = y) : Calls Try.prog 63 #[ptr g, .int .i64 i] w fun r w' => r = .returned (.tuple #[.int .i64 x, .bool y]) ∧ w' = w := by
  obtain ⟨⟨F, h⟩, hb⟩ := h
  subst hx hy
  exact sseen_at h i hi
theorem ssit_depth (h : Sit encS 119 116 w0 w g S) (n : Int) (hn : (S.M.length : Int) = n) : Calls Try.prog 65 #[ptr g] w fun r w' => r = .returned (.int .i64 n) ∧ w' = w := by
  obtain ⟨⟨F, h⟩, hb⟩ := h
  subst hn
  exact sdepth_at h
end
set_option maxRecDepth 100000 in
set_option maxHeartbeats 4000000 in
theorem awake_at (w : World) : Calls Try.prog 28 #[] w fun r w' => r = .returned (.bool true) ∧ Below w.heap.size w w' := by
  have c0 := ssit_new w
  unfold ptr at c0
  go_enter Try.func28, Try.ntmps28
  go_wp2_with fail
  refine c0.mono ?_
  rintro e w1 ⟨g, rfl, h1⟩
  clear c0
  go_wp2_with fail
  have c := ssit_write (n := 0) (S' := ⟨[], [(1, ⟨#[97]⟩)], []⟩) h1 1 ⟨#[97]⟩ rfl
  unfold ptr encS at c
  refine c.mono ?_
  rintro e w2 ⟨rfl, h2⟩
  clear c h1
  go_wp2_with fail
  have c := ssit_mark (n := 0) (S' := ⟨[], [(1, ⟨#[97]⟩)], [[(1, ⟨#[97]⟩)]]⟩) h2 rfl
  unfold ptr at c
  refine c.mono ?_
  rintro e w3 ⟨rfl, h3⟩
  clear c h2
  go_wp2_with fail
  have c := ssit_write (n := 0) (S' := ⟨[], [(1, ⟨#[98]⟩)], [[(1, ⟨#[97]⟩)]]⟩) h3 1 ⟨#[98]⟩ rfl
  unfold ptr encS at c
  refine c.mono ?_
  rintro e w4 ⟨rfl, h4⟩
  clear c h3
  go_wp2_with fail
  have c := ssit_write (n := 0) (S' := ⟨[], [(1, ⟨#[98]⟩), (2, ⟨#[99]⟩)], [[(1, ⟨#[97]⟩)]]⟩) h4 2 ⟨#[99]⟩ rfl
  unfold ptr encS at c
  refine c.mono ?_
  rintro e w5 ⟨rfl, h5⟩
  clear c h4
  go_wp2_with fail
  have c := ssit_read (n := 0) (S' := ⟨[(3, 5)], [(1, ⟨#[98]⟩), (2, ⟨#[99]⟩)], [[(1, ⟨#[97]⟩)]]⟩) h5 3 5 rfl
  unfold ptr at c
  refine c.mono ?_
  rintro e w6 ⟨rfl, h6⟩
  clear c h5
  go_wp2_with fail
  have c := ssit_undo (n := 0) (S' := ⟨[(3, 5)], [(1, ⟨#[97]⟩)], []⟩) h6 rfl
  unfold ptr at c
  refine c.mono ?_
  rintro e w7 ⟨rfl, h7⟩
  clear c h6
  go_wp2_with fail
  have c := ssit_value h7 1 (by decide) ⟨#[97]⟩ true rfl rfl
  unfold ptr at c
  refine c.mono ?_
  rintro e wz ⟨rfl, hz⟩
  subst wz
  clear c
  go_wp2_with fail
  have c := ssit_value h7 2 (by decide) ByteArray.empty false rfl rfl
  unfold ptr at c
  refine c.mono ?_
  rintro e wz ⟨rfl, hz⟩
  subst wz
  clear c
  go_wp2_with fail
  have c := ssit_seen h7 3 (by decide) 5 true rfl rfl
  unfold ptr at c
  refine c.mono ?_
  rintro e wz ⟨rfl, hz⟩
  subst wz
  clear c
  go_wp2_with fail
  have c := ssit_read (n := 131) (S' := ⟨[(3, 5)], [(1, ⟨#[97]⟩)], []⟩) h7 3 6 rfl
  unfold ptr at c
  refine c.mono ?_
  rintro e w8 ⟨rfl, h8⟩
  clear c h7
  go_wp2_with fail
  have c := ssit_mark (n := 0) (S' := ⟨[(3, 5)], [(1, ⟨#[97]⟩)], [[(1, ⟨#[97]⟩)]]⟩) h8 rfl
  unfold ptr at c
  refine c.mono ?_
  rintro e w9 ⟨rfl, h9⟩
  clear c h8
  go_wp2_with fail
  have c := ssit_write (n := 0) (S' := ⟨[(3, 5)], [(1, ⟨#[97]⟩), (2, ⟨#[100]⟩)], [[(1, ⟨#[97]⟩)]]⟩) h9 2 ⟨#[100]⟩ rfl
  unfold ptr encS at c
  refine c.mono ?_
  rintro e w10 ⟨rfl, h10⟩
  clear c h9
  go_wp2_with fail
  have c := ssit_keep (n := 0) (S' := ⟨[(3, 5)], [(1, ⟨#[97]⟩), (2, ⟨#[100]⟩)], []⟩) h10 rfl
  unfold ptr at c
  refine c.mono ?_
  rintro e w11 ⟨rfl, h11⟩
  clear c h10
  go_wp2_with fail
  have c := ssit_value h11 2 (by decide) ⟨#[100]⟩ true rfl rfl
  unfold ptr at c
  refine c.mono ?_
  rintro e wz ⟨rfl, hz⟩
  subst wz
  clear c
  go_wp2_with fail
  have c := ssit_undo (n := 136) (S' := ⟨[(3, 5)], [(1, ⟨#[97]⟩), (2, ⟨#[100]⟩)], []⟩) h11 rfl
  unfold ptr at c
  refine c.mono ?_
  rintro e w12 ⟨rfl, h12⟩
  clear c h11
  go_wp2_with fail
  have c := ssit_depth h12 0 rfl
  unfold ptr at c
  refine c.mono ?_
  rintro e wz ⟨rfl, hz⟩
  subst wz
  clear c
  go_wp2_with fail
  go_ret
  exact ⟨rfl, h12.2⟩
end Go.Proofs.Ytdneikfocefnfaa
