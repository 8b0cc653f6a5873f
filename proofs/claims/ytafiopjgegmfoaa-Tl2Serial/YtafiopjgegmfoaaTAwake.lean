/-
  The chapter's example.
-/
import Derived.Test.YtafiopjgegmfoaaTHas
namespace Go.Proofs.Ytafiopjgegmfoaa.T
open Go.RowKit Go.Proofs.Ytafiopjgegmfoaa.C
set_option maxRecDepth 100000 in
set_option maxHeartbeats 4000000 in
theorem awake_at (w : World) : Calls Try.prog 7 #[] w fun r w' => r = .returned (.bool true) ∧ Below w.heap.size w w' := by
  have cn := has_new (n := 2) (Below.refl w.heap.size w) (by omega) (by omega)
  unfold ptr at cn
  go_enter Try.func7, Try.ntmps7
  go_wp2_with fail
  refine Calls.mono cn ?_
  rintro e w1 ⟨m, gm, rfl, h⟩
  have H1 : Hid (Has w w1 m gm (C.M0 2) []) := h
  clear h cn
  have c1 := H1.out.fill 0 1 a0
  unfold ptr at c1
  go_wp2_with fail
  refine Calls.mono c1 ?_
  rintro e w2 ⟨rfl, h⟩
  have H2 : Hid (Has w w2 m gm ⟨[cv 1 0 0, cv 0 0 0], 0⟩ []) := h
  clear h c1 H1
  have c2 := H2.out.fill 1 1 a1
  unfold ptr at c2
  go_wp2_with fail
  refine Calls.mono c2 ?_
  rintro e w3 ⟨rfl, h⟩
  have H3 : Hid (Has w w3 m gm ⟨[cv 1 0 0, cv 1 0 0], 0⟩ []) := h
  clear h c2 H2
  have c3 := H3.out.begin 1 (by omega) (by omega)
  unfold ptr at c3
  go_wp2_with fail
  refine Calls.mono c3 ?_
  rintro e w4 ⟨g1, rfl, h⟩
  have H4 : Hid (Has w w4 m gm ⟨[cv 1 0 0, cv 1 0 0], 0⟩ [(g1, xt [] 1)]) := h
  clear h c3 H3
  have c4 := H4.out.begin 2 (by omega) (by omega)
  unfold ptr at c4
  go_wp2_with fail
  refine Calls.mono c4 ?_
  rintro e w5 ⟨g2, rfl, h⟩
  have H5 : Hid (Has w w5 m gm ⟨[cv 1 0 0, cv 1 0 0], 0⟩ [(g1, xt [] 1), (g2, xu [] 1 [] 0 false)]) := h
  clear h c4 H4
  have c5 := H5.out.read (j := 0) rfl 0 (WalkArith.wf_i64 (by omega)) a2
  unfold ptr at c5
  go_wp2_with fail
  refine Calls.mono c5 ?_
  rintro e w6 ⟨rfl, h⟩
  have H6 : Hid (Has w w6 m gm ⟨[cv 1 0 0, cv 1 0 0], 0⟩ [(g1, xt [(0, 0)] 1), (g2, xu [] 1 [] 0 false)]) := h
  clear h c5 H5
  have c6 := H6.out.write (j := 1) rfl 0 5 a3
  unfold ptr at c6
  go_wp2_with fail
  refine Calls.mono c6 ?_
  rintro e w7 ⟨rfl, h⟩
  have H7 : Hid (Has w w7 m gm ⟨[cv 1 0 0, cv 1 0 0], 0⟩ [(g1, xt [(0, 0)] 1), (g2, xu [(0, 5)] 1 [] 0 false)]) := h
  clear h c6 H6
  have c7 := H7.out.write (j := 1) rfl 1 6 a4
  unfold ptr at c7
  go_wp2_with fail
  refine Calls.mono c7 ?_
  rintro e w8 ⟨rfl, h⟩
  have H8 : Hid (Has w w8 m gm ⟨[cv 1 0 0, cv 1 0 0], 0⟩ [(g1, xt [(0, 0)] 1), (g2, xu [(0, 5), (1, 6)] 1 [] 0 false)]) := h
  clear h c7 H7
  have c8 := H8.out.step (j := 1) rfl a5
  unfold ptr at c8
  go_wp2_with fail
  refine Calls.mono c8 ?_
  rintro e w9 ⟨rfl, h⟩
  have H9 : Hid (Has w w9 m gm ⟨[cv 1 0 2, cv 1 0 0], 0⟩ [(g1, xt [(0, 0)] 1), (g2, xu [(0, 5), (1, 6)] 2 [.lock 1, .adv, .pub 0, .pub 1] 0 false)]) := h
  clear h c8 H8
  have c9 := H9.out.step (j := 1) rfl a6
  unfold ptr at c9
  go_wp2_with fail
  refine Calls.mono c9 ?_
  rintro e w10 ⟨rfl, h⟩
  have H10 : Hid (Has w w10 m gm ⟨[cv 1 0 2, cv 1 0 2], 0⟩ [(g1, xt [(0, 0)] 1), (g2, xu [(0, 5), (1, 6)] 2 [.adv, .pub 0, .pub 1] 0 false)]) := h
  clear h c9 H9
  have c10 := H10.out.read (j := 0) rfl 1 (WalkArith.wf_i64 (by omega)) a7
  unfold ptr at c10
  go_wp2_with fail
  refine Calls.mono c10 ?_
  rintro e w11 ⟨rfl, h⟩
  have H11 : Hid (Has w w11 m gm ⟨[cv 1 0 2, cv 1 0 2], 0⟩ [(g1, xt [(0, 0)] 4), (g2, xu [(0, 5), (1, 6)] 2 [.adv, .pub 0, .pub 1] 0 false)]) := h
  clear h c10 H10
  have c11 := H11.out.step (j := 1) rfl a8
  unfold ptr at c11
  go_wp2_with fail
  refine Calls.mono c11 ?_
  rintro e w12 ⟨rfl, h⟩
  have H12 : Hid (Has w w12 m gm ⟨[cv 1 0 2, cv 1 0 2], 1⟩ [(g1, xt [(0, 0)] 4), (g2, xu [(0, 5), (1, 6)] 2 [.pub 0, .pub 1] 1 false)]) := h
  clear h c11 H11
  have c12 := H12.out.step (j := 1) rfl a9
  unfold ptr at c12
  go_wp2_with fail
  refine Calls.mono c12 ?_
  rintro e w13 ⟨rfl, h⟩
  have H13 : Hid (Has w w13 m gm ⟨[cv 5 1 0, cv 1 0 2], 1⟩ [(g1, xt [(0, 0)] 4), (g2, xu [(0, 5), (1, 6)] 2 [.pub 1] 1 true)]) := h
  clear h c12 H12
  have c13 := H13.out.step (j := 1) rfl a10
  unfold ptr at c13
  go_wp2_with fail
  refine Calls.mono c13 ?_
  rintro e w14 ⟨rfl, h⟩
  have H14 : Hid (Has w w14 m gm ⟨[cv 5 1 0, cv 6 1 0], 1⟩ [(g1, xt [(0, 0)] 4), (g2, xu [(0, 5), (1, 6)] 3 [] 1 true)]) := h
  clear h c13 H13
  have c14 := H14.out.begin 3 (by omega) (by omega)
  unfold ptr at c14
  go_wp2_with fail
  refine Calls.mono c14 ?_
  rintro e w15 ⟨g3, rfl, h⟩
  have H15 : Hid (Has w w15 m gm ⟨[cv 5 1 0, cv 6 1 0], 1⟩ [(g1, xt [(0, 0)] 4), (g2, xu [(0, 5), (1, 6)] 3 [] 1 true), (g3, xv [] 1 0)]) := h
  clear h c14 H14
  have cs := H15.out.status (j := 0) rfl
  unfold ptr at cs
  simp only [show (xt [(0, 0)] 4).st = 4 from rfl] at cs
  go_wp2_with fail
  refine Calls.mono cs ?_
  rintro e wx ⟨rfl, hwx⟩
  subst wx
  clear cs
  have c15 := H15.out.read (j := 2) rfl 0 (WalkArith.wf_i64 (by omega)) a11
  unfold ptr at c15
  go_wp2_with fail
  refine Calls.mono c15 ?_
  rintro e w16 ⟨rfl, h⟩
  have H16 : Hid (Has w w16 m gm ⟨[cv 5 1 0, cv 6 1 0], 1⟩ [(g1, xt [(0, 0)] 4), (g2, xu [(0, 5), (1, 6)] 3 [] 1 true), (g3, xv [(0, 1)] 1 0)]) := h
  clear h c15 H15
  have c16 := H16.out.read (j := 2) rfl 1 (WalkArith.wf_i64 (by omega)) a12
  unfold ptr at c16
  go_wp2_with fail
  refine Calls.mono c16 ?_
  rintro e w17 ⟨rfl, h⟩
  have H17 : Hid (Has w w17 m gm ⟨[cv 5 1 0, cv 6 1 0], 1⟩ [(g1, xt [(0, 0)] 4), (g2, xu [(0, 5), (1, 6)] 3 [] 1 true), (g3, xv [(0, 1), (1, 1)] 1 0)]) := h
  clear h c16 H16
  have c17 := H17.out.step (j := 2) rfl a13
  unfold ptr at c17
  go_wp2_with fail
  refine Calls.mono c17 ?_
  rintro e w18 ⟨rfl, h⟩
  have H18 : Hid (Has w w18 m gm ⟨[cv 5 1 0, cv 6 1 0], 1⟩ [(g1, xt [(0, 0)] 4), (g2, xu [(0, 5), (1, 6)] 3 [] 1 true), (g3, xv [(0, 1), (1, 1)] 3 1)]) := h
  clear h c17 H17
  have cv3 := H18.out.version (j := 2) rfl
  have cv2 := H18.out.version (j := 1) rfl
  unfold ptr at cv3 cv2
  simp only [show (if (xv [(0, 1), (1, 1)] 3 1).st = 3 then (xv [(0, 1), (1, 1)] 3 1).ver else 0) = 1 from rfl] at cv3
  simp only [show (if (xu [(0, 5), (1, 6)] 3 [] 1 true).st = 3 then (xu [(0, 5), (1, 6)] 3 [] 1 true).ver else 0) = 1 from rfl] at cv2
  go_wp2_with fail
  refine Calls.mono cv3 ?_
  rintro e wx ⟨rfl, hwx⟩
  subst wx
  go_wp2_with fail
  refine Calls.mono cv2 ?_
  rintro e wx ⟨rfl, hwx⟩
  subst wx
  go_wp2
  go_ret
  exact ⟨rfl, H18.out.bel⟩
end Go.Proofs.Ytafiopjgegmfoaa.T
