/-
  The chapter's examples.
-/
import Derived.Test.YtafiopjgegmfoaaGreatWEls
namespace Go.Proofs.YtafiopjgegmfoaaGreat.W
open Go.RowKit Go.Maps Go.Proofs.YtafiopjgegmfoaaGreat Go.Proofs.YtafiopjgegmfoaaGreat.C Go.Proofs.YtafiopjgegmfoaaGreat.T
theorem own_one {w : World} {B g : Nat} {x : Int} (h : Box w g #[.int .i64 x] 3) (hB : B ≤ g) : w.ownsRow B 3 1 (.slice (some ⟨g, 0, none⟩) 1 1) [x].length (zcs [x]) :=
  ⟨rfl, .inr ⟨g, 1, _, rfl, hB, h, Nat.le_refl _, by unfold maxLen; omega, rfl, rfl⟩⟩
def aX (R : List (Int × Int)) : TX := ⟨1, 0, ⟨R, [], []⟩, 1, [], 0, false⟩
theorem aw1 : (aX []).read (C.M0 2) 0 = (0, 0, C.M0 2, aX [(0, 0)]) := rfl
theorem aw2 : (aX [(0, 0)]).read (C.M0 2) 1 = (0, 0, C.M0 2, aX [(0, 0), (1, 0)]) := rfl
theorem srt01 : srt [0, 1] = [0, 1] := by unfold srt; exact List.mergeSort_of_pairwise (by simp [leI])
theorem srt_one (x : Int) : srt [x] = [x] := by unfold srt; exact List.mergeSort_of_pairwise (by simp)
theorem srt_nil : srt [] = [] := by unfold srt; simp
theorem awR : rdOf (aX [(0, 0), (1, 0)]) = [(0, 0), (1, 0)] := by
  unfold rdOf
  rw [show kys (aX [(0, 0), (1, 0)]).S.R = [0, 1] from rfl, srt01]
  rfl
theorem aw3 (v : Value) : changed (C.M0 2) [(7, (v, [(0, 0), (1, 0)]))] = [] := by
  unfold changed gath
  rw [show (kys [((7 : Int), (v, ([(0, 0), (1, 0)] : Rds)))]).filter (sel (goOn (C.M0 2)) [(7, (v, [(0, 0), (1, 0)]))]) = [] from rfl, srt_nil]
theorem aw4 (v : Value) : stays (C.M0 2) [(7, (v, [(0, 0), (1, 0)]))] = [(7, (v, [(0, 0), (1, 0)]))] := rfl
theorem aw5 : (C.M0 2).adv = (⟨[cv 0 0 0, cv 0 0 0], 1⟩, 1, 0) := rfl
theorem aw6 : (⟨[cv 0 0 0, cv 0 0 0], 1⟩ : M).lock 1 5 = (⟨[cv 0 0 0, cv 0 0 5], 1⟩, 0) := rfl
theorem aw7 : (⟨[cv 0 0 0, cv 0 0 5], 1⟩ : M).publish 1 5 (.int .i64 9) 1 = (aS, 0) := rfl
theorem aw8 (v : Value) : changed aS [(7, (v, [(0, 0), (1, 0)]))] = [7] := by
  unfold changed gath
  rw [show (kys [((7 : Int), (v, ([(0, 0), (1, 0)] : Rds)))]).filter (sel (goOn aS) [(7, (v, [(0, 0), (1, 0)]))]) = [7] from rfl, srt_one]
theorem aw9 (v : Value) : stays aS [(7, (v, [(0, 0), (1, 0)]))] = [] := rfl
theorem aw10 : changed aS [] = [] := by unfold changed gath; exact srt_nil
theorem aw11 : parked [] = [] := by unfold parked gath; exact srt_nil
theorem aw12 : (aU [] [(1, 6)]).read aS 0 = (0, 0, aS, aU [(0, 0)] [(1, 6)]) := rfl
theorem aw13 : (aU [(0, 0)] [(1, 6)]).read aS 1 = (6, 0, aS, aU [(0, 0)] [(1, 6)]) := rfl
set_option maxRecDepth 100000 in
set_option maxHeartbeats 4000000 in
theorem awake18_at (w : World) : Calls Tryz.prog 16 #[] w fun r w' => r = .returned (.bool true) ∧ Below w.heap.size w w' := by
  have hmf : ∀ (fn : Fn) (first cap : Array Value) (w : World), (Instr.makeFunc fn first cap).run Tryz.prog w = .ok (.func fn first cap) w := fun _ _ _ _ => rfl
  have cn := hg_new (n := 2) (w0 := w) (Below.refl _ _) (by omega) (by omega)
  unfold ptr at cn
  go_enter Tryz.func16, Tryz.ntmps16
  go_wp2_with fail
  refine Calls.mono cn ?_
  rintro e w1 ⟨m, gm, rfl, h, _⟩
  have c1 := hw_new h
  unfold ptr at c1
  clear h cn
  go_wp2_with fail
  refine Calls.mono c1 ?_
  rintro e w2 ⟨wb, rfl, h⟩
  have H2 : Hid (Hw w w2 m gm (C.M0 2) [] wb [] []) := h
  have c2 := h.begin 1 (by omega) (by omega)
  unfold ptr at c2
  clear h c1
  go_wp2_with fail
  refine Calls.mono c2 ?_
  rintro e w3 ⟨g, rfl, h⟩
  have H3 : Hid (Hw w w3 m gm (C.M0 2) [(g, aX [])] wb [] []) := h
  have c3 := H3.out.read (j := 0) rfl 0 (WalkArith.wf_i64 (by omega)) aw1
  unfold ptr at c3
  clear h c2 H2
  go_wp2_with fail
  refine Calls.mono c3 ?_
  rintro e w4 ⟨rfl, h⟩
  have H4 : Hid (Hw w w4 m gm (C.M0 2) [(g, aX [(0, 0)])] wb [] []) := h
  have c4 := H4.out.read (j := 0) rfl 1 (WalkArith.wf_i64 (by omega)) aw2
  unfold ptr at c4
  clear h c3 H3
  go_wp2_with fail
  refine Calls.mono c4 ?_
  rintro e w5 ⟨rfl, h⟩
  have H5 : Hid (Hw w w5 m gm (C.M0 2) [(g, aX [(0, 0), (1, 0)])] wb [] []) := h
  have c5 := H5.out.park (j := 0) rfl 7 (by omega) (WalkArith.wf_i64 (by omega)) rfl (by decide)
  rw [awR] at c5
  unfold ptr at c5
  clear h c4 H4
  go_wp2_with fail
  refine Calls.mono c5 ?_
  rintro e w6 ⟨rfl, v, h⟩
  have H6 : Hid (Hw w w6 m gm (C.M0 2) [(g, aX [(0, 0), (1, 0)])] wb [(7, (v, [(0, 0), (1, 0)]))] []) := h
  have c6 := H6.out.changed
  rw [aw3, aw4] at c6
  unfold ptr at c6
  clear h c5 H5
  go_wp2_with fail
  refine Calls.mono c6 ?_
  rintro e w7 ⟨v1, rfl, hr, h⟩
  obtain ⟨a1, cp1, rfl⟩ := ownsRow_slice hr
  have H7 : Hid (Hw w w7 m gm (C.M0 2) [(g, aX [(0, 0), (1, 0)])] wb [(7, (v, [(0, 0), (1, 0)]))] []) := h
  have c7 := H7.out.adv aw5
  unfold ptr at c7
  simp only [List.length_nil] at hr ⊢
  clear h hr c6 H6
  go_wp2_with fail
  refine Calls.mono c7 ?_
  rintro e w8 ⟨rfl, h⟩
  have H8 : Hid (Hw w w8 m gm ⟨[cv 0 0 0, cv 0 0 0], 1⟩ [(g, aX [(0, 0), (1, 0)])] wb [(7, (v, [(0, 0), (1, 0)]))] []) := h
  have c8 := H8.out.lock 1 5 aw6
  unfold ptr at c8
  clear h c7 H7
  go_wp2_with fail
  refine Calls.mono c8 ?_
  rintro e w9 ⟨rfl, h⟩
  have H9 : Hid (Hw w w9 m gm ⟨[cv 0 0 0, cv 0 0 5], 1⟩ [(g, aX [(0, 0), (1, 0)])] wb [(7, (v, [(0, 0), (1, 0)]))] []) := h
  have c9 := H9.out.publish 1 5 9 1 aw7
  unfold ptr at c9
  clear h c8 H8
  go_wp2_with fail
  refine Calls.mono c9 ?_
  rintro e w10 ⟨rfl, h⟩
  have H10 : Hid (Hw w w10 m gm aS [(g, aX [(0, 0), (1, 0)])] wb [(7, (v, [(0, 0), (1, 0)]))] []) := h
  have c10 := H10.out.changed
  rw [aw8, aw9] at c10
  unfold ptr at c10
  clear h c9 H9
  go_wp2_with fail
  refine Calls.mono c10 ?_
  rintro e w11 ⟨v2, rfl, hr, h⟩
  obtain ⟨a2, cp2, rfl⟩ := ownsRow_slice hr
  have hb12 : Below w11.heap.size w11 (w11.alloc (.cells #[.int .i64 7] 3)) := (Below.refl _ _).alloc (Nat.le_refl _) _
  have H12 : Hid (Hw w (w11.alloc (.cells #[.int .i64 7] 3)) m gm aS [(g, aX [(0, 0), (1, 0)])] wb [] []) := h.below hb12
  have cS := same_ints (row_stay (u' := w11.alloc (.cells #[.int .i64 7] 3)) hr (fun k hk => hb12.block k (hr.lt k hk).2)) (own_one (B := 0) (Box.new w11 #[.int .i64 7] 3) (Nat.zero_le _)) (by decide)
  simp only [List.length_cons, List.length_nil] at cS ⊢
  clear h hr c10 H10 hb12
  go_wp2_with fail
  refine Calls.mono cS ?_
  rintro e wx ⟨rfl, q, hwx⟩
  have H13 : Hid (Hw w wx m gm aS [(g, aX [(0, 0), (1, 0)])] wb [] []) := by rw [hwx]; exact H12.out.below ⟨rfl, rfl, rfl, Nat.le_refl _, fun _ _ => rfl⟩
  have c11 := H13.out.changed
  rw [aw10, show stays aS [] = [] from rfl] at c11
  unfold ptr at c11
  clear hwx cS H12
  go_wp2_with fail
  refine Calls.mono c11 ?_
  rintro e w14 ⟨v3, rfl, hr, h⟩
  obtain ⟨a3, cp3, rfl⟩ := ownsRow_slice hr
  have H14 : Hid (Hw w w14 m gm aS [(g, aX [(0, 0), (1, 0)])] wb [] []) := h
  have c12 := H14.out.parked
  rw [aw11] at c12
  unfold ptr at c12
  simp only [List.length_nil] at hr ⊢
  clear h hr c11 H13
  go_wp2_with fail
  refine Calls.mono c12 ?_
  rintro e w15 ⟨v4, rfl, hr, hb⟩
  obtain ⟨a4, cp4, rfl⟩ := ownsRow_slice hr
  have H15 : Hid (Hw w w15 m gm aS [] wb [] []) := (H14.out.below hb).lost
  have c13 := H15.out.begin 2 (by omega) (by omega)
  unfold ptr at c13
  simp only [List.length_nil] at hr ⊢
  clear hb hr c12 H14
  go_wp2_with fail
  refine Calls.mono c13 ?_
  rintro e w16 ⟨g2, rfl, h⟩
  have H17 : Hid (Hw w (w16.alloc (.cells #[ptr g2] 35)) m gm aS [(g2, aU [] [])] wb [] [(w16.heap.size, #[ptr g2], 35)]) := Hw.box h #[ptr g2] 35
  obtain ⟨w17, hw17⟩ : ∃ w17, w17 = w16.alloc (.cells #[ptr g2] 35) := ⟨_, rfl⟩
  have HW17 : Hid (w17 = w16.alloc (.cells #[ptr g2] 35)) := hw17
  rw [← hw17] at H17
  have ct : w17.cell? ⟨w16.heap.size, 0, none⟩ = some (ptr g2) := (H17.out.own (List.mem_cons_self ..)).cell 0
  have c14 := aw_or H17.out (List.mem_cons_self ..)
  rw [hw17] at ct c14
  unfold ptr at c14 ct
  clear h c13 H15 hw17
  go_wp2_with fail
  refine Calls.mono c14 ?_
  rintro e w18 ⟨rfl, h⟩
  generalize w16.heap.size = tb at *
  have H18 : Hid (Hw w w18 m gm aS [(g2, aU [] [(1, 6)])] wb [] [(tb, #[ptr g2], 35)]) := h
  have ct : w18.cell? ⟨tb, 0, none⟩ = some (ptr g2) := (H18.out.own (List.mem_cons_self ..)).cell 0
  have c15 := H18.out.read (j := 0) rfl 0 (WalkArith.wf_i64 (by omega)) aw12
  unfold ptr at c15 ct
  clear h c14 H17 HW17
  go_wp2_with fail
  refine Calls.mono c15 ?_
  rintro e w19 ⟨rfl, h⟩
  have H19 : Hid (Hw w w19 m gm aS [(g2, aU [(0, 0)] [(1, 6)])] wb [] [(tb, #[ptr g2], 35)]) := h
  have ct : w19.cell? ⟨tb, 0, none⟩ = some (ptr g2) := (H19.out.own (List.mem_cons_self ..)).cell 0
  have c16 := H19.out.read (j := 0) rfl 1 (WalkArith.wf_i64 (by omega)) aw13
  unfold ptr at c16 ct
  clear h c15 H18
  go_wp2_with fail
  refine Calls.mono c16 ?_
  rintro e w20 ⟨rfl, h⟩
  have HB : Hid (Below w.heap.size w w20) := Hw.bel h
  clear h c16 H19
  go_wp2_with fail
  go_ret
  exact ⟨rfl, HB.out⟩
end Go.Proofs.YtafiopjgegmfoaaGreat.W
