/-
  The chapter's examples.
-/
import Derived.Test.YtcadnhjiodlpcaaDoorUpw
namespace Go.Proofs.YtcadnhjiodlpcaaDoor
open Go.RowKit
theorem split_is {x : Tx} {l : List Tx} {n : Nat} (h : splitP x = (l, n)) (w : World) (hm : MaxL w) : Calls Tryd.prog 8 #[.string (bs x)] w (RS w l n) := by
  have := split_at x w hm
  rw [h] at this
  exact this
theorem up_is {x s t : Tx} {n : Nat} (h : upP x = (s, t, n)) (w : World) (hm : MaxL w) : Calls Tryd.prog 15 #[.string (bs x)] w (RU w s t n) := by
  have := up_at x w hm
  rw [h] at this
  exact this
theorem join_is {w : World} {a : Option Addr} {xs : List Tx} {c n : Nat} {t : Tx} (e : joinP xs = (t, n)) (h : Ts w a xs) (hc : xs.length ≤ c) (hl : xs.length ≤ 9223372036854775807) :
    Calls Tryd.prog 9 #[.slice a xs.length c] w (RJ w t n) := by
  have := join_at h hc hl
  rw [e] at this
  exact this
theorem within_is {x y : Tx} {b : Bool} (h : withinP x y = b) (w : World) (hm : MaxL w) : Calls Tryd.prog 19 #[.string (bs x), .string (bs y)] w fun e w' => e = .returned (.bool b) ∧ Below w.heap.size w w' := by
  have := within_at x y w hm
  rw [h] at this
  exact this
theorem name_is {x : Tx} {b : Bool} (h : isName x = b) (w : World) : Calls Tryd.prog 10 #[.string (bs x)] w fun e w' => e = .returned (.bool b) ∧ Below w.heap.size w w' := by
  have := name_at x w
  rw [h] at this
  exact this
theorem two_new (w : World) (x y : Tx) (t : TypeId) : Ts (w.alloc (.cells #[.string (bs x), .string (bs y)] t)) (some ⟨w.heap.size, 0, none⟩) [x, y] := fun _ => by
  refine ⟨_, _, rfl, by simp, fun j hj => ?_⟩
  rw [Nat.zero_add, cell_of_row _ _ j _ t (0, 0) (heap_alloc_new w _)]
  match j, hj with
  | 0, _ => rfl
  | 1, _ => rfl
set_option maxRecDepth 100000 in
theorem awake_at (w : World) (hm : MaxL w) : Calls Tryd.prog 11 #[] w fun e w' => e = .returned (.bool true) ∧ Below w.heap.size w w' := by
  have s1 := fun u hu => split_is (x := [47, 97, 47, 98]) (l := [[97], [98]]) (n := 0) (by decide) u hu
  have s2 := fun u hu => split_is (x := [47, 97, 47]) (l := []) (n := 211) (by decide) u hu
  have s3 := fun u hu => split_is (x := [47, 97, 47, 46, 46]) (l := []) (n := 210) (by decide) u hu
  have s4 := fun (u : World) (t : TypeId) => join_is (n := 0) (t := [47, 97, 47, 98]) (by decide) (two_new u [97] [98] t) (c := 2) (by decide) (by decide)
  have s5 := fun u hu => up_is (x := [47, 97]) (s := [47]) (t := [97]) (n := 0) (by decide) u hu
  have s6 := fun u hu => within_is (x := [47, 97, 47, 98]) (y := [47, 97]) (b := true) (by decide) u hu
  have s7 := fun u hu => within_is (x := [47, 97, 98]) (y := [47, 97]) (b := false) (by decide) u hu
  have s8 := fun u => name_is (x := [97]) (b := true) (by decide) u
  have HM := hid hm
  clear hm
  go_enter Tryd.func11, Tryd.ntmps11
  go_wp2_with fail
  refine (s1 _ HM.out).mono ?_
  rintro e w1 ⟨a1, d1, rfl, ht, _, _, b1⟩
  obtain ⟨b, o, rfl, hb, hc⟩ := ht (by decide)
  have hc1 := hc 1 (by decide)
  have B1 := hid b1
  clear hc ht s1 b1
  go_wp2_with fail
  refine (s2 _ (HM.out.below B1.out)).mono ?_
  rintro e w2 ⟨a2, d2, rfl, _, _, _, b2⟩
  have hc2 := (b2.cell (p := ⟨b, o + 1, none⟩) hb).trans hc1
  have hb2 := Nat.lt_of_lt_of_le hb b2.size
  have B2 := hid (B1.out.trans (b2.mono B1.out.size))
  clear s2 b2 hc1 hb B1
  go_wp2_with fail
  refine (s3 _ (HM.out.below B2.out)).mono ?_
  rintro e w3 ⟨a3, d3, rfl, _, _, _, b3⟩
  have hc3 := (b3.cell (p := ⟨b, o + 1, none⟩) hb2).trans hc2
  have hb3 := Nat.lt_of_lt_of_le hb2 b3.size
  have B3 := hid (B2.out.trans (b3.mono B2.out.size))
  have A3 : Hid (∀ x, Below w3.heap.size w3 (w3.alloc x)) := fun x => (Below.refl _ _).alloc (Nat.le_refl _) _
  clear s3 b3 hc2 hb2 B2
  go_wp2_with fail
  refine (s4 _ _).mono ?_
  rintro e w4 ⟨rfl, b4⟩
  have b4 := (A3.out _).trans (b4.mono (A3.out _).size)
  have hc4 := (b4.cell (p := ⟨b, o + 1, none⟩) hb3).trans hc3
  have hb4 := Nat.lt_of_lt_of_le hb3 b4.size
  have B4 := hid (B3.out.trans (b4.mono B3.out.size))
  clear s4 b4 hc3 hb3 B3
  go_wp2_with fail
  refine (s5 _ (HM.out.below B4.out)).mono ?_
  rintro e w5 ⟨rfl, b5⟩
  have hc5 := (b5.cell (p := ⟨b, o + 1, none⟩) hb4).trans hc4
  have hb5 := Nat.lt_of_lt_of_le hb4 b5.size
  have B5 := hid (B4.out.trans (b5.mono B4.out.size))
  clear s5 b5 hc4 hb4 B4
  have l1 := bs_toList [98]
  have l2 := bs_toList [47, 97, 47, 98]
  have l3 := bs_toList [47]
  have l4 := bs_toList [97]
  go_wp2_with fail
  refine (s6 _ (HM.out.below B5.out)).mono ?_
  rintro e w6 ⟨rfl, b6⟩
  have B6 := hid (B5.out.trans (b6.mono B5.out.size))
  clear s6 b6 B5
  go_wp2_with fail
  refine (s7 _ (HM.out.below B6.out)).mono ?_
  rintro e w7 ⟨rfl, b7⟩
  have B7 := hid (B6.out.trans (b7.mono B6.out.size))
  clear s7 b7 B6
  go_wp2_with fail
  refine (s8 _).mono ?_
  rintro e w8 ⟨rfl, b8⟩
  have B8 := hid (B7.out.trans (b8.mono B7.out.size))
  clear s8 b8 B7
  go_wp2_with fail
  go_ret
  exact ⟨rfl, B8.out⟩
end Go.Proofs.YtcadnhjiodlpcaaDoor
