/-
  What the laws' own helpers make: filled, one, CopyLists.
-/
import Derived.Test.YtghcmlkgpedkkaaSame
namespace Go.Proofs.Ytghcmlkgpedkkaa
open Go.RowKit

/-- the first k bytes are c, the others noughts -/
def fillK (c : UInt8) (k : Nat) : List UInt8 := (List.range 4096).map fun i => if i < k then c else 0
def fill (c : UInt8) : List UInt8 := fillK c 4096
theorem fillK_length (c : UInt8) (k : Nat) : (fillK c k).length = 4096 := by simp [fillK]
theorem fill_length (c : UInt8) : (fill c).length = 4096 := fillK_length c 4096
theorem fillK_get (c : UInt8) (k i : Nat) : (fillK c k)[i]? = if i < 4096 then some (if i < k then c else 0) else none := by
  unfold fillK
  rw [List.getElem?_map]
  by_cases h : i < 4096
  · rw [List.getElem?_range h, if_pos h]; rfl
  · rw [List.getElem?_eq_none (by simp; omega), if_neg h]; rfl
theorem fillK_zero (c : UInt8) : fillK c 0 = List.replicate 4096 0 := by
  apply List.ext_getElem?
  intro i
  rw [fillK_get, List.getElem?_replicate]
  simp
theorem fillK_set (c : UInt8) (k : Nat) (h : k < 4096) : (fillK c k).set k c = fillK c (k + 1) := by
  apply List.ext_getElem?
  intro i
  rw [List.getElem?_set, fillK_get, fillK_get, fillK_length]
  by_cases e : k = i
  · subst e
    rw [if_pos rfl, if_pos h, if_pos h, if_pos (by omega)]
  · rw [if_neg e]
    by_cases h1 : i < k
    · rw [if_pos h1, if_pos (show i < k + 1 by omega)]
    · rw [if_neg h1, if_neg (show ¬ i < k + 1 by omega)]
theorem fill_get (c : UInt8) (i : Nat) (h : i < 4096) : (fill c)[i]? = some c := by
  unfold fill
  rw [fillK_get, if_pos h, if_pos h]

theorem nought_fill (c : UInt8) : nought 4096 = fillK c 0 := by rw [fillK_zero]; rfl

set_option maxRecDepth 100000 in
theorem filled_at (c : UInt8) (C : Int) (w : World) (hC : C = (c.toNat : Int)) :
    Calls Try.prog 13 #[.int .u8 C] w fun e w' => ∃ g, e = .returned (.slice (some ⟨g, 0, none⟩) 4096 4096) ∧ w.heap.size ≤ g ∧ Own w' g (fill c) ∧ Below w.heap.size w w' := by
  subst hC
  have hm : ∀ u : World, (Instr.makeSlice 31 (.int .i64 4096) (.int .i64 4096)).run Try.prog u = .ok (.slice (some ⟨u.heap.size, 0, none⟩) 4096 4096) (u.alloc (.cells (bcs (fillK c 0)).toArray 5)) := by
    rw [← nought_fill c]
    exact make_run 4096 (by omega)
  have o0 := own_lit w (fillK c 0)
  have B0 := (Below.refl w.heap.size w).alloc (Nat.le_refl _) (.cells (bcs (fillK c 0)).toArray 5)
  obtain ⟨U, hU⟩ : ∃ U, U = w.alloc (.cells (bcs (fillK c 0)).toArray 5) := ⟨_, rfl⟩
  rw [← hU] at o0 B0
  have HU : Hid _ := hU
  clear hU
  go_enter Try.func13, Try.ntmps13
  go_wp2_with fail
  rw [← HU.out]
  go_loopw [4] (fun i wr => ∃ k : Nat, k ≤ 4096 ∧ i = .int .i64 k ∧ Own wr w.heap.size (fillK c k) ∧ Below w.heap.size w wr) (fun i _ => 4096 - (intOf i).toNat)
  case atStart => exact ⟨0, Nat.zero_le _, rfl, o0, B0⟩
  case round =>
    obtain ⟨k, hk, rfl, o, B⟩ := hrel
    clear o0 B0 hm
    by_cases hlt : k < 4096
    · have hlt2 : (k : Int) < 4096 := by omega
      have c0 := o.cell k (by rw [fillK_length]; exact hlt)
      have f0 := o.frozen k
      have o1 := o.store k c
      rw [fillK_set c k hlt] at o1
      have B1 := B.setCell (p := ⟨w.heap.size, k, none⟩) (Nat.le_refl _) (.int .u8 (c.toNat : Int))
      generalize ((fillK c k)[k]'(by rw [fillK_length]; exact hlt)) = q at c0
      go_wp2
      go_roundw
      case rel => exact ⟨k + 1, by omega, by go_num, o1, B1⟩
      case measure => simp [intOf]; omega
    · obtain rfl : k = 4096 := by omega
      go_wp2
      go_ret
      exact ⟨_, rfl, Nat.le_refl _, o, B⟩


set_option maxRecDepth 100000 in
theorem one_at (w : World) : Calls Try.prog 8 #[] w fun r w' => ∃ ga gd, r = .returned (.agg #[.int .i64 1, .int .i64 1, .slice (some ⟨ga, 0, none⟩) 1 1]) ∧ w.heap.size ≤ ga ∧ w.heap.size ≤ gd ∧
    Box w' ga #[.int .i64 40, .slice (some ⟨gd, 0, none⟩) 4096 4096] 38 ∧ Own w' gd (fill 97) ∧ Below w.heap.size w w' := by
  have x0 := Box.new w #[.int .i64 0, .int .i64 0, .slice none 0 0] 28
  have B0 := (Below.refl w.heap.size w).alloc (Nat.le_refl _) (.cells #[.int .i64 0, .int .i64 0, .slice none 0 0] 28)
  have cF := filled_at 97 97 (w.alloc (.cells #[.int .i64 0, .int .i64 0, .slice none 0 0] 28)) rfl
  obtain ⟨f, hf⟩ : ∃ f, f = fill 97 := ⟨_, rfl⟩
  rw [← hf] at cF ⊢
  clear hf
  go_enter Try.func8, Try.ntmps8
  go_wp2_with fail
  refine cF.mono ?_
  rintro r w1 ⟨gd, rfl, hgd, hown, b⟩
  clear cF
  have x1 := (x0.below b).alloc (.cells #[.int .i64 40, .slice (some ⟨gd, 0, none⟩) 4096 4096] 38)
  have y1 := Box.new w1 #[.int .i64 40, .slice (some ⟨gd, 0, none⟩) 4096 4096] 38
  have B1 := B0.trans (b.mono B0.size)
  have B2 := B1.alloc B1.size (.cells #[.int .i64 40, .slice (some ⟨gd, 0, none⟩) 4096 4096] 38)
  have o1 : Own (w1.alloc (.cells #[.int .i64 40, .slice (some ⟨gd, 0, none⟩) 4096 4096] 38)) gd f := (Below.heap_alloc w1 _ gd hown.lt).trans hown
  have lt1 : Hid (w.heap.size < w1.heap.size) := (x0.below b).lt
  have hgd2 : Hid (w.heap.size < gd) := by
    have : (w.alloc (.cells #[.int .i64 0, .int .i64 0, .slice none 0 0] 28)).heap.size = w.heap.size + 1 := by simp
    show _ < _
    omega
  clear x0 B0 b B1 hown hgd
  have c0 := x1.cell 0
  have c1 := x1.cell 1
  have c2 := x1.cell 2
  have f0 := x1.frozen 0
  have f1 := x1.frozen 1
  have f2 := x1.frozen 2
  go_wp2_with fail
  have ne1 : w1.heap.size ≠ w.heap.size := Nat.ne_of_gt lt1.out
  have ne2 : gd ≠ w.heap.size := Nat.ne_of_gt hgd2.out
  have x2 := ((x1.store 0 (.int .i64 1)).store 1 (.int .i64 1)).store 2 (.slice (some ⟨w1.heap.size, 0, none⟩) 1 1)
  replace x2 : Box (((((w1.alloc (.cells #[.int .i64 40, .slice (some ⟨gd, 0, none⟩) 4096 4096] 38)).setCell ⟨w.heap.size, 0, none⟩ (.int .i64 1)).setCell ⟨w.heap.size, 1, none⟩ (.int .i64 1)).setCell ⟨w.heap.size, 2, none⟩ (.slice (some ⟨w1.heap.size, 0, none⟩) 1 1))) w.heap.size #[.int .i64 1, .int .i64 1, .slice (some ⟨w1.heap.size, 0, none⟩) 1 1] 28 := by simpa using x2
  have d0 := x2.cell 0
  have d1 := x2.cell 1
  have d2 := x2.cell 2
  simp at d0 d1 d2
  refine bodyPost_ret (v := .agg #[.int .i64 1, .int .i64 1, .slice (some ⟨w1.heap.size, 0, none⟩) 1 1]) (by simp [results, Try.results8, go_sem, d0, d1, d2]) rfl ⟨w1.heap.size, gd, rfl, Nat.le_of_lt lt1.out, Nat.le_of_lt hgd2.out, ?_, ?_, ?_⟩
  · exact (heap_setCell_other _ ⟨w.heap.size, 2, none⟩ w1.heap.size _ ne1).trans ((heap_setCell_other _ ⟨w.heap.size, 1, none⟩ w1.heap.size _ ne1).trans ((heap_setCell_other _ ⟨w.heap.size, 0, none⟩ w1.heap.size _ ne1).trans y1))
  · exact ((o1.other ne2).other ne2).other ne2
  · exact ((B2.setCell (p := ⟨w.heap.size, 0, none⟩) (Nat.le_refl _) _).setCell (p := ⟨w.heap.size, 1, none⟩) (Nat.le_refl _) _).setCell (p := ⟨w.heap.size, 2, none⟩) (Nat.le_refl _) _
end Go.Proofs.Ytghcmlkgpedkkaa
