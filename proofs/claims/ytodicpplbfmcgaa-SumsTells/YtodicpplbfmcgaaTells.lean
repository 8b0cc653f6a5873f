/-
  The document's own sum, and the walk of SumsTells.
-/
import Derived.Test.YtodicpplbfmcgaaSums
namespace Go.Proofs.Ytodicpplbfmcgaa
open Go.RowKit

theorem ref_bit (c : UInt8) (j : Nat) : ((c.toNat : Int) % 4294967296 / 2 ^ j).tmod 2 = ((c.toNat / 2 ^ j % 2 : Nat) : Int) := by
  have e : (c.toNat : Int) % 4294967296 = c.toNat := by have := u8_lt c; omega
  have e2 : ((c.toNat : Int) / 2 ^ j) = ((c.toNat / 2 ^ j : Nat) : Int) := by simp
  rw [e, e2, Int.tmod_eq_emod_of_nonneg (Int.natCast_nonneg _)]
  simp

theorem ref_unlike (X b : Nat) (B : Int) (hB : B = (b : Int)) (hX : X < 4294967296) (h : (B != (X : Int) % 2) = true) : bits .xor .u32 ((X : Int) / 2) 2197175160 = ((step X b : Nat) : Int) := by
  subst hB
  have hne : X % 2 ≠ b := by
    intro e
    simp at h
    omega
  unfold step
  rw [if_neg hne]
  exact xor_u32 (X / 2) taps (by omega) (by decide)

theorem ref_like (X b : Nat) (B : Int) (hB : B = (b : Int)) (h : (B != (X : Int) % 2) = false) : (X : Int) / 2 = ((step X b : Nat) : Int) := by
  subst hB
  have he : X % 2 = b := by
    have := of_not_bne h
    omega
  unfold step
  rw [if_pos he]
  omega

theorem ref_in (b o cap n : Nat) (xs : List UInt8) (s : Nat) (w : World) (hl : xs.length = n) (hn : n ≤ 9223372036854775807) (hs : s < 4294967296)
    (hc : ∀ j, j < n → w.cell? ⟨b, o + j, none⟩ = some (.int .u8 ((xs.getD j 0).toNat : Int))) :
    Calls Try.prog 12 #[.int .u32 s, .slice (some ⟨b, o, none⟩) n cap] w fun e w' => e = .returned (.int .u32 (crc s xs : Nat)) ∧ w = w' := by
  have Hl : Hid (xs.length = n) := hl
  clear hl
  go_enter Try.func12, Try.ntmps12
  go_wp2_with fail
  go_loop [5, 6] (fun r i => ∃ k : Nat, k ≤ n ∧ i = .int .i64 k ∧ r = .int .u32 (reg (4294967295 - s) (xs.take k) : Nat)) (fun _ i => n - (intOf i).toNat)
  case atStart => exact ⟨0, Nat.zero_le _, rfl, by simp [reg_nil]; omega⟩
  case round =>
    obtain ⟨k, hk, rfl, rfl⟩ := hrel
    obtain ⟨R, hR⟩ : ∃ R, reg (4294967295 - s) (xs.take k) = R := ⟨_, rfl⟩
    rw [hR]
    have HR : Hid _ := hR
    clear hR
    have hRl : R < 4294967296 := by rw [← HR.out]; exact reg_lt _ (by omega)
    by_cases hlt : k < n
    · obtain ⟨c, hcc⟩ : ∃ c, xs.getD k 0 = c := ⟨_, rfl⟩
      have hcx : w.cell? ⟨b, o + k, none⟩ = some (.int .u8 (c.toNat : Int)) := by rw [← hcc]; exact hc k hlt
      have Hcc : Hid _ := hcc
      clear hcc hc
      go_wp2_with fail
      go_loop [5, 7] (fun r i => ∃ j : Nat, j ≤ 8 ∧ i = .int .i64 j ∧ r = .int .u32 (steps R c.toNat j : Nat)) (fun _ i => 8 - (intOf i).toNat)
      case atStart => exact ⟨0, Nat.zero_le _, rfl, rfl⟩
      case round =>
        obtain ⟨j, hj, rfl, rfl⟩ := hrel
        by_cases hlt2 : j < 8
        · have hXl := steps_lt c.toNat hRl j
          go_wp2
          · rename_i ht
            rw [ref_unlike _ _ _ (ref_bit c j) hXl ht]
            go_round
            case rel => exact ⟨j + 1, by omega, by go_num, rfl⟩
            case measure => simp [intOf]; omega
          · rename_i ht
            rw [ref_like _ _ _ (ref_bit c j) ht]
            go_round
            case rel => exact ⟨j + 1, by omega, by go_num, rfl⟩
            case measure => simp [intOf]; omega
        · obtain rfl : j = 8 := by omega
          go_wp2
          go_round
          case rel =>
            refine ⟨k + 1, by omega, by go_num, ?_⟩
            have hk' : k < xs.length := by rw [Hl.out]; exact hlt
            have hcc := Hcc.out
            rw [reg_succ _ _ _ hk', HR.out]
            simp only [List.getD, List.getElem?_eq_getElem hk', Option.getD_some] at hcc
            rw [hcc]
          case measure => simp [intOf]; omega
    · obtain rfl : k = n := by omega
      go_wp2
      go_ret
      have hR := HR.out
      rw [List.take_of_length_le (by rw [Hl.out]; exact Nat.le_refl _)] at hR
      refine ⟨?_, rfl⟩
      unfold crc
      rw [hR]
      show Ending.returned (.int .u32 (4294967295 - (R : Int))) = _
      congr 2
      omega

theorem ref_none (a : Option Addr) (cap : Nat) (s : Nat) (w : World) (hs : s < 4294967296) :
    Calls Try.prog 12 #[.int .u32 s, .slice a 0 cap] w fun e w' => e = .returned (.int .u32 (crc s [] : Nat)) ∧ w = w' := by
  go_enter Try.func12, Try.ntmps12
  go_wp2_with fail
  refine wp_loop_rounds 1 ?_
  rw [rounds_succ]
  go_wp2
  go_ret
  refine ⟨?_, rfl⟩
  rw [crc_nil hs]
  show Ending.returned (.int .u32 (4294967295 - (4294967295 - (s : Int)))) = _
  congr 2
  omega

/-- The document's sum. -/
theorem ref_at (cap n : Nat) (a : Option Addr) (xs : List UInt8) (s : Nat) (S : Int) (w : World) (hS : S = (s : Int)) (hl : xs.length = n) (hn : n ≤ 9223372036854775807) (hs : s < 4294967296) (hr : Rd w a xs) :
    Calls Try.prog 12 #[.int .u32 S, .slice a n cap] w fun e w' => e = .returned (.int .u32 (crc s xs : Nat)) ∧ w = w' := by
  subst hS
  by_cases h0 : 0 < n
  · obtain ⟨b, o, rfl, hc⟩ := hr (by omega)
    refine ref_in b o cap n xs s w hl hn hs (fun j hj => ?_)
    rw [hc j (by omega)]
    simp [List.getD, List.getElem?_eq_getElem (show j < xs.length by omega)]
  · obtain rfl : n = 0 := by omega
    obtain rfl : xs = [] := List.eq_nil_of_length_eq_zero hl
    exact ref_none a cap s w hs

theorem tells_long (a : Option Addr) (cap n : Nat) (s : Int) (w : World) (hn : n ≤ 9223372036854775807) (h : 20000 < n) :
    Calls Try.prog 4 #[.int .u32 s, .slice a n cap] w fun e w' => e = .returned (.bool true) ∧ Below w.heap.size w w' := by
  go_enter Try.func4, Try.ntmps4
  go_wp2_with fail
  refine (awake_any w).mono ?_
  rintro e w1 ⟨rfl, hb⟩
  go_wp2
  go_ret
  exact ⟨rfl, hb⟩

theorem tells_any (a : Option Addr) (cap n : Nat) (xs : List UInt8) (s : Nat) (w : World) (hl : xs.length = n) (hn : n ≤ 20000) (hs : s < 4294967296) (hr : Rd w a xs) (hnil : a = none → cap = 0) :
    Calls Try.prog 4 #[.int .u32 s, .slice a n cap] w fun e w' => e = .returned (.bool true) ∧ Below w.heap.size w w' := by
  have Hl : Hid _ := hl
  clear hl
  go_enter Try.func4, Try.ntmps4
  go_wp2_with fail
  refine (lent_at cap n a xs w Hl.out (by omega) hr hnil).mono ?_
  rintro e w1 ⟨g, cap1, rfl, hc1, hm1, hg1, hrd1, hb1⟩
  go_wp2_with fail
  refine (crc_at cap1 n _ xs w1 Hl.out (by omega) hrd1.head).mono ?_
  rintro e w2 ⟨rfl, hb2⟩
  have hr2 := hr.below (hb1.trans (hb2.mono hb1.size)) (Nat.le_refl _)
  have hrd2 := hrd1.below hb2 (Nat.le_refl _)
  have hB2 : Below w.heap.size w w2 := hb1.trans (hb2.mono hb1.size)
  clear hb1 hb2 hrd1 hr
  go_wp2_with fail
  refine (ref_at cap n a xs 0 0 w2 rfl Hl.out (by omega) (by omega) hr2).mono ?_
  rintro e w3 ⟨rfl, rfl⟩
  go_wp2_with fail
  refine (more_at cap1 n _ xs s s w2 rfl Hl.out (by omega) hs hrd2.head).mono ?_
  rintro e w3 ⟨rfl, hb3⟩
  have hr3 := hr2.below hb3 (Nat.le_refl _)
  have hrd3 := hrd2.below hb3 (Nat.le_refl _)
  have hB3 : Below w.heap.size w w3 := hB2.trans (hb3.mono hB2.size)
  clear hb3 hrd2 hr2 hB2
  go_wp2_with fail
  refine (ref_at cap n a xs s s w3 rfl Hl.out (by omega) hs hr3).mono ?_
  rintro e w4 ⟨rfl, rfl⟩
  go_wp2_with fail
  refine (kept_at g cap1 cap n a xs w3 Hl.out (by omega) hc1 hrd3 hr3).mono ?_
  rintro e w4 ⟨rfl, rfl⟩
  go_wp2_with fail
  refine (awake_any w3).mono ?_
  rintro e w4 ⟨rfl, hb4⟩
  have hB4 : Below w.heap.size w w4 := hB3.trans (hb4.mono hB3.size)
  clear hb4 hrd3 hr3 hB3
  go_wp2
  go_ret
  exact ⟨rfl, hB4⟩

end Go.Proofs.Ytodicpplbfmcgaa
