/-
  The document's own sum, and the walk of SumsTells.
-/
import Derived.Test.YtghcmlkgpedkkaaSums
namespace Go.Proofs.Ytghcmlkgpedkkaa
open Go.RowKit

theorem rmore_bit (c : UInt8) (j : Nat) : ((c.toNat : Int) % 4294967296 / 2 ^ j).tmod 2 = ((c.toNat / 2 ^ j % 2 : Nat) : Int) := by
  have e : (c.toNat : Int) % 4294967296 = c.toNat := by have := u8_lt c; omega
  have e2 : ((c.toNat : Int) / 2 ^ j) = ((c.toNat / 2 ^ j : Nat) : Int) := by simp
  rw [e, e2, Int.tmod_eq_emod_of_nonneg (Int.natCast_nonneg _)]
  simp

theorem rmore_unlike (X b : Nat) (B : Int) (hB : B = (b : Int)) (hX : X < 4294967296) (h : (B != (X : Int) % 2) = true) : bits .xor .u32 ((X : Int) / 2) 2197175160 = ((step X b : Nat) : Int) := by
  subst hB
  have hne : X % 2 ≠ b := by
    intro e
    simp at h
    omega
  unfold step
  rw [if_neg hne]
  exact xor_u32 (X / 2) taps (by omega) (by decide)

theorem rmore_like (X b : Nat) (B : Int) (hB : B = (b : Int)) (h : (B != (X : Int) % 2) = false) : (X : Int) / 2 = ((step X b : Nat) : Int) := by
  subst hB
  have he : X % 2 = b := by
    have := of_not_bne h
    omega
  unfold step
  rw [if_pos he]
  omega

theorem rmore_in (b o cap n : Nat) (xs : List UInt8) (s : Nat) (w : World) (hl : xs.length = n) (hn : n ≤ 9223372036854775807) (hs : s < 4294967296)
    (hc : ∀ j, j < n → w.cell? ⟨b, o + j, none⟩ = some (.int .u8 ((xs.getD j 0).toNat : Int))) :
    Calls Try.prog 37 #[.int .u32 s, .slice (some ⟨b, o, none⟩) n cap] w fun e w' => e = .returned (.int .u32 (crc s xs : Nat)) ∧ w = w' := by
  have Hl : Hid (xs.length = n) := hl
  clear hl
  go_enter Try.func37, Try.ntmps37
  go_wp2_with fail
  go_loop [5, 6] (fun r i => ∃ k : Nat, k ≤ n ∧ i = .int .i64 k ∧ r = .int .u32 (reg (4294967295 - s) (xs.take k) : Nat)) (fun _ i => n - (intOf i).toNat)
  case atStart => exact ⟨0, Nat.zero_le _, rfl, by simp [reg_nil]; omega⟩
  case round =>
    obtain ⟨k, hk, rfl, rfl⟩ := hrel
    obtain ⟨R, hR⟩ : ∃ R, reg (4294967295 - s) (xs.take k) = R := ⟨_, rfl⟩
    rw [hR]
    have HR : Hid _ := hR
    clear hR
    have hRl : R < 4294967296 := by rw [← HR.out]; exact reg_lt _ (by omega)
    by_cases hlt : k < n
    · obtain ⟨c, hcc⟩ : ∃ c, xs.getD k 0 = c := ⟨_, rfl⟩
      have hcx : w.cell? ⟨b, o + k, none⟩ = some (.int .u8 (c.toNat : Int)) := by rw [← hcc]; exact hc k hlt
      have Hcc : Hid _ := hcc
      clear hcc hc
      go_wp2_with fail
      go_loop [5, 7] (fun r i => ∃ j : Nat, j ≤ 8 ∧ i = .int .i64 j ∧ r = .int .u32 (steps R c.toNat j : Nat)) (fun _ i => 8 - (intOf i).toNat)
      case atStart => exact ⟨0, Nat.zero_le _, rfl, rfl⟩
      case round =>
        obtain ⟨j, hj, rfl, rfl⟩ := hrel
        by_cases hlt2 : j < 8
        · have hXl := steps_lt c.toNat hRl j
          go_wp2
          · rename_i ht
            rw [rmore_unlike _ _ _ (rmore_bit c j) hXl ht]
            go_round
            case rel => exact ⟨j + 1, by omega, by go_num, rfl⟩
            case measure => simp [intOf]; omega
          · rename_i ht
            rw [rmore_like _ _ _ (rmore_bit c j) ht]
            go_round
            case rel => exact ⟨j + 1, by omega, by go_num, rfl⟩
            case measure => simp [intOf]; omega
        · obtain rfl : j = 8 := by omega
          go_wp2
          go_round
          case rel =>
            refine ⟨k + 1, by omega, by go_num, ?_⟩
            have hk' : k < xs.length := by rw [Hl.out]; exact hlt
            have hcc := Hcc.out
            rw [reg_succ _ _ _ hk', HR.out]
            simp only [List.getD, List.getElem?_eq_getElem hk', Option.getD_some] at hcc
            rw [hcc]
          case measure => simp [intOf]; omega
    · obtain rfl : k = n := by omega
      go_wp2
      go_ret
      have hR := HR.out
      rw [List.take_of_length_le (by rw [Hl.out]; exact Nat.le_refl _)] at hR
      refine ⟨?_, rfl⟩
      unfold crc
      rw [hR]
      show Ending.returned (.int .u32 (4294967295 - (R : Int))) = _
      congr 2
      omega

theorem rmore_none (a : Option Addr) (cap : Nat) (s : Nat) (w : World) (hs : s < 4294967296) :
    Calls Try.prog 37 #[.int .u32 s, .slice a 0 cap] w fun e w' => e = .returned (.int .u32 (crc s [] : Nat)) ∧ w = w' := by
  go_enter Try.func37, Try.ntmps37
  go_wp2_with fail
  refine wp_loop_rounds 1 ?_
  rw [rounds_succ]
  go_wp2
  go_ret
  refine ⟨?_, rfl⟩
  rw [crc_nil hs]
  show Ending.returned (.int .u32 (4294967295 - (4294967295 - (s : Int)))) = _
  congr 2
  omega

/-- The document's sum. -/
theorem rmore_at (cap n : Nat) (a : Option Addr) (xs : List UInt8) (s : Nat) (S : Int) (w : World) (hS : S = (s : Int)) (hl : xs.length = n) (hn : n ≤ 9223372036854775807) (hs : s < 4294967296) (hr : Rd w a xs) :
    Calls Try.prog 37 #[.int .u32 S, .slice a n cap] w fun e w' => e = .returned (.int .u32 (crc s xs : Nat)) ∧ w = w' := by
  subst hS
  by_cases h0 : 0 < n
  · obtain ⟨b, o, rfl, hc⟩ := hr (by omega)
    refine rmore_in b o cap n xs s w hl hn hs (fun j hj => ?_)
    rw [hc j (by omega)]
    simp [List.getD, List.getElem?_eq_getElem (show j < xs.length by omega)]
  · obtain rfl : n = 0 := by omega
    obtain rfl : xs = [] := List.eq_nil_of_length_eq_zero hl
    exact rmore_none a cap s w hs

end Go.Proofs.Ytghcmlkgpedkkaa
