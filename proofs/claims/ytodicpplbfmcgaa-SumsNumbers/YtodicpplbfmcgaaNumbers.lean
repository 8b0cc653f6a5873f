/-
  The fixed examples: rows of 32 bytes, and the walk of SumsNumbers.
-/
import Derived.Test.YtodicpplbfmcgaaSums
namespace Go.Proofs.Ytodicpplbfmcgaa
open Go.RowKit

/-- Of 32 bytes, each so much above the one ahead, the first k; noughts behind. -/
def rowK (f s k : Nat) : List UInt8 := (List.range 32).map fun i => if i < k then UInt8.ofNat (f + s * i) else 0

theorem rowK_length (f s k : Nat) : (rowK f s k).length = 32 := by simp [rowK]
theorem rowK_zero (f s : Nat) : rowK f s 0 = List.replicate 32 0 := by
  apply List.eq_replicate_iff.2
  refine ⟨rowK_length _ _ _, fun b hb => ?_⟩
  obtain ⟨i, _, rfl⟩ := List.mem_map.1 hb
  rfl
theorem rowK_succ (f s k : Nat) : (rowK f s k).set k (UInt8.ofNat (f + s * k)) = rowK f s (k + 1) := by
  apply List.ext_getElem
  · simp [rowK]
  · intro i h1 h2
    rw [List.getElem_set]
    by_cases e : k = i
    · subst e
      simp [rowK]
    · rw [if_neg e]
      have : (i < k + 1) = (i < k) := by apply propext; omega
      simp [rowK, this]

theorem row_any (f s : Nat) (w : World) :
    Calls Try.prog 9 #[.int .u8 f, .int .u8 s] w fun e w' => e = .returned (.slice (some ⟨w.heap.size, 0, none⟩) 32 32) ∧ Own w' w.heap.size (rowK f s 32) ∧ Below w.heap.size w w' := by
  obtain ⟨i0, hi, hz0, hz1, hz2⟩ := info_parts info5
  have hmk : ∀ u : World, (Instr.makeSlice 25 (.int .i64 32) (.int .i64 32)).run Try.prog u =
      .ok (.slice (some ⟨u.heap.size, 0, none⟩) 32 32) (u.alloc (.cells (madeCells #[.int .u8 0] 32) 5)) := fun u => by
    have h := run_make (P := Try.prog) u 25 5 i0 (.int .u8 0) Try.underlying25 hi hz0 .i64 .i64 32 32 (by omega) (Int.le_refl _) (by rw [hz2]; omega) (by omega)
    simpa [hz1, Value.cells] using h
  have ho : Own (w.alloc (.cells (madeCells #[.int .u8 0] 32) 5)) w.heap.size (rowK f s 0) := by
    rw [made_zero, rowK_zero]; exact heap_alloc_new w _
  have hb0 : Below w.heap.size w (w.alloc (.cells (madeCells #[.int .u8 0] 32) 5)) := (Below.refl _ _).alloc (Nat.le_refl _) _
  go_enter Try.func9, Try.ntmps9
  go_wp2_with fail
  go_loopw [6] (fun i wr => ∃ k : Nat, k ≤ 32 ∧ i = .int .i64 k ∧ Own wr w.heap.size (rowK f s k) ∧ Below w.heap.size w wr) (fun i _ => 32 - (intOf i).toNat)
  case atStart => exact ⟨0, Nat.zero_le _, rfl, ho, hb0⟩
  case round =>
    obtain ⟨k, hk, rfl, hown, hbel⟩ := hrel
    by_cases hlt : k < 32
    · have hc := hown.cell k (by rw [rowK_length]; exact hlt)
      have hfz := hown.frozen k
      have Ho : Hid _ := hown
      clear hown ho hb0
      go_wp2
      go_roundw
      case rel =>
        refine ⟨k + 1, by omega, by go_num, ?_, hbel.setCell (Nat.le_refl _) _⟩
        have h := Own.store Ho.out k (UInt8.ofNat (f + s * k))
        rw [rowK_succ, ofNat_toNat] at h
        have e : ((f : Int) + (s : Int) * (k : Int)) % 256 = (((f + s * k) % 256 : Nat) : Int) := by simp
        rw [e]
        exact h
      case measure => simp [intOf]; omega
    · obtain rfl : k = 32 := by omega
      go_wp2
      go_ret
      exact ⟨rfl, hown, hbel⟩

theorem crc_a : crc (crc 0 [49, 50, 51, 52]) [53, 54, 55, 56, 57] = 3808858755 := by decide +kernel
theorem crc_b : crc 0 (rowK 0 0 32) = 2324772522 := by decide +kernel
theorem crc_c : crc 0 (rowK 255 0 32) = 1655221059 := by decide +kernel
theorem crc_d : crc 0 (rowK 0 1 32) = 1188919630 := by decide +kernel
theorem crc_none : crc 0 [] = 0 := by decide

theorem numbers_any (w : World) : Calls Try.prog 3 #[] w fun e w' => e = .returned (.bool true) ∧ Below w.heap.size w w' := by
  have kc := fun (u : World) (C : Array Value) (n c : Nat) => Lib.run_convert_bytes_const (P := Try.prog) u 25 5 C n c Try.underlying25 Try.underlying5
  go_enter Try.func3, Try.ntmps3
  go_wp2_with fail
  refine (crc_at 0 0 none [] w rfl (by omega) (Rd.nil _ _)).mono ?_
  rintro e w1 ⟨rfl, hb1⟩
  rw [crc_none]
  go_wp2_with fail
  refine (crc_at 4 4 (some ⟨w1.heap.size, 0, none⟩) [49, 50, 51, 52] _ rfl (by omega) (rd_marked w1 (4, 5) [49, 50, 51, 52])).mono ?_
  rintro e w2 ⟨rfl, hb2⟩
  have hB2 : Below w.heap.size w w2 := (hb1.alloc hb1.size _).trans (hb2.mono (by have := hb1.size; simp; omega))
  clear hb1 hb2
  go_wp2_with fail
  refine (more_at 5 5 (some ⟨w2.heap.size, 0, none⟩) [53, 54, 55, 56, 57] (crc 0 [49, 50, 51, 52]) _ _ rfl rfl (by omega) (crc_lt _ _) (rd_marked w2 (5, 6) [53, 54, 55, 56, 57])).mono ?_
  rintro e w3 ⟨rfl, hb3⟩
  rw [crc_a]
  have hB3 : Below w.heap.size w w3 := (hB2.alloc hB2.size _).trans (hb3.mono (by have := hB2.size; simp; omega))
  clear hB2 hb3
  go_wp2_with fail
  refine (row_any 0 0 w3).mono ?_
  rintro e w4 ⟨rfl, ho4, hb4⟩
  have hB4 : Below w.heap.size w w4 := hB3.trans (hb4.mono hB3.size)
  clear hB3 hb4
  go_wp2_with fail
  refine (crc_at 32 32 _ (rowK 0 0 32) w4 (rowK_length _ _ _) (by omega) ho4.rd).mono ?_
  rintro e w5 ⟨rfl, hb5⟩
  rw [crc_b]
  have hB5 : Below w.heap.size w w5 := hB4.trans (hb5.mono hB4.size)
  clear hB4 hb5 ho4
  go_wp2_with fail
  refine (row_any 255 0 w5).mono ?_
  rintro e w6 ⟨rfl, ho6, hb6⟩
  have hB6 : Below w.heap.size w w6 := hB5.trans (hb6.mono hB5.size)
  clear hB5 hb6
  go_wp2_with fail
  refine (crc_at 32 32 _ (rowK 255 0 32) w6 (rowK_length _ _ _) (by omega) ho6.rd).mono ?_
  rintro e w7 ⟨rfl, hb7⟩
  rw [crc_c]
  have hB7 : Below w.heap.size w w7 := hB6.trans (hb7.mono hB6.size)
  clear hB6 hb7 ho6
  go_wp2_with fail
  refine (row_any 0 1 w7).mono ?_
  rintro e w8 ⟨rfl, ho8, hb8⟩
  have hB8 : Below w.heap.size w w8 := hB7.trans (hb8.mono hB7.size)
  clear hB7 hb8
  go_wp2_with fail
  refine (crc_at 32 32 _ (rowK 0 1 32) w8 (rowK_length _ _ _) (by omega) ho8.rd).mono ?_
  rintro e w9 ⟨rfl, hb9⟩
  rw [crc_d]
  have hB9 : Below w.heap.size w w9 := hB8.trans (hb9.mono hB8.size)
  clear hB8 hb9 ho8
  go_wp2_with fail
  refine (awake_any w9).mono ?_
  rintro e w10 ⟨rfl, hb10⟩
  have hB10 : Below w.heap.size w w10 := hB9.trans (hb10.mono hB9.size)
  clear hB9 hb10
  go_wp2
  go_ret
  exact ⟨rfl, hB10⟩

end Go.Proofs.Ytodicpplbfmcgaa
