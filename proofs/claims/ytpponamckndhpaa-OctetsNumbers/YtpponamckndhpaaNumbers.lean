import Derived.Test.YtpponamckndhpaaBack
import Derived.WalkKit
import Derived.WalkSpells
import Derived.WalkLawsBesides
namespace Go.Proofs.Ytpponamckndhpaa
open Go.RowKit

theorem none16 (cap n : Nat) (a : Option Addr) (xs : List UInt8) (i : Int) (w : World) (hn : xs.length = n) (hm : n ≤ 9223372036854775807) (hr : Rd w a xs) (hv : numAt xs i 2 = none) :
    Calls Try.prog 7 #[.slice a n cap, .int .i64 i] w fun e w' => e = .returned (.tuple #[.int .u16 0, .bool false]) ∧ w = w' := by
  subst hn; have h := u16_any a cap xs i w hm hr; rw [hv] at h; exact h
theorem none32 (cap n : Nat) (a : Option Addr) (xs : List UInt8) (i : Int) (w : World) (hn : xs.length = n) (hm : n ≤ 9223372036854775807) (hr : Rd w a xs) (hv : numAt xs i 4 = none) :
    Calls Try.prog 10 #[.slice a n cap, .int .i64 i] w fun e w' => e = .returned (.tuple #[.int .u32 0, .bool false]) ∧ w = w' := by
  subst hn; have h := u32_any a cap xs i w hm hr; rw [hv] at h; exact h
theorem none64 (cap n : Nat) (a : Option Addr) (xs : List UInt8) (i : Int) (w : World) (hn : xs.length = n) (hm : n ≤ 9223372036854775807) (hr : Rd w a xs) (hv : numAt xs i 8 = none) :
    Calls Try.prog 8 #[.slice a n cap, .int .i64 i] w fun e w' => e = .returned (.tuple #[.int .u64 0, .bool false]) ∧ w = w' := by
  subst hn; have h := u64_any a cap xs i w hm hr; rw [hv] at h; exact h
theorem noneText (cap n : Nat) (a : Option Addr) (xs : List UInt8) (i : Int) (w : World) (hn : xs.length = n) (hl : n ≤ 281474976710656) (hcap : n ≤ cap) (hm : cap ≤ 9223372036854775807) (hr : Rd w a xs) (ht : textAt xs i = none) :
    Calls Try.prog 11 #[.slice a n cap, .int .i64 i] w fun e w' => e = .returned (.tuple #[.string ⟨#[]⟩, .int .i64 0, .bool false]) ∧ w = w' := by
  subst hn; have h := text_any a cap xs i w hl hcap hm hr; rw [ht] at h; exact h

/-- So many noughts: a word of its own, so that nothing writes them out. -/
def noughts (n : Nat) : List UInt8 := List.replicate n 0
theorem noughts_length (n : Nat) : (noughts n).length = n := by simp [noughts]
theorem made_noughts (n : Nat) : (madeCells #[Value.int .u8 0] n) = (bcs (noughts n)).toArray := made_zero n

theorem make_run (n : Nat) (N : Int) (hN : N = (n : Int)) (h : n ≤ 281474976710656) (u : World) : (Instr.makeSlice 25 (.int .i64 N) (.int .i64 N)).run Try.prog u = .ok (.slice (some ⟨u.heap.size, 0, none⟩) n n) (u.alloc (.cells (bcs (noughts n)).toArray 5)) := by
  subst hN
  obtain ⟨i0, hi, hz0, hz1, hz2⟩ := info_parts info5
  have h := run_make (P := Try.prog) u 25 5 i0 (.int .u8 0) Try.underlying25 hi hz0 .i64 .i64 (n : Int) (n : Int) (by omega) (Int.le_refl _) (by rw [hz2]; omega) (by omega)
  rw [Int.toNat_natCast] at h
  rw [← made_noughts]
  simpa [hz1, Value.cells] using h

theorem no_num (z : Int) (hz : ¬ z = 0) : numAt [1, 2] z 2 = none := numAt_none (by simp; omega)
theorem no_num4 (z : Int) : numAt [1, 2] z 4 = none := numAt_none (by simp; omega)
theorem no_text (z : Int) (hz : ¬ z = 0) : textAt [1, 2] z = none := by unfold textAt; rw [no_num z hz]

theorem str_size (l : List UInt8) : (ByteArray.mk l.toArray).size = l.length := by simp [ByteArray.size]


theorem places_at (wr : World) (g k : Nat) (hk : k < 5) (h : wr.heap[g]? = some (.cells #[.int .i64 1, .int .i64 (-1), .int .i64 2, .int .i64 9223372036854775807, .int .i64 (-9223372036854775808)] 3 (0, 0))) :
    ∃ z : Int, wr.cell? ⟨g, k, none⟩ = some (.int .i64 z) ∧ ¬ z = 0 := by
  rw [cell_of_row wr g k _ 3 (0, 0) h]
  match k, hk with
  | 0, _ => exact ⟨1, rfl, by omega⟩
  | 1, _ => exact ⟨-1, rfl, by omega⟩
  | 2, _ => exact ⟨2, rfl, by omega⟩
  | 3, _ => exact ⟨9223372036854775807, rfl, by omega⟩
  | 4, _ => exact ⟨-9223372036854775808, rfl, by omega⟩

set_option maxRecDepth 100000 in
set_option maxHeartbeats 1000000 in
theorem numbers_any (w : World) : Calls Try.prog 3 #[] w fun e w' => e = .returned (.bool true) ∧ Below w.heap.size w w' := by
  have m7 := make_run 7 7 rfl (by omega)
  go_enter Try.func3, Try.ntmps3
  go_wp2_with fail
  refine (u16_at 2 2 _ [1, 2] 0 258 258 _ (by decide) rfl (by omega) (own_lit w [1, 2]).rd (by decide)).mono ?_
  rintro e w1 ⟨rfl, h⟩
  have B1 : Below w.heap.size w w1 := by rw [← h]; exact (Below.refl _ _).alloc (Nat.le_refl _) _
  clear h
  go_wp2_with fail
  refine (none64 7 7 _ (noughts 7) 0 _ (noughts_length 7) (by omega) (own_lit w1 (noughts 7)).rd (numAt_none (by rw [noughts_length]; omega))).mono ?_
  rintro e w2 ⟨rfl, h⟩
  have B2 : Below w.heap.size w w2 := by rw [← h]; exact B1.alloc B1.size _
  clear h B1 m7
  go_wp2_with fail
  refine (u64_at 8 8 _ [128, 0, 0, 0, 0, 0, 0, 1] 0 9223372036854775809 9223372036854775809 _ (by decide) rfl (by omega) (own_lit w2 [128, 0, 0, 0, 0, 0, 0, 1]).rd (by decide)).mono ?_
  rintro e w3 ⟨rfl, h⟩
  have B3 : Below w.heap.size w w3 := by rw [← h]; exact B2.alloc B2.size _
  clear h B2
  go_wp2_with fail
  refine (u8_at 1 1 _ [5] 0 5 5 _ (by decide) rfl (by omega) (own_lit w3 [5]).rd (by decide)).mono ?_
  rintro e w4 ⟨rfl, h⟩
  have B4 : Below w.heap.size w w4 := by rw [← h]; exact B3.alloc B3.size _
  clear h B3
  go_wp2_with fail
  go_loopw [78] (fun i wr => ∃ k : Nat, k ≤ 5 ∧ i = .int .i64 k ∧ Below w.heap.size w wr ∧ wr.heap[w4.heap.size]? = some (.cells #[.int .i64 1, .int .i64 (-1), .int .i64 2, .int .i64 9223372036854775807, .int .i64 (-9223372036854775808)] 3 (0, 0))) (fun i _ => 5 - (intOf i).toNat)
  case atStart => exact ⟨0, Nat.zero_le _, rfl, B4.alloc B4.size _, heap_alloc_new w4 _⟩
  case round =>
    obtain ⟨k, hk, rfl, Br, hg⟩ := hrel
    by_cases hlt : k < 5
    · obtain ⟨z, hz, hz0⟩ := places_at wr w4.heap.size k hlt hg
      have Hg : Hid (wr.heap[w4.heap.size]? = some (.cells #[.int .i64 1, .int .i64 (-1), .int .i64 2, .int .i64 9223372036854775807, .int .i64 (-9223372036854775808)] 3 (0, 0))) := hg
      clear hg
      have hlt4 : w4.heap.size < wr.heap.size := (Array.getElem?_eq_some_iff.1 Hg.out).1
      go_wp2_with fail
      refine (none16 2 2 _ [1, 2] z _ rfl (by omega) (own_lit wr [1, 2]).rd (no_num z hz0)).mono ?_
      rintro e v1 ⟨rfl, h⟩
      have C1 : Below wr.heap.size wr v1 := by rw [← h]; exact (Below.refl _ _).alloc (Nat.le_refl _) _
      clear h hz
      go_wp2_with fail
      refine (none32 2 2 _ [1, 2] z _ rfl (by omega) (own_lit v1 [1, 2]).rd (no_num4 z)).mono ?_
      rintro e v2 ⟨rfl, h⟩
      have C2 : Below wr.heap.size wr v2 := by rw [← h]; exact C1.alloc C1.size _
      clear h C1
      go_wp2_with fail
      refine (noneText 2 2 _ [1, 2] z _ rfl (by omega) (by omega) (by omega) (own_lit v2 [1, 2]).rd (no_text z hz0)).mono ?_
      rintro e v3 ⟨rfl, h⟩
      have C3 : Below wr.heap.size wr v3 := by rw [← h]; exact C2.alloc C2.size _
      clear h C2
      have Hg3 : Hid (v3.heap[w4.heap.size]? = some (.cells #[.int .i64 1, .int .i64 (-1), .int .i64 2, .int .i64 9223372036854775807, .int .i64 (-9223372036854775808)] 3 (0, 0))) := (C3.block _ hlt4).trans Hg.out
      have B3' : Below w.heap.size w v3 := Br.trans (C3.mono Br.size)
      clear Hg C3 Br hlt4
      go_wp2
      go_roundw
      case rel => exact ⟨k + 1, by omega, by go_num, B3', Hg3.out⟩
      case measure => simp [intOf]; omega
    · clear hg hk
      have m6 := make_run 65536 65536 rfl (by omega)
      have m5 := make_run 65535 65535 rfl (by omega)
      have c6 := fun u g (h : Own u g (noughts 65536)) => conv_run u (some ⟨g, 0, none⟩) 65536 (noughts 65536) h.rd
      have c5 := fun u g (h : Own u g (noughts 65535)) => conv_run u (some ⟨g, 0, none⟩) 65535 (noughts 65535) h.rd
      rw [noughts_length] at c6 c5
      have d6 := fun u : World => c6 _ _ (own_lit u (noughts 65536))
      have d5 := fun u : World => c5 _ _ (own_lit u (noughts 65535))
      clear c6 c5
      go_wp2_with fail
      refine (text_at 4 4 _ [0, 2, 5, 6] [5, 6] 0 4 _ rfl (by omega) (by omega) (by omega) (own_lit wr [0, 2, 5, 6]).rd (by decide)).mono ?_
      rintro e w5 ⟨rfl, h⟩
      have B5 : Below w.heap.size w w5 := by rw [← h]; exact Br.alloc Br.size _
      clear h Br B4
      go_wp2_with fail
      refine (noneText 4 4 _ [0, 2, 5, 6] 1 _ rfl (by omega) (by omega) (by omega) (own_lit w5 [0, 2, 5, 6]).rd (by decide)).mono ?_
      rintro e w6 ⟨rfl, h⟩
      have B6 : Below w.heap.size w w6 := by rw [← h]; exact B5.alloc B5.size _
      clear h B5
      go_wp2_with fail
      refine (noneText 4 4 _ [0, 3, 5, 6] 0 _ rfl (by omega) (by omega) (by omega) (own_lit w6 [0, 3, 5, 6]).rd (by decide)).mono ?_
      rintro e w7 ⟨rfl, h⟩
      have B7 : Below w.heap.size w w7 := by rw [← h]; exact B6.alloc B6.size _
      clear h B6
      go_wp2_with fail
      refine (addText_long none 0 0 ⟨(noughts 65536).toArray⟩ _ (by rw [str_size, noughts_length]; decide) (by rw [str_size, noughts_length]; decide)).mono ?_
      rintro e w8 ⟨rfl, h⟩
      have B8 : Below w.heap.size w w8 := by rw [← h]; exact B7.alloc B7.size _
      clear h B7 m6 d6
      go_wp2_with fail
      refine (addText_at _ 0 0 65535 none [] ⟨(noughts 65535).toArray⟩ (noughts 65535) _ rfl rfl rfl (noughts_length _) (by omega) (by omega) (Rd.nil _ _)).mono ?_
      rintro e w9 ⟨rfl, ho, hb⟩
      have B9 : Below w.heap.size w w9 := (B8.alloc B8.size _).trans (hb.mono (by have := B8.size; simp; omega))
      clear ho hb B8 m5 d5
      go_wp2_with fail
      refine (awake_any w9).mono ?_
      rintro e w10 ⟨rfl, b10⟩
      go_wp2
      go_ret
      exact ⟨rfl, B9.trans (b10.mono B9.size)⟩
end Go.Proofs.Ytpponamckndhpaa
