/-
  Made: so many bytes, out of a number.
-/
import Derived.Test.YtghcmlkgpedkkaaLow
namespace Go.Proofs.Ytghcmlkgpedkkaa
open Go.RowKit

def nx (x : Int) : Int := IntKind.u64.wrap (IntKind.u64.wrap (x * 2862933555777941757) + 3037000493)
/-- the number behind k bytes -/
def seedAt (s : Int) : Nat → Int
  | 0 => nx (IntKind.u64.wrap s)
  | k + 1 => if k % 8 = 0 then nx (seedAt s k) else seedAt s k
def byteAt (s : Int) (k : Nat) : UInt8 := UInt8.ofNat (seedAt s (k + 1) / 1099511627776 % 256).toNat
def madeK (s : Int) (n : Nat) : Nat → List UInt8
  | 0 => nought n
  | k + 1 => (madeK s n k).set k (byteAt s k)
def madeL (s : Int) (n : Nat) : List UInt8 := madeK s n n
theorem madeK_length (s : Int) (n : Nat) : ∀ k, (madeK s n k).length = n
  | 0 => nought_length n
  | k + 1 => by rw [madeK, List.length_set, madeK_length s n k]
theorem byteAt_eq (s : Int) (k : Nat) : ((byteAt s k).toNat : Int) = seedAt s (k + 1) / 1099511627776 % 256 := by
  unfold byteAt
  have h1 : 0 ≤ seedAt s (k + 1) / 1099511627776 % 256 := Int.emod_nonneg _ (by decide)
  have h2 : seedAt s (k + 1) / 1099511627776 % 256 < 256 := Int.emod_lt_of_pos _ (by decide)
  rw [UInt8.toNat_ofNat']
  omega
theorem seedAt_step (s : Int) (k : Nat) (h : k % 8 = 0) : seedAt s (k + 1) = nx (seedAt s k) := by rw [seedAt, if_pos h]
theorem seedAt_same (s : Int) (k : Nat) (h : ¬ k % 8 = 0) : seedAt s (k + 1) = seedAt s k := by rw [seedAt, if_neg h]
theorem nx_range (x : Int) : 0 ≤ nx x ∧ nx x ≤ 18446744073709551615 := by unfold nx; rw [IntKind.wrap_u64]; omega
theorem seedAt_range (s : Int) : ∀ k, 0 ≤ seedAt s k ∧ seedAt s k ≤ 18446744073709551615
  | 0 => nx_range _
  | k + 1 => by rw [seedAt]; split; exact nx_range _; exact seedAt_range s k

set_option maxRecDepth 100000 in
set_option maxHeartbeats 2000000 in
theorem made_at (s : Int) (n : Nat) (w : World) (hn : n ≤ 1000000) :
    Calls Try.prog 36 #[.int .i64 s, .int .i64 (n : Int)] w fun e w' => e = .returned (.slice (some ⟨w.heap.size, 0, none⟩) n n) ∧ Own w' w.heap.size (madeL s n) ∧ Below w.heap.size w w' := by
  have hm : ∀ u : World, (Instr.makeSlice 31 (.int .i64 (n : Int)) (.int .i64 (n : Int))).run Try.prog u = .ok (.slice (some ⟨u.heap.size, 0, none⟩) n n) (u.alloc (.cells (bcs (madeK s n 0)).toArray 5)) := make_run n (by omega)
  have o0 := own_lit w (madeK s n 0)
  have B0 := (Below.refl w.heap.size w).alloc (Nat.le_refl _) (.cells (bcs (madeK s n 0)).toArray 5)
  obtain ⟨U, hU⟩ : ∃ U, U = w.alloc (.cells (bcs (madeK s n 0)).toArray 5) := ⟨_, rfl⟩
  rw [← hU] at o0 B0
  have HU : Hid _ := hU
  clear hU
  go_enter Try.func36, Try.ntmps36
  go_wp2_with fail
  rw [← HU.out]
  go_loopw [6, 7] (fun x i wr => ∃ k : Nat, k ≤ n ∧ x = .int .u64 (seedAt s k) ∧ i = .int .i64 k ∧ Own wr w.heap.size (madeK s n k) ∧ Below w.heap.size w wr) (fun _ i _ => n - (intOf i).toNat)
  case atStart => exact ⟨0, Nat.zero_le _, rfl, rfl, o0, B0⟩
  case round =>
    obtain ⟨k, hk, rfl, rfl, o, B⟩ := hrel
    clear o0 B0 hm HU
    by_cases hlt : k < n
    · have hlt2 : (k : Int) < (n : Int) := by omega
      have c0 := o.cell k (by rw [madeK_length]; exact hlt)
      have f0 := o.frozen k
      have o1 := o.store k (byteAt s k)
      have B1 := B.setCell (p := ⟨w.heap.size, k, none⟩) (Nat.le_refl _) (.int .u8 ((byteAt s k).toNat : Int))
      generalize ((madeK s n k)[k]'(by rw [madeK_length]; exact hlt)) = q at c0
      have o1' : Own _ w.heap.size (madeK s n (k + 1)) := o1
      clear o1
      rw [byteAt_eq] at o1' B1
      have r0 := seedAt_range s k
      by_cases h8 : k % 8 = 0
      · have e8 : ((k : Int) % 8 == 0) = true := by simp; omega
        rw [seedAt_step s k h8] at o1' B1
        unfold nx at o1' B1
        have Hs : Hid _ := seedAt_step s k h8
        clear h8
        go_wp2
        go_roundw
        case rel => exact ⟨k + 1, by omega, by rw [Hs.out]; rfl, by go_num, o1', B1⟩
        case measure => simp [intOf]; omega
      · have e8 : ((k : Int) % 8 == 0) = false := by simp; omega
        rw [seedAt_same s k h8] at o1' B1
        have Hs : Hid _ := seedAt_same s k h8
        clear h8
        go_wp2
        go_roundw
        case rel => exact ⟨k + 1, by omega, by rw [Hs.out], by go_num, o1', B1⟩
        case measure => simp [intOf]; omega
    · have hkn : k = n := by omega
      subst k
      go_wp2
      go_ret
      exact ⟨rfl, o, B⟩
end Go.Proofs.Ytghcmlkgpedkkaa
