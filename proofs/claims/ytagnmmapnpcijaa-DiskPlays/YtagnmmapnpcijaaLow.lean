/-
  What the laws' own helpers do: filled, mixed, has, SameInts.
-/
import Derived.Test.YtagnmmapnpcijaaStand
import Derived.Test.YtagnmmapnpcijaaLists
namespace Go.Proofs.Ytagnmmapnpcijaa
open Go.RowKit

theorem nought_fill (c : UInt8) : nought 4096 = fillK c 0 := by rw [fillK_zero]; rfl

set_option maxRecDepth 100000 in
theorem filled_at (c : UInt8) (C : Int) (w : World) (hC : C = (c.toNat : Int)) :
    Calls Try.prog 11 #[.int .u8 C] w fun e w' => ∃ g, e = .returned (.slice (some ⟨g, 0, none⟩) 4096 4096) ∧ w.heap.size ≤ g ∧ Own w' g (fill c) ∧ Below w.heap.size w w' := by
  subst hC
  have hm : ∀ u : World, (Instr.makeSlice 27 (.int .i64 4096) (.int .i64 4096)).run Try.prog u = .ok (.slice (some ⟨u.heap.size, 0, none⟩) 4096 4096) (u.alloc (.cells (bcs (fillK c 0)).toArray 5)) := by
    rw [← nought_fill c]
    exact make_run 4096 (by omega)
  have o0 := own_lit w (fillK c 0)
  have B0 := (Below.refl w.heap.size w).alloc (Nat.le_refl _) (.cells (bcs (fillK c 0)).toArray 5)
  obtain ⟨U, hU⟩ : ∃ U, U = w.alloc (.cells (bcs (fillK c 0)).toArray 5) := ⟨_, rfl⟩
  rw [← hU] at o0 B0
  have HU : Hid _ := hU
  clear hU
  go_enter Try.func11, Try.ntmps11
  go_wp2_with fail
  rw [← HU.out]
  go_loopw [4] (fun i wr => ∃ k : Nat, k ≤ 4096 ∧ i = .int .i64 k ∧ Own wr w.heap.size (fillK c k) ∧ Below w.heap.size w wr) (fun i _ => 4096 - (intOf i).toNat)
  case atStart => exact ⟨0, Nat.zero_le _, rfl, o0, B0⟩
  case round =>
    obtain ⟨k, hk, rfl, o, B⟩ := hrel
    clear o0 B0 hm
    by_cases hlt : k < 4096
    · have hlt2 : (k : Int) < 4096 := by omega
      have c0 := o.cell k (by rw [fillK_length]; exact hlt)
      have f0 := o.frozen k
      have o1 := o.store k c
      rw [fillK_set c k hlt] at o1
      have B1 := B.setCell (p := ⟨w.heap.size, k, none⟩) (Nat.le_refl _) (.int .u8 (c.toNat : Int))
      generalize ((fillK c k)[k]'(by rw [fillK_length]; exact hlt)) = q at c0
      go_wp2
      go_roundw
      case rel => exact ⟨k + 1, by omega, by go_num, o1, B1⟩
      case measure => simp [intOf]; omega
    · obtain rfl : k = 4096 := by omega
      go_wp2
      go_ret
      exact ⟨_, rfl, Nat.le_refl _, o, B⟩

theorem and_i64 (a : Nat) (ha : a < 256) : bits .and .i64 (a : Int) 1 = ((a % 2 : Nat) : Int) := by
  have h := bits_mask .i64 63 (by decide) (fun n h0 h1 => by rw [IntKind.wrap_i64]; omega) 1 (by decide) (a : Int) (by omega) (by omega)
  simpa using h
theorem bitJ (m k : Nat) (hm : m < 256) : (bits .and .i64 ((m : Int) / 2 ^ k) 1 == 1) = bit m k := by
  unfold bit
  have e : ((m : Int) / 2 ^ k) = ((m / 2 ^ k : Nat) : Int) := by push_cast; rfl
  rw [e, and_i64 _ (Nat.lt_of_le_of_lt (Nat.div_le_self _ _) hm)]
  rcases Nat.mod_two_eq_zero_or_one (m / 2 ^ k) with h | h <;> rw [h] <;> rfl

set_option maxRecDepth 100000 in
set_option maxHeartbeats 2000000 in
theorem mixed_at (a b : UInt8) (m : Nat) (A' B' M' : Int) (w : World) (hA : A' = (a.toNat : Int)) (hB : B' = (b.toNat : Int)) (hM : M' = (m : Int)) (hm : m < 256) :
    Calls Try.prog 16 #[.int .u8 A', .int .u8 B', .int .i64 M'] w fun e w' => ∃ g, e = .returned (.slice (some ⟨g, 0, none⟩) 4096 4096) ∧ w.heap.size ≤ g ∧ Own w' g (mixK a b m 4096) ∧ Below w.heap.size w w' := by
  subst hA hB hM
  have c0 := filled_at a _ w rfl
  go_enter Try.func16, Try.ntmps16
  go_wp2_with fail
  refine c0.mono ?_
  rintro e w1 ⟨g, rfl, hg, o0, B0⟩
  rw [← mixK_zero a b m] at o0
  clear c0
  go_wp2_with fail
  go_loopw [8] (fun i wr => ∃ k : Nat, k ≤ 4096 ∧ i = .int .i64 k ∧ Own wr g (mixK a b m k) ∧ Below w.heap.size w wr) (fun i _ => 4096 - (intOf i).toNat)
  case atStart => exact ⟨0, Nat.zero_le _, rfl, o0, B0⟩
  case round =>
    obtain ⟨k, hk, rfl, o, B⟩ := hrel
    clear o0 B0
    by_cases hlt : k < 4096
    · have hlt2 : (k : Int) < 4096 := by omega
      have hbj := bitJ m (k / 512) hm
      have hk8 : (k : Int) / 512 ≤ 64 := by omega
      have hk0 : 0 ≤ (k : Int) / 512 := by omega
      cases hbit : bit m (k / 512) with
      | true =>
        rw [hbit] at hbj
        have c0 := o.cell k (by rw [mixK_length]; exact hlt)
        have f0 := o.frozen k
        have o1 := o.store k b
        rw [mixK_set a b m k hlt hbit] at o1
        have B1 := B.setCell (p := ⟨g, k, none⟩) hg (.int .u8 (b.toNat : Int))
        generalize ((mixK a b m k)[k]'(by rw [mixK_length]; exact hlt)) = q at c0
        clear hbit
        go_wp2
        go_roundw
        case rel => exact ⟨k + 1, by omega, by go_num, o1, B1⟩
        case measure => simp [intOf]; omega
      | false =>
        rw [hbit] at hbj
        have hs := mixK_skip a b m k hbit
        have Hs : Hid _ := hs
        clear hbit hs
        go_wp2
        go_roundw
        case rel => exact ⟨k + 1, by omega, by go_num, by rw [Hs.out]; exact o, B⟩
        case measure => simp [intOf]; omega
    · obtain rfl : k = 4096 := by omega
      go_wp2
      go_ret
      exact ⟨_, rfl, hg, o, B⟩

/-- has: is block n of a disk so? -/
theorem lawHas_at {g : Nat} {w : World} {D : DS} {F : Nat → Prop} (hd : IsDisk w g D F) (nn : Nat) (N : Int) (hN : N = (nn : Int)) (hn : nn < D.nb) (hg : D.gone = false) (hlim : D.uf.length ≤ 1000000) (a : Option Addr) (n cap : Nat) (b : List UInt8) (hb : b.length = n) (hr : Rd w a b) :
    Calls Try.prog 13 #[.pointer (some ⟨g, 0, none⟩), .int .i64 N, .slice a n cap] w fun e w' => e = .returned (.bool (D.stand nn == b)) ∧ Below w.heap.size w w' := by
  subst hN
  have c := read_at hd nn hn hg hlim
  have Hl : Hid _ := stand_length hd.ok nn hn
  have Hb : Hid _ := hb
  clear hb
  generalize D.stand nn = ST at c Hl ⊢
  go_enter Try.func13, Try.ntmps13
  go_wp2_with fail
  refine c.mono ?_
  rintro e w1 ⟨gr, cr, rfl, hgr, r1, b1⟩
  clear c
  go_wp2_with fail
  refine (same_at _ _ 4096 n _ a ST b w1 Hl.out Hb.out r1.rd (hr.below b1 (Nat.le_refl _))).mono ?_
  rintro e w' ⟨rfl, rfl⟩
  go_wp2
  go_ret
  exact ⟨by simp, b1⟩
end Go.Proofs.Ytagnmmapnpcijaa
