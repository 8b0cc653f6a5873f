/-
  Two blocks side by side change places.
-/
import Derived.Test.YtlbnilendcelkaaSwp
namespace Go.Proofs.Ytlbnilendcelkaa
open Go.RowKit
namespace I
set_option maxRecDepth 100000 in
set_option maxHeartbeats 8000000 in
theorem rotate_at {w0 w : World} {g cap N c : Nat} (P U V S : List (En Int)) (h : Srt eI 33 w0 w g cap (P ++ U ++ V ++ S)) (hN : N = (P ++ U ++ V ++ S).length) (hn : N ≤ 2000) (hU : U ≠ []) (hV : V ≠ []) (a m b : Nat) (ha : a = P.length) (hm : m = a + U.length) (hb : b = m + V.length) (f : Value) :
    Calls Try.prog 50 #[.slice (some ⟨g, 0, none⟩) N c, .int .i64 (a : Int), .int .i64 (m : Int), .int .i64 (b : Int), f] w fun r w' => r = .returned (.tuple #[]) ∧ Srt eI 33 w0 w' g cap (P ++ V ++ U ++ S) := by
  have HS0 : Hid (∃ L, L.length = N ∧ RotR m (m - a) (b - m) (P ++ V ++ U ++ S) L ∧ Srt eI 33 w0 w g cap L) := ⟨_, hN.symm, by rw [show m = P.length + U.length by omega, show P.length + U.length - a = U.length by omega, show b - (P.length + U.length) = V.length by omega]; exact RotR.start P U V S hU hV, h⟩
  have hbN : b ≤ N := by rw [hN]; simp; omega
  obtain ⟨T, hT⟩ : ∃ T, T = P ++ V ++ U ++ S := ⟨_, rfl⟩
  rw [← hT] at HS0
  have HT : Hid (T = P ++ V ++ U ++ S) := hT
  have hm1 : a ≤ m := by omega
  have hm2 : m ≤ b := by omega
  have r1 : IntKind.i64.wrap ((m : Int) - (a : Int)) = ((m - a : Nat) : Int) := by rw [IntKind.wrap_i64]; omega
  have r2 : IntKind.i64.wrap ((b : Int) - (m : Int)) = ((b - m : Nat) : Int) := by rw [IntKind.wrap_i64]; omega
  clear h hN hT ha hm hb hU hV
  generalize hi0 : m - a = i0 at *
  generalize hj0 : b - m = j0 at *
  have HI : Hid (i0 ≤ 2000 ∧ j0 ≤ 2000) := ⟨by omega, by omega⟩
  clear hi0 hj0
  go_enter Try.func50, Try.ntmps50
  go_wp2_with fail
  go_loopw [10, 11] (fun v v' u => ∃ i j : Nat, i ≤ 2000 ∧ j ≤ 2000 ∧ v = .int .i64 (i : Int) ∧ v' = .int .i64 (j : Int) ∧ Hid (∃ L, L.length = N ∧ RotR m i j T L ∧ Srt eI 33 w0 u g cap L)) (fun v v' _ => (intOf v).toNat + (intOf v').toNat)
  case atStart => exact ⟨i0, j0, HI.out.1, HI.out.2, by simp, by simp, HS0.out⟩
  case round =>
    clear r1 r2
    obtain ⟨i, j, hi, hj, rfl, rfl, hrel⟩ := hrel
    obtain ⟨L, hL, hR, hSr⟩ := hrel.out
    rcases Nat.lt_trichotomy j i with hij | hij | hij
    · obtain ⟨hR2, e1, e2⟩ := hR.gt hij
      have hpos := hR.2.1
      have c0 := swapRange_at (c := c) L hSr hL.symm hn (m - i) m j (by omega) (by omega) (by have := hR.1; omega) f
      have hki : (j : Int) < (i : Int) := by omega
      have hne : ¬ (i : Int) = (j : Int) := by omega
      have r3 : IntKind.i64.wrap ((m : Int) - (i : Int)) = ((m - i : Nat) : Int) := by rw [IntKind.wrap_i64]; omega
      have r4 : IntKind.i64.wrap ((i : Int) - (j : Int)) = ((i - j : Nat) : Int) := by rw [IntKind.wrap_i64]; omega
      have HR : Hid (∀ u, Srt eI 33 w0 u g cap (swpN L (m - i) m j) → ∃ L, L.length = N ∧ RotR m (i - j) j T L ∧ Srt eI 33 w0 u g cap L) := fun u hu => ⟨_, by rw [swpN_len]; exact hL, hR2, hu⟩
      have HL : Hid (i - j ≤ 2000 ∧ i - j + j < i + j) := ⟨by omega, by omega⟩
      clear hR hR2 hSr hrel e1 e2 hL
      generalize swpN L (m - i) m j = L' at *
      generalize m - i = d at *
      generalize hij2 : i - j = e at *
      go_wp2_with (go_at_call 53; refine c0.mono ?_; rintro _ w' ⟨rfl, hS'⟩; replace hS' := HR.out _ hS'; have hS' := hid hS'; clear c0)
      go_roundw
      case rel => exact ⟨e, j, HL.out.1, hj, by simp, rfl, hS'.out⟩
      case measure => have := HL.out.2; simp only [intOf]; omega
    · subst hij
      obtain ⟨e1, e2, e3⟩ := hR.eq
      have hpos := hR.2.1
      have c0 := swapRange_at (c := c) L hSr hL.symm hn (m - j) m j (by omega) (by omega) (by omega) f
      rw [e1] at c0
      have r3 : IntKind.i64.wrap ((m : Int) - (j : Int)) = ((m - j : Nat) : Int) := by rw [IntKind.wrap_i64]; omega
      clear hR hSr hrel e1 e2 e3 hL
      generalize m - j = d at *
      go_wp2_with (go_at_call 53; refine c0.mono ?_; rintro _ w' ⟨rfl, hS'⟩; have hS' := hid hS'; clear c0)
      go_end0
      refine ⟨rfl, ?_⟩
      have := hS'.out
      rw [HT.out] at this
      simp only [List.append_assoc] at this ⊢
      exact this
    · obtain ⟨hR2, e1, e2⟩ := hR.lt hij
      have hpos := hR.1
      have c0 := swapRange_at (c := c) L hSr hL.symm hn (m - i) (m + j - i) i (by omega) (by omega) (by omega) f
      have hki : ¬ (j : Int) < (i : Int) := by omega
      have hne : ¬ (i : Int) = (j : Int) := by omega
      have r3 : IntKind.i64.wrap ((m : Int) - (i : Int)) = ((m - i : Nat) : Int) := by rw [IntKind.wrap_i64]; omega
      have r5 : IntKind.i64.wrap ((m : Int) + (j : Int)) = (m : Int) + (j : Int) := by rw [IntKind.wrap_i64]; omega
      have r6 : IntKind.i64.wrap ((m : Int) + (j : Int) - (i : Int)) = ((m + j - i : Nat) : Int) := by rw [IntKind.wrap_i64]; omega
      have r4 : IntKind.i64.wrap ((j : Int) - (i : Int)) = ((j - i : Nat) : Int) := by rw [IntKind.wrap_i64]; omega
      have HR : Hid (∀ u, Srt eI 33 w0 u g cap (swpN L (m - i) (m + j - i) i) → ∃ L, L.length = N ∧ RotR m i (j - i) T L ∧ Srt eI 33 w0 u g cap L) := fun u hu => ⟨_, by rw [swpN_len]; exact hL, hR2, hu⟩
      have HL : Hid (j - i ≤ 2000 ∧ i + (j - i) < i + j) := ⟨by omega, by omega⟩
      clear hR hR2 hSr hrel e1 e2 hL
      generalize swpN L (m - i) (m + j - i) i = L' at *
      generalize m - i = d at *
      generalize m + j - i = d' at *
      generalize hij2 : j - i = e at *
      go_wp2_with (go_at_call 53; refine c0.mono ?_; rintro _ w' ⟨rfl, hS'⟩; replace hS' := HR.out _ hS'; have hS' := hid hS'; clear c0)
      go_roundw
      case rel => exact ⟨i, e, hi, HL.out.1, rfl, by simp, hS'.out⟩
      case measure => have := HL.out.2; simp only [intOf]; omega
end I
end Go.Proofs.Ytlbnilendcelkaa
