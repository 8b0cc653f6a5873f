import Derived.Test.YtpponamckndhpaaWalks
import Derived.WalkKit
import Derived.WalkSpells
import Derived.WalkLawsBesides
import Derived.Laws.BytesArg
namespace Go.Proofs.Ytpponamckndhpaa
open Go.RowKit

/-- string(bytes). -/
theorem conv_run (u : World) (a : Option Addr) (cap : Nat) (xs : List UInt8) (hr : Rd u a xs) : (convert 25 9 (.slice a xs.length cap)).run Try.prog u = .ok (.string ⟨xs.toArray⟩) u := by
  cases a with
  | none =>
    by_cases h0 : 0 < xs.length
    · obtain ⟨b, o, h, _⟩ := hr h0
      simp at h
    · obtain rfl : xs = [] := List.eq_nil_of_length_eq_zero (by omega)
      exact run_convert_bytes_nil u 25 5 Try.underlying25 Try.underlying5 0 cap 9 Try.underlying9
  | some a =>
    exact run_convert_bytes_back u 25 9 5 a cap xs Try.underlying25 Try.underlying5 Try.underlying9 (fun j hj => by
      obtain ⟨b, o, h, hc⟩ := hr (by omega)
      obtain rfl := Option.some.inj h
      rw [Addr.add_lit]
      exact hc j hj)

theorem same_any (a b : Option Addr) (ca cb : Nat) (xs ys : List UInt8) (w : World) (ha : Rd w a xs) (hb : Rd w b ys) :
    Calls Try.prog 16 #[.slice a xs.length ca, .slice b ys.length cb] w fun e w' => e = .returned (.bool (xs == ys)) ∧ w = w' := by
  have h1 := conv_run w a ca xs ha
  have h2 := conv_run w b cb ys hb
  go_enter Try.func16, Try.ntmps16
  go_wp2
  go_ret
  exact ⟨rfl, rfl⟩

/-- The text whose length stands at a place, and the place behind it. -/
def textAt (xs : List UInt8) (i : Int) : Option (List UInt8 × Nat) :=
  match numAt xs i 2 with
  | some n => if i.toNat + 2 + n ≤ xs.length then some ((xs.drop (i.toNat + 2)).take n, i.toNat + 2 + n) else none
  | none => none

theorem text_none (a : Option Addr) (cap : Nat) (xs : List UInt8) (i : Int) (w : World) (hn : xs.length ≤ 9223372036854775807) (hr : Rd w a xs) (h : numAt xs i 2 = none) :
    Calls Try.prog 11 #[.slice a xs.length cap, .int .i64 i] w fun e w' => e = .returned (.tuple #[.string ⟨#[]⟩, .int .i64 0, .bool false]) ∧ w = w' := by
  go_enter Try.func11, Try.ntmps11
  go_wp2_with (go_at_call 25; refine (number_any a cap xs i 2 _ (by omega) (by omega) hn hr).mono ?_; rintro e w' ⟨rfl, rfl⟩; rw [h])
  go_ret3
  exact ⟨rfl, rfl⟩

theorem text_cut (a : Option Addr) (cap : Nat) (xs : List UInt8) (k n : Nat) (w : World) (hn : xs.length ≤ 281474976710656) (hr : Rd w a xs) (hk : k + 2 ≤ xs.length) (h : numAt xs k 2 = some n) (hl : n < 65536) (hc : xs.length < k + 2 + n) :
    Calls Try.prog 11 #[.slice a xs.length cap, .int .i64 k] w fun e w' => e = .returned (.tuple #[.string ⟨#[]⟩, .int .i64 0, .bool false]) ∧ w = w' := by
  go_enter Try.func11, Try.ntmps11
  go_wp2_with (go_at_call 25; refine (number_any a cap xs k 2 _ (by omega) (by omega) (by omega) hr).mono ?_; rintro e w' ⟨rfl, rfl⟩; rw [h])
  go_ret3
  exact ⟨rfl, rfl⟩

theorem text_whole (b o cap : Nat) (xs : List UInt8) (k n : Nat) (w : World) (hn : xs.length ≤ 281474976710656) (hcap : xs.length ≤ cap) (hm : cap ≤ 9223372036854775807)
    (hc : ∀ j (h : j < xs.length), w.cell? ⟨b, o + j, none⟩ = some (.int .u8 (xs[j].toNat : Int))) (h : numAt xs k 2 = some n) (hl : k + 2 + n ≤ xs.length) :
    Calls Try.prog 11 #[.slice (some ⟨b, o, none⟩) xs.length cap, .int .i64 k] w fun e w' => e = .returned (.tuple #[.string ⟨((xs.drop (k + 2)).take n).toArray⟩, .int .i64 ((k + 2 + n : Nat) : Int), .bool true]) ∧ w = w' := by
  have hr : Rd w (some ⟨b, o, none⟩) xs := fun _ => ⟨b, o, rfl, hc⟩
  have hn2 : n < 65536 := by have := numAt_lt xs k 2; rw [h] at this; simpa using this
  have hlen : ((xs.drop (k + 2)).take n).length = n := by simp; omega
  have hcv := fun a' (ha : 0 < n → a' = some ⟨b, o + (k + 2), none⟩) => conv_run w a' (cap - (k + 2)) ((xs.drop (k + 2)).take n) (fun hp => ⟨b, o + (k + 2), ha (by omega), fun j hj => by
    have hj' : j < n := by omega
    have e : ((xs.drop (k + 2)).take n)[j] = xs[k + 2 + j]'(by omega) := by simp
    rw [e, Nat.add_assoc o (k + 2) j]
    exact hc (k + 2 + j) (by omega)⟩)
  rw [hlen] at hcv
  clear hlen
  by_cases h0 : n = 0
  · subst h0
    clear hcv
    have hcv' : ∀ a' c, (convert 25 9 (.slice a' 0 c)).run Try.prog w = .ok (.string ⟨#[]⟩) w := fun a' c => conv_run w a' c [] (Rd.nil _ _)
    go_enter Try.func11, Try.ntmps11
    go_wp2_with (go_at_call 25; refine (number_any (some ⟨b, o, none⟩) cap xs k 2 _ (by omega) (by omega) (by omega) hr).mono ?_; rintro e w' ⟨rfl, rfl⟩; rw [h])
    all_goals (go_ret3; exact ⟨rfl, rfl⟩)
  · have hcv' := hcv (some ⟨b, o + (k + 2), none⟩) (fun _ => rfl)
    have hne : ¬ cap = k + 2 := by omega
    have e2 : k + 2 + n - (k + 2) = n := by omega
    clear hcv
    go_enter Try.func11, Try.ntmps11
    go_wp2_with (go_at_call 25; refine (number_any (some ⟨b, o, none⟩) cap xs k 2 _ (by omega) (by omega) (by omega) hr).mono ?_; rintro e w' ⟨rfl, rfl⟩; rw [h])
    go_ret3
    exact ⟨rfl, rfl⟩

theorem text_any (a : Option Addr) (cap : Nat) (xs : List UInt8) (i : Int) (w : World) (hn : xs.length ≤ 281474976710656) (hcap : xs.length ≤ cap) (hm : cap ≤ 9223372036854775807) (hr : Rd w a xs) :
    Calls Try.prog 11 #[.slice a xs.length cap, .int .i64 i] w fun e w' => e = .returned (.tuple #[.string ⟨((textAt xs i).getD ([], 0)).1.toArray⟩, .int .i64 (((textAt xs i).getD ([], 0)).2 : Nat), .bool (textAt xs i).isSome]) ∧ w = w' := by
  unfold textAt
  cases h : numAt xs i 2 with
  | none => exact text_none a cap xs i w (by omega) hr h
  | some n =>
    have hi : 0 ≤ i ∧ i + 2 ≤ xs.length := by
      apply Decidable.byContradiction
      intro hc
      rw [numAt_none (by simpa using hc)] at h
      simp at h
    obtain ⟨k, rfl⟩ := Int.eq_ofNat_of_zero_le hi.1
    have hk : k + 2 ≤ xs.length := by omega
    have hn2 : n < 65536 := by have := numAt_lt xs k 2; rw [h] at this; simpa using this
    simp only [Int.toNat_natCast]
    by_cases hl : k + 2 + n ≤ xs.length
    · rw [if_pos hl]
      obtain ⟨b, o, rfl, hc⟩ := hr (by omega)
      exact text_whole b o cap xs k n w hn hcap hm hc h hl
    · rw [if_neg hl]
      exact text_cut a cap xs k n w hn hr hk h hn2 (by omega)

/-! ### the fixed answers -/
theorem own_lit (w : World) (xs : List UInt8) : Own (w.alloc (.cells (bcs xs).toArray 5)) w.heap.size xs := heap_alloc_new w _

theorem num_ex : numAt [128, 0, 0, 1] 0 4 = some 2147483649 := by decide
theorem be2 : toBE 2 2 = [0, 2] := by decide
theorem be258 : toBE 4 258 = [0, 0, 1, 2] := by decide

set_option maxHeartbeats 400000 in
theorem awake_any (w : World) : Calls Try.prog 13 #[] w fun e w' => e = .returned (.bool true) ∧ Below w.heap.size w w' := by
  have c1 := u32_any (some ⟨w.heap.size, 0, none⟩) 4 [128, 0, 0, 1] 0 (w.alloc (.cells #[.int .u8 128, .int .u8 0, .int .u8 0, .int .u8 1] 5)) (by decide) (own_lit w [128, 0, 0, 1]).rd
  rw [num_ex] at c1
  go_enter Try.func13, Try.ntmps13
  go_wp2_with (go_at_call 10; refine c1.mono ?_; rintro e w' ⟨rfl, rfl⟩)
  refine (addText_any none 0 [] ⟨#[5, 6]⟩ _ (by decide) (by decide) (Rd.nil _ _)).mono ?_
  rintro e w1 ⟨rfl, ho1, hb1⟩
  rw [World.size_alloc] at ho1 hb1
  have h1 : Own w1 (w.heap.size + 1) [0, 2, 5, 6] := ho1
  have hB1 : Below w.heap.size w w1 := ((Below.refl _ _).alloc (Nat.le_refl _) _).trans (hb1.mono (by omega))
  have hs1 := h1.lt
  clear ho1 hb1 c1
  go_wp2_with fail
  refine (same_any (some ⟨w.heap.size + 1, 0, none⟩) (some ⟨w1.heap.size, 0, none⟩) 4 4 [0, 2, 5, 6] [0, 2, 5, 6] _ (h1.below ((Below.refl _ _).alloc (Nat.le_refl _) _) hs1).rd (own_lit w1 [0, 2, 5, 6]).rd).mono ?_
  rintro e w2 ⟨rfl, hw2⟩
  have hB2 : Below w.heap.size w w2 := by rw [← hw2]; exact hB1.alloc (by omega) _
  clear hw2 h1 hB1 hs1
  go_wp2_with fail
  refine (add32_any (some ⟨w2.heap.size, 0, none⟩) 1 [9] 258 _ (by decide) (by decide) (own_lit w2 [9]).rd).mono ?_
  rintro e w3 ⟨rfl, ho3, hb3⟩
  rw [World.size_alloc] at ho3 hb3
  have h3 : Own w3 (w2.heap.size + 1) [9, 0, 0, 1, 2] := ho3
  have hB3 : Below w.heap.size w w3 := (hB2.alloc hB2.size _).trans (hb3.mono (by have := hB2.size; omega))
  have hs3 := h3.lt
  clear ho3 hb3 hB2
  go_wp2_with fail
  refine (same_any (some ⟨w2.heap.size + 1, 0, none⟩) (some ⟨w3.heap.size, 0, none⟩) 5 5 [9, 0, 0, 1, 2] [9, 0, 0, 1, 2] _ (h3.below ((Below.refl _ _).alloc (Nat.le_refl _) _) hs3).rd (own_lit w3 [9, 0, 0, 1, 2]).rd).mono ?_
  rintro e w4 ⟨rfl, hw4⟩
  have hB4 : Below w.heap.size w w4 := by rw [← hw4]; exact hB3.alloc hB3.size _
  clear hw4 h3 hB3 hs3
  go_wp2
  go_ret
  exact ⟨rfl, hB4⟩
end Go.Proofs.Ytpponamckndhpaa
