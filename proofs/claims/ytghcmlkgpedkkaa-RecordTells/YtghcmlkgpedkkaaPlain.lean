/-
  Plain facts on bytes: a number in bytes, the highest first, and back; nothing of the program is named here.
-/
import Derived.WalkKit
import Derived.Test.YtghcmlkgpedkkaaBytes
namespace Go.Proofs.Ytghcmlkgpedkkaa
open Go.RowKit

/-- The number that bytes say, the highest first. -/
def beNat (l : List UInt8) : Nat := l.foldl (fun v c => v * 256 + c.toNat) 0

/-- The lowest n bytes of v, the highest first. -/
def toBE : Nat → Nat → List UInt8
  | 0, _ => []
  | n + 1, v => toBE n (v / 256) ++ [UInt8.ofNat v]

theorem beNat_nil : beNat [] = 0 := rfl
theorem beNat_snoc (l : List UInt8) (c : UInt8) : beNat (l ++ [c]) = beNat l * 256 + c.toNat := by
  simp [beNat, List.foldl_append]

theorem beNat_lt_aux : ∀ (n : Nat) (l : List UInt8), l.length = n → beNat l < 256 ^ n
  | 0, l, h => by
    obtain rfl : l = [] := List.eq_nil_of_length_eq_zero h
    simp [beNat]
  | n + 1, l, h => by
    have hne : l ≠ [] := by intro e; simp [e] at h
    obtain ⟨l', c, rfl⟩ : ∃ l' c, l = l' ++ [c] := ⟨l.dropLast, l.getLast hne, (List.dropLast_concat_getLast hne).symm⟩
    have hl : l'.length = n := by simpa using h
    have ih := beNat_lt_aux n l' hl
    have hc := u8_lt c
    rw [beNat_snoc, Nat.pow_succ]
    omega

theorem beNat_lt (l : List UInt8) : beNat l < 256 ^ l.length := beNat_lt_aux _ l rfl

theorem beNat_take_lt (l : List UInt8) (j : Nat) (hj : j ≤ 8) : beNat (l.take j) < 18446744073709551616 := by
  have h := beNat_lt (l.take j)
  have h2 : 256 ^ (l.take j).length ≤ 256 ^ 8 := Nat.pow_le_pow_right (by omega) (by have := List.length_take_le j l; omega)
  have h3 : 256 ^ 8 = 18446744073709551616 := by decide
  omega

theorem beNat_take_lt7 (l : List UInt8) (j : Nat) (hj : j ≤ 7) : beNat (l.take j) < 72057594037927936 := by
  have h := beNat_lt (l.take j)
  have h2 : 256 ^ (l.take j).length ≤ 256 ^ 7 := Nat.pow_le_pow_right (by omega) (by have := List.length_take_le j l; omega)
  have h3 : 256 ^ 7 = 72057594037927936 := by decide
  omega

theorem toBE_length : ∀ (n v : Nat), (toBE n v).length = n
  | 0, _ => rfl
  | n + 1, v => by simp [toBE, toBE_length n]

theorem beNat_toBE : ∀ (n v : Nat), beNat (toBE n v) = v % 256 ^ n
  | 0, v => by simp [toBE, beNat, Nat.mod_one]
  | n + 1, v => by
    rw [toBE, beNat_snoc, beNat_toBE n, ofNat_toNat, Nat.pow_succ, Nat.mul_comm (256 ^ n) 256, Nat.mod_mul]
    omega

theorem toBE_cons : ∀ (n v : Nat), toBE (n + 1) v = UInt8.ofNat (v / 256 ^ n) :: toBE n v
  | 0, v => by simp [toBE]
  | n + 1, v => by
    rw [toBE, toBE_cons n]
    have e : v / 256 / 256 ^ n = v / 256 ^ (n + 1) := by rw [Nat.div_div_eq_div_mul, Nat.pow_succ, Nat.mul_comm]
    rw [e]
    rfl

theorem toBE_beNat_aux : ∀ (n : Nat) (l : List UInt8), l.length = n → toBE n (beNat l) = l
  | 0, l, h => by
    obtain rfl : l = [] := List.eq_nil_of_length_eq_zero h
    rfl
  | n + 1, l, h => by
    have hne : l ≠ [] := by intro e; simp [e] at h
    obtain ⟨l', c, rfl⟩ : ∃ l' c, l = l' ++ [c] := ⟨l.dropLast, l.getLast hne, (List.dropLast_concat_getLast hne).symm⟩
    have hl : l'.length = n := by simpa using h
    have hc := u8_lt c
    rw [beNat_snoc, toBE, show (beNat l' * 256 + c.toNat) / 256 = beNat l' by omega, toBE_beNat_aux n l' hl]
    congr 1
    congr 1
    apply UInt8.toNat_inj.1
    rw [ofNat_toNat]
    omega

theorem toBE_beNat (l : List UInt8) : toBE l.length (beNat l) = l := toBE_beNat_aux _ l rfl

theorem toBE_mod (n v : Nat) : toBE n (v % 256 ^ n) = toBE n v := by
  have h := toBE_beNat (toBE n v)
  rw [toBE_length, beNat_toBE] at h
  exact h

/-- The window of j bytes from k on, one byte longer. -/
theorem window_succ (xs : List UInt8) (k j : Nat) (h : k + j < xs.length) : (xs.drop k).take (j + 1) = (xs.drop k).take j ++ [xs[k + j]] := by
  rw [List.take_succ_eq_append_getElem (by simp; omega)]
  simp

theorem be_window_succ (xs : List UInt8) (k j : Nat) (h : k + j < xs.length) : beNat ((xs.drop k).take (j + 1)) = beNat ((xs.drop k).take j) * 256 + xs[k + j].toNat := by
  rw [window_succ xs k j h, beNat_snoc]

/-- One more byte, as Go puts it: a shift by eight and an or. -/
theorem or_step (a c : Nat) (ha : a < 72057594037927936) (hc : c < 256) : bits .or .u64 (IntKind.u64.wrap ((a : Int) * 256)) (IntKind.u64.wrap (c : Int)) = ((a * 256 + c : Nat) : Int) := by
  have e1 : IntKind.u64.wrap ((a : Int) * 256) = (a : Int) * 256 := by rw [IntKind.wrap_u64]; omega
  have e2 : IntKind.u64.wrap (c : Int) = (c : Int) := by rw [IntKind.wrap_u64]; omega
  rw [e1, e2, bits_join .u64 64 (by decide) (fun n h0 h1 => by rw [IntKind.wrap_u64]; omega) 8 ((a : Int) * 256) (c : Int) (by omega) (by omega) (by omega) (by omega) (by omega) (by omega)]
  omega

/-- What put has laid behind j rounds: the last j bytes of the window. -/
def putAt (ys : List UInt8) (off n j v : Nat) : List UInt8 := ys.take (off + n - j) ++ (toBE j v ++ ys.drop (off + n))

theorem putAt_zero (ys : List UInt8) (off n v : Nat) : putAt ys off n 0 v = ys := by simp [putAt, toBE]
theorem putAt_length (ys : List UInt8) (off n j v : Nat) (h : off + n ≤ ys.length) (hj : j ≤ n) : (putAt ys off n j v).length = ys.length := by
  simp [putAt, toBE_length]; omega
theorem putAt_succ (ys : List UInt8) (off n j v : Nat) (h : off + n ≤ ys.length) (hj : j < n) :
    (putAt ys off n j v).set (off + (n - 1 - j)) (UInt8.ofNat (v / 256 ^ j)) = putAt ys off n (j + 1) v := by
  unfold putAt
  rw [toBE_cons, show off + n - j = (off + (n - 1 - j)) + 1 by omega, show off + n - (j + 1) = off + (n - 1 - j) by omega]
  rw [List.take_succ_eq_append_getElem (by omega), List.append_assoc]
  rw [List.set_append_right _ _ (by simp; omega)]
  simp [List.length_take]
  rw [show min (off + (n - 1 - j)) ys.length = off + (n - 1 - j) by omega]
  simp

/-- A byte of a shifted number. -/
theorem shr_byte (v j : Nat) : IntKind.u8.wrap ((v : Int) / 2 ^ (8 * j)) = ((UInt8.ofNat (v / 256 ^ j)).toNat : Int) := by
  rw [IntKind.wrap_u8, ofNat_toNat]
  have e : ((2 : Int) ^ (8 * j)) = ((256 ^ j : Nat) : Int) := by
    rw [Int.pow_mul]; simp
  rw [e]
  omega



end Go.Proofs.Ytghcmlkgpedkkaa
