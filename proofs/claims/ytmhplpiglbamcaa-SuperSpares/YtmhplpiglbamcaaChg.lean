/-
  A change within four bytes: what the walks ask of lists.
-/
import Derived.Test.YtmhplpiglbamcaaSums
import Derived.Laws.OwnMore
namespace Go.Proofs.Ytmhplpiglbamcaa
open Go.RowKit

/-- The first k bytes from a place on, taken xor the bytes of a number, the lowest first. -/
def chg (xs : List UInt8) (p ch : Nat) : Nat → List UInt8
  | 0 => xs
  | k + 1 => (chg xs p ch k).set (p + k) ((chg xs p ch k).getD (p + k) 0 ^^^ UInt8.ofNat (ch / 2 ^ (8 * k)))

theorem chg_length (xs : List UInt8) (p ch k : Nat) : (chg xs p ch k).length = xs.length := by
  induction k with
  | zero => rfl
  | succ k ih => rw [chg, List.length_set, ih]
theorem chg_take (xs : List UInt8) (p ch k : Nat) : (chg xs p ch k).take p = xs.take p := by
  induction k with
  | zero => rfl
  | succ k ih => rw [chg, List.take_set_of_le (by omega), ih]
theorem chg_drop (xs : List UInt8) (p ch k : Nat) : (chg xs p ch k).drop (p + k) = xs.drop (p + k) := by
  induction k with
  | zero => rfl
  | succ k ih =>
    rw [chg, List.drop_set_of_lt (by omega), show p + (k + 1) = (p + k) + 1 by omega, ← List.drop_drop, ih, List.drop_drop]

theorem parts (xs : List UInt8) (p k : Nat) : xs = xs.take p ++ ((xs.drop p).take k ++ xs.drop (p + k)) := by
  have h : xs.drop (p + k) = (xs.drop p).drop k := by rw [List.drop_drop]
  rw [h, List.take_append_drop, List.take_append_drop]

/-- If a change of up to four bytes next to each other is not seen, nothing has changed. -/
theorem chg_seen (xs : List UInt8) (p ch k : Nat) (hk : k ≤ 4) (h : crc 0 xs = crc 0 (chg xs p ch k)) : xs = chg xs p ch k := by
  have h1 := parts xs p k
  have h2 := parts (chg xs p ch k) p k
  rw [chg_take, chg_drop] at h2
  rw [h2] at h
  rw [h2]
  generalize hm : ((chg xs p ch k).drop p).take k = zs at h ⊢
  have hz : zs.length = ((xs.drop p).take k).length := by rw [← hm]; simp [chg_length]
  have e : (xs.drop p).take k = zs := by
    apply crc_burst (xs.take p) _ _ (xs.drop (p + k)) hz.symm (by simp; omega)
    rw [← h1]
    exact h
  rw [← e]
  exact h1

theorem chg_byte (c : UInt8) (ch k : Nat) : bits .xor .u8 (c.toNat : Int) ((ch : Int) / 2 ^ (8 * k) % 256) = ((c ^^^ UInt8.ofNat (ch / 2 ^ (8 * k))).toNat : Int) := by
  have e : (ch : Int) / 2 ^ (8 * k) % 256 = (((ch / 2 ^ (8 * k)) % 256 : Nat) : Int) := by simp
  rw [e, xor_u8 _ _ (u8_lt c) (by omega), UInt8.toNat_xor, ofNat_toNat]

theorem bcs_set (xs : List UInt8) (j : Nat) (c : UInt8) : (bcs xs).set j (.int .u8 (c.toNat : Int)) = bcs (xs.set j c) := by
  simp [bcs, bc, List.map_set]

theorem owns_rd_at {w : World} {B n g cap : Nat} {ys : List UInt8} (h : w.ownsRow B 5 1 (.slice (some ⟨g, 0, none⟩) n cap) n (bcs ys)) : Rd w (some ⟨g, 0, none⟩) ys := fun _ => ⟨g, 0, rfl, fun j hj => by
  have := h.cells (g := g) rfl j _ (bcs_getElem? ys j hj)
  rw [Addr.add_lit] at this
  exact this⟩

theorem same_tell (xs zs : List UInt8) (h : crc 0 xs = crc 0 zs → xs = zs) : (((crc 0 xs : Nat) : Int) == ((crc 0 zs : Nat) : Int)) = (xs == zs) := by
  by_cases e : xs = zs
  · subst e; simp
  · have hne : crc 0 xs ≠ crc 0 zs := fun h' => e (h h')
    have h1 : (xs == zs) = false := by simpa using e
    have h2 : (((crc 0 xs : Nat) : Int) == ((crc 0 zs : Nat) : Int)) = false := by simp; omega
    rw [h1, h2]

/-- A number from 0 to n - 1 out of any number. -/
theorem pick_at (x : Int) (n : Nat) (w : World) (h0 : 0 < n) (hn : n ≤ 20000) :
    Calls Try.prog 35 #[.int .i64 x, .int .i64 n] w fun e w' => ∃ p : Nat, p < n ∧ e = .returned (.int .i64 p) ∧ w = w' := by
  have h1 : x.tmod n < n := Int.tmod_lt_of_pos x (by omega)
  have h2 : -(n : Int) < x.tmod n := Int.lt_tmod_of_pos x (by omega)
  obtain ⟨y, hy⟩ : ∃ y, x.tmod n = y := ⟨_, rfl⟩
  rw [hy] at h1 h2
  go_enter Try.func35, Try.ntmps35
  go_wp2
  · go_ret
    exact ⟨(y + n).toNat, by omega, by
      have e : ((y + n).toNat : Int) = y + n := by omega
      rw [e]
      rfl, rfl⟩
  · go_ret
    exact ⟨y.toNat, by omega, by
      have e : (y.toNat : Int) = y := by omega
      rw [e]
      rfl, rfl⟩

end Go.Proofs.Ytmhplpiglbamcaa
