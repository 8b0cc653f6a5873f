/-
  A change within four bytes: what the walk of SumsBursts asks of lists, and that walk.
-/
import Derived.Test.YtodicpplbfmcgaaSums
import Derived.Laws.OwnMore
namespace Go.Proofs.Ytodicpplbfmcgaa
open Go.RowKit

/-- The first k bytes from a place on, taken xor the bytes of a number, the lowest first. -/
def chg (xs : List UInt8) (p ch : Nat) : Nat → List UInt8
  | 0 => xs
  | k + 1 => (chg xs p ch k).set (p + k) ((chg xs p ch k).getD (p + k) 0 ^^^ UInt8.ofNat (ch / 2 ^ (8 * k)))

theorem chg_length (xs : List UInt8) (p ch k : Nat) : (chg xs p ch k).length = xs.length := by
  induction k with
  | zero => rfl
  | succ k ih => rw [chg, List.length_set, ih]
theorem chg_take (xs : List UInt8) (p ch k : Nat) : (chg xs p ch k).take p = xs.take p := by
  induction k with
  | zero => rfl
  | succ k ih => rw [chg, List.take_set_of_le (by omega), ih]
theorem chg_drop (xs : List UInt8) (p ch k : Nat) : (chg xs p ch k).drop (p + k) = xs.drop (p + k) := by
  induction k with
  | zero => rfl
  | succ k ih =>
    rw [chg, List.drop_set_of_lt (by omega), show p + (k + 1) = (p + k) + 1 by omega, ← List.drop_drop, ih, List.drop_drop]

theorem parts (xs : List UInt8) (p k : Nat) : xs = xs.take p ++ ((xs.drop p).take k ++ xs.drop (p + k)) := by
  have h : xs.drop (p + k) = (xs.drop p).drop k := by rw [List.drop_drop]
  rw [h, List.take_append_drop, List.take_append_drop]

/-- If a change of up to four bytes next to each other is not seen, nothing has changed. -/
theorem chg_seen (xs : List UInt8) (p ch k : Nat) (hk : k ≤ 4) (h : crc 0 xs = crc 0 (chg xs p ch k)) : xs = chg xs p ch k := by
  have h1 := parts xs p k
  have h2 := parts (chg xs p ch k) p k
  rw [chg_take, chg_drop] at h2
  rw [h2] at h
  rw [h2]
  generalize hm : ((chg xs p ch k).drop p).take k = zs at h ⊢
  have hz : zs.length = ((xs.drop p).take k).length := by rw [← hm]; simp [chg_length]
  have e : (xs.drop p).take k = zs := by
    apply crc_burst (xs.take p) _ _ (xs.drop (p + k)) hz.symm (by simp; omega)
    rw [← h1]
    exact h
  rw [← e]
  exact h1

theorem chg_byte (c : UInt8) (ch k : Nat) : bits .xor .u8 (c.toNat : Int) ((ch : Int) / 2 ^ (8 * k) % 256) = ((c ^^^ UInt8.ofNat (ch / 2 ^ (8 * k))).toNat : Int) := by
  have e : (ch : Int) / 2 ^ (8 * k) % 256 = (((ch / 2 ^ (8 * k)) % 256 : Nat) : Int) := by simp
  rw [e, xor_u8 _ _ (u8_lt c) (by omega), UInt8.toNat_xor, ofNat_toNat]

theorem bcs_set (xs : List UInt8) (j : Nat) (c : UInt8) : (bcs xs).set j (.int .u8 (c.toNat : Int)) = bcs (xs.set j c) := by
  simp [bcs, bc, List.map_set]

theorem owns_rd_at {w : World} {B n g cap : Nat} {ys : List UInt8} (h : w.ownsRow B 5 1 (.slice (some ⟨g, 0, none⟩) n cap) n (bcs ys)) : Rd w (some ⟨g, 0, none⟩) ys := fun _ => ⟨g, 0, rfl, fun j hj => by
  have := h.cells (g := g) rfl j _ (bcs_getElem? ys j hj)
  rw [Addr.add_lit] at this
  exact this⟩

theorem same_tell (xs zs : List UInt8) (h : crc 0 xs = crc 0 zs → xs = zs) : (((crc 0 xs : Nat) : Int) == ((crc 0 zs : Nat) : Int)) = (xs == zs) := by
  by_cases e : xs = zs
  · subst e; simp
  · have hne : crc 0 xs ≠ crc 0 zs := fun h' => e (h h')
    have h1 : (xs == zs) = false := by simpa using e
    have h2 : (((crc 0 xs : Nat) : Int) == ((crc 0 zs : Nat) : Int)) = false := by simp; omega
    rw [h1, h2]

/-- A number from 0 to n - 1 out of any number. -/
theorem pick_at (x : Int) (n : Nat) (w : World) (h0 : 0 < n) (hn : n ≤ 20000) :
    Calls Try.prog 14 #[.int .i64 x, .int .i64 n] w fun e w' => ∃ p : Nat, p < n ∧ e = .returned (.int .i64 p) ∧ w = w' := by
  have h1 : x.tmod n < n := Int.tmod_lt_of_pos x (by omega)
  have h2 : -(n : Int) < x.tmod n := Int.lt_tmod_of_pos x (by omega)
  obtain ⟨y, hy⟩ : ∃ y, x.tmod n = y := ⟨_, rfl⟩
  rw [hy] at h1 h2
  go_enter Try.func14, Try.ntmps14
  go_wp2
  · go_ret
    exact ⟨(y + n).toNat, by omega, by
      have e : ((y + n).toNat : Int) = y + n := by omega
      rw [e]
      rfl, rfl⟩
  · go_ret
    exact ⟨y.toNat, by omega, by
      have e : (y.toNat : Int) = y := by omega
      rw [e]
      rfl, rfl⟩

theorem bursts_long (a : Option Addr) (cap n : Nat) (x y : Int) (w : World) (hn : n ≤ 9223372036854775807) (h : 20000 < n ∨ n = 0) :
    Calls Try.prog 5 #[.slice a n cap, .int .i64 x, .int .u32 y] w fun e w' => e = .returned (.bool true) ∧ Below w.heap.size w w' := by
  rcases h with h | rfl
  all_goals go_enter Try.func5, Try.ntmps5
  all_goals go_wp2_with fail
  all_goals refine (awake_any w).mono ?_
  all_goals rintro e w1 ⟨rfl, hb⟩
  all_goals go_wp2
  all_goals go_ret
  all_goals exact ⟨rfl, hb⟩

theorem bursts_any (a : Option Addr) (cap n : Nat) (xs : List UInt8) (x : Int) (ch : Nat) (w : World) (hl : xs.length = n) (h0 : 0 < n) (hn : n ≤ 20000) (hr : Rd w a xs) (hnil : a = none → cap = 0) :
    Calls Try.prog 5 #[.slice a n cap, .int .i64 x, .int .u32 ch] w fun e w' => e = .returned (.bool true) ∧ Below w.heap.size w w' := by
  have Hl : Hid _ := hl
  clear hl
  have hne : ((n : Int) == 0) = false := by simp; omega
  have hle : ¬ (20000 < (n : Int)) := by omega
  go_enter Try.func5, Try.ntmps5
  go_wp2_with fail
  refine (pick_at x n w h0 hn).mono ?_
  rintro e w1 ⟨p, hp, rfl, rfl⟩
  go_wp2_with fail
  refine (copyBytes_at cap n a xs w Hl.out (by omega) hr hnil).mono ?_
  rintro e w1 ⟨v, rfl, ho, hb⟩
  obtain ⟨a1, cap1, rfl, _, hc1, hm1, _, hg⟩ := owns_rd ho
  obtain ⟨g, rfl, hgB, hgl⟩ := hg h0
  clear hnil
  unfold maxLen at hm1
  go_wp2_with fail
  go_loopw [8] (fun i wr => ∃ k : Nat, k ≤ 4 ∧ p + k ≤ n ∧ i = .int .i64 k ∧ wr.ownsRow w.heap.size 5 1 (.slice (some ⟨g, 0, none⟩) n cap1) n (bcs (chg xs p ch k)) ∧ Below w.heap.size w wr) (fun i _ => 4 - (intOf i).toNat)
  case atStart => exact ⟨0, Nat.zero_le _, by omega, rfl, ho, hb⟩
  case round =>
    obtain ⟨k, hk, hpk, rfl, hown, hbel⟩ := hrel
    have hlen : (chg xs p ch k).length = n := by rw [chg_length]; exact Hl.out
    clear ho hb
    by_cases hgo : k < 4 ∧ p + k < n
    · obtain ⟨hk4, hpn⟩ := hgo
      obtain ⟨c, hcc⟩ : ∃ c, (chg xs p ch k).getD (p + k) 0 = c := ⟨_, rfl⟩
      have hcell : wr.cell? ⟨g, p + k, none⟩ = some (.int .u8 (c.toNat : Int)) := by
        rw [hown.cellAt (p + k) (by omega), bcs_getElem? _ _ (by rw [hlen]; exact hpn), ← hcc]
        simp [List.getD, List.getElem?_eq_getElem (show p + k < (chg xs p ch k).length by omega)]
      have hfz := hown.frozenAt (p + k)
      have Hcc : Hid _ := hcc
      have Hlen : Hid _ := hlen
      clear hcc hlen
      go_wp2
      rw [chg_byte]
      go_roundw
      case rel =>
        have hst := hown.stored (p + k) (.int .u8 ((c ^^^ UInt8.ofNat (ch / 2 ^ (8 * k))).toNat : Int))
        refine ⟨k + 1, by omega, by omega, by go_num, ?_, hbel.setCell hgB _⟩
        rw [chg, Hcc.out, ← bcs_set]
        exact hst.1
      case measure => simp [intOf]; omega
    · have hrz := owns_rd_at hown
      have hrx := hr.below hbel (Nat.le_refl _)
      have hseen := chg_seen xs p ch k hk
      obtain ⟨zs, hzs⟩ : ∃ zs, chg xs p ch k = zs := ⟨_, rfl⟩
      rw [hzs] at hlen hrz hseen
      have Hlen : Hid _ := hlen
      clear hown hzs hlen hr
      have hx : k = 4 ∨ (k < 4 ∧ p + k = n) := by omega
      rcases hx with rfl | ⟨hk4, rfl⟩
      all_goals go_wp2_with fail
      all_goals refine (crc_at cap _ a xs wr Hl.out (by omega) hrx).mono ?_
      all_goals rintro e w2 ⟨rfl, hb2⟩
      all_goals go_wp2_with fail
      all_goals refine (crc_at cap1 _ _ zs w2 Hlen.out (by omega) (hrz.below hb2 (Nat.le_refl _))).mono ?_
      all_goals rintro e w3 ⟨rfl, hb3⟩
      all_goals have hb23 := hb2.trans (hb3.mono hb2.size)
      all_goals have hB3 := hbel.trans (hb23.mono hbel.size)
      all_goals have hrx3 := hrx.below hb23 (Nat.le_refl _)
      all_goals have hrz3 := hrz.below hb23 (Nat.le_refl _)
      all_goals clear hb2 hb3 hb23 hrx hrz hbel
      all_goals go_wp2_with fail
      all_goals refine (same_at cap cap1 _ _ a _ xs zs w3 Hl.out Hlen.out hrx3 hrz3).mono ?_
      all_goals rintro e w4 ⟨rfl, rfl⟩
      all_goals have hfin := same_tell xs zs hseen
      all_goals clear hseen
      all_goals generalize (xs == zs) = same at hfin ⊢
      all_goals go_wp2_with fail
      all_goals refine (awake_any w3).mono ?_
      all_goals rintro e w4 ⟨rfl, hb4⟩
      all_goals have hB4 := hB3.trans (hb4.mono hB3.size)
      all_goals clear hb4 hB3 hrx3 hrz3
      all_goals go_wp2
      all_goals go_ret
      all_goals exact ⟨rfl, hB4⟩

end Go.Proofs.Ytodicpplbfmcgaa
