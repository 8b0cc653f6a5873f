/-
  What the layer's calls do: the closure's turn, More, Crc; each told by the register of the plain text.
-/
import Derived.Test.YtghcmlkgpedkkaaBytes
import Derived.Test.YtghcmlkgpedkkaaCrc
import Derived.WalkKit
import Derived.WalkSpells
import Derived.WalkLawsBesides
import Derived.Laws.BitsLemmas
import Derived.Lib.SlBytesConst
namespace Go.Proofs.Ytghcmlkgpedkkaa
open Go.RowKit

/-- One variable of 32 bits in a block of its own. -/
def One (w : World) (g r : Nat) : Prop := w.heap[g]? = some (.cells #[.int .u32 (r : Int)] 68 (0, 0))

theorem One.cell {w : World} {g r : Nat} (h : One w g r) : w.cell? ⟨g, 0, none⟩ = some (.int .u32 (r : Int)) := cell_of_one h
theorem One.frozen {w : World} {g r : Nat} (h : One w g r) : w.frozen? ⟨g, 0, none⟩ = false := free_of_one h
theorem One.store {w : World} {g r : Nat} (h : One w g r) (s : Nat) : One (w.setCell ⟨g, 0, none⟩ (.int .u32 (s : Int))) g s := one_setCell h

theorem xor_u32 (a b : Nat) (ha : a < 4294967296) (hb : b < 4294967296) : bits .xor .u32 (a : Int) (b : Int) = ((a ^^^ b : Nat) : Int) := by
  have hx : a ^^^ b < 2 ^ 32 := Nat.xor_lt_two_pow (by omega) (by omega)
  have h1 : (BitVec.ofInt 32 (a : Int)).toNat = a := by
    rw [BitVec.ofInt_natCast, BitVec.toNat_ofNat]; exact Nat.mod_eq_of_lt (by omega)
  have h2 : (BitVec.ofInt 32 (b : Int)).toNat = b := by
    rw [BitVec.ofInt_natCast, BitVec.toNat_ofNat]; exact Nat.mod_eq_of_lt (by omega)
  show IntKind.u32.wrap ((BitVec.ofInt 32 (a : Int) ^^^ BitVec.ofInt 32 (b : Int)).toNat : Int) = _
  rw [BitVec.toNat_xor, h1, h2, IntKind.wrap_u32]
  omega

theorem xor_u8 (a b : Nat) (ha : a < 256) (hb : b < 256) : bits .xor .u8 (a : Int) (b : Int) = ((a ^^^ b : Nat) : Int) := by
  have hx : a ^^^ b < 2 ^ 8 := Nat.xor_lt_two_pow (by omega) (by omega)
  have h1 : (BitVec.ofInt 8 (a : Int)).toNat = a := by
    rw [BitVec.ofInt_natCast, BitVec.toNat_ofNat]; exact Nat.mod_eq_of_lt (by omega)
  have h2 : (BitVec.ofInt 8 (b : Int)).toNat = b := by
    rw [BitVec.ofInt_natCast, BitVec.toNat_ofNat]; exact Nat.mod_eq_of_lt (by omega)
  show IntKind.u8.wrap ((BitVec.ofInt 8 (a : Int) ^^^ BitVec.ofInt 8 (b : Int)).toNat : Int) = _
  rw [BitVec.toNat_xor, h1, h2, IntKind.wrap_u8]
  omega

theorem and_one (a : Nat) (ha : a < 4294967296) : bits .and .u32 (a : Int) 1 = ((a % 2 : Nat) : Int) := by
  have h := bits_mask .u32 32 (by decide) (fun n h0 h1 => by rw [IntKind.wrap_u32]; omega) 1 (by decide) (a : Int) (by omega) (by omega)
  simpa using h

theorem of_not_bne {a b : Int} (h : (a != b) = false) : a = b := by simpa using h

theorem not_u32 (s : Nat) (hs : s < 4294967296) : bits .xor .u32 IntKind.u32.max (s : Int) = ((4294967295 - s : Nat) : Int) := by
  have e : IntKind.u32.max = ((4294967295 : Nat) : Int) := by decide
  rw [e, xor_u32 _ _ (by decide) hs, Nat.xor_comm, ← flip_xor hs]

theorem turn_any (g r b : Nat) (w : World) (hr : r < 4294967296) (h : One w g r) :
    Calls Try.prog 68 #[.int .u32 b, .pointer (some ⟨g, 0, none⟩)] w fun e w' => e = .returned (.tuple #[]) ∧ One w' g (step r b) ∧ w.grownBy w' (some g) := by
  have hc := h.cell
  have hf := h.frozen
  have ha := and_one r hr
  have hx : bits .xor .u32 ((r : Int) / 2) 2197175160 = ((r / 2 ^^^ taps : Nat) : Int) := xor_u32 (r / 2) taps (by omega) (by decide)
  have Ha : Hid _ := ha
  have Hx : Hid _ := hx
  clear ha hx
  go_enter Try.func68, Try.ntmps68
  go_wp2
  · go_end0
    rename_i ht
    rw [Ha.out] at ht
    have hne : r % 2 ≠ b := by
      intro e
      rw [e] at ht
      simp at ht
    rw [Hx.out]
    unfold step
    rw [if_neg hne]
    exact ⟨rfl, (h.store (r / 2)).store _, grown_trans (grown_store _ _ _ _) (grown_store _ _ _ _)⟩
  · go_end0
    rename_i ht
    rw [Ha.out] at ht
    have heq : r % 2 = b := by
      have := of_not_bne ht
      omega
    unfold step
    rw [if_pos heq]
    exact ⟨rfl, h.store (r / 2), grown_store _ _ _ _⟩

theorem turn_at (g r b : Nat) (V : Int) (w : World) (hV : V = (b : Int)) (hr : r < 4294967296) (h : One w g r) :
    Calls Try.prog 68 #[.int .u32 V, .pointer (some ⟨g, 0, none⟩)] w fun e w' => e = .returned (.tuple #[]) ∧ One w' g (step r b) ∧ w.grownBy w' (some g) := by
  subst hV
  exact turn_any g r b w hr h

theorem byte_bit (c : UInt8) (i : Nat) : bits .and .u32 ((c.toNat : Int) % 4294967296 / 2 ^ i) 1 = ((c.toNat / 2 ^ i % 2 : Nat) : Int) := by
  have e : (c.toNat : Int) % 4294967296 = c.toNat := by have := u8_lt c; omega
  rw [e]
  have h := and_one (c.toNat / 2 ^ i) (by have := u8_lt c; have := Nat.div_le_self c.toNat (2 ^ i); omega)
  rw [← h]
  congr 1

theorem more_in (b o cap n : Nat) (xs : List UInt8) (s : Nat) (w : World) (hl : xs.length = n) (hn : n ≤ 9223372036854775807) (hs : s < 4294967296)
    (hc : ∀ j, j < n → w.cell? ⟨b, o + j, none⟩ = some (.int .u8 ((xs.getD j 0).toNat : Int))) (hb : b < w.heap.size) :
    Calls Try.prog 67 #[.int .u32 s, .slice (some ⟨b, o, none⟩) n cap] w fun e w' => e = .returned (.int .u32 (crc s xs : Nat)) ∧ Below w.heap.size w w' := by
  have Hl : Hid (xs.length = n) := hl
  clear hl
  have Hs : Hid _ := not_u32 s hs
  go_enter Try.func67, Try.ntmps67
  go_wp2_with fail
  rw [Hs.out]
  go_loopw [15] (fun i wr => ∃ k : Nat, k ≤ n ∧ i = .int .i64 k ∧ One wr w.heap.size (reg (4294967295 - s) (xs.take k)) ∧ Below w.heap.size w wr) (fun i _ => n - (intOf i).toNat)
  case atStart => exact ⟨0, Nat.zero_le _, rfl, heap_alloc_new w _, (Below.refl _ _).alloc (Nat.le_refl _) _⟩
  case round =>
    obtain ⟨k, hk, rfl, hone, hbel⟩ := hrel
    by_cases hlt : k < n
    · obtain ⟨c, hcc⟩ : ∃ c, xs.getD k 0 = c := ⟨_, rfl⟩
      have hcx : wr.cell? ⟨b, o + k, none⟩ = some (.int .u8 (c.toNat : Int)) := by rw [← hcc]; exact (hbel.cell (by exact hb)).trans (hc k hlt)
      obtain ⟨R, hR⟩ : ∃ R, reg (4294967295 - s) (xs.take k) = R := ⟨_, rfl⟩
      rw [hR] at hone
      have HR : Hid _ := hR
      have Hcc : Hid _ := hcc
      clear hR hcc
      have hRl : R < 4294967296 := by rw [← HR.out]; exact reg_lt _ (by omega)
      go_wp2_with fail
      go_loopw [19] (fun i wq => ∃ j : Nat, j ≤ 8 ∧ i = .int .i64 j ∧ One wq w.heap.size (steps R c.toNat j) ∧ Below w.heap.size w wq) (fun i _ => 8 - (intOf i).toNat)
      case atStart => exact ⟨0, Nat.zero_le _, rfl, hone, hbel⟩
      case round =>
        obtain ⟨j, hj, rfl, hone2, hbel2⟩ := hrel
        by_cases hlt2 : j < 8
        · go_wp2_with fail
          refine (turn_at w.heap.size (steps R c.toNat j) (c.toNat / 2 ^ j % 2) _ wr (byte_bit c j) (steps_lt _ hRl j) hone2).mono ?_
          rintro e w1 ⟨rfl, hone3, hgr⟩
          have hbel3 : Below w.heap.size w w1 := hbel2.grown hgr hbel2.size (fun k hk => by simp at hk; omega)
          clear hgr hone2 hbel2
          go_wp2
          go_roundw
          case rel => exact ⟨j + 1, by omega, by go_num, hone3, hbel3⟩
          case measure => simp [intOf]; omega
        · obtain rfl : j = 8 := by omega
          go_wp2
          go_roundw
          case rel =>
            refine ⟨k + 1, by omega, by go_num, ?_, hbel2⟩
            have hk' : k < xs.length := by rw [Hl.out]; exact hlt
            have hcc := Hcc.out
            rw [reg_succ _ _ _ hk', HR.out]
            simp only [List.getD, List.getElem?_eq_getElem hk', Option.getD_some] at hcc
            rw [hcc]
            exact hone2
          case measure => simp [intOf]; omega
    · obtain rfl : k = n := by omega
      have hce := hone.cell
      go_wp2
      go_ret
      refine ⟨?_, hbel⟩
      rw [List.take_of_length_le (by rw [Hl.out]; exact Nat.le_refl _), not_u32 _ (reg_lt _ (by omega))]
      rfl

theorem more_none (a : Option Addr) (cap : Nat) (s : Nat) (w : World) (hs : s < 4294967296) :
    Calls Try.prog 67 #[.int .u32 s, .slice a 0 cap] w fun e w' => e = .returned (.int .u32 (crc s [] : Nat)) ∧ Below w.heap.size w w' := by
  have Hs : Hid _ := not_u32 s hs
  have Ht : Hid _ := not_u32 (4294967295 - s) (by omega)
  go_enter Try.func67, Try.ntmps67
  go_wp2_with fail
  rw [Hs.out]
  refine wp_loop_rounds 1 ?_
  rw [rounds_succ]
  go_wp2
  go_ret
  rw [Ht.out]
  exact ⟨rfl, (Below.refl _ _).alloc (Nat.le_refl _) _⟩

/-- More: the sum that goes on behind another one. -/
theorem more_at (cap n : Nat) (a : Option Addr) (xs : List UInt8) (s : Nat) (S : Int) (w : World) (hS : S = (s : Int)) (hl : xs.length = n) (hn : n ≤ 9223372036854775807) (hs : s < 4294967296) (hr : Rd w a xs) :
    Calls Try.prog 67 #[.int .u32 S, .slice a n cap] w fun e w' => e = .returned (.int .u32 (crc s xs : Nat)) ∧ Below w.heap.size w w' := by
  subst hS
  by_cases h0 : 0 < n
  · obtain ⟨b, o, rfl, hc⟩ := hr (by omega)
    refine more_in b o cap n xs s w hl hn hs (fun j hj => ?_) (block_lt_of_cell (hc 0 (by omega)))
    rw [hc j (by omega)]
    simp [List.getD, List.getElem?_eq_getElem (show j < xs.length by omega)]
  · obtain rfl : n = 0 := by omega
    obtain rfl : xs = [] := List.eq_nil_of_length_eq_zero hl
    exact more_none a cap s w hs

/-- Crc: the remainder. -/
theorem crc_at (cap n : Nat) (a : Option Addr) (xs : List UInt8) (w : World) (hl : xs.length = n) (hn : n ≤ 9223372036854775807) (hr : Rd w a xs) :
    Calls Try.prog 62 #[.slice a n cap] w fun e w' => e = .returned (.int .u32 (crc 0 xs : Nat)) ∧ Below w.heap.size w w' := by
  have Hl : Hid _ := hl
  clear hl
  go_enter Try.func62, Try.ntmps62
  go_wp2_with (go_at_call 67; refine (more_at cap n a xs 0 0 w rfl Hl.out hn (by omega) hr).mono ?_; rintro e w1 ⟨rfl, hb⟩)
  go_ret
  exact ⟨rfl, hb⟩

theorem crc_digits : crc 0 [49, 50, 51, 52, 53, 54, 55, 56, 57] = 3808858755 := by decide +kernel

/-- Bytes of a literal text lie in a new block, whose end is marked. -/
theorem rd_marked (w : World) (fr : Nat × Nat) (xs : List UInt8) : Rd (w.alloc (.cells (bcs xs).toArray 5 fr)) (some ⟨w.heap.size, 0, none⟩) xs := fun _ => ⟨w.heap.size, 0, rfl, fun j hj => by
  rw [Nat.zero_add, cell_of_row _ w.heap.size j _ 5 fr (heap_alloc_new w _)]
  simpa using bcs_getElem? xs j hj⟩

end Go.Proofs.Ytghcmlkgpedkkaa
