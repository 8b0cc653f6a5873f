/-
  SuPlain, SuOctets, SuCrc, SuSums, SuExts, SuNoughts, SuPutSuper, SuPutExts, SuPutInode, SuReads, SuGetNode, SuGetSuper, SuGetInode, SuChg, SuForms, SuFormS, HPlain, SuRef, SuSame, SuLoads: put together.
-/
import Derived.Test.YtnldkpckojhbhaaGreatG5
import Derived.WalkKit
import Derived.Laws.CopyOwn
import Derived.WalkSpells
import Derived.WalkLawsBesides
import Derived.Laws.BitsLemmas
import Derived.Lib.SlBytesConst
import Derived.BigQuiet
import Derived.Deep.RegionWith
import Derived.Laws.OwnMore
import Derived.Laws.StructEq
import Derived.Orders
import Derived.RegionTactic
/-
  Plain facts on bytes: a number in bytes, the highest first, and back; nothing of the program is named here.
-/
namespace Go.Proofs.YtnldkpckojhbhaaGreat.Su
open Go.RowKit

/-- The number that bytes say, the highest first. -/
def beNat (l : List UInt8) : Nat := l.foldl (fun v c => v * 256 + c.toNat) 0

/-- The lowest n bytes of v, the highest first. -/
def toBE : Nat → Nat → List UInt8
  | 0, _ => []
  | n + 1, v => toBE n (v / 256) ++ [UInt8.ofNat v]

theorem beNat_nil : beNat [] = 0 := rfl
theorem beNat_snoc (l : List UInt8) (c : UInt8) : beNat (l ++ [c]) = beNat l * 256 + c.toNat := by
  simp [beNat, List.foldl_append]

theorem beNat_lt_aux : ∀ (n : Nat) (l : List UInt8), l.length = n → beNat l < 256 ^ n
  | 0, l, h => by
    obtain rfl : l = [] := List.eq_nil_of_length_eq_zero h
    simp [beNat]
  | n + 1, l, h => by
    have hne : l ≠ [] := by intro e; simp [e] at h
    obtain ⟨l', c, rfl⟩ : ∃ l' c, l = l' ++ [c] := ⟨l.dropLast, l.getLast hne, (List.dropLast_concat_getLast hne).symm⟩
    have hl : l'.length = n := by simpa using h
    have ih := beNat_lt_aux n l' hl
    have hc := u8_lt c
    rw [beNat_snoc, Nat.pow_succ]
    omega

theorem beNat_lt (l : List UInt8) : beNat l < 256 ^ l.length := beNat_lt_aux _ l rfl

theorem beNat_take_lt (l : List UInt8) (j : Nat) (hj : j ≤ 8) : beNat (l.take j) < 18446744073709551616 := by
  have h := beNat_lt (l.take j)
  have h2 : 256 ^ (l.take j).length ≤ 256 ^ 8 := Nat.pow_le_pow_right (by omega) (by have := List.length_take_le j l; omega)
  have h3 : 256 ^ 8 = 18446744073709551616 := by decide
  omega

theorem beNat_take_lt7 (l : List UInt8) (j : Nat) (hj : j ≤ 7) : beNat (l.take j) < 72057594037927936 := by
  have h := beNat_lt (l.take j)
  have h2 : 256 ^ (l.take j).length ≤ 256 ^ 7 := Nat.pow_le_pow_right (by omega) (by have := List.length_take_le j l; omega)
  have h3 : 256 ^ 7 = 72057594037927936 := by decide
  omega

theorem toBE_length : ∀ (n v : Nat), (toBE n v).length = n
  | 0, _ => rfl
  | n + 1, v => by simp [toBE, toBE_length n]

theorem beNat_toBE : ∀ (n v : Nat), beNat (toBE n v) = v % 256 ^ n
  | 0, v => by simp [toBE, beNat, Nat.mod_one]
  | n + 1, v => by
    rw [toBE, beNat_snoc, beNat_toBE n, ofNat_toNat, Nat.pow_succ, Nat.mul_comm (256 ^ n) 256, Nat.mod_mul]
    omega

theorem toBE_cons : ∀ (n v : Nat), toBE (n + 1) v = UInt8.ofNat (v / 256 ^ n) :: toBE n v
  | 0, v => by simp [toBE]
  | n + 1, v => by
    rw [toBE, toBE_cons n]
    have e : v / 256 / 256 ^ n = v / 256 ^ (n + 1) := by rw [Nat.div_div_eq_div_mul, Nat.pow_succ, Nat.mul_comm]
    rw [e]
    rfl

theorem toBE_beNat_aux : ∀ (n : Nat) (l : List UInt8), l.length = n → toBE n (beNat l) = l
  | 0, l, h => by
    obtain rfl : l = [] := List.eq_nil_of_length_eq_zero h
    rfl
  | n + 1, l, h => by
    have hne : l ≠ [] := by intro e; simp [e] at h
    obtain ⟨l', c, rfl⟩ : ∃ l' c, l = l' ++ [c] := ⟨l.dropLast, l.getLast hne, (List.dropLast_concat_getLast hne).symm⟩
    have hl : l'.length = n := by simpa using h
    have hc := u8_lt c
    rw [beNat_snoc, toBE, show (beNat l' * 256 + c.toNat) / 256 = beNat l' by omega, toBE_beNat_aux n l' hl]
    congr 1
    congr 1
    apply UInt8.toNat_inj.1
    rw [ofNat_toNat]
    omega

theorem toBE_beNat (l : List UInt8) : toBE l.length (beNat l) = l := toBE_beNat_aux _ l rfl

theorem toBE_mod (n v : Nat) : toBE n (v % 256 ^ n) = toBE n v := by
  have h := toBE_beNat (toBE n v)
  rw [toBE_length, beNat_toBE] at h
  exact h

/-- The window of j bytes from k on, one byte longer. -/
theorem window_succ (xs : List UInt8) (k j : Nat) (h : k + j < xs.length) : (xs.drop k).take (j + 1) = (xs.drop k).take j ++ [xs[k + j]] := by
  rw [List.take_succ_eq_append_getElem (by simp; omega)]
  simp

theorem be_window_succ (xs : List UInt8) (k j : Nat) (h : k + j < xs.length) : beNat ((xs.drop k).take (j + 1)) = beNat ((xs.drop k).take j) * 256 + xs[k + j].toNat := by
  rw [window_succ xs k j h, beNat_snoc]

/-- One more byte, as Go puts it: a shift by eight and an or. -/
theorem or_step (a c : Nat) (ha : a < 72057594037927936) (hc : c < 256) : bits .or .u64 (IntKind.u64.wrap ((a : Int) * 256)) (IntKind.u64.wrap (c : Int)) = ((a * 256 + c : Nat) : Int) := by
  have e1 : IntKind.u64.wrap ((a : Int) * 256) = (a : Int) * 256 := by rw [IntKind.wrap_u64]; omega
  have e2 : IntKind.u64.wrap (c : Int) = (c : Int) := by rw [IntKind.wrap_u64]; omega
  rw [e1, e2, bits_join .u64 64 (by decide) (fun n h0 h1 => by rw [IntKind.wrap_u64]; omega) 8 ((a : Int) * 256) (c : Int) (by omega) (by omega) (by omega) (by omega) (by omega) (by omega)]
  omega

/-- What put has laid behind j rounds: the last j bytes of the window. -/
def putAt (ys : List UInt8) (off n j v : Nat) : List UInt8 := ys.take (off + n - j) ++ (toBE j v ++ ys.drop (off + n))

theorem putAt_zero (ys : List UInt8) (off n v : Nat) : putAt ys off n 0 v = ys := by simp [putAt, toBE]
theorem putAt_length (ys : List UInt8) (off n j v : Nat) (h : off + n ≤ ys.length) (hj : j ≤ n) : (putAt ys off n j v).length = ys.length := by
  simp [putAt, toBE_length]; omega
theorem putAt_succ (ys : List UInt8) (off n j v : Nat) (h : off + n ≤ ys.length) (hj : j < n) :
    (putAt ys off n j v).set (off + (n - 1 - j)) (UInt8.ofNat (v / 256 ^ j)) = putAt ys off n (j + 1) v := by
  unfold putAt
  rw [toBE_cons, show off + n - j = (off + (n - 1 - j)) + 1 by omega, show off + n - (j + 1) = off + (n - 1 - j) by omega]
  rw [List.take_succ_eq_append_getElem (by omega), List.append_assoc]
  rw [List.set_append_right _ _ (by simp; omega)]
  simp [List.length_take]
  rw [show min (off + (n - 1 - j)) ys.length = off + (n - 1 - j) by omega]
  simp

/-- A byte of a shifted number. -/
theorem shr_byte (v j : Nat) : IntKind.u8.wrap ((v : Int) / 2 ^ (8 * j)) = ((UInt8.ofNat (v / 256 ^ j)).toNat : Int) := by
  rw [IntKind.wrap_u8, ofNat_toNat]
  have e : ((2 : Int) ^ (8 * j)) = ((256 ^ j : Nat) : Int) := by
    rw [Int.pow_mul]; simp
  rw [e]
  omega



end Go.Proofs.YtnldkpckojhbhaaGreat.Su

/-
  What the calls of octets do: numbers that are read and that are put.
-/
namespace Go.Proofs.YtnldkpckojhbhaaGreat.Su
open Go.RowKit

/-- copy of bytes onto a row of one's own. -/
theorem copy_run (g off dLen dCap : Nat) (d a : Option Addr) (cap : Nat) (xs ys : List UInt8) (u : World) (hg : Own u g ys) (hr : Rd u a xs) (hd : 0 < xs.length → d = some ⟨g, off, none⟩) (hl : xs.length ≤ dLen) (hfit : off + xs.length ≤ ys.length) :
    ∃ W, (∀ ty, (Builtin.copy_ #[37, 37] ty #[.slice d dLen dCap, .slice a xs.length cap]).run Tryz.prog u = .ok (goInt xs.length) W) ∧ Own W g (ys.take off ++ (xs ++ ys.drop (off + xs.length))) ∧ u.grownBy W (some g) := by
  by_cases h0 : xs.length = 0
  · obtain rfl : xs = [] := List.eq_nil_of_length_eq_zero h0
    refine ⟨u, fun ty => ?_, by simpa using hg, World.grownBy.refl _ _⟩
    have h := run_copy_none (P := Tryz.prog) u 37 37 ty 5 d a dLen dCap 0 cap Tryz.underlying37 size5 (by simp)
    exact h
  · obtain ⟨b, o, rfl, hc⟩ := hr (by omega)
    obtain rfl := hd (by omega)
    refine ⟨u.setRow g ((bcs ys).take off ++ bcs xs ++ (bcs ys).drop (off + (bcs xs).length)).toArray, fun ty => ?_, ?_, grown_setRow _ _ _⟩
    · have h := run_copy_row (P := Tryz.prog) u 37 37 ty 5 g off dLen dCap ⟨b, o, none⟩ xs.length cap (bcs ys).toArray 5 (bcs xs) Tryz.underlying37 size5 hg (by rw [bcs_length]; exact (Nat.min_eq_left hl).symm) (fun j v hj => by
          have hj' : j < xs.length := by have := (List.getElem?_eq_some_iff.1 hj).1; simpa [bcs_length] using this
          rw [bcs_getElem? xs j hj'] at hj
          rw [Addr.add_lit, hc j hj']
          exact hj) (by simpa [bcs_length] using hfit) (bcs_oneCell xs)
      rw [h, bcs_length]
    · unfold Own
      rw [setRow_heap u g _ _ 5 _ hg]
      simp [bcs]

set_option maxHeartbeats 400000 in
theorem longer_any (a : Option Addr) (cap more : Nat) (xs : List UInt8) (w : World) (hr : Rd w a xs) (hm : xs.length + more ≤ 281474976710656) :
    Calls Tryz.prog 275 #[.slice a xs.length cap, .int .i64 more] w fun e w' => e = .returned (.slice (some ⟨w.heap.size, 0, none⟩) (xs.length + more) (xs.length + more)) ∧ Own w' w.heap.size (xs ++ List.replicate more 0) ∧ Below w.heap.size w w' := by
  obtain ⟨i0, hi, hz0, hz1, hz2⟩ := info_parts info5
  have hmk : ∀ u : World, (Instr.makeSlice 37 (.int .i64 ((xs.length : Int) + (more : Int))) (.int .i64 ((xs.length : Int) + (more : Int)))).run Tryz.prog u =
      .ok (.slice (some ⟨u.heap.size, 0, none⟩) (xs.length + more) (xs.length + more)) (u.alloc (.cells (madeCells #[.int .u8 0] (xs.length + more)) 5)) := fun u => by
    have h := run_make (P := Tryz.prog) u 37 5 i0 (.int .u8 0) Tryz.underlying37 hi hz0 .i64 .i64 ((xs.length : Int) + (more : Int)) ((xs.length : Int) + (more : Int)) (by omega) (Int.le_refl _) (by rw [hz2]; omega) (by omega)
    have e : ((xs.length : Int) + (more : Int)).toNat = xs.length + more := by omega
    rw [e] at h
    simpa [hz1, Value.cells] using h
  have hb0 : Below w.heap.size w (w.alloc (.cells (madeCells #[.int .u8 0] (xs.length + more)) 5)) := (Below.refl _ _).alloc (Nat.le_refl _) _
  have ho : Own (w.alloc (.cells (madeCells #[.int .u8 0] (xs.length + more)) 5)) w.heap.size (List.replicate (xs.length + more) 0) := by
    rw [made_zero]; exact heap_alloc_new w _
  obtain ⟨W, hcp, hoW, hgW⟩ := copy_run w.heap.size 0 (xs.length + more) (xs.length + more) (some ⟨w.heap.size, 0, none⟩) a cap xs _ _ ho (hr.below hb0 (Nat.le_refl _)) (fun _ => rfl) (by omega) (by simp)
  have hbW : Below w.heap.size w W := hb0.grown hgW (by simp) (fun k hk => by simp at hk; omega)
  have hres : Own W w.heap.size (xs ++ List.replicate more 0) := by
    have e : (List.replicate (xs.length + more) (0 : UInt8)).drop (0 + xs.length) = List.replicate more 0 := by simp
    rw [e] at hoW
    simpa using hoW
  clear hb0 ho hoW hgW hr
  go_enter Tryz.func275, Tryz.ntmps275
  go_wp2
  go_ret
  exact ⟨rfl, hres, hbW⟩

/-- The number of so many bytes from a place on, if all are there. -/
def numAt (xs : List UInt8) (i : Int) (size : Nat) : Option Nat := if 0 ≤ i ∧ i + size ≤ xs.length then some (beNat ((xs.drop i.toNat).take size)) else none

theorem numAt_none {xs : List UInt8} {i : Int} {size : Nat} (h : ¬ (0 ≤ i ∧ i + size ≤ xs.length)) : numAt xs i size = none := by unfold numAt; rw [if_neg h]
theorem numAt_some {xs : List UInt8} {k size : Nat} (h : k + size ≤ xs.length) : numAt xs k size = some (beNat ((xs.drop k).take size)) := by unfold numAt; rw [if_pos (by omega)]; simp
theorem numAt_lt (xs : List UInt8) (i : Int) (size : Nat) : (numAt xs i size).getD 0 < 256 ^ size := by
  unfold numAt
  split
  · have h := beNat_lt ((xs.drop i.toNat).take size)
    have h2 : 256 ^ ((xs.drop i.toNat).take size).length ≤ 256 ^ size := Nat.pow_le_pow_right (by omega) (List.length_take_le _ _)
    simp only [Option.getD_some]
    omega
  · simpa using Nat.pow_pos (by omega)

theorem number_out (a : Option Addr) (n cap : Nat) (i : Int) (size : Nat) (w : World) (hs : size ≤ 8) (hn : n ≤ 9223372036854775807) (h : i < 0 ∨ (n : Int) - size < i) :
    Calls Tryz.prog 262 #[.slice a n cap, .int .i64 i, .int .i64 size] w fun e w' => e = .returned (.tuple #[.int .u64 0, .bool false]) ∧ w = w' := by
  by_cases h1 : i < 0
  · go_enter Tryz.func262, Tryz.ntmps262
    go_wp2
    go_ret2
    exact ⟨rfl, rfl⟩
  · have h2 : (n : Int) - size < i := by omega
    go_enter Tryz.func262, Tryz.ntmps262
    go_wp2
    go_ret2
    exact ⟨rfl, rfl⟩

theorem number_in (b off cap : Nat) (xs : List UInt8) (k size : Nat) (w : World) (hs : size ≤ 8) (hn : xs.length ≤ 9223372036854775807)
    (hc : ∀ j (h : j < xs.length), w.cell? ⟨b, off + j, none⟩ = some (.int .u8 (xs[j].toNat : Int))) (h : k + size ≤ xs.length) :
    Calls Tryz.prog 262 #[.slice (some ⟨b, off, none⟩) xs.length cap, .int .i64 k, .int .i64 size] w fun e w' => e = .returned (.tuple #[.int .u64 (beNat ((xs.drop k).take size)), .bool true]) ∧ w = w' := by
  go_enter Tryz.func262, Tryz.ntmps262
  go_wp2
  go_loop [8, 21] (fun v i => ∃ j : Nat, j ≤ size ∧ i = .int .i64 j ∧ v = .int .u64 (beNat ((xs.drop k).take j))) (fun _ i => size - (intOf i).toNat)
  case atStart => exact ⟨0, Nat.zero_le _, rfl, rfl⟩
  case round =>
    obtain ⟨j, hj, rfl, rfl⟩ := hrel
    by_cases hlt : j < size
    · have hcc := hc (k + j) (by omega)
      go_wp2
      go_round
      case rel => exact ⟨j + 1, by omega, by go_num, by rw [or_step _ _ (beNat_take_lt7 _ _ (by omega)) (u8_lt _), be_window_succ xs k j (by omega)]⟩
      case measure => simp [intOf]; omega
    · obtain rfl : j = size := by omega
      go_wp2
      go_ret2
      exact ⟨rfl, rfl⟩

theorem number_any (a : Option Addr) (cap : Nat) (xs : List UInt8) (i : Int) (size : Nat) (w : World) (hs0 : 0 < size) (hs : size ≤ 8) (hn : xs.length ≤ 9223372036854775807) (hr : Rd w a xs) :
    Calls Tryz.prog 262 #[.slice a xs.length cap, .int .i64 i, .int .i64 size] w fun e w' => e = .returned (.tuple #[.int .u64 ((numAt xs i size).getD 0 : Nat), .bool (numAt xs i size).isSome]) ∧ w = w' := by
  by_cases h : 0 ≤ i ∧ i + size ≤ xs.length
  · obtain ⟨k, rfl⟩ := Int.eq_ofNat_of_zero_le h.1
    have hk : k + size ≤ xs.length := by omega
    obtain ⟨b, o, rfl, hc⟩ := hr (by omega)
    rw [numAt_some hk]
    exact number_in b o cap xs k size w hs hn hc hk
  · rw [numAt_none h]
    exact number_out a xs.length cap i size w hs hn (by omega)

theorem wrap_u8_in (n : Nat) (h : n < 256) : IntKind.u8.wrap (n : Int) = n := by rw [IntKind.wrap_u8]; omega
theorem wrap_u16_in (n : Nat) (h : n < 65536) : IntKind.u16.wrap (n : Int) = n := by simp [IntKind.wrap, IntKind.bits, IntKind.signed]; omega
theorem wrap_u32_in (n : Nat) (h : n < 4294967296) : IntKind.u32.wrap (n : Int) = n := by rw [IntKind.wrap_u32]; omega

theorem u64_any (a : Option Addr) (cap : Nat) (xs : List UInt8) (i : Int) (w : World) (hn : xs.length ≤ 9223372036854775807) (hr : Rd w a xs) :
    Calls Tryz.prog 227 #[.slice a xs.length cap, .int .i64 i] w fun e w' => e = .returned (.tuple #[.int .u64 ((numAt xs i 8).getD 0 : Nat), .bool (numAt xs i 8).isSome]) ∧ w = w' := by
  go_enter Tryz.func227, Tryz.ntmps227
  go_wp2_with (go_at_call 262; refine (number_any a cap xs i 8 _ (by omega) (by omega) hn hr).mono ?_; rintro e w' ⟨rfl, rfl⟩)
  go_ret2
  exact ⟨rfl, rfl⟩

set_option maxHeartbeats 400000 in
theorem put_any (g off n cap : Nat) (ys : List UInt8) (v : Nat) (w : World) (_hv : v < 18446744073709551616) (h : off + n ≤ ys.length) (hn : n ≤ 8) (hg : Own w g ys) :
    Calls Tryz.prog 276 #[.slice (some ⟨g, off, none⟩) n cap, .int .u64 v] w fun e w' => e = .returned (.tuple #[]) ∧ Own w' g (putAt ys off n n v) ∧ w.grownBy w' (some g) := by
  go_enter Tryz.func276, Tryz.ntmps276
  go_wp2
  go_loopw [7] (fun i wr => ∃ j : Nat, j ≤ n ∧ i = .int .i64 j ∧ Own wr g (putAt ys off n j v) ∧ w.grownBy wr (some g)) (fun i _ => n - (intOf i).toNat)
  case atStart => exact ⟨0, Nat.zero_le _, rfl, by rw [putAt_zero]; exact hg, World.grownBy.refl _ _⟩
  case round =>
    obtain ⟨j, hj, rfl, ho, hb⟩ := hrel
    by_cases hlt : j < n
    · have hf := ho.frozen (off + (n - 1 - j))
      have hcl := ho.cell (off + (n - 1 - j)) (by rw [putAt_length _ _ _ _ _ h hj]; omega)
      have hst := ho.store (off + (n - 1 - j)) (UInt8.ofNat (v / 256 ^ j))
      rw [putAt_succ ys off n j v h hlt, ← shr_byte, IntKind.wrap_u8] at hst
      have hgr := grown_trans hb (grown_store wr g (off + (n - 1 - j)) (.int .u8 ((v : Int) / 2 ^ (8 * j) % 256)))
      go_wp2
      go_roundw
      case rel => exact ⟨j + 1, by omega, by go_num, hst, hgr⟩
      case measure => simp [intOf]; omega
    · obtain rfl : j = n := by omega
      go_wp2
      go_end0
      exact ⟨rfl, ho, hb⟩

theorem putAt_behind (xs zs : List UInt8) (n v : Nat) (hz : zs.length = n) : putAt (xs ++ zs) xs.length n n v = xs ++ toBE n v := by
  unfold putAt
  rw [show xs.length + n - n = xs.length by omega, List.take_left, List.drop_eq_nil_of_le (by simp; omega), List.append_nil]

set_option maxHeartbeats 400000 in
theorem addNumber_any (a : Option Addr) (cap : Nat) (xs : List UInt8) (v n : Nat) (w : World) (hv : v < 18446744073709551616) (hn0 : 0 < n) (hn : n ≤ 8) (hm : xs.length + n ≤ 281474976710656) (hr : Rd w a xs) :
    Calls Tryz.prog 246 #[.slice a xs.length cap, .int .u64 v, .int .i64 n] w fun e w' => e = .returned (.slice (some ⟨w.heap.size, 0, none⟩) (xs.length + n) (xs.length + n)) ∧ Own w' w.heap.size (xs ++ toBE n v) ∧ Below w.heap.size w w' := by
  have hsz : ¬ xs.length + n = xs.length := by omega
  go_enter Tryz.func246, Tryz.ntmps246
  go_wp2_with (go_at_call 275; refine (longer_any a cap n xs _ hr hm).mono ?_; rintro e w1 ⟨rfl, ho, hb⟩)
  refine (put_any w.heap.size xs.length n n (xs ++ List.replicate n 0) v w1 hv (by simp) hn ho).mono ?_
  rintro e w2 ⟨rfl, ho2, hg2⟩
  have hb2 : Below w.heap.size w w2 := hb.grown hg2 hb.size (fun k hk => by simp at hk; omega)
  rw [putAt_behind xs _ n v (by simp)] at ho2
  clear ho hb hg2 hr
  go_wp2
  go_ret
  exact ⟨rfl, ho2, hb2⟩

theorem add32_any (a : Option Addr) (cap : Nat) (xs : List UInt8) (v : Nat) (w : World) (hv : v < 4294967296) (hm : xs.length + 4 ≤ 281474976710656) (hr : Rd w a xs) :
    Calls Tryz.prog 216 #[.slice a xs.length cap, .int .u32 v] w fun e w' => e = .returned (.slice (some ⟨w.heap.size, 0, none⟩) (xs.length + 4) (xs.length + 4)) ∧ Own w' w.heap.size (xs ++ toBE 4 v) ∧ Below w.heap.size w w' := by
  go_enter Tryz.func216, Tryz.ntmps216
  go_wp2_with (go_at_call 246; refine (addNumber_any a cap xs v 4 _ (by omega) (by omega) (by omega) hm hr).mono ?_; rintro e w1 ⟨rfl, ho, hb⟩)
  go_ret
  exact ⟨rfl, ho, hb⟩

theorem add64_any (a : Option Addr) (cap : Nat) (xs : List UInt8) (v : Nat) (w : World) (hv : v < 18446744073709551616) (hm : xs.length + 8 ≤ 281474976710656) (hr : Rd w a xs) :
    Calls Tryz.prog 215 #[.slice a xs.length cap, .int .u64 v] w fun e w' => e = .returned (.slice (some ⟨w.heap.size, 0, none⟩) (xs.length + 8) (xs.length + 8)) ∧ Own w' w.heap.size (xs ++ toBE 8 v) ∧ Below w.heap.size w w' := by
  go_enter Tryz.func215, Tryz.ntmps215
  go_wp2_with (go_at_call 246; refine (addNumber_any a cap xs v 8 _ (by omega) (by omega) (by omega) hm hr).mono ?_; rintro e w1 ⟨rfl, ho, hb⟩)
  go_ret
  exact ⟨rfl, ho, hb⟩

theorem add32_at (g cap n : Nat) (a : Option Addr) (xs : List UInt8) (v : Nat) (V : Int) (w : World) (hV : V = (v : Int)) (hg : w.heap.size = g) (hn : xs.length = n) (hv : v < 4294967296) (hm : n + 4 ≤ 281474976710656) (hr : Rd w a xs) :
    Calls Tryz.prog 216 #[.slice a n cap, .int .u32 V] w fun e w' => e = .returned (.slice (some ⟨g, 0, none⟩) (n + 4) (n + 4)) ∧ Own w' g (xs ++ toBE 4 v) ∧ Below g w w' := by
  subst hn hg hV; exact add32_any a cap xs v w hv hm hr
theorem add64_at (g cap n : Nat) (a : Option Addr) (xs : List UInt8) (v : Nat) (V : Int) (w : World) (hV : V = (v : Int)) (hg : w.heap.size = g) (hn : xs.length = n) (hv : v < 18446744073709551616) (hm : n + 8 ≤ 281474976710656) (hr : Rd w a xs) :
    Calls Tryz.prog 215 #[.slice a n cap, .int .u64 V] w fun e w' => e = .returned (.slice (some ⟨g, 0, none⟩) (n + 8) (n + 8)) ∧ Own w' g (xs ++ toBE 8 v) ∧ Below g w w' := by
  subst hn hg hV; exact add64_any a cap xs v w hv hm hr
theorem u64_at (cap n : Nat) (a : Option Addr) (xs : List UInt8) (i : Int) (v : Nat) (V : Int) (w : World) (hV : (v : Int) = V) (hn : xs.length = n) (hm : n ≤ 9223372036854775807) (hr : Rd w a xs) (hv : numAt xs i 8 = some v) :
    Calls Tryz.prog 227 #[.slice a n cap, .int .i64 i] w fun e w' => e = .returned (.tuple #[.int .u64 V, .bool true]) ∧ w = w' := by
  subst hn hV; have h := u64_any a cap xs i w hm hr; rw [hv] at h; exact h
theorem wrap16 (x : Int) : IntKind.u16.wrap x = x % 65536 := by simp [IntKind.wrap, IntKind.bits, IntKind.signed]

theorem numAt_put (pre post : List UInt8) (k v : Nat) (i : Int) (hi : i = (pre.length : Int)) : numAt (pre ++ (toBE k v ++ post)) i k = some (v % 256 ^ k) := by
  subst hi
  rw [numAt_some (by simp [toBE_length])]
  rw [List.drop_left, List.take_append_of_le_length (by simp [toBE_length]), List.take_of_length_le (by simp [toBE_length]), beNat_toBE]

/-- the head of a row of one's own -/
theorem Own.rd_head {w : World} {g : Nat} {xs post : List UInt8} (h : Own w g (xs ++ post)) : Rd w (some ⟨g, 0, none⟩) xs := fun _ => ⟨g, 0, rfl, fun j hj => by
  rw [Nat.zero_add, h.cell j (by simp; omega), List.getElem_append_left hj]⟩

end Go.Proofs.YtnldkpckojhbhaaGreat.Su

/-
  Plain facts on the register of a check sum: it is linear over bits, and forgets nothing; nothing of the program is named here.
-/
namespace Go.Proofs.YtnldkpckojhbhaaGreat.Su

/-- What is taken xor the register. -/
def taps : Nat := 2197175160

/-- One turn of a register whose lowest bit has been held against the byte's. -/
def turn (x : Nat) : Nat := if x % 2 = 1 then (x / 2) ^^^ taps else x / 2

/-- One turn with a bit. -/
def step (r b : Nat) : Nat := if r % 2 = b then r / 2 else (r / 2) ^^^ taps

/-- The register behind the first i bits of a byte. -/
def steps (r c : Nat) : Nat → Nat
  | 0 => r
  | i + 1 => step (steps r c i) (c / 2 ^ i % 2)

/-- The register behind bytes. -/
def reg (r : Nat) (xs : List UInt8) : Nat := xs.foldl (fun r c => steps r c.toNat 8) r

/-- A sum that goes on behind another one. -/
def crc (s : Nat) (xs : List UInt8) : Nat := 4294967295 - reg (4294967295 - s) xs

theorem xor_lt {a b : Nat} (ha : a < 4294967296) (hb : b < 4294967296) : a ^^^ b < 4294967296 := Nat.xor_lt_two_pow (n := 32) ha hb

theorem turn_lt {x : Nat} (h : x < 4294967296) : turn x < 4294967296 := by
  unfold turn
  split
  · exact xor_lt (by omega) (by decide)
  · omega

theorem step_lt {r : Nat} (b : Nat) (h : r < 4294967296) : step r b < 4294967296 := by
  unfold step
  split
  · omega
  · exact xor_lt (by omega) (by decide)

theorem steps_lt {r : Nat} (c : Nat) (h : r < 4294967296) (i : Nat) : steps r c i < 4294967296 := by
  induction i with
  | zero => exact h
  | succ i ih => exact step_lt _ ih

theorem reg_nil (r : Nat) : reg r [] = r := rfl
theorem reg_cons (r : Nat) (c : UInt8) (xs : List UInt8) : reg r (c :: xs) = reg (steps r c.toNat 8) xs := by unfold reg; rw [List.foldl_cons]
theorem reg_append (r : Nat) (xs ys : List UInt8) : reg r (xs ++ ys) = reg (reg r xs) ys := by simp [reg, List.foldl_append]
theorem reg_lt (xs : List UInt8) {r : Nat} (h : r < 4294967296) : reg r xs < 4294967296 := by
  induction xs generalizing r with
  | nil => rw [reg_nil]; exact h
  | cons c xs ih => rw [reg_cons]; exact ih (steps_lt _ h 8)

theorem reg_succ (r : Nat) (xs : List UInt8) (k : Nat) (h : k < xs.length) : reg r (xs.take (k + 1)) = steps (reg r (xs.take k)) xs[k].toNat 8 := by
  rw [List.take_succ_eq_append_getElem h, reg_append, reg_cons, reg_nil]

theorem xor_half (a b : Nat) : (a ^^^ b) / 2 = a / 2 ^^^ b / 2 := by
  have := Nat.shiftRight_xor_distrib (a := a) (b := b) (i := 1)
  simpa [Nat.shiftRight_eq_div_pow] using this

theorem xor_low (a b : Nat) : (a ^^^ b) % 2 = (a % 2 + b % 2) % 2 := by
  have h := Nat.testBit_xor a b 0
  simp only [Nat.testBit_zero] at h
  have ha : a % 2 = 0 ∨ a % 2 = 1 := by omega
  have hb : b % 2 = 0 ∨ b % 2 = 1 := by omega
  have hc : (a ^^^ b) % 2 = 0 ∨ (a ^^^ b) % 2 = 1 := by omega
  rcases ha with ha | ha <;> rcases hb with hb | hb <;> rcases hc with hc | hc <;> simp [ha, hb, hc] at h ⊢

/-- The turn is linear. -/
theorem turn_xor (x y : Nat) : turn (x ^^^ y) = turn x ^^^ turn y := by
  have hx : x % 2 = 0 ∨ x % 2 = 1 := by omega
  have hy : y % 2 = 0 ∨ y % 2 = 1 := by omega
  unfold turn
  rw [xor_low, xor_half]
  rcases hx with hx | hx <;> rcases hy with hy | hy <;> simp only [hx, hy]
  · rfl
  · simp only [if_true, Nat.zero_ne_one, if_false]
    rw [Nat.xor_assoc]
  · simp only [if_true, Nat.zero_ne_one, if_false]
    rw [Nat.xor_assoc, Nat.xor_assoc, Nat.xor_comm taps]
  · simp only [if_true, Nat.reduceAdd, Nat.reduceMod, Nat.zero_ne_one, if_false]
    rw [Nat.xor_assoc, ← Nat.xor_assoc taps, Nat.xor_comm taps, Nat.xor_assoc, Nat.xor_self, Nat.xor_zero]

theorem turn_zero : turn 0 = 0 := rfl

/-- A turn forgets nothing. -/
theorem turn_eq_zero {x : Nat} (h : x < 4294967296) (e : turn x = 0) : x = 0 := by
  unfold turn at e
  split at e
  · exfalso
    have h1 : (x / 2 ^^^ taps).testBit 31 = true := by
      rw [Nat.testBit_xor]
      have ha : (x / 2).testBit 31 = false := Nat.testBit_lt_two_pow (by omega)
      rw [ha]
      decide
    rw [e] at h1
    simp at h1
  · omega

/-- So many turns. -/
def turns : Nat → Nat → Nat
  | 0, x => x
  | n + 1, x => turn (turns n x)

theorem turns_lt {x : Nat} (h : x < 4294967296) : ∀ n, turns n x < 4294967296
  | 0 => h
  | n + 1 => turn_lt (turns_lt h n)
theorem turns_xor (x y : Nat) : ∀ n, turns n (x ^^^ y) = turns n x ^^^ turns n y
  | 0 => rfl
  | n + 1 => by rw [turns, turns_xor x y n, turn_xor]; rfl
theorem turns_add (x m : Nat) : ∀ n, turns (m + n) x = turns n (turns m x)
  | 0 => rfl
  | n + 1 => by rw [← Nat.add_assoc, turns, turns_add x m n]; rfl
theorem turns_eq_zero {x : Nat} (h : x < 4294967296) : ∀ n, turns n x = 0 → x = 0
  | 0, e => e
  | n + 1, e => turns_eq_zero h n (turn_eq_zero (turns_lt h n) e)

theorem xor_eq_zero {a b : Nat} (h : a ^^^ b = 0) : a = b := by
  have : a ^^^ b ^^^ b = b := by rw [h, Nat.zero_xor]
  rwa [Nat.xor_assoc, Nat.xor_self, Nat.xor_zero] at this

theorem turns_inj {x y : Nat} (hx : x < 4294967296) (hy : y < 4294967296) (n : Nat) (h : turns n x = turns n y) : x = y := by
  apply xor_eq_zero
  apply turns_eq_zero (xor_lt hx hy) n
  rw [turns_xor, h, Nat.xor_self]

/-- A bit that stands so high falls out behind so many turns. -/
theorem turns_high : ∀ (n d : Nat), turns n (d * 2 ^ n) = d
  | 0, d => by simp [turns]
  | n + 1, d => by
    have e : d * 2 ^ (n + 1) = (d * 2) * 2 ^ n := by rw [Nat.pow_succ, Nat.mul_assoc, Nat.mul_comm 2]
    rw [e, turns, turns_high n (d * 2)]
    unfold turn
    rw [if_neg (by omega)]
    omega

theorem step_turn (r b : Nat) (hb : b < 2) : step r b = turn (r ^^^ b) := by
  unfold step turn
  rw [xor_low, xor_half, show b / 2 = 0 by omega, Nat.xor_zero]
  by_cases h : r % 2 = b
  · rw [if_pos h, if_neg (by omega)]
  · rw [if_neg h, if_pos (by omega)]

theorem low_split (c i : Nat) : c % 2 ^ (i + 1) = c % 2 ^ i ^^^ (c / 2 ^ i % 2) * 2 ^ i := by
  rw [Nat.pow_succ, Nat.mod_mul]
  apply Nat.eq_of_testBit_eq
  intro j
  rw [Nat.testBit_xor, Nat.mul_comm (c / 2 ^ i % 2), Nat.add_comm, Nat.testBit_two_pow_mul_add _ (Nat.mod_lt _ (Nat.two_pow_pos i)), Nat.testBit_two_pow_mul]
  by_cases h : j < i
  · simp [h, Nat.not_le.2 h]
  · have h2 : i ≤ j := by omega
    have h3 : (c % 2 ^ i).testBit j = false := Nat.testBit_lt_two_pow (Nat.lt_of_lt_of_le (Nat.mod_lt _ (Nat.two_pow_pos i)) (Nat.pow_le_pow_right (by omega) h2))
    simp [h, h2, h3]

theorem steps_turns (r c : Nat) : ∀ i, steps r c i = turns i (r ^^^ c % 2 ^ i)
  | 0 => by simp [steps, turns, Nat.mod_one]
  | i + 1 => by
    rw [steps, steps_turns r c i, step_turn _ _ (by omega), low_split, ← Nat.xor_assoc, turns, turns_xor _ (c / 2 ^ i % 2 * 2 ^ i), turns_high]

theorem byte_turns (r : Nat) (c : UInt8) : steps r c.toNat 8 = turns 8 (r ^^^ c.toNat) := by
  rw [steps_turns]
  have := c.toNat_lt
  rw [Nat.mod_eq_of_lt (by omega)]

/-- Three registers and three lists held against each other by xor. -/
theorem reg_xor3 : ∀ (n : Nat) (a b c : List UInt8) (r s t : Nat), a.length = n → b.length = n → c.length = n →
    reg (r ^^^ s ^^^ t) (List.zipWith (· ^^^ ·) (List.zipWith (· ^^^ ·) a b) c) = reg r a ^^^ reg s b ^^^ reg t c
  | 0, a, b, c, r, s, t, ha, hb, hc => by
    rw [List.eq_nil_of_length_eq_zero ha, List.eq_nil_of_length_eq_zero hb, List.eq_nil_of_length_eq_zero hc]
    rfl
  | n + 1, a, b, c, r, s, t, ha, hb, hc => by
    match a, b, c, ha, hb, hc with
    | x :: a, y :: b, z :: c, ha, hb, hc =>
      simp only [List.zipWith_cons_cons, reg_cons]
      rw [← reg_xor3 n a b c _ _ _ (by simpa using ha) (by simpa using hb) (by simpa using hc)]
      congr 1
      rw [byte_turns, byte_turns, byte_turns, byte_turns, ← turns_xor, ← turns_xor, UInt8.toNat_xor, UInt8.toNat_xor]
      congr 1
      ac_rfl

/-- The number of bytes, the lowest first. -/
def leNat : List UInt8 → Nat
  | [] => 0
  | c :: xs => c.toNat ^^^ leNat xs * 2 ^ 8

theorem leNat_lt : ∀ (xs : List UInt8), leNat xs < 2 ^ (8 * xs.length)
  | [] => by decide
  | c :: xs => by
    have h := leNat_lt xs
    have hc := c.toNat_lt
    apply Nat.xor_lt_two_pow
    · exact Nat.lt_of_lt_of_le hc (Nat.pow_le_pow_right (by omega) (by simp; omega))
    · have e : 2 ^ (8 * (c :: xs).length) = 2 ^ (8 * xs.length) * 2 ^ 8 := by rw [← Nat.pow_add]; congr 1
      rw [e]
      exact (Nat.mul_lt_mul_right (by decide)).2 h

theorem leNat_inj : ∀ (xs ys : List UInt8), xs.length = ys.length → leNat xs = leNat ys → xs = ys
  | [], [], _, _ => rfl
  | x :: xs, y :: ys, hl, h => by
    have hx := x.toNat_lt
    have hy := y.toNat_lt
    have k : ∀ (z : UInt8) (n : Nat), (z.toNat ^^^ n * 2 ^ 8) % 2 ^ 8 = z.toNat ∧ (z.toNat ^^^ n * 2 ^ 8) / 2 ^ 8 = n := fun z n => by
      have hz := z.toNat_lt
      constructor
      · rw [Nat.xor_mod_two_pow]
        simp
      · have := Nat.shiftRight_xor_distrib (a := z.toNat) (b := n * 2 ^ 8) (i := 8)
        rw [Nat.shiftRight_eq_div_pow, Nat.shiftRight_eq_div_pow, Nat.shiftRight_eq_div_pow] at this
        rw [this, Nat.mul_div_cancel _ (by decide), Nat.div_eq_of_lt hz, Nat.zero_xor]
    unfold leNat at h
    have e1 : x.toNat = y.toNat := by rw [← (k x (leNat xs)).1, h, (k y (leNat ys)).1]
    have e2 : leNat xs = leNat ys := by rw [← (k x (leNat xs)).2, h, (k y (leNat ys)).2]
    rw [UInt8.toNat_inj.1 e1, leNat_inj xs ys (by simpa using hl) e2]

theorem reg_le : ∀ (xs : List UInt8) (r : Nat), reg r xs = turns (8 * xs.length) (r ^^^ leNat xs)
  | [], r => by simp [reg, leNat, turns]
  | c :: xs, r => by
    rw [reg_cons, reg_le xs, byte_turns]
    have e : 8 * (c :: xs).length = 8 + 8 * xs.length := by simp; omega
    rw [e, turns_add]
    congr 1
    rw [leNat, ← Nat.xor_assoc, turns_xor _ (leNat xs * 2 ^ 8), turns_high]

/-- Bytes of one list alone tell the register. -/
theorem reg_inj_start (xs : List UInt8) {r s : Nat} (hr : r < 4294967296) (hs : s < 4294967296) (h : reg r xs = reg s xs) : r = s := by
  rw [reg_le, reg_le, turns_xor, turns_xor] at h
  have h2 : turns (8 * xs.length) r = turns (8 * xs.length) s := by
    apply xor_eq_zero
    have : turns (8 * xs.length) r ^^^ turns (8 * xs.length) (leNat xs) ^^^ (turns (8 * xs.length) s ^^^ turns (8 * xs.length) (leNat xs)) = 0 := by rw [h, Nat.xor_self]
    rw [← this]
    generalize turns (8 * xs.length) r = x
    generalize turns (8 * xs.length) s = y
    generalize turns (8 * xs.length) (leNat xs) = z
    have e : x ^^^ z ^^^ (y ^^^ z) = x ^^^ y ^^^ (z ^^^ z) := by ac_rfl
    rw [e, Nat.xor_self, Nat.xor_zero]
  exact turns_inj hr hs _ h2

/-- Up to four bytes next to each other tell. -/
theorem reg_burst (pre ys zs post : List UInt8) (r : Nat) (hr : r < 4294967296) (hl : ys.length = zs.length) (h4 : ys.length ≤ 4) (h : reg r (pre ++ (ys ++ post)) = reg r (pre ++ (zs ++ post))) : ys = zs := by
  rw [reg_append, reg_append, reg_append, reg_append] at h
  have hR := reg_lt pre hr
  have h1 := reg_inj_start post (reg_lt ys hR) (reg_lt zs hR) h
  have b1 : leNat ys < 4294967296 := Nat.lt_of_lt_of_le (leNat_lt ys) (Nat.pow_le_pow_right (n := 2) (j := 32) (by omega) (by omega))
  have b2 : leNat zs < 4294967296 := Nat.lt_of_lt_of_le (leNat_lt zs) (Nat.pow_le_pow_right (n := 2) (j := 32) (by omega) (by omega))
  rw [reg_le ys, reg_le zs, ← hl] at h1
  have h2 := turns_inj (xor_lt hR b1) (xor_lt hR b2) _ h1
  apply leNat_inj _ _ hl
  have : reg r pre ^^^ (reg r pre ^^^ leNat ys) = reg r pre ^^^ (reg r pre ^^^ leNat zs) := by rw [h2]
  rwa [← Nat.xor_assoc, ← Nat.xor_assoc, Nat.xor_self, Nat.zero_xor, Nat.zero_xor] at this

theorem crc_lt (s : Nat) (xs : List UInt8) : crc s xs < 4294967296 := by unfold crc; omega

theorem flip_flip {s : Nat} (h : s < 4294967296) : 4294967295 - (4294967295 - s) = s := by omega

/-- Sums go on behind one another. -/
theorem crc_append (s : Nat) (xs ys : List UInt8) : crc (crc s xs) ys = crc s (xs ++ ys) := by
  unfold crc
  have h := reg_lt xs (r := 4294967295 - s) (by omega)
  rw [flip_flip h, reg_append]

theorem crc_nil {s : Nat} (h : s < 4294967296) : crc s [] = s := by
  unfold crc
  rw [reg_nil, flip_flip h]

theorem flip_xor {s : Nat} (h : s < 4294967296) : 4294967295 - s = s ^^^ 4294967295 := by
  apply Nat.eq_of_testBit_eq
  intro i
  have e : 4294967295 - s = 2 ^ 32 - (s + 1) := by omega
  rw [e, Nat.testBit_two_pow_sub_succ h, Nat.testBit_xor, show (4294967295 : Nat) = 2 ^ 32 - 1 by rfl, Nat.testBit_two_pow_sub_one]
  by_cases hi : i < 32
  · simp [hi]
  · have : s.testBit i = false := Nat.testBit_lt_two_pow (Nat.lt_of_lt_of_le h (Nat.pow_le_pow_right (n := 2) (i := 32) (by omega) (by omega)))
    simp [hi, this]

/-- Three lists as long held against each other have their sums held so. -/
theorem crc_xor3 (n : Nat) (a b c : List UInt8) (ha : a.length = n) (hb : b.length = n) (hc : c.length = n) :
    crc 0 (List.zipWith (· ^^^ ·) (List.zipWith (· ^^^ ·) a b) c) = crc 0 a ^^^ crc 0 b ^^^ crc 0 c := by
  unfold crc
  have h := reg_xor3 n a b c 4294967295 4294967295 4294967295 ha hb hc
  rw [Nat.xor_self, Nat.zero_xor] at h
  have l1 := reg_lt a (r := 4294967295) (by omega)
  have l2 := reg_lt b (r := 4294967295) (by omega)
  have l3 := reg_lt c (r := 4294967295) (by omega)
  simp only [Nat.sub_zero]
  rw [h, flip_xor l1, flip_xor l2, flip_xor l3, flip_xor (xor_lt (xor_lt l1 l2) l3)]
  generalize reg 4294967295 a = x
  generalize reg 4294967295 b = y
  generalize reg 4294967295 c = z
  have e : x ^^^ 4294967295 ^^^ (y ^^^ 4294967295) ^^^ (z ^^^ 4294967295) = (x ^^^ y ^^^ z ^^^ 4294967295) ^^^ (4294967295 ^^^ 4294967295) := by ac_rfl
  rw [e, Nat.xor_self, Nat.xor_zero]

theorem crc_burst (pre ys zs post : List UInt8) (hl : ys.length = zs.length) (h4 : ys.length ≤ 4) (h : crc 0 (pre ++ (ys ++ post)) = crc 0 (pre ++ (zs ++ post))) : ys = zs := by
  have l1 := reg_lt (pre ++ (ys ++ post)) (r := 4294967295) (by omega)
  have l2 := reg_lt (pre ++ (zs ++ post)) (r := 4294967295) (by omega)
  exact reg_burst pre ys zs post 4294967295 (by omega) hl h4 (by unfold crc at h; simp only [Nat.sub_zero] at h; omega)

end Go.Proofs.YtnldkpckojhbhaaGreat.Su

/-
  What the layer's calls do: the closure's turn, More, Crc; each told by the register of the plain text.
-/
namespace Go.Proofs.YtnldkpckojhbhaaGreat.Su
open Go.RowKit

/-- One variable of 32 bits in a block of its own. -/
def One (w : World) (g r : Nat) : Prop := w.heap[g]? = some (.cells #[.int .u32 (r : Int)] 216 (0, 0))

theorem One.cell {w : World} {g r : Nat} (h : One w g r) : w.cell? ⟨g, 0, none⟩ = some (.int .u32 (r : Int)) := cell_of_one h
theorem One.frozen {w : World} {g r : Nat} (h : One w g r) : w.frozen? ⟨g, 0, none⟩ = false := free_of_one h
theorem One.store {w : World} {g r : Nat} (h : One w g r) (s : Nat) : One (w.setCell ⟨g, 0, none⟩ (.int .u32 (s : Int))) g s := one_setCell h

theorem xor_u32 (a b : Nat) (ha : a < 4294967296) (hb : b < 4294967296) : bits .xor .u32 (a : Int) (b : Int) = ((a ^^^ b : Nat) : Int) := by
  have hx : a ^^^ b < 2 ^ 32 := Nat.xor_lt_two_pow (by omega) (by omega)
  have h1 : (BitVec.ofInt 32 (a : Int)).toNat = a := by
    rw [BitVec.ofInt_natCast, BitVec.toNat_ofNat]; exact Nat.mod_eq_of_lt (by omega)
  have h2 : (BitVec.ofInt 32 (b : Int)).toNat = b := by
    rw [BitVec.ofInt_natCast, BitVec.toNat_ofNat]; exact Nat.mod_eq_of_lt (by omega)
  show IntKind.u32.wrap ((BitVec.ofInt 32 (a : Int) ^^^ BitVec.ofInt 32 (b : Int)).toNat : Int) = _
  rw [BitVec.toNat_xor, h1, h2, IntKind.wrap_u32]
  omega

theorem xor_u8 (a b : Nat) (ha : a < 256) (hb : b < 256) : bits .xor .u8 (a : Int) (b : Int) = ((a ^^^ b : Nat) : Int) := by
  have hx : a ^^^ b < 2 ^ 8 := Nat.xor_lt_two_pow (by omega) (by omega)
  have h1 : (BitVec.ofInt 8 (a : Int)).toNat = a := by
    rw [BitVec.ofInt_natCast, BitVec.toNat_ofNat]; exact Nat.mod_eq_of_lt (by omega)
  have h2 : (BitVec.ofInt 8 (b : Int)).toNat = b := by
    rw [BitVec.ofInt_natCast, BitVec.toNat_ofNat]; exact Nat.mod_eq_of_lt (by omega)
  show IntKind.u8.wrap ((BitVec.ofInt 8 (a : Int) ^^^ BitVec.ofInt 8 (b : Int)).toNat : Int) = _
  rw [BitVec.toNat_xor, h1, h2, IntKind.wrap_u8]
  omega

theorem and_one (a : Nat) (ha : a < 4294967296) : bits .and .u32 (a : Int) 1 = ((a % 2 : Nat) : Int) := by
  have h := bits_mask .u32 32 (by decide) (fun n h0 h1 => by rw [IntKind.wrap_u32]; omega) 1 (by decide) (a : Int) (by omega) (by omega)
  simpa using h

theorem of_not_bne {a b : Int} (h : (a != b) = false) : a = b := by simpa using h

theorem not_u32 (s : Nat) (hs : s < 4294967296) : bits .xor .u32 IntKind.u32.max (s : Int) = ((4294967295 - s : Nat) : Int) := by
  have e : IntKind.u32.max = ((4294967295 : Nat) : Int) := by decide
  rw [e, xor_u32 _ _ (by decide) hs, Nat.xor_comm, ← flip_xor hs]

theorem turn_any (g r b : Nat) (w : World) (hr : r < 4294967296) (h : One w g r) :
    Calls Tryz.prog 277 #[.int .u32 b, .pointer (some ⟨g, 0, none⟩)] w fun e w' => e = .returned (.tuple #[]) ∧ One w' g (step r b) ∧ w.grownBy w' (some g) := by
  have hc := h.cell
  have hf := h.frozen
  have ha := and_one r hr
  have hx : bits .xor .u32 ((r : Int) / 2) 2197175160 = ((r / 2 ^^^ taps : Nat) : Int) := xor_u32 (r / 2) taps (by omega) (by decide)
  have Ha : Hid _ := ha
  have Hx : Hid _ := hx
  clear ha hx
  go_enter Tryz.func277, Tryz.ntmps277
  go_wp2
  · go_end0
    rename_i ht
    rw [Ha.out] at ht
    have hne : r % 2 ≠ b := by
      intro e
      rw [e] at ht
      simp at ht
    rw [Hx.out]
    unfold step
    rw [if_neg hne]
    exact ⟨rfl, (h.store (r / 2)).store _, grown_trans (grown_store _ _ _ _) (grown_store _ _ _ _)⟩
  · go_end0
    rename_i ht
    rw [Ha.out] at ht
    have heq : r % 2 = b := by
      have := of_not_bne ht
      omega
    unfold step
    rw [if_pos heq]
    exact ⟨rfl, h.store (r / 2), grown_store _ _ _ _⟩

theorem turn_at (g r b : Nat) (V : Int) (w : World) (hV : V = (b : Int)) (hr : r < 4294967296) (h : One w g r) :
    Calls Tryz.prog 277 #[.int .u32 V, .pointer (some ⟨g, 0, none⟩)] w fun e w' => e = .returned (.tuple #[]) ∧ One w' g (step r b) ∧ w.grownBy w' (some g) := by
  subst hV
  exact turn_any g r b w hr h

theorem byte_bit (c : UInt8) (i : Nat) : bits .and .u32 ((c.toNat : Int) % 4294967296 / 2 ^ i) 1 = ((c.toNat / 2 ^ i % 2 : Nat) : Int) := by
  have e : (c.toNat : Int) % 4294967296 = c.toNat := by have := u8_lt c; omega
  rw [e]
  have h := and_one (c.toNat / 2 ^ i) (by have := u8_lt c; have := Nat.div_le_self c.toNat (2 ^ i); omega)
  rw [← h]
  congr 1

theorem more_in (b o cap n : Nat) (xs : List UInt8) (s : Nat) (w : World) (hl : xs.length = n) (hn : n ≤ 9223372036854775807) (hs : s < 4294967296)
    (hc : ∀ j, j < n → w.cell? ⟨b, o + j, none⟩ = some (.int .u8 ((xs.getD j 0).toNat : Int))) (hb : b < w.heap.size) :
    Calls Tryz.prog 247 #[.int .u32 s, .slice (some ⟨b, o, none⟩) n cap] w fun e w' => e = .returned (.int .u32 (crc s xs : Nat)) ∧ Below w.heap.size w w' := by
  have Hl : Hid (xs.length = n) := hl
  clear hl
  have Hs : Hid _ := not_u32 s hs
  go_enter Tryz.func247, Tryz.ntmps247
  go_wp2_with fail
  rw [Hs.out]
  go_loopw [15] (fun i wr => ∃ k : Nat, k ≤ n ∧ i = .int .i64 k ∧ One wr w.heap.size (reg (4294967295 - s) (xs.take k)) ∧ Below w.heap.size w wr) (fun i _ => n - (intOf i).toNat)
  case atStart => exact ⟨0, Nat.zero_le _, rfl, heap_alloc_new w _, (Below.refl _ _).alloc (Nat.le_refl _) _⟩
  case round =>
    obtain ⟨k, hk, rfl, hone, hbel⟩ := hrel
    by_cases hlt : k < n
    · obtain ⟨c, hcc⟩ : ∃ c, xs.getD k 0 = c := ⟨_, rfl⟩
      have hcx : wr.cell? ⟨b, o + k, none⟩ = some (.int .u8 (c.toNat : Int)) := by rw [← hcc]; exact (hbel.cell (by exact hb)).trans (hc k hlt)
      obtain ⟨R, hR⟩ : ∃ R, reg (4294967295 - s) (xs.take k) = R := ⟨_, rfl⟩
      rw [hR] at hone
      have HR : Hid _ := hR
      have Hcc : Hid _ := hcc
      clear hR hcc
      have hRl : R < 4294967296 := by rw [← HR.out]; exact reg_lt _ (by omega)
      go_wp2_with fail
      go_loopw [19] (fun i wq => ∃ j : Nat, j ≤ 8 ∧ i = .int .i64 j ∧ One wq w.heap.size (steps R c.toNat j) ∧ Below w.heap.size w wq) (fun i _ => 8 - (intOf i).toNat)
      case atStart => exact ⟨0, Nat.zero_le _, rfl, hone, hbel⟩
      case round =>
        obtain ⟨j, hj, rfl, hone2, hbel2⟩ := hrel
        by_cases hlt2 : j < 8
        · go_wp2_with fail
          refine (turn_at w.heap.size (steps R c.toNat j) (c.toNat / 2 ^ j % 2) _ wr (byte_bit c j) (steps_lt _ hRl j) hone2).mono ?_
          rintro e w1 ⟨rfl, hone3, hgr⟩
          have hbel3 : Below w.heap.size w w1 := hbel2.grown hgr hbel2.size (fun k hk => by simp at hk; omega)
          clear hgr hone2 hbel2
          go_wp2
          go_roundw
          case rel => exact ⟨j + 1, by omega, by go_num, hone3, hbel3⟩
          case measure => simp [intOf]; omega
        · obtain rfl : j = 8 := by omega
          go_wp2
          go_roundw
          case rel =>
            refine ⟨k + 1, by omega, by go_num, ?_, hbel2⟩
            have hk' : k < xs.length := by rw [Hl.out]; exact hlt
            have hcc := Hcc.out
            rw [reg_succ _ _ _ hk', HR.out]
            simp only [List.getD, List.getElem?_eq_getElem hk', Option.getD_some] at hcc
            rw [hcc]
            exact hone2
          case measure => simp [intOf]; omega
    · obtain rfl : k = n := by omega
      have hce := hone.cell
      go_wp2
      go_ret
      refine ⟨?_, hbel⟩
      rw [List.take_of_length_le (by rw [Hl.out]; exact Nat.le_refl _), not_u32 _ (reg_lt _ (by omega))]
      rfl

theorem more_none (a : Option Addr) (cap : Nat) (s : Nat) (w : World) (hs : s < 4294967296) :
    Calls Tryz.prog 247 #[.int .u32 s, .slice a 0 cap] w fun e w' => e = .returned (.int .u32 (crc s [] : Nat)) ∧ Below w.heap.size w w' := by
  have Hs : Hid _ := not_u32 s hs
  have Ht : Hid _ := not_u32 (4294967295 - s) (by omega)
  go_enter Tryz.func247, Tryz.ntmps247
  go_wp2_with fail
  rw [Hs.out]
  refine wp_loop_rounds 1 ?_
  rw [rounds_succ]
  go_wp2
  go_ret
  rw [Ht.out]
  exact ⟨rfl, (Below.refl _ _).alloc (Nat.le_refl _) _⟩

/-- More: the sum that goes on behind another one. -/
theorem more_at (cap n : Nat) (a : Option Addr) (xs : List UInt8) (s : Nat) (S : Int) (w : World) (hS : S = (s : Int)) (hl : xs.length = n) (hn : n ≤ 9223372036854775807) (hs : s < 4294967296) (hr : Rd w a xs) :
    Calls Tryz.prog 247 #[.int .u32 S, .slice a n cap] w fun e w' => e = .returned (.int .u32 (crc s xs : Nat)) ∧ Below w.heap.size w w' := by
  subst hS
  by_cases h0 : 0 < n
  · obtain ⟨b, o, rfl, hc⟩ := hr (by omega)
    refine more_in b o cap n xs s w hl hn hs (fun j hj => ?_) (block_lt_of_cell (hc 0 (by omega)))
    rw [hc j (by omega)]
    simp [List.getD, List.getElem?_eq_getElem (show j < xs.length by omega)]
  · obtain rfl : n = 0 := by omega
    obtain rfl : xs = [] := List.eq_nil_of_length_eq_zero hl
    exact more_none a cap s w hs

/-- Crc: the remainder. -/
theorem crc_at (cap n : Nat) (a : Option Addr) (xs : List UInt8) (w : World) (hl : xs.length = n) (hn : n ≤ 9223372036854775807) (hr : Rd w a xs) :
    Calls Tryz.prog 217 #[.slice a n cap] w fun e w' => e = .returned (.int .u32 (crc 0 xs : Nat)) ∧ Below w.heap.size w w' := by
  have Hl : Hid _ := hl
  clear hl
  go_enter Tryz.func217, Tryz.ntmps217
  go_wp2_with (go_at_call 247; refine (more_at cap n a xs 0 0 w rfl Hl.out hn (by omega) hr).mono ?_; rintro e w1 ⟨rfl, hb⟩)
  go_ret
  exact ⟨rfl, hb⟩

theorem crc_digits : crc 0 [49, 50, 51, 52, 53, 54, 55, 56, 57] = 3808858755 := by decide +kernel

/-- Bytes of a literal text lie in a new block, whose end is marked. -/
theorem rd_marked (w : World) (fr : Nat × Nat) (xs : List UInt8) : Rd (w.alloc (.cells (bcs xs).toArray 5 fr)) (some ⟨w.heap.size, 0, none⟩) xs := fun _ => ⟨w.heap.size, 0, rfl, fun j hj => by
  rw [Nat.zero_add, cell_of_row _ w.heap.size j _ 5 fr (heap_alloc_new w _)]
  simpa using bcs_getElem? xs j hj⟩

end Go.Proofs.YtnldkpckojhbhaaGreat.Su

/-
  Extents in memory, and what Right says of them.
-/
namespace Go.Proofs.YtnldkpckojhbhaaGreat.Su
open Go.RowKit

/-- within -/
def wi (v l h : Int) : Bool := decide (l ≤ v) && decide (v ≤ h)

theorem within_at (v l h : Int) (w : World) : Calls Tryz.prog 214 #[.int .i64 v, .int .i64 l, .int .i64 h] w fun e w' => e = .returned (.bool (wi v l h)) ∧ w = w' := by
  unfold wi
  by_cases h1 : l ≤ v
  · go_enter Tryz.func214, Tryz.ntmps214
    go_wp2
    go_ret
    simp [h1]
  · go_enter Tryz.func214, Tryz.ntmps214
    go_wp2
    go_ret
    simp
    omega

structure Ext where
  a : Int
  s : Int
  c : Int
deriving DecidableEq, Inhabited

/-- The extents es lie where a says (of none nothing is asked). -/
def RdE (w : World) (ad : Option Addr) (es : List Ext) : Prop :=
  0 < es.length → ∃ b o, ad = some ⟨b, o, none⟩ ∧ ∀ j (h : j < es.length), w.cell? ⟨b, o + j * 3, none⟩ = some (.int .i64 es[j].a) ∧ w.cell? ⟨b, o + j * 3 + 1, none⟩ = some (.int .i64 es[j].s) ∧ w.cell? ⟨b, o + j * 3 + 2, none⟩ = some (.int .i64 es[j].c)

/-- One whole number in a block of its own. -/
def OneI (w : World) (g : Nat) (r : Int) : Prop := w.heap[g]? = some (.cells #[.int .i64 r] 3 (0, 0))
theorem OneI.cell {w : World} {g : Nat} {r : Int} (h : OneI w g r) : w.cell? ⟨g, 0, none⟩ = some (.int .i64 r) := cell_of_one h
theorem OneI.frozen {w : World} {g : Nat} {r : Int} (h : OneI w g r) : w.frozen? ⟨g, 0, none⟩ = false := free_of_one h
theorem OneI.store {w : World} {g : Nat} {r : Int} (h : OneI w g r) (s : Int) : OneI (w.setCell ⟨g, 0, none⟩ (.int .i64 s)) g s := one_setCell h

def badE (e : Ext) (d : Int) : Bool := decide (e.c < 1) || !wi e.a d (512 - e.c) || !wi e.s 1 (512 - e.c)

theorem OneI.lt {w : World} {g : Nat} {r : Int} (h : OneI w g r) : g < w.heap.size := (Array.getElem?_eq_some_iff.1 h).1
theorem OneI.alloc {w : World} {g : Nat} {r : Int} (h : OneI w g r) (o : Obj) : OneI (w.alloc o) g r := (Below.heap_alloc w o g h.lt).trans h
theorem OneI.below {B : Nat} {w w' : World} {g : Nat} {r : Int} (h : OneI w g r) (hb : Below B w w') (hg : g < B) : OneI w' g r := (hb.block g hg).trans h

theorem wi_true {v l h : Int} (k : wi v l h = true) : l ≤ v ∧ v ≤ h := by simpa [wi] using k

/-- An extent's numbers are whole numbers of 64 bits. -/
def wfE (e : Ext) : Prop := (-9223372036854775808 ≤ e.a ∧ e.a ≤ 9223372036854775807) ∧ (-9223372036854775808 ≤ e.s ∧ e.s ≤ 9223372036854775807) ∧ (-9223372036854775808 ≤ e.c ∧ e.c ≤ 9223372036854775807)

/-- Right extents, from a place on. -/
def rightFrom : Int → List Ext → Bool
  | _, [] => true
  | d, e :: es => !badE e d && rightFrom (e.a + e.c) es

theorem rightFrom_append (d : Int) (xs : List Ext) (e : Ext) (h : rightFrom d xs = true) : rightFrom d (xs ++ [e]) = !badE e (xs.foldl (fun _ x => x.a + x.c) d) := by
  induction xs generalizing d with
  | nil => simp [rightFrom]
  | cons x l ih =>
    simp only [rightFrom, List.cons_append, Bool.and_eq_true] at h ⊢
    rw [ih _ h.2, h.1]
    simp
theorem rightFrom_head (d : Int) (xs ys : List Ext) (h : rightFrom d xs = false) : rightFrom d (xs ++ ys) = false := by
  induction xs generalizing d with
  | nil => simp [rightFrom] at h
  | cons x l ih =>
    simp only [rightFrom, List.cons_append, Bool.and_eq_false_iff] at h ⊢
    rcases h with h | h
    · exact .inl h
    · exact .inr (ih _ h)
/-- where the last extent ends -/
def endOf (xs : List Ext) : Int := xs.foldl (fun _ x => x.a + x.c) 0
theorem endOf_snoc (xs : List Ext) (e : Ext) : endOf (xs ++ [e]) = e.a + e.c := by simp [endOf]
theorem badE_false {e : Ext} {d : Int} (h : badE e d = false) : 1 ≤ e.c ∧ d ≤ e.a ∧ e.a ≤ 512 - e.c ∧ 1 ≤ e.s ∧ e.s ≤ 512 - e.c := by
  simp [badE, wi] at h
  omega
theorem endOf_nonneg (xs : List Ext) (d : Int) (hd : 0 ≤ d) (h : rightFrom d xs = true) : 0 ≤ xs.foldl (fun _ x => x.a + x.c) d := by
  induction xs generalizing d with
  | nil => simpa using hd
  | cons x l ih =>
    simp only [rightFrom, Bool.and_eq_true, Bool.not_eq_true'] at h
    have := badE_false h.1
    exact ih _ (by show 0 ≤ x.a + x.c; omega) h.2

theorem RdE.lt {w : World} {a : Option Addr} {es : List Ext} (h : RdE w a es) (hp : 0 < es.length) (ad : Addr) (ha : a = some ad) : ad.block < w.heap.size := by
  obtain ⟨b, o, h1, h2⟩ := h hp
  rw [ha] at h1
  obtain rfl := Option.some.inj h1
  exact block_lt_of_cell (h2 0 hp).1
theorem RdE.below {B : Nat} {w w' : World} {a : Option Addr} {es : List Ext} (h : RdE w a es) (hb : Below B w w') (hB : w.heap.size ≤ B) : RdE w' a es := fun hp => by
  obtain ⟨b, o, ha, hc⟩ := h hp
  have hlt : b < B := Nat.lt_of_lt_of_le (block_lt_of_cell (hc 0 hp).1) hB
  refine ⟨b, o, ha, fun j hj => ?_⟩
  obtain ⟨h0, h1, h2⟩ := hc j hj
  exact ⟨(hb.cell (p := ⟨b, _, none⟩) hlt).trans h0, (hb.cell (p := ⟨b, _, none⟩) hlt).trans h1, (hb.cell (p := ⟨b, _, none⟩) hlt).trans h2⟩
theorem RdE.nil (w : World) (a : Option Addr) : RdE w a [] := fun h => absurd h (by simp)

end Go.Proofs.YtnldkpckojhbhaaGreat.Su

/-
  What stands behind what is right: isThenNoughts and what it calls; padded.
-/
namespace Go.Proofs.YtnldkpckojhbhaaGreat.Su
open Go.RowKit

theorem equal_at (ca cb n m : Nat) (a b : Option Addr) (xs ys : List UInt8) (w : World) (hn : xs.length = n) (hm : ys.length = m) (ha : Rd w a xs) (hb : Rd w b ys) :
    Calls Tryz.prog 288 #[.slice a n ca, .slice b m cb] w fun e w' => e = .returned (.bool (xs == ys)) ∧ w = w' := by
  subst hn hm
  have h1 := conv_run w a ca xs ha
  have h2 := conv_run w b cb ys hb
  go_enter Tryz.func288, Tryz.ntmps288
  go_wp2
  go_ret
  exact ⟨rfl, rfl⟩

theorem Rd.take {w : World} {a : Option Addr} {xs : List UInt8} (h : Rd w a xs) (k : Nat) : Rd w a (xs.take k) := by
  have e := (List.take_append_drop k xs).symm
  rw [e] at h
  exact h.head

theorem Rd.isNil {w : World} {xs : List UInt8} (h : Rd w none xs) : xs = [] := by
  cases xs with
  | nil => rfl
  | cons c l =>
    obtain ⟨_, _, h', _⟩ := h (by simp)
    simp at h'

/-- The bytes from k on lie k further. -/
theorem Rd.drop {w : World} {b o : Nat} {xs : List UInt8} (h : Rd w (some ⟨b, o, none⟩) xs) (k : Nat) : Rd w (some ⟨b, o + k, none⟩) (xs.drop k) := fun hp => by
  have hk : k < xs.length := by simp at hp; omega
  obtain ⟨b', o', he, hc⟩ := h (by omega)
  simp only [Option.some.injEq, Addr.mk.injEq, and_true] at he
  obtain ⟨rfl, rfl⟩ := he
  refine ⟨b, o + k, rfl, fun j hj => ?_⟩
  have hj' : k + j < xs.length := by simp at hj; omega
  rw [Nat.add_assoc, hc (k + j) hj']
  simp

theorem prefix_at (ca cb n m : Nat) (a b : Option Addr) (xs ys : List UInt8) (w : World) (hn : xs.length = n) (hm : ys.length = m) (hcap : n ≤ ca) (_hmax : ca ≤ 9223372036854775807) (_hM : m ≤ 9223372036854775807) (ha : Rd w a xs) (hb : Rd w b ys) :
    Calls Tryz.prog 264 #[.slice a n ca, .slice b m cb] w fun e w' => e = .returned (.bool (decide (m ≤ n) && xs.take m == ys)) ∧ w = w' := by
  by_cases h : m ≤ n
  · have htl : Hid ((xs.take m).length = m) := by show _ = _; simp; omega
    have ht := ha.take m
    have hn0 : m ≤ ca := by omega
    have Hm : Hid _ := hm
    clear hn hm
    go_enter Tryz.func264, Tryz.ntmps264
    go_wp2_with fail
    all_goals refine (equal_at _ cb m m _ b (xs.take m) ys w htl.out Hm.out ht hb).mono ?_
    all_goals rintro e w' ⟨rfl, rfl⟩
    all_goals go_wp2
    all_goals go_ret
    all_goals simp [h]
  · clear hn hm
    go_enter Tryz.func264, Tryz.ntmps264
    go_wp2
    go_ret
    simp [h]

theorem set_at (c : UInt8) (w : World) : Calls Tryz.prog 263 #[.int .u8 (c.toNat : Int)] w fun e w' => e = .returned (.bool (c != 0)) ∧ w = w' := by
  have h : ((c.toNat : Int) != 0) = (c != 0) := by
    by_cases e : c = 0
    · subst e; rfl
    · have e2 : c.toNat ≠ 0 := fun h => e (UInt8.toNat_inj.1 h)
      have h1 : (c != 0) = true := by simpa using e
      have h2 : ((c.toNat : Int) != 0) = true := by simp; omega
      rw [h1, h2]
  go_enter Tryz.func263, Tryz.ntmps263
  go_wp2
  go_ret
  rw [← h]
  exact ⟨rfl, rfl⟩

theorem all_take_succ (xs : List UInt8) (k : Nat) (h : k < xs.length) (ha : (xs.take k).all (· == 0) = true) (hc : (xs[k] != 0) = false) : (xs.take (k + 1)).all (· == 0) = true := by
  rw [List.take_succ_eq_append_getElem h, List.all_append, ha]
  simpa using hc

theorem indexB_in (b o cap n : Nat) (xs : List UInt8) (w : World) (hl : xs.length = n) (hn : n ≤ 9223372036854775807) (hc : ∀ j (h : j < xs.length), w.cell? ⟨b, o + j, none⟩ = some (.int .u8 (xs[j].toNat : Int))) :
    Calls Tryz.prog 289 #[.slice (some ⟨b, o, none⟩) n cap, .func (.func 263) #[] #[]] w fun e w' => (∃ r : Int, e = .returned (.int .i64 r) ∧ decide (0 ≤ r) = !xs.all (· == 0)) ∧ w = w' := by
  have Hl : Hid _ := hl
  have Hc : Hid _ := hc
  clear hl hc
  go_enter Tryz.func289, Tryz.ntmps289
  go_wp2_with fail
  go_loop [8] (fun i => ∃ k : Nat, k ≤ n ∧ i = .int .i64 k ∧ Hid ((xs.take k).all (· == 0) = true)) (fun i => n - (intOf i).toNat)
  case atStart => exact ⟨0, Nat.zero_le _, rfl, by show _ = _; simp⟩
  case round =>
    obtain ⟨k, hk, rfl, hall⟩ := hrel
    by_cases hlt : k < n
    · have hlt' : Hid (k < xs.length) := by show _ < _; rw [Hl.out]; exact hlt
      obtain ⟨c, hcc⟩ : ∃ c, c = xs[k]'hlt'.out := ⟨_, rfl⟩
      have hce := Hc.out k hlt'.out
      rw [← hcc] at hce
      have Hcc : Hid _ := hcc
      clear hcc
      go_wp2_with fail
      refine (set_at c w).mono ?_
      rintro e w' ⟨rfl, rfl⟩
      cases hz : (c != 0)
      · go_wp2
        go_round
        case rel => exact ⟨k + 1, by omega, by go_num, all_take_succ xs k hlt'.out hall.out (by rw [← Hcc.out]; exact hz)⟩
        case measure => simp [intOf]; omega
      · go_wp2
        go_ret
        refine ⟨⟨k, rfl, ?_⟩, rfl⟩
        have h1 : xs.all (· == 0) = false := by
          rw [List.all_eq_false]
          exact ⟨xs[k]'hlt'.out, List.getElem_mem _, by rw [← Hcc.out]; simpa using hz⟩
        rw [h1]
        simp
    · obtain rfl : k = n := by omega
      go_wp2
      go_ret
      refine ⟨⟨-1, rfl, ?_⟩, rfl⟩
      have h1 := hall.out
      rw [List.take_of_length_le (by rw [Hl.out]; exact Nat.le_refl _)] at h1
      rw [h1]
      rfl

theorem indexB_none (a : Option Addr) (cap : Nat) (w : World) :
    Calls Tryz.prog 289 #[.slice a 0 cap, .func (.func 263) #[] #[]] w fun e w' => (∃ r : Int, e = .returned (.int .i64 r) ∧ decide (0 ≤ r) = !([] : List UInt8).all (· == 0)) ∧ w = w' := by
  go_enter Tryz.func289, Tryz.ntmps289
  go_wp2_with fail
  refine wp_loop_rounds 1 ?_
  rw [rounds_succ]
  go_wp2
  go_ret
  exact ⟨⟨-1, rfl, rfl⟩, rfl⟩

theorem containsB_at (cap n : Nat) (a : Option Addr) (xs : List UInt8) (w : World) (hl : xs.length = n) (hn : n ≤ 9223372036854775807) (hr : Rd w a xs) :
    Calls Tryz.prog 265 #[.slice a n cap, .func (.func 263) #[] #[]] w fun e w' => e = .returned (.bool (!xs.all (· == 0))) ∧ w = w' := by
  have c : Calls Tryz.prog 289 #[.slice a n cap, .func (.func 263) #[] #[]] w fun e w' => (∃ r : Int, e = .returned (.int .i64 r) ∧ decide (0 ≤ r) = !xs.all (· == 0)) ∧ w = w' := by
    by_cases h0 : 0 < n
    · obtain ⟨b, o, rfl, hc⟩ := hr (by omega)
      exact indexB_in b o cap n xs w hl hn hc
    · obtain rfl : n = 0 := by omega
      obtain rfl : xs = [] := List.eq_nil_of_length_eq_zero hl
      exact indexB_none a cap w
  generalize (!xs.all (· == 0)) = q at c ⊢
  clear hl
  go_enter Tryz.func265, Tryz.ntmps265
  go_wp2_with fail
  refine c.mono ?_
  rintro e w' ⟨⟨r, rfl, hq⟩, rfl⟩
  go_wp2
  go_ret
  exact ⟨by rw [← hq]; rfl, rfl⟩

/-- ys, and nothing but noughts behind them -/
def isThen (xs ys : List UInt8) : Bool := decide (ys.length ≤ xs.length) && xs.take ys.length == ys && (xs.drop ys.length).all (· == 0)

theorem isThen_at (ca cb n m : Nat) (a b : Option Addr) (xs ys : List UInt8) (w : World) (hn : xs.length = n) (hm : ys.length = m) (hcap : n ≤ ca) (hmax : ca ≤ 9223372036854775807) (hM : m ≤ 9223372036854775807) (hnil : a = none → ca = 0) (ha : Rd w a xs) (hb : Rd w b ys) :
    Calls Tryz.prog 228 #[.slice a n ca, .slice b m cb] w fun e w' => e = .returned (.bool (isThen xs ys)) ∧ w = w' := by
  unfold isThen
  rw [hn, hm]
  have c1 := prefix_at ca cb n m a b xs ys w hn hm hcap hmax hM ha hb
  cases hq : (decide (m ≤ n) && xs.take m == ys)
  · rw [hq] at c1
    clear hn hm
    go_enter Tryz.func228, Tryz.ntmps228
    go_wp2_with fail
    refine c1.mono ?_
    rintro e w' ⟨rfl, rfl⟩
    go_wp2
    go_ret
    exact ⟨rfl, rfl⟩
  · rw [hq] at c1
    have hmn : m ≤ n := by
      by_cases h : m ≤ n
      · exact h
      · simp [h] at hq
    have hdl : Hid ((xs.drop m).length = n - m) := by show _ = _; simp; omega
    have hmc : m ≤ ca := by omega
    clear hn hm hq hb
    go_enter Tryz.func228, Tryz.ntmps228
    go_wp2_with fail
    refine c1.mono ?_
    rintro e w' ⟨rfl, rfl⟩
    clear c1
    go_wp2_with fail
    · have e0 : xs.drop m = [] := List.eq_nil_of_length_eq_zero (by rw [hdl.out]; omega)
      have e1 : n - m = 0 := by omega
      rw [e1]
      refine (containsB_at 0 0 a [] w rfl (by omega) (Rd.nil _ _)).mono ?_
      rintro e w' ⟨rfl, rfl⟩
      go_wp2
      go_ret
      rw [e0]
      exact ⟨rfl, rfl⟩
    · have hrd : Rd w (Option.map (fun x => x.add m) a) (xs.drop m) := by
        cases a with
        | none => exact absurd (hnil rfl) (by omega)
        | some ad =>
          by_cases hp : 0 < xs.length
          · obtain ⟨b', o', he, _⟩ := ha hp
            obtain rfl := Option.some.inj he
            have h := ha.drop m
            rw [← Addr.add_lit] at h
            exact h
          · have : xs.drop m = [] := List.eq_nil_of_length_eq_zero (by simp; omega)
            rw [this]
            exact Rd.nil _ _
      refine (containsB_at (ca - m) (n - m) _ (xs.drop m) w hdl.out (by omega) hrd).mono ?_
      rintro e w' ⟨rfl, rfl⟩
      go_wp2
      go_ret
      exact ⟨by simp, rfl⟩

theorem padded_at (g cap n N : Nat) (a : Option Addr) (xs : List UInt8) (S : Int) (w : World) (hS : S = (N : Int)) (hg : w.heap.size = g) (hn : xs.length = n) (hN : n ≤ N) (hm : N ≤ 281474976710656) (hr : Rd w a xs) :
    Calls Tryz.prog 176 #[.slice a n cap, .int .i64 S] w fun e w' => e = .returned (.slice (some ⟨g, 0, none⟩) N N) ∧ Own w' g (xs ++ List.replicate (N - n) 0) ∧ Below g w w' := by
  subst hS hg hn
  obtain ⟨i0, hi, hz0, hz1, hz2⟩ := info_parts info5
  have hmk : ∀ u : World, (Instr.makeSlice 37 (.int .i64 (N : Int)) (.int .i64 (N : Int))).run Tryz.prog u =
      .ok (.slice (some ⟨u.heap.size, 0, none⟩) N N) (u.alloc (.cells (madeCells #[.int .u8 0] N) 5)) := fun u => by
    have h := run_make (P := Tryz.prog) u 37 5 i0 (.int .u8 0) Tryz.underlying37 hi hz0 .i64 .i64 (N : Int) (N : Int) (by omega) (Int.le_refl _) (by rw [hz2]; omega) (by omega)
    have e : ((N : Int)).toNat = N := by omega
    rw [e, hz1, Nat.mul_one] at h
    exact h
  have ho : Own (w.alloc (.cells (madeCells #[.int .u8 0] N) 5)) w.heap.size (List.replicate N 0) := by
    rw [made_zero]; exact heap_alloc_new w _
  have hb0 : Below w.heap.size w (w.alloc (.cells (madeCells #[.int .u8 0] N) 5)) := (Below.refl _ _).alloc (Nat.le_refl _) _
  obtain ⟨W, hcp, hoW, hgW⟩ := copy_run w.heap.size 0 N N (some ⟨w.heap.size, 0, none⟩) a cap xs (List.replicate N 0) _ ho (hr.below hb0 (Nat.le_refl _)) (fun _ => rfl) hN (by simpa using hN)
  have hbW : Below w.heap.size w W := hb0.grown hgW (by simp) (fun k hk => by simp at hk; omega)
  have hres : Own W w.heap.size (xs ++ List.replicate (N - xs.length) 0) := by
    have e : (List.replicate N (0 : UInt8)).drop (0 + xs.length) = List.replicate (N - xs.length) 0 := by simp
    rw [e] at hoW
    simpa using hoW
  clear hb0 ho hoW hgW hr
  go_enter Tryz.func176, Tryz.ntmps176
  go_wp2
  go_ret
  exact ⟨rfl, hres, hbW⟩
end Go.Proofs.YtnldkpckojhbhaaGreat.Su

/-
  A superblock: what is right, its bytes, PutSuper.
-/
namespace Go.Proofs.YtnldkpckojhbhaaGreat.Su
open Go.RowKit

def rightS (b e q t : Int) : Bool := wi b 64 512 && (wi e 1 8388608 && (wi q 1 549755813888 && wi t 0 511))

set_option maxHeartbeats 400000 in
theorem rightSuper_at (b e q t : Int) (w : World) : Calls Tryz.prog 175 #[.agg #[.int .i64 b, .int .i64 e, .int .i64 q, .int .i64 t]] w fun r w' => r = .returned (.bool (rightS b e q t)) ∧ Below w.heap.size w w' := by
  unfold rightS
  have hb := fun o => (Below.refl w.heap.size w).alloc (Nat.le_refl _) o
  cases h1 : wi b 64 512
  · go_enter Tryz.func175, Tryz.ntmps175
    go_wp2_with fail
    refine (within_at _ _ _ _).mono ?_
    rintro r w' ⟨rfl, rfl⟩
    rw [h1]
    go_wp2
    go_ret
    exact ⟨rfl, hb _⟩
  · cases h2 : wi e 1 8388608
    · go_enter Tryz.func175, Tryz.ntmps175
      go_wp2_with fail
      refine (within_at _ _ _ _).mono ?_
      rintro r w' ⟨rfl, rfl⟩
      rw [h1]
      go_wp2_with fail
      refine (within_at _ _ _ _).mono ?_
      rintro r w' ⟨rfl, rfl⟩
      rw [h2]
      go_wp2
      go_ret
      exact ⟨rfl, hb _⟩
    · cases h3 : wi q 1 549755813888
      · go_enter Tryz.func175, Tryz.ntmps175
        go_wp2_with fail
        refine (within_at _ _ _ _).mono ?_
        rintro r w' ⟨rfl, rfl⟩
        rw [h1]
        go_wp2_with fail
        refine (within_at _ _ _ _).mono ?_
        rintro r w' ⟨rfl, rfl⟩
        rw [h2]
        go_wp2_with fail
        refine (within_at _ _ _ _).mono ?_
        rintro r w' ⟨rfl, rfl⟩
        rw [h3]
        go_wp2
        go_ret
        exact ⟨rfl, hb _⟩
      · go_enter Tryz.func175, Tryz.ntmps175
        go_wp2_with fail
        refine (within_at _ _ _ _).mono ?_
        rintro r w' ⟨rfl, rfl⟩
        rw [h1]
        go_wp2_with fail
        refine (within_at _ _ _ _).mono ?_
        rintro r w' ⟨rfl, rfl⟩
        rw [h2]
        go_wp2_with fail
        refine (within_at _ _ _ _).mono ?_
        rintro r w' ⟨rfl, rfl⟩
        rw [h3]
        go_wp2_with fail
        refine (within_at _ _ _ _).mono ?_
        rintro r w' ⟨rfl, rfl⟩
        go_wp2
        go_ret
        exact ⟨rfl, hb _⟩

theorem rightS_nat {b e q t : Int} (h : rightS b e q t = true) : (64 ≤ b ∧ b ≤ 512) ∧ (1 ≤ e ∧ e ≤ 8388608) ∧ (1 ≤ q ∧ q ≤ 549755813888) ∧ (0 ≤ t ∧ t ≤ 511) := by
  simpa [rightS, wi] using h

def letters : List UInt8 := [76, 69, 68, 71, 69, 82, 48, 49]
/-- the first k numbers behind the letters -/
def lead (vs : List Nat) : List UInt8 := letters ++ vs.flatMap (toBE 8)
theorem lead_length (vs : List Nat) : (lead vs).length = 8 + 8 * vs.length := by
  induction vs with
  | nil => rfl
  | cons v l ih => simp [lead, toBE_length] at ih ⊢; omega
theorem lead_snoc (vs : List Nat) (v : Nat) : lead (vs ++ [v]) = lead vs ++ toBE 8 v := by simp [lead]
def headS (b e q t : Nat) : List UInt8 := lead [b, e, q, t] ++ toBE 4 (crc 0 (lead [b, e, q, t]))
theorem headS_length (b e q t : Nat) : (headS b e q t).length = 44 := by simp [headS, lead_length, toBE_length]
/-- so many noughts -/
def noughts (n : Nat) : List UInt8 := List.replicate n 0
theorem noughts_length (n : Nat) : (noughts n).length = n := List.length_replicate
def superB (b e q t : Nat) : List UInt8 := headS b e q t ++ noughts 4052
theorem superB_length (b e q t : Nat) : (superB b e q t).length = 4096 := by rw [superB, List.length_append, headS_length, noughts_length]

theorem cell_new (w : World) (cs : Array Value) (t : TypeId) (fr : Nat × Nat) (j : Nat) : (w.alloc (.cells cs t fr)).cell? ⟨w.heap.size, j, none⟩ = cs[j]? := cell_of_row _ w.heap.size j cs t fr (heap_alloc_new w _)

/-- the world behind the letters and the four numbers -/
theorem headWorld (b e q t : Nat) (w W : World) (hW : W = (((w.alloc (.cells #[.int .i64 b, .int .i64 e, .int .i64 q, .int .i64 t] 141)).alloc (.cells #[.int .u8 76, .int .u8 69, .int .u8 68, .int .u8 71, .int .u8 69, .int .u8 82, .int .u8 48, .int .u8 49] 5 (8, 9))).alloc (.cells #[.int .i64 b, .int .i64 e, .int .i64 q, .int .i64 t] 3))) :
    Rd W (some ⟨w.heap.size + 1, 0, none⟩) letters ∧ (W.cell? ⟨w.heap.size + 1 + 1, 0, none⟩ = some (.int .i64 b) ∧ W.cell? ⟨w.heap.size + 1 + 1, 1, none⟩ = some (.int .i64 e) ∧ W.cell? ⟨w.heap.size + 1 + 1, 2, none⟩ = some (.int .i64 q) ∧ W.cell? ⟨w.heap.size + 1 + 1, 3, none⟩ = some (.int .i64 t)) ∧ Below w.heap.size w W ∧ W.heap.size = w.heap.size + 3 := by
  obtain ⟨w1, h1⟩ : ∃ w1, w1 = w.alloc (.cells #[.int .i64 b, .int .i64 e, .int .i64 q, .int .i64 t] 141) := ⟨_, rfl⟩
  obtain ⟨w2, h2⟩ : ∃ w2, w2 = w1.alloc (.cells #[.int .u8 76, .int .u8 69, .int .u8 68, .int .u8 71, .int .u8 69, .int .u8 82, .int .u8 48, .int .u8 49] 5 (8, 9)) := ⟨_, rfl⟩
  rw [← h1, ← h2] at hW
  have s1 : w1.heap.size = w.heap.size + 1 := by rw [h1]; simp
  have s2 : w2.heap.size = w.heap.size + 1 + 1 := by rw [h2]; simp [s1]
  have b1 : Below w.heap.size w w1 := by rw [h1]; exact (Below.refl _ _).alloc (Nat.le_refl _) _
  have b2 : Below w1.heap.size w1 w2 := by rw [h2]; exact (Below.refl _ _).alloc (Nat.le_refl _) _
  have b3 : Below w2.heap.size w2 W := by rw [hW]; exact (Below.refl _ _).alloc (Nat.le_refl _) _
  refine ⟨?_, ?_, b1.trans ((b2.mono b1.size).trans (b3.mono (Nat.le_trans b1.size b2.size))), by rw [hW]; simp [s2]⟩
  · have h := rd_marked w1 (8, 9) letters
    have e1 : (bcs letters).toArray = #[.int .u8 76, .int .u8 69, .int .u8 68, .int .u8 71, .int .u8 69, .int .u8 82, .int .u8 48, .int .u8 49] := rfl
    rw [e1, ← h2, s1] at h
    exact h.below b3 (Nat.le_refl _)
  · have h := cell_new w2 #[.int .i64 b, .int .i64 e, .int .i64 q, .int .i64 t] 3 (0, 0)
    rw [← hW, s2] at h
    exact ⟨h 0, h 1, h 2, h 3⟩

set_option maxRecDepth 100000 in
set_option maxHeartbeats 1000000 in
theorem superHead_at (b e q t : Nat) (w : World) (hb : b < 9223372036854775808) (he : e < 9223372036854775808) (hq : q < 9223372036854775808) (ht : t < 9223372036854775808) :
    Calls Tryz.prog 177 #[.agg #[.int .i64 b, .int .i64 e, .int .i64 q, .int .i64 t]] w fun r w' => ∃ g, r = .returned (.slice (some ⟨g, 0, none⟩) 44 44) ∧ w.heap.size ≤ g ∧ Own w' g (headS b e q t) ∧ Below w.heap.size w w' := by
  obtain ⟨L0, hL0⟩ : ∃ L, L = letters := ⟨_, rfl⟩
  obtain ⟨L1, hL1⟩ : ∃ L, L = L0 ++ toBE 8 b := ⟨_, rfl⟩
  obtain ⟨L2, hL2⟩ : ∃ L, L = L1 ++ toBE 8 e := ⟨_, rfl⟩
  obtain ⟨L3, hL3⟩ : ∃ L, L = L2 ++ toBE 8 q := ⟨_, rfl⟩
  obtain ⟨L4, hL4⟩ : ∃ L, L = L3 ++ toBE 8 t := ⟨_, rfl⟩
  have N0 : Hid (L0.length = 8) := by rw [hL0]; exact rfl
  have N1 : Hid (L1.length = 16) := by rw [hL1, List.length_append, toBE_length, N0.out]; exact rfl
  have N2 : Hid (L2.length = 24) := by rw [hL2, List.length_append, toBE_length, N1.out]; exact rfl
  have N3 : Hid (L3.length = 32) := by rw [hL3, List.length_append, toBE_length, N2.out]; exact rfl
  have N4 : Hid (L4.length = 40) := by rw [hL4, List.length_append, toBE_length, N3.out]; exact rfl
  have E4 : Hid (lead [b, e, q, t] = L4) := by show _ = _; rw [hL4, hL3, hL2, hL1, hL0]; simp [lead]
  have U0 : Hid _ := hL0
  have U1 : Hid _ := hL1
  have U2 : Hid _ := hL2
  have U3 : Hid _ := hL3
  have U4 : Hid _ := hL4
  clear hL0 hL1 hL2 hL3 hL4
  have kc := Lib.run_convert_bytes_const (P := Tryz.prog) (w.alloc (.cells #[.int .i64 b, .int .i64 e, .int .i64 q, .int .i64 t] 141)) 37 5 #[.int .u8 76, .int .u8 69, .int .u8 68, .int .u8 71, .int .u8 69, .int .u8 82, .int .u8 48, .int .u8 49] 8 8 Tryz.underlying37 Tryz.underlying5
  have sz : (w.alloc (.cells #[.int .i64 b, .int .i64 e, .int .i64 q, .int .i64 t] 141)).heap.size = w.heap.size + 1 := by simp
  rw [sz] at kc
  go_enter Tryz.func177, Tryz.ntmps177
  go_wp2_with fail
  refine wp_loop_rounds 5 ?_
  rw [rounds_succ]
  go_wp2_with fail
  clear kc sz
  obtain ⟨W, hW⟩ : ∃ W, W = (((w.alloc (.cells #[.int .i64 b, .int .i64 e, .int .i64 q, .int .i64 t] 141)).alloc (.cells #[.int .u8 76, .int .u8 69, .int .u8 68, .int .u8 71, .int .u8 69, .int .u8 82, .int .u8 48, .int .u8 49] 5 (8, 9))).alloc (.cells #[.int .i64 b, .int .i64 e, .int .i64 q, .int .i64 t] 3)) := ⟨_, rfl⟩
  rw [← hW]
  obtain ⟨hr, ⟨c0, c1, c2, c3⟩, hB, hs⟩ := headWorld b e q t w W hW
  rw [← U0.out] at hr
  clear hW
  refine (add64_at W.heap.size _ 8 _ L0 b _ W rfl rfl N0.out (by omega) (by omega) hr).mono ?_
  rintro r w1 ⟨rfl, o1, b1⟩
  rw [← U1.out] at o1
  have B1 := hB.trans (b1.mono hB.size)
  have d1 := (b1.cell (p := ⟨w.heap.size + 1 + 1, 1, none⟩) (by simp; omega)).trans c1
  have d2 := (b1.cell (p := ⟨w.heap.size + 1 + 1, 2, none⟩) (by simp; omega)).trans c2
  have d3 := (b1.cell (p := ⟨w.heap.size + 1 + 1, 3, none⟩) (by simp; omega)).trans c3
  have s1 := b1.size
  have s0 : w.heap.size + 3 ≤ W.heap.size := by omega
  clear c0 c1 c2 c3 hr b1 hB hs
  go_wp2_with fail
  rw [rounds_succ]
  go_wp2_with fail
  refine (add64_at w1.heap.size _ 16 _ L1 e _ w1 rfl rfl N1.out (by omega) (by omega) o1.rd).mono ?_
  rintro r w2 ⟨rfl, o2, b2⟩
  rw [← U2.out] at o2
  have B2 := B1.trans (b2.mono B1.size)
  have e2 := (b2.cell (p := ⟨w.heap.size + 1 + 1, 2, none⟩) (by simp; omega)).trans d2
  have e3 := (b2.cell (p := ⟨w.heap.size + 1 + 1, 3, none⟩) (by simp; omega)).trans d3
  have s2 := b2.size
  clear d1 d2 d3 o1 b2 B1
  go_wp2_with fail
  rw [rounds_succ]
  go_wp2_with fail
  refine (add64_at w2.heap.size _ 24 _ L2 q _ w2 rfl rfl N2.out (by omega) (by omega) o2.rd).mono ?_
  rintro r w3 ⟨rfl, o3, b3⟩
  rw [← U3.out] at o3
  have B3 := B2.trans (b3.mono B2.size)
  have f3 := (b3.cell (p := ⟨w.heap.size + 1 + 1, 3, none⟩) (by simp; omega)).trans e3
  have s3 := b3.size
  clear e2 e3 o2 b3 B2
  go_wp2_with fail
  rw [rounds_succ]
  go_wp2_with fail
  refine (add64_at w3.heap.size _ 32 _ L3 t _ w3 rfl rfl N3.out (by omega) (by omega) o3.rd).mono ?_
  rintro r w4 ⟨rfl, o4, b4⟩
  rw [← U4.out] at o4
  have B4 := B3.trans (b4.mono B3.size)
  have s4 := b4.size
  have hl4 : w3.heap.size < w4.heap.size := o4.lt
  clear f3 o3 b4 B3
  go_wp2_with fail
  rw [rounds_succ]
  go_wp2_with fail
  refine (crc_at 40 40 _ L4 w4 N4.out (by omega) o4.rd).mono ?_
  rintro r w5 ⟨rfl, b5⟩
  have B5 := B4.trans (b5.mono B4.size)
  have o5 := o4.below b5 hl4
  have s5 := b5.size
  have hcl := crc_lt 0 L4
  obtain ⟨C, hC⟩ : ∃ C, C = crc 0 L4 := ⟨_, rfl⟩
  rw [← hC] at hcl ⊢
  have HC : Hid _ := hC
  clear B4 b5 o4 hC
  go_wp2_with fail
  refine (add32_at w5.heap.size _ 40 _ L4 C _ w5 rfl rfl N4.out hcl (by omega) o5.rd).mono ?_
  rintro r w6 ⟨rfl, o6, b6⟩
  have B6 := B5.trans (b6.mono B5.size)
  clear o5 b6 B5
  go_wp2
  go_ret
  refine ⟨w5.heap.size, rfl, by omega, ?_, B6⟩
  unfold headS
  rw [E4.out, ← HC.out]
  exact o6

/-- what a Put answers -/
def erP (o : Option (List UInt8)) : Int := if o.isSome then 0 else 2
def Puts (w w' : World) (o : Option (List UInt8)) (r : Ending) : Prop := ∃ v, r = .returned (.tuple #[v, .int .i64 (erP o)]) ∧ w'.ownsRow w.heap.size 5 1 v (o.getD []).length (bcs (o.getD [])) ∧ Below w.heap.size w w'

theorem Own.owns {w : World} {g B n : Nat} {ys : List UInt8} (h : Own w g ys) (hg : B ≤ g) (hn : ys.length = n) (hm : n ≤ 281474976710656) : w.ownsRow B 5 1 (.slice (some ⟨g, 0, none⟩) n n) n (bcs ys) := by
  subst hn
  refine ⟨by rw [bcs_length]; omega, .inr ⟨g, ys.length, (bcs ys).toArray, rfl, hg, h, Nat.le_refl _, by unfold maxLen; omega, by simp [bcs_length], ?_⟩⟩
  rw [List.take_of_length_le (by simp [bcs_length])]

def putSuper (b e q t : Int) : Option (List UInt8) := if rightS b e q t then some (superB b.toNat e.toNat q.toNat t.toNat) else none

set_option maxRecDepth 100000 in
theorem putSuper_at (b e q t : Int) (w : World) : Calls Tryz.prog 114 #[.agg #[.int .i64 b, .int .i64 e, .int .i64 q, .int .i64 t]] w fun r w' => Puts w w' (putSuper b e q t) r := by
  have hb0 := fun o => (Below.refl w.heap.size w).alloc (Nat.le_refl _) o
  unfold putSuper
  cases h : rightS b e q t
  · go_enter Tryz.func114, Tryz.ntmps114
    go_wp2_with fail
    refine (rightSuper_at b e q t _).mono ?_
    rintro r w1 ⟨rfl, b1⟩
    rw [h]
    have B1 := (hb0 _).trans (b1.mono (hb0 _).size)
    go_wp2
    go_ret2
    exact ⟨_, rfl, World.ownsRow_nil _ _ _ _, B1⟩
  · obtain ⟨hb, he, hq, ht⟩ := rightS_nat h
    obtain ⟨b, rfl⟩ := Int.eq_ofNat_of_zero_le (show 0 ≤ b by omega)
    obtain ⟨e, rfl⟩ := Int.eq_ofNat_of_zero_le (show 0 ≤ e by omega)
    obtain ⟨q, rfl⟩ := Int.eq_ofNat_of_zero_le (show 0 ≤ q by omega)
    obtain ⟨t, rfl⟩ := Int.eq_ofNat_of_zero_le (show 0 ≤ t by omega)
    have B0 := hb0 (.cells #[.int .i64 b, .int .i64 e, .int .i64 q, .int .i64 t] 141)
    have sz : (w.alloc (.cells #[.int .i64 b, .int .i64 e, .int .i64 q, .int .i64 t] 141)).heap.size = w.heap.size + 1 := by simp
    have hc := cell_new w #[.int .i64 b, .int .i64 e, .int .i64 q, .int .i64 t] 141 (0, 0)
    have c0 := hc 0
    have c1 := hc 1
    have c2 := hc 2
    have c3 := hc 3
    clear hc
    go_enter Tryz.func114, Tryz.ntmps114
    go_wp2_with fail
    refine (rightSuper_at b e q t _).mono ?_
    rintro r w1 ⟨rfl, b1⟩
    rw [h]
    have B1 := B0.trans (b1.mono B0.size)
    have d0 := (b1.cell (p := ⟨w.heap.size, 0, none⟩) (by simp)).trans c0
    have d1 := (b1.cell (p := ⟨w.heap.size, 1, none⟩) (by simp)).trans c1
    have d2 := (b1.cell (p := ⟨w.heap.size, 2, none⟩) (by simp)).trans c2
    have d3 := (b1.cell (p := ⟨w.heap.size, 3, none⟩) (by simp)).trans c3
    simp only [List.getElem?_toArray, List.getElem?_cons_zero, List.getElem?_cons_succ] at d0 d1 d2 d3
    clear c0 c1 c2 c3 sz b1 B0 hb0
    go_wp2_with fail
    refine (superHead_at b e q t w1 (by omega) (by omega) (by omega) (by omega)).mono ?_
    rintro r w2 ⟨g, rfl, hg, o2, b2⟩
    have B2 := B1.trans (b2.mono B1.size)
    clear d0 d1 d2 d3 b2
    go_wp2_with fail
    refine (padded_at w2.heap.size _ 44 4096 _ (headS b e q t) _ w2 rfl rfl (headS_length _ _ _ _) (by omega) (by omega) o2.rd).mono ?_
    rintro r w3 ⟨rfl, o3, b3⟩
    have B3 := B2.trans (b3.mono B2.size)
    have hsz := B2.size
    have o3' : Own w3 w2.heap.size (superB b e q t) := o3
    clear o3 b3
    go_wp2
    go_ret2
    refine ⟨_, rfl, ?_, B3⟩
    have h4 := o3'.owns hsz (superB_length _ _ _ _) (by omega)
    simpa [superB_length] using h4
end Go.Proofs.YtnldkpckojhbhaaGreat.Su

/-
  The bytes of extents; PutNode.
-/
namespace Go.Proofs.YtnldkpckojhbhaaGreat.Su
open Go.RowKit

def extB (e : Ext) : List UInt8 := toBE 2 e.a.toNat ++ (toBE 2 e.s.toNat ++ toBE 2 e.c.toNat)
def extsB (es : List Ext) : List UInt8 := es.flatMap extB
theorem extB_length (e : Ext) : (extB e).length = 6 := by simp [extB, toBE_length]
theorem extsB_length (es : List Ext) : (extsB es).length = es.length * 6 := by
  induction es with
  | nil => rfl
  | cons e l ih => simp [extsB, extB_length] at ih ⊢; omega
theorem extsB_succ (es : List Ext) (k : Nat) (h : k < es.length) : extsB (es.take (k + 1)) = extsB (es.take k) ++ extB es[k] := by
  rw [List.take_succ_eq_append_getElem h]; unfold extsB; rw [List.flatMap_append]; simp

def natE (e : Ext) : Prop := (0 ≤ e.a ∧ e.a < 65536) ∧ (0 ≤ e.s ∧ e.s < 65536) ∧ (0 ≤ e.c ∧ e.c < 65536)
theorem natE_of_right : ∀ (es : List Ext) (d : Int), 0 ≤ d → rightFrom d es = true → ∀ e ∈ es, natE e
  | [], _, _, _ => by simp
  | x :: l, d, hd, h => by
    simp only [rightFrom, Bool.and_eq_true, Bool.not_eq_true'] at h
    have hb := badE_false h.1
    intro e he
    rcases List.mem_cons.1 he with rfl | he
    · exact ⟨by omega, by omega, by omega⟩
    · exact natE_of_right l _ (by omega) h.2 e he

theorem own_ne {w : World} {B n Q : Nat} {v : Value} {xs : List Value} {cs : Array Value} {fr : Nat × Nat} (h : w.ownsRow B 5 1 v n xs) (hq : w.heap[Q]? = some (.cells cs 3 fr)) : ∀ k, v.ownBlock = some k → Q ≠ k := by
  intro k hk e
  subst e
  rcases h.2 with ⟨rfl, _⟩ | ⟨g, cap, cur, rfl, hb, hg, _⟩
  · simp [Value.ownBlock] at hk
  · simp [Value.ownBlock] at hk
    subst hk
    rw [hg] at hq
    simp at hq

theorem owns_below {w w' : World} {B e z n : Nat} {v : Value} {xs : List Value} (h : w.ownsRow B e z v n xs) (hb : Below w.heap.size w w') : w'.ownsRow B e z v n xs :=
  h.kept (row := none) ⟨hb.os, hb.tape, hb.output, hb.size, fun k hk _ => hb.block k hk⟩ (Classical.em _)

/-- a row of three whole numbers -/
def Three (w : World) (Q : Nat) (a b c : Int) : Prop := w.heap[Q]? = some (.cells #[.int .i64 a, .int .i64 b, .int .i64 c] 3 (0, 0))
theorem Three.cell {w : World} {Q : Nat} {a b c : Int} (h : Three w Q a b c) : w.cell? ⟨Q, 0, none⟩ = some (.int .i64 a) ∧ w.cell? ⟨Q, 1, none⟩ = some (.int .i64 b) ∧ w.cell? ⟨Q, 2, none⟩ = some (.int .i64 c) :=
  ⟨cell_of_row w Q 0 _ 3 (0, 0) h, cell_of_row w Q 1 _ 3 (0, 0) h, cell_of_row w Q 2 _ 3 (0, 0) h⟩
theorem Three.lt {w : World} {Q : Nat} {a b c : Int} (h : Three w Q a b c) : Q < w.heap.size := (Array.getElem?_eq_some_iff.1 h).1
theorem Three.below {w w' : World} {Q : Nat} {a b c : Int} (h : Three w Q a b c) (hb : Below w.heap.size w w') : Three w' Q a b c := (hb.block Q h.lt).trans h
theorem Three.grown {w w' : World} {Q B n : Nat} {v : Value} {xs : List Value} {a b c : Int} (h : Three w Q a b c) (ho : w.ownsRow B 5 1 v n xs) (hg : w.grownBy w' v.ownBlock) : Three w' Q a b c :=
  (hg.block Q h.lt (fun e => own_ne ho h Q e.symm rfl)).trans h

/-- what a row of one's own is, in parts -/
theorem owns_parts {w : World} {B n : Nat} {v : Value} {ys : List UInt8} (h : w.ownsRow B 5 1 v n (bcs ys)) :
    ∃ a cap, v = .slice a n cap ∧ ys.length = n ∧ n ≤ cap ∧ cap ≤ 9223372036854775807 ∧ Rd w a ys ∧ (a = none → cap = 0) ∧ (∀ ad, a = some ad → B ≤ ad.block ∧ ad.block < w.heap.size) := by
  have hl : ys.length = n := by have := h.1; rw [bcs_length] at this; omega
  rcases h.2 with ⟨rfl, rfl⟩ | ⟨g, cap, cur, rfl, hb, hg, hnc, hcm, hcs, htake⟩
  · have h0 : ys = [] := List.eq_nil_of_length_eq_zero hl
    subst h0
    exact ⟨none, 0, rfl, rfl, Nat.le_refl _, by omega, Rd.nil _ _, fun _ => rfl, fun _ h => by simp at h⟩
  · refine ⟨some ⟨g, 0, none⟩, cap, rfl, hl, hnc, by unfold maxLen at hcm; omega, fun _ => ⟨g, 0, rfl, fun j hj => ?_⟩, fun h => by simp at h, fun ad h => ?_⟩
    · have := h.cells (g := g) rfl j _ (bcs_getElem? ys j hj)
      rw [Addr.add_lit] at this
      exact this
    · obtain rfl := Option.some.inj h
      exact ⟨hb, (Array.getElem?_eq_some_iff.1 hg).1⟩

def bodyN (es : List Ext) : List UInt8 := extsB es ++ noughts (4088 - es.length * 6)
def nodeB (es : List Ext) : List UInt8 := (toBE 2 es.length ++ noughts 2) ++ (toBE 4 (crc 0 (bodyN es)) ++ bodyN es)
theorem bodyN_length (es : List Ext) (h : es.length ≤ 250) : (bodyN es).length = 4088 := by rw [bodyN, List.length_append, extsB_length, noughts_length]; omega
theorem nodeB_length (es : List Ext) (h : es.length ≤ 250) : (nodeB es).length = 4096 := by simp only [nodeB, List.length_append, toBE_length, noughts_length, bodyN_length es h]
def putNode (es : List Ext) : Option (List UInt8) := if decide (es.length ≤ 250) && rightFrom 0 es then some (nodeB es) else none

end Go.Proofs.YtnldkpckojhbhaaGreat.Su

/-
  An inode: what is right, its bytes, PutInode.
-/
namespace Go.Proofs.YtnldkpckojhbhaaGreat.Su
open Go.RowKit

/-- a block that was made for one value -/
def Box (w : World) (g : Nat) (cs : Array Value) (t : TypeId) : Prop := w.heap[g]? = some (.cells cs t (0, 0))
theorem Box.cell {w : World} {g : Nat} {cs : Array Value} {t : TypeId} (h : Box w g cs t) (j : Nat) : w.cell? ⟨g, j, none⟩ = cs[j]? := cell_of_row w g j cs t (0, 0) h
theorem Box.lt {w : World} {g : Nat} {cs : Array Value} {t : TypeId} (h : Box w g cs t) : g < w.heap.size := (Array.getElem?_eq_some_iff.1 h).1
theorem Box.below {w w' : World} {g : Nat} {cs : Array Value} {t : TypeId} (h : Box w g cs t) (hb : Below w.heap.size w w') : Box w' g cs t := (hb.block g h.lt).trans h
theorem Box.new (w : World) (cs : Array Value) (t : TypeId) : Box (w.alloc (.cells cs t)) w.heap.size cs t := heap_alloc_new w _

theorem own_ne32 {w : World} {B n Q : Nat} {v : Value} {xs : List Value} {cs : Array Value} (h : w.ownsRow B 5 1 v n xs) (hq : Box w Q cs 32) : ∀ k, v.ownBlock = some k → Q ≠ k := by
  intro k hk e
  subst e
  unfold Box at hq
  rcases h.2 with ⟨rfl, _⟩ | ⟨g, cap, cur, rfl, hb, hg, _⟩
  · simp [Value.ownBlock] at hk
  · simp [Value.ownBlock] at hk
    subst hk
    rw [hg] at hq
    simp at hq

def unusedI (k : Nat) (l s : Int) (n : Nat) (d : Int) : Bool := ((k : Int) == 0) && ((l == 0) && ((s == 0) && (((n : Int) == 0) && (d == 0))))
def usedI (k : Nat) (l s : Int) (es : List Ext) (d : Int) : Bool := (((k : Int) == 1) || ((k : Int) == 2)) && (wi l 0 100 && (wi s 0 131072 && (decide ((es.length : Int) ≤ 3) && (rightFrom 0 es && wi d 0 511))))

theorem usedI_nat {k : Nat} {l s d : Int} {es : List Ext} (h : usedI k l s es d = true) : (k = 1 ∨ k = 2) ∧ (0 ≤ l ∧ l ≤ 100) ∧ (0 ≤ s ∧ s ≤ 131072) ∧ es.length ≤ 3 ∧ rightFrom 0 es = true ∧ (0 ≤ d ∧ d ≤ 511) := by
  simp only [usedI, wi, Bool.and_eq_true, Bool.or_eq_true, decide_eq_true_eq, beq_iff_eq] at h
  obtain ⟨h1, h2, h3, h4, h5, h6⟩ := h
  exact ⟨by omega, h2, h3, by omega, h5, h6⟩

def headI (k l s : Nat) (es : List Ext) (d : Nat) : List UInt8 := (((((toBE 1 k ++ toBE 1 es.length) ++ toBE 2 l) ++ toBE 4 s) ++ extsB es) ++ noughts (26 - (8 + es.length * 6))) ++ toBE 2 d
theorem headI_length (k l s : Nat) (es : List Ext) (d : Nat) (h : es.length ≤ 3) : (headI k l s es d).length = 28 := by
  simp only [headI, List.length_append, toBE_length, noughts_length, extsB_length]; omega

def inodeB (k l s : Nat) (es : List Ext) (d : Nat) : List UInt8 := (headI k l s es d ++ noughts 32) ++ toBE 4 (crc 0 (headI k l s es d ++ noughts 32))
theorem inodeB_length (k l s : Nat) (es : List Ext) (d : Nat) (h : es.length ≤ 3) : (inodeB k l s es d).length = 64 := by
  rw [inodeB, List.length_append, List.length_append, headI_length k l s es d h, noughts_length, toBE_length]

def putInode (k : Nat) (l s : Int) (es : List Ext) (d : Int) : Option (List UInt8) :=
  if unusedI k l s es.length d then some (noughts 64) else if usedI k l s es d then some (inodeB k l.toNat s.toNat es d.toNat) else none

end Go.Proofs.YtnldkpckojhbhaaGreat.Su

/-
  What the Gets read: numbers, extents, an inode.
-/
namespace Go.Proofs.YtnldkpckojhbhaaGreat.Su
open Go.RowKit

/-- The number of so many bytes from a place on; 0 where they are not all there. -/
def num (xs : List UInt8) (i : Int) (size : Nat) : Nat := (numAt xs i size).getD 0
theorem num_lt (xs : List UInt8) (i : Int) (size : Nat) : num xs i size < 256 ^ size := numAt_lt xs i size
theorem u64_o (cap n : Nat) (a : Option Addr) (xs : List UInt8) (i : Int) (w : World) (hn : xs.length = n) (hm : n ≤ 9223372036854775807) (hr : Rd w a xs) :
    Calls Tryz.prog 227 #[.slice a n cap, .int .i64 i] w fun e w' => ∃ ok, e = .returned (.tuple #[.int .u64 (num xs i 8 : Nat), .bool ok]) ∧ w = w' := by
  subst hn; refine (u64_any a cap xs i w hm hr).mono ?_; rintro e w' ⟨rfl, rfl⟩; exact ⟨_, rfl, rfl⟩

/-- a number of 64 bits as a whole number -/
def i64 (v : Nat) : Int := wrap64 (v : Int)

theorem next8_at (gb ga n cap : Nat) (a : Option Addr) (xs : List UInt8) (p : Int) (w : World) (hn : xs.length = n) (hm : n ≤ 9223372036854775807) (hr : Rd w a xs) (hbx : Box w gb #[.slice a n cap] 37) (h1 : OneI w ga p) (hp : 0 ≤ p ∧ p ≤ 1000000) :
    Calls Tryz.prog 226 #[.pointer (some ⟨gb, 0, none⟩), .pointer (some ⟨ga, 0, none⟩)] w fun e w' => e = .returned (.int .i64 (i64 (num xs p 8))) ∧ OneI w' ga (p + 8) ∧ w.grownBy w' (some ga) := by
  have c0 := hbx.cell 0
  simp only [List.getElem?_toArray, List.getElem?_cons_zero] at c0
  have c1 := h1.cell
  have f1 := h1.frozen
  have hlt := num_lt xs p 8
  obtain ⟨V, hV⟩ : ∃ V, V = num xs p 8 := ⟨_, rfl⟩
  have cc := u64_o cap n a xs p w hn hm hr
  rw [← hV] at hlt cc ⊢
  clear hn hV
  go_enter Tryz.func226, Tryz.ntmps226
  go_wp2_with fail
  refine cc.mono ?_
  rintro e w' ⟨ok, rfl, rfl⟩
  go_wp2
  go_ret
  refine ⟨?_, h1.store _, grown_store _ _ _ _⟩
  rfl


def ec (e : Ext) : List Value := [.int .i64 e.a, .int .i64 e.s, .int .i64 e.c]
def ecs (es : List Ext) : List Value := es.flatMap ec
theorem ecs_length (es : List Ext) : (ecs es).length = es.length * 3 := by
  induction es with
  | nil => rfl
  | cons e l ih => simp [ecs, ec] at ih ⊢; omega
theorem ecs_at (es : List Ext) (j : Nat) (h : j < es.length) : (ecs es)[j * 3]? = some (.int .i64 es[j].a) ∧ (ecs es)[j * 3 + 1]? = some (.int .i64 es[j].s) ∧ (ecs es)[j * 3 + 2]? = some (.int .i64 es[j].c) := by
  induction es generalizing j with
  | nil => simp at h
  | cons e l ih =>
    cases j with
    | zero => exact ⟨rfl, rfl, rfl⟩
    | succ j =>
      have := ih j (by simpa using h)
      rw [show (j + 1) * 3 = j * 3 + 3 by omega]
      exact this
theorem ecs_oneCell (es : List Ext) : ∀ v ∈ ecs es, v.oneCell' = true := by
  intro v hv
  obtain ⟨e, _, h⟩ := List.mem_flatMap.1 hv
  simp [ec] at h
  rcases h with rfl | rfl | rfl <;> rfl

theorem ownsE_parts {w : World} {B n : Nat} {v : Value} {es : List Ext} (h : w.ownsRow B 46 3 v n (ecs es)) :
    ∃ a cap, v = .slice a n cap ∧ es.length = n ∧ n ≤ cap ∧ cap ≤ 9223372036854775807 ∧ RdE w a es ∧ (a = none → cap = 0) ∧ (∀ ad, a = some ad → B ≤ ad.block ∧ ad.block < w.heap.size) := by
  have hl : es.length = n := by have := h.1; rw [ecs_length] at this; omega
  rcases h.2 with ⟨rfl, rfl⟩ | ⟨g, cap, cur, rfl, hb, hg, hnc, hcm, hcs, htake⟩
  · have h0 : es = [] := List.eq_nil_of_length_eq_zero hl
    subst h0
    exact ⟨none, 0, rfl, rfl, Nat.le_refl _, by omega, RdE.nil _ _, fun _ => rfl, fun _ h => by simp at h⟩
  · refine ⟨some ⟨g, 0, none⟩, cap, rfl, hl, hnc, by unfold maxLen at hcm; omega, fun _ => ⟨g, 0, rfl, fun j hj => ?_⟩, fun h => by simp at h, fun ad h => ?_⟩
    · have hc := h.cells (g := g) rfl
      obtain ⟨h0, h1, h2⟩ := ecs_at es j hj
      replace h0 := hc _ _ h0
      replace h1 := hc _ _ h1
      replace h2 := hc _ _ h2
      rw [Addr.add_lit] at h0 h1 h2
      exact ⟨h0, h1, h2⟩
    · obtain rfl := Option.some.inj h
      exact ⟨hb, (Array.getElem?_eq_some_iff.1 hg).1⟩

/-- so many extents from a place on -/
def readE (xs : List UInt8) (p k : Nat) : List Ext := (List.range k).map fun j => ⟨(num xs ((p + 6 * j : Nat) : Int) 2 : Nat), (num xs ((p + 6 * j + 2 : Nat) : Int) 2 : Nat), (num xs ((p + 6 * j + 4 : Nat) : Int) 2 : Nat)⟩
theorem readE_length (xs : List UInt8) (p k : Nat) : (readE xs p k).length = k := by simp [readE]
theorem readE_succ (xs : List UInt8) (p k : Nat) : readE xs p (k + 1) = readE xs p k ++ [⟨(num xs ((p + 6 * k : Nat) : Int) 2 : Nat), (num xs ((p + 6 * k + 2 : Nat) : Int) 2 : Nat), (num xs ((p + 6 * k + 4 : Nat) : Int) 2 : Nat)⟩] := by simp [readE, List.range_succ]

theorem own_tag {w : World} {B e z n Q t : Nat} {v : Value} {xs : List Value} {cs : Array Value} {fr : Nat × Nat} (h : w.ownsRow B e z v n xs) (hq : w.heap[Q]? = some (.cells cs t fr)) (ht : e ≠ t) : some Q ≠ v.ownBlock := by
  intro hk
  rcases h.2 with ⟨rfl, _⟩ | ⟨g, cap, cur, rfl, hb, hg, _⟩
  · simp [Value.ownBlock] at hk
  · simp [Value.ownBlock] at hk
    subst hk
    rw [hg] at hq
    simp at hq
    exact ht hq.2.1

theorem Box.frozen {w : World} {g : Nat} {cs : Array Value} {t : TypeId} (h : Box w g cs t) (j : Nat) : w.frozen? ⟨g, j, none⟩ = false := frozen_of_row w g j cs t h

theorem Box.store {w : World} {g : Nat} {cs : Array Value} {t : TypeId} (h : Box w g cs t) (j : Nat) (v : Value) : Box (w.setCell ⟨g, j, none⟩ v) g (cs.setIfInBounds j v) t := heap_setCell_same w g j cs t v h

end Go.Proofs.YtnldkpckojhbhaaGreat.Su

/-
  GetNode: what a block of extents says.
-/
namespace Go.Proofs.YtnldkpckojhbhaaGreat.Su
open Go.RowKit

theorem readE_nat (xs : List UInt8) (p k : Nat) : ∀ e ∈ readE xs p k, natE e := by
  intro e he
  obtain ⟨j, _, rfl⟩ := List.mem_map.1 he
  have h1 := num_lt xs ((p + 6 * j : Nat) : Int) 2
  have h2 := num_lt xs ((p + 6 * j + 2 : Nat) : Int) 2
  have h3 := num_lt xs ((p + 6 * j + 4 : Nat) : Int) 2
  simp only [natE]
  omega
theorem natE_wf {es : List Ext} (h : ∀ e ∈ es, natE e) : ∀ e ∈ es, wfE e := by
  intro e he
  have := h e he
  simp only [natE, wfE] at this ⊢
  omega

def erG (b : Bool) : Int := if b then 0 else 30
def GetsN (w w' : World) (o : Option (List Ext)) (r : Ending) : Prop := ∃ v, r = .returned (.tuple #[v, .int .i64 (erG o.isSome)]) ∧ w'.ownsRow w.heap.size 46 3 v (o.getD []).length (ecs (o.getD [])) ∧ Below w.heap.size w w'

def listN (xs : List UInt8) : List Ext := readE xs 8 (num xs 0 2)
def getNode (xs : List UInt8) : Option (List Ext) :=
  if decide (xs.length = 4096) && (decide (num xs 0 2 ≤ 250) && (decide (num xs 2 2 = 0) && (rightFrom 0 (listN xs) && (isThen (xs.drop 8) (extsB (listN xs)) && decide (num xs 4 4 = crc 0 (xs.drop 8)))))) then some (listN xs) else none

end Go.Proofs.YtnldkpckojhbhaaGreat.Su

/-
  GetSuper: what a superblock says.
-/
namespace Go.Proofs.YtnldkpckojhbhaaGreat.Su
open Go.RowKit

structure Sup where
  b : Int
  e : Int
  q : Int
  t : Int
def zeroS : Sup := ⟨0, 0, 0, 0⟩
def supV (s : Sup) : Value := .agg #[.int .i64 s.b, .int .i64 s.e, .int .i64 s.q, .int .i64 s.t]
def GetsS (w w' : World) (o : Option Sup) (r : Ending) : Prop := r = .returned (.tuple #[supV (o.getD zeroS), .int .i64 (erG o.isSome)]) ∧ Below w.heap.size w w'
def readS (xs : List UInt8) : Sup := ⟨i64 (num xs 8 8), i64 (num xs 16 8), i64 (num xs 24 8), i64 (num xs 32 8)⟩
def getSuper (xs : List UInt8) : Option Sup :=
  if rightS (readS xs).b (readS xs).e (readS xs).q (readS xs).t && (decide (xs.length = 4096) && isThen xs (headS (readS xs).b.toNat (readS xs).e.toNat (readS xs).q.toNat (readS xs).t.toNat)) then some (readS xs) else none

def ansS (B E Q T : Int) (n : Nat) (xs : List UInt8) : Option Sup := if rightS B E Q T && (decide (n = 4096) && isThen xs (headS B.toNat E.toNat Q.toNat T.toNat)) then some ⟨B, E, Q, T⟩ else none

set_option maxRecDepth 100000 in
set_option maxHeartbeats 2000000 in
theorem getSuper_wrong (n cap : Nat) (a : Option Addr) (xs : List UInt8) (B E Q T : Int) (w : World) (Hn : Hid (xs.length = n)) (hm : n ≤ 9223372036854775807) (hr : Rd w a xs) (hB : Hid (i64 (num xs 8 8) = B)) (hE : Hid (i64 (num xs 16 8) = E)) (hQ : Hid (i64 (num xs 24 8) = Q)) (hT : Hid (i64 (num xs 32 8) = T)) (h : rightS B E Q T = false) :
    Calls Tryz.prog 185 #[.slice a n cap] w fun r w' => GetsS w w' (ansS B E Q T n xs) r := by
  have e : ansS B E Q T n xs = none := by unfold ansS; rw [h]; rfl
  rw [e]
  clear e
  have B1 := (Below.refl w.heap.size w).alloc (Nat.le_refl _) (.cells #[.slice a n cap] 37)
  have x1 := Box.new w #[.slice a n cap] 37
  obtain ⟨w1, hw1⟩ : ∃ w1, w1 = w.alloc (.cells #[.slice a n cap] 37) := ⟨_, rfl⟩
  have s1 : w1.heap.size = w.heap.size + 1 := by rw [hw1]; simp
  rw [← hw1] at B1 x1
  have b2 := (Below.refl w1.heap.size w1).alloc (Nat.le_refl _) (.cells #[.int .i64 0, .int .i64 0, .int .i64 0, .int .i64 0] 141)
  have x2 := Box.new w1 #[.int .i64 0, .int .i64 0, .int .i64 0, .int .i64 0] 141
  have y1 := x1.below b2
  have B2 := B1.trans (b2.mono B1.size)
  obtain ⟨w2, hw2⟩ : ∃ w2, w2 = w1.alloc (.cells #[.int .i64 0, .int .i64 0, .int .i64 0, .int .i64 0] 141) := ⟨_, rfl⟩
  have s2 : w2.heap.size = w.heap.size + 1 + 1 := by rw [hw2]; simp [s1]
  rw [← hw2] at b2 x2 y1 B2
  have b3 := (Below.refl w2.heap.size w2).alloc (Nat.le_refl _) (.cells #[.int .i64 8] 3)
  have o3 : OneI (w2.alloc (.cells #[.int .i64 8] 3)) w2.heap.size 8 := heap_alloc_new w2 _
  have y2 := x2.below b3
  have z1 := y1.below b3
  have B3 := B2.trans (b3.mono B2.size)
  rw [s1] at y2
  rw [s2] at o3
  clear b2 b3 x1 y1 x2 B1 B2
  go_enter Tryz.func185, Tryz.ntmps185
  go_wp2_with fail
  rw [← hw1, ← hw2]
  obtain ⟨W, hW⟩ : ∃ W, W = w2.alloc (.cells #[.int .i64 8] 3) := ⟨_, rfl⟩
  rw [← hW] at o3 y2 z1 B3 ⊢
  clear hW hw1 hw2 s1 s2
  refine (next8_at w.heap.size (w.heap.size + 1 + 1) n cap a xs 8 W Hn.out hm (hr.below B3 (Nat.le_refl _)) z1 o3 (by omega)).mono ?_
  rintro r v1 ⟨rfl, p1, g1⟩
  rw [hB.out]
  replace p1 : OneI v1 (w.heap.size + 1 + 1) 16 := p1
  have bs1 : Box v1 w.heap.size #[.slice a n cap] 37 := (g1.block _ z1.lt (fun e => by have := Option.some.inj e; omega)).trans z1
  have bz1 : Box v1 (w.heap.size + 1) #[.int .i64 0, .int .i64 0, .int .i64 0, .int .i64 0] 141 := (g1.block _ y2.lt (fun e => by have := Option.some.inj e; omega)).trans y2
  have D1 := B3.grown g1 B3.size (fun k hk => by simp at hk; omega)
  clear g1 o3 z1 y2 B3
  go_wp2_with fail
  refine (next8_at w.heap.size (w.heap.size + 1 + 1) n cap a xs 16 v1 Hn.out hm (hr.below D1 (Nat.le_refl _)) bs1 p1 (by omega)).mono ?_
  rintro r v2 ⟨rfl, p2, g2⟩
  rw [hE.out]
  replace p2 : OneI v2 (w.heap.size + 1 + 1) 24 := p2
  have bs2 : Box v2 w.heap.size #[.slice a n cap] 37 := (g2.block _ bs1.lt (fun e => by have := Option.some.inj e; omega)).trans bs1
  have bz2 : Box v2 (w.heap.size + 1) #[.int .i64 0, .int .i64 0, .int .i64 0, .int .i64 0] 141 := (g2.block _ bz1.lt (fun e => by have := Option.some.inj e; omega)).trans bz1
  have D2 := D1.grown g2 D1.size (fun k hk => by simp at hk; omega)
  clear g2 p1 bs1 bz1 D1
  go_wp2_with fail
  refine (next8_at w.heap.size (w.heap.size + 1 + 1) n cap a xs 24 v2 Hn.out hm (hr.below D2 (Nat.le_refl _)) bs2 p2 (by omega)).mono ?_
  rintro r v3 ⟨rfl, p3, g3⟩
  rw [hQ.out]
  replace p3 : OneI v3 (w.heap.size + 1 + 1) 32 := p3
  have bs3 : Box v3 w.heap.size #[.slice a n cap] 37 := (g3.block _ bs2.lt (fun e => by have := Option.some.inj e; omega)).trans bs2
  have bz3 : Box v3 (w.heap.size + 1) #[.int .i64 0, .int .i64 0, .int .i64 0, .int .i64 0] 141 := (g3.block _ bz2.lt (fun e => by have := Option.some.inj e; omega)).trans bz2
  have D3 := D2.grown g3 D2.size (fun k hk => by simp at hk; omega)
  clear g3 p2 bs2 bz2 D2
  go_wp2_with fail
  refine (next8_at w.heap.size (w.heap.size + 1 + 1) n cap a xs 32 v3 Hn.out hm (hr.below D3 (Nat.le_refl _)) bs3 p3 (by omega)).mono ?_
  rintro r v4 ⟨rfl, p4, g4⟩
  rw [hT.out]
  replace p4 : OneI v4 (w.heap.size + 1 + 1) 40 := p4
  have bs4 : Box v4 w.heap.size #[.slice a n cap] 37 := (g4.block _ bs3.lt (fun e => by have := Option.some.inj e; omega)).trans bs3
  have bz4 : Box v4 (w.heap.size + 1) #[.int .i64 0, .int .i64 0, .int .i64 0, .int .i64 0] 141 := (g4.block _ bz3.lt (fun e => by have := Option.some.inj e; omega)).trans bz3
  have D4 := D3.grown g4 D3.size (fun k hk => by simp at hk; omega)
  clear g4 p3 bs3 bz3 D3
  have bA := (Below.refl v4.heap.size v4).alloc (Nat.le_refl _) (.cells #[.int .i64 B, .int .i64 E, .int .i64 Q, .int .i64 T] 141)
  have bq := Box.new v4 #[.int .i64 B, .int .i64 E, .int .i64 Q, .int .i64 T] 141
  have bs := bs4.below bA
  have bz := bz4.below bA
  have D := D4.trans (bA.mono D4.size)
  go_wp2_with fail
  obtain ⟨U, hU⟩ : ∃ U, U = v4.alloc (.cells #[.int .i64 B, .int .i64 E, .int .i64 Q, .int .i64 T] 141) := ⟨_, rfl⟩
  rw [← hU] at bq bs bz D ⊢
  obtain ⟨G, hG⟩ : ∃ G, G = v4.heap.size := ⟨_, rfl⟩
  rw [← hG] at bq ⊢
  clear bs4 bz4 D4 p4 bA hU hG
  have hrU := hr.below D (Nat.le_refl _)
  have q0 := bq.cell 0
  have q1 := bq.cell 1
  have q2 := bq.cell 2
  have q3 := bq.cell 3
  have s0 := bs.cell 0
  simp only [List.getElem?_toArray, List.getElem?_cons_zero, List.getElem?_cons_succ] at q0 q1 q2 q3 s0
  go_region_with (go_at_call 175; refine (rightSuper_at B E Q T _).mono ?_; rintro r u1 ⟨rfl, b1⟩; rw [h]; have D1 : Below w.heap.size w u1 := (D.drew).trans (b1.mono D.size); have bz1 : Box u1 (w.heap.size + 1) #[.int .i64 0, .int .i64 0, .int .i64 0, .int .i64 0] 141 := Box.below (w := U.drew) bz b1)
  all_goals
    have m0 := bz1.cell 0
    have m1 := bz1.cell 1
    have m2 := bz1.cell 2
    have m3 := bz1.cell 3
    simp only [List.getElem?_toArray, List.getElem?_cons_zero, List.getElem?_cons_succ] at m0 m1 m2 m3
    have f0 := bz1.frozen 0
    have f1 := bz1.frozen 1
    have f2 := bz1.frozen 2
    have f3 := bz1.frozen 3
    go_wp2_with fail
    have Y := ((((bz1.store 0 (.int .i64 0)).store 1 (.int .i64 0)).store 2 (.int .i64 0)).store 3 (.int .i64 0))
    have C1 := ((((D1.setCell (p := ⟨w.heap.size + 1, 0, none⟩) (Nat.le_succ _) (.int .i64 0)).setCell (p := ⟨w.heap.size + 1, 1, none⟩) (Nat.le_succ _) (.int .i64 0)).setCell (p := ⟨w.heap.size + 1, 2, none⟩) (Nat.le_succ _) (.int .i64 0)).setCell (p := ⟨w.heap.size + 1, 3, none⟩) (Nat.le_succ _) (.int .i64 0))
    generalize ((((u1.setCell ⟨w.heap.size + 1, 0, none⟩ (.int .i64 0)).setCell ⟨w.heap.size + 1, 1, none⟩ (.int .i64 0)).setCell ⟨w.heap.size + 1, 2, none⟩ (.int .i64 0)).setCell ⟨w.heap.size + 1, 3, none⟩ (.int .i64 0)) = W9 at Y C1 ⊢
    clear m0 m1 m2 m3
    have m0 := Y.cell 0
    have m1 := Y.cell 1
    have m2 := Y.cell 2
    have m3 := Y.cell 3
    simp at m0 m1 m2 m3
    refine bodyPost_ret (v := .tuple #[.agg #[.int .i64 0, .int .i64 0, .int .i64 0, .int .i64 0], .int .i64 30]) (by simp [results, Tryz.results185, go_sem, m0, m1, m2, m3]) rfl ?_
    exact ⟨rfl, C1⟩

set_option maxRecDepth 100000 in
set_option maxHeartbeats 2000000 in
theorem getSuper_off (n cap : Nat) (a : Option Addr) (xs : List UInt8) (B E Q T : Int) (w : World) (Hn : Hid (xs.length = n)) (hm : n ≤ 9223372036854775807) (hr : Rd w a xs) (hB : Hid (i64 (num xs 8 8) = B)) (hE : Hid (i64 (num xs 16 8) = E)) (hQ : Hid (i64 (num xs 24 8) = Q)) (hT : Hid (i64 (num xs 32 8) = T)) (h : rightS B E Q T = true) (h4 : n ≠ 4096) :
    Calls Tryz.prog 185 #[.slice a n cap] w fun r w' => GetsS w w' (ansS B E Q T n xs) r := by
  have e : ansS B E Q T n xs = none := by unfold ansS; rw [decide_eq_false h4]; simp
  rw [e]
  clear e
  have h5 : ((n : Int) != 4096) = true := by simp; omega
  clear h4
  have B1 := (Below.refl w.heap.size w).alloc (Nat.le_refl _) (.cells #[.slice a n cap] 37)
  have x1 := Box.new w #[.slice a n cap] 37
  obtain ⟨w1, hw1⟩ : ∃ w1, w1 = w.alloc (.cells #[.slice a n cap] 37) := ⟨_, rfl⟩
  have s1 : w1.heap.size = w.heap.size + 1 := by rw [hw1]; simp
  rw [← hw1] at B1 x1
  have b2 := (Below.refl w1.heap.size w1).alloc (Nat.le_refl _) (.cells #[.int .i64 0, .int .i64 0, .int .i64 0, .int .i64 0] 141)
  have x2 := Box.new w1 #[.int .i64 0, .int .i64 0, .int .i64 0, .int .i64 0] 141
  have y1 := x1.below b2
  have B2 := B1.trans (b2.mono B1.size)
  obtain ⟨w2, hw2⟩ : ∃ w2, w2 = w1.alloc (.cells #[.int .i64 0, .int .i64 0, .int .i64 0, .int .i64 0] 141) := ⟨_, rfl⟩
  have s2 : w2.heap.size = w.heap.size + 1 + 1 := by rw [hw2]; simp [s1]
  rw [← hw2] at b2 x2 y1 B2
  have b3 := (Below.refl w2.heap.size w2).alloc (Nat.le_refl _) (.cells #[.int .i64 8] 3)
  have o3 : OneI (w2.alloc (.cells #[.int .i64 8] 3)) w2.heap.size 8 := heap_alloc_new w2 _
  have y2 := x2.below b3
  have z1 := y1.below b3
  have B3 := B2.trans (b3.mono B2.size)
  rw [s1] at y2
  rw [s2] at o3
  clear b2 b3 x1 y1 x2 B1 B2
  go_enter Tryz.func185, Tryz.ntmps185
  go_wp2_with fail
  rw [← hw1, ← hw2]
  obtain ⟨W, hW⟩ : ∃ W, W = w2.alloc (.cells #[.int .i64 8] 3) := ⟨_, rfl⟩
  rw [← hW] at o3 y2 z1 B3 ⊢
  clear hW hw1 hw2 s1 s2
  refine (next8_at w.heap.size (w.heap.size + 1 + 1) n cap a xs 8 W Hn.out hm (hr.below B3 (Nat.le_refl _)) z1 o3 (by omega)).mono ?_
  rintro r v1 ⟨rfl, p1, g1⟩
  rw [hB.out]
  replace p1 : OneI v1 (w.heap.size + 1 + 1) 16 := p1
  have bs1 : Box v1 w.heap.size #[.slice a n cap] 37 := (g1.block _ z1.lt (fun e => by have := Option.some.inj e; omega)).trans z1
  have bz1 : Box v1 (w.heap.size + 1) #[.int .i64 0, .int .i64 0, .int .i64 0, .int .i64 0] 141 := (g1.block _ y2.lt (fun e => by have := Option.some.inj e; omega)).trans y2
  have D1 := B3.grown g1 B3.size (fun k hk => by simp at hk; omega)
  clear g1 o3 z1 y2 B3
  go_wp2_with fail
  refine (next8_at w.heap.size (w.heap.size + 1 + 1) n cap a xs 16 v1 Hn.out hm (hr.below D1 (Nat.le_refl _)) bs1 p1 (by omega)).mono ?_
  rintro r v2 ⟨rfl, p2, g2⟩
  rw [hE.out]
  replace p2 : OneI v2 (w.heap.size + 1 + 1) 24 := p2
  have bs2 : Box v2 w.heap.size #[.slice a n cap] 37 := (g2.block _ bs1.lt (fun e => by have := Option.some.inj e; omega)).trans bs1
  have bz2 : Box v2 (w.heap.size + 1) #[.int .i64 0, .int .i64 0, .int .i64 0, .int .i64 0] 141 := (g2.block _ bz1.lt (fun e => by have := Option.some.inj e; omega)).trans bz1
  have D2 := D1.grown g2 D1.size (fun k hk => by simp at hk; omega)
  clear g2 p1 bs1 bz1 D1
  go_wp2_with fail
  refine (next8_at w.heap.size (w.heap.size + 1 + 1) n cap a xs 24 v2 Hn.out hm (hr.below D2 (Nat.le_refl _)) bs2 p2 (by omega)).mono ?_
  rintro r v3 ⟨rfl, p3, g3⟩
  rw [hQ.out]
  replace p3 : OneI v3 (w.heap.size + 1 + 1) 32 := p3
  have bs3 : Box v3 w.heap.size #[.slice a n cap] 37 := (g3.block _ bs2.lt (fun e => by have := Option.some.inj e; omega)).trans bs2
  have bz3 : Box v3 (w.heap.size + 1) #[.int .i64 0, .int .i64 0, .int .i64 0, .int .i64 0] 141 := (g3.block _ bz2.lt (fun e => by have := Option.some.inj e; omega)).trans bz2
  have D3 := D2.grown g3 D2.size (fun k hk => by simp at hk; omega)
  clear g3 p2 bs2 bz2 D2
  go_wp2_with fail
  refine (next8_at w.heap.size (w.heap.size + 1 + 1) n cap a xs 32 v3 Hn.out hm (hr.below D3 (Nat.le_refl _)) bs3 p3 (by omega)).mono ?_
  rintro r v4 ⟨rfl, p4, g4⟩
  rw [hT.out]
  replace p4 : OneI v4 (w.heap.size + 1 + 1) 40 := p4
  have bs4 : Box v4 w.heap.size #[.slice a n cap] 37 := (g4.block _ bs3.lt (fun e => by have := Option.some.inj e; omega)).trans bs3
  have bz4 : Box v4 (w.heap.size + 1) #[.int .i64 0, .int .i64 0, .int .i64 0, .int .i64 0] 141 := (g4.block _ bz3.lt (fun e => by have := Option.some.inj e; omega)).trans bz3
  have D4 := D3.grown g4 D3.size (fun k hk => by simp at hk; omega)
  clear g4 p3 bs3 bz3 D3
  have bA := (Below.refl v4.heap.size v4).alloc (Nat.le_refl _) (.cells #[.int .i64 B, .int .i64 E, .int .i64 Q, .int .i64 T] 141)
  have bq := Box.new v4 #[.int .i64 B, .int .i64 E, .int .i64 Q, .int .i64 T] 141
  have bs := bs4.below bA
  have bz := bz4.below bA
  have D := D4.trans (bA.mono D4.size)
  go_wp2_with fail
  obtain ⟨U, hU⟩ : ∃ U, U = v4.alloc (.cells #[.int .i64 B, .int .i64 E, .int .i64 Q, .int .i64 T] 141) := ⟨_, rfl⟩
  rw [← hU] at bq bs bz D ⊢
  obtain ⟨G, hG⟩ : ∃ G, G = v4.heap.size := ⟨_, rfl⟩
  rw [← hG] at bq ⊢
  clear bs4 bz4 D4 p4 bA hU hG
  have hrU := hr.below D (Nat.le_refl _)
  have q0 := bq.cell 0
  have q1 := bq.cell 1
  have q2 := bq.cell 2
  have q3 := bq.cell 3
  have s0 := bs.cell 0
  simp only [List.getElem?_toArray, List.getElem?_cons_zero, List.getElem?_cons_succ] at q0 q1 q2 q3 s0
  clear s0
  go_region_with (go_at_call 175; refine (rightSuper_at B E Q T _).mono ?_; rintro r u1 ⟨rfl, b1⟩; rw [h]; have D1 : Below w.heap.size w u1 := (D.drew).trans (b1.mono D.size); have bz1 : Box u1 (w.heap.size + 1) #[.int .i64 0, .int .i64 0, .int .i64 0, .int .i64 0] 141 := Box.below (w := U.drew) bz b1; have bs1 : Box u1 w.heap.size #[.slice a n cap] 37 := Box.below (w := U.drew) bs b1; have bq1 : Box u1 G #[.int .i64 B, .int .i64 E, .int .i64 Q, .int .i64 T] 141 := Box.below (w := U.drew) bq b1; have s0 := bs1.cell 0; have q0 := bq1.cell 0; have q1 := bq1.cell 1; have q2 := bq1.cell 2; have q3 := bq1.cell 3; simp only [List.getElem?_toArray, List.getElem?_cons_zero, List.getElem?_cons_succ] at q0 q1 q2 q3 s0)
  all_goals
    have m0 := bz1.cell 0
    have m1 := bz1.cell 1
    have m2 := bz1.cell 2
    have m3 := bz1.cell 3
    simp only [List.getElem?_toArray, List.getElem?_cons_zero, List.getElem?_cons_succ] at m0 m1 m2 m3
    have f0 := bz1.frozen 0
    have f1 := bz1.frozen 1
    have f2 := bz1.frozen 2
    have f3 := bz1.frozen 3
    go_wp2_with fail
    have Y := ((((bz1.store 0 (.int .i64 0)).store 1 (.int .i64 0)).store 2 (.int .i64 0)).store 3 (.int .i64 0))
    have C1 := ((((D1.setCell (p := ⟨w.heap.size + 1, 0, none⟩) (Nat.le_succ _) (.int .i64 0)).setCell (p := ⟨w.heap.size + 1, 1, none⟩) (Nat.le_succ _) (.int .i64 0)).setCell (p := ⟨w.heap.size + 1, 2, none⟩) (Nat.le_succ _) (.int .i64 0)).setCell (p := ⟨w.heap.size + 1, 3, none⟩) (Nat.le_succ _) (.int .i64 0))
    generalize ((((u1.setCell ⟨w.heap.size + 1, 0, none⟩ (.int .i64 0)).setCell ⟨w.heap.size + 1, 1, none⟩ (.int .i64 0)).setCell ⟨w.heap.size + 1, 2, none⟩ (.int .i64 0)).setCell ⟨w.heap.size + 1, 3, none⟩ (.int .i64 0)) = W9 at Y C1 ⊢
    clear m0 m1 m2 m3
    have m0 := Y.cell 0
    have m1 := Y.cell 1
    have m2 := Y.cell 2
    have m3 := Y.cell 3
    simp at m0 m1 m2 m3
    refine bodyPost_ret (v := .tuple #[.agg #[.int .i64 0, .int .i64 0, .int .i64 0, .int .i64 0], .int .i64 30]) (by simp [results, Tryz.results185, go_sem, m0, m1, m2, m3]) rfl ?_
    exact ⟨rfl, C1⟩

set_option maxRecDepth 100000 in
set_option maxHeartbeats 4000000 in
theorem getSuper_bad (bb oo cap b e q t : Nat) (xs : List UInt8) (w : World) (Hn : Hid (xs.length = 4096)) (hcap : 4096 ≤ cap) (hcm : cap ≤ 9223372036854775807) (hm : 4096 ≤ 9223372036854775807) (hr : Rd w (some ⟨bb, oo, none⟩) xs) (hB : Hid (i64 (num xs 8 8) = (b : Int))) (hE : Hid (i64 (num xs 16 8) = (e : Int))) (hQ : Hid (i64 (num xs 24 8) = (q : Int))) (hT : Hid (i64 (num xs 32 8) = (t : Int))) (h : rightS b e q t = true) (hH : isThen xs (headS b e q t) = false) :
    Calls Tryz.prog 185 #[.slice (some ⟨bb, oo, none⟩) 4096 cap] w fun r w' => GetsS w w' none r := by
  obtain ⟨hb9, he9, hq9, ht9⟩ : b < 9223372036854775808 ∧ e < 9223372036854775808 ∧ q < 9223372036854775808 ∧ t < 9223372036854775808 := by
    have := rightS_nat h
    omega
  have B1 := (Below.refl w.heap.size w).alloc (Nat.le_refl _) (.cells #[.slice (some ⟨bb, oo, none⟩) 4096 cap] 37)
  have x1 := Box.new w #[.slice (some ⟨bb, oo, none⟩) 4096 cap] 37
  obtain ⟨w1, hw1⟩ : ∃ w1, w1 = w.alloc (.cells #[.slice (some ⟨bb, oo, none⟩) 4096 cap] 37) := ⟨_, rfl⟩
  have s1 : w1.heap.size = w.heap.size + 1 := by rw [hw1]; simp
  rw [← hw1] at B1 x1
  have b2 := (Below.refl w1.heap.size w1).alloc (Nat.le_refl _) (.cells #[.int .i64 0, .int .i64 0, .int .i64 0, .int .i64 0] 141)
  have x2 := Box.new w1 #[.int .i64 0, .int .i64 0, .int .i64 0, .int .i64 0] 141
  have y1 := x1.below b2
  have B2 := B1.trans (b2.mono B1.size)
  obtain ⟨w2, hw2⟩ : ∃ w2, w2 = w1.alloc (.cells #[.int .i64 0, .int .i64 0, .int .i64 0, .int .i64 0] 141) := ⟨_, rfl⟩
  have s2 : w2.heap.size = w.heap.size + 1 + 1 := by rw [hw2]; simp [s1]
  rw [← hw2] at b2 x2 y1 B2
  have b3 := (Below.refl w2.heap.size w2).alloc (Nat.le_refl _) (.cells #[.int .i64 8] 3)
  have o3 : OneI (w2.alloc (.cells #[.int .i64 8] 3)) w2.heap.size 8 := heap_alloc_new w2 _
  have y2 := x2.below b3
  have z1 := y1.below b3
  have B3 := B2.trans (b3.mono B2.size)
  rw [s1] at y2
  rw [s2] at o3
  clear b2 b3 x1 y1 x2 B1 B2
  go_enter Tryz.func185, Tryz.ntmps185
  go_wp2_with fail
  rw [← hw1, ← hw2]
  obtain ⟨W, hW⟩ : ∃ W, W = w2.alloc (.cells #[.int .i64 8] 3) := ⟨_, rfl⟩
  rw [← hW] at o3 y2 z1 B3 ⊢
  clear hW hw1 hw2 s1 s2
  refine (next8_at w.heap.size (w.heap.size + 1 + 1) 4096 cap (some ⟨bb, oo, none⟩) xs 8 W Hn.out hm (hr.below B3 (Nat.le_refl _)) z1 o3 (by omega)).mono ?_
  rintro r v1 ⟨rfl, p1, g1⟩
  rw [hB.out]
  replace p1 : OneI v1 (w.heap.size + 1 + 1) 16 := p1
  have bs1 : Box v1 w.heap.size #[.slice (some ⟨bb, oo, none⟩) 4096 cap] 37 := (g1.block _ z1.lt (fun e => by have := Option.some.inj e; omega)).trans z1
  have bz1 : Box v1 (w.heap.size + 1) #[.int .i64 0, .int .i64 0, .int .i64 0, .int .i64 0] 141 := (g1.block _ y2.lt (fun e => by have := Option.some.inj e; omega)).trans y2
  have D1 := B3.grown g1 B3.size (fun k hk => by simp at hk; omega)
  clear g1 o3 z1 y2 B3
  go_wp2_with fail
  refine (next8_at w.heap.size (w.heap.size + 1 + 1) 4096 cap (some ⟨bb, oo, none⟩) xs 16 v1 Hn.out hm (hr.below D1 (Nat.le_refl _)) bs1 p1 (by omega)).mono ?_
  rintro r v2 ⟨rfl, p2, g2⟩
  rw [hE.out]
  replace p2 : OneI v2 (w.heap.size + 1 + 1) 24 := p2
  have bs2 : Box v2 w.heap.size #[.slice (some ⟨bb, oo, none⟩) 4096 cap] 37 := (g2.block _ bs1.lt (fun e => by have := Option.some.inj e; omega)).trans bs1
  have bz2 : Box v2 (w.heap.size + 1) #[.int .i64 0, .int .i64 0, .int .i64 0, .int .i64 0] 141 := (g2.block _ bz1.lt (fun e => by have := Option.some.inj e; omega)).trans bz1
  have D2 := D1.grown g2 D1.size (fun k hk => by simp at hk; omega)
  clear g2 p1 bs1 bz1 D1
  go_wp2_with fail
  refine (next8_at w.heap.size (w.heap.size + 1 + 1) 4096 cap (some ⟨bb, oo, none⟩) xs 24 v2 Hn.out hm (hr.below D2 (Nat.le_refl _)) bs2 p2 (by omega)).mono ?_
  rintro r v3 ⟨rfl, p3, g3⟩
  rw [hQ.out]
  replace p3 : OneI v3 (w.heap.size + 1 + 1) 32 := p3
  have bs3 : Box v3 w.heap.size #[.slice (some ⟨bb, oo, none⟩) 4096 cap] 37 := (g3.block _ bs2.lt (fun e => by have := Option.some.inj e; omega)).trans bs2
  have bz3 : Box v3 (w.heap.size + 1) #[.int .i64 0, .int .i64 0, .int .i64 0, .int .i64 0] 141 := (g3.block _ bz2.lt (fun e => by have := Option.some.inj e; omega)).trans bz2
  have D3 := D2.grown g3 D2.size (fun k hk => by simp at hk; omega)
  clear g3 p2 bs2 bz2 D2
  go_wp2_with fail
  refine (next8_at w.heap.size (w.heap.size + 1 + 1) 4096 cap (some ⟨bb, oo, none⟩) xs 32 v3 Hn.out hm (hr.below D3 (Nat.le_refl _)) bs3 p3 (by omega)).mono ?_
  rintro r v4 ⟨rfl, p4, g4⟩
  rw [hT.out]
  replace p4 : OneI v4 (w.heap.size + 1 + 1) 40 := p4
  have bs4 : Box v4 w.heap.size #[.slice (some ⟨bb, oo, none⟩) 4096 cap] 37 := (g4.block _ bs3.lt (fun e => by have := Option.some.inj e; omega)).trans bs3
  have bz4 : Box v4 (w.heap.size + 1) #[.int .i64 0, .int .i64 0, .int .i64 0, .int .i64 0] 141 := (g4.block _ bz3.lt (fun e => by have := Option.some.inj e; omega)).trans bz3
  have D4 := D3.grown g4 D3.size (fun k hk => by simp at hk; omega)
  clear g4 p3 bs3 bz3 D3
  have bA := (Below.refl v4.heap.size v4).alloc (Nat.le_refl _) (.cells #[.int .i64 (b : Int), .int .i64 (e : Int), .int .i64 (q : Int), .int .i64 (t : Int)] 141)
  have bq := Box.new v4 #[.int .i64 (b : Int), .int .i64 (e : Int), .int .i64 (q : Int), .int .i64 (t : Int)] 141
  have bs := bs4.below bA
  have bz := bz4.below bA
  have D := D4.trans (bA.mono D4.size)
  go_wp2_with fail
  obtain ⟨U, hU⟩ : ∃ U, U = v4.alloc (.cells #[.int .i64 (b : Int), .int .i64 (e : Int), .int .i64 (q : Int), .int .i64 (t : Int)] 141) := ⟨_, rfl⟩
  rw [← hU] at bq bs bz D ⊢
  obtain ⟨G, hG⟩ : ∃ G, G = v4.heap.size := ⟨_, rfl⟩
  rw [← hG] at bq ⊢
  clear bs4 bz4 D4 p4 bA hU hG
  have hrU := hr.below D (Nat.le_refl _)
  have q0 := bq.cell 0
  have q1 := bq.cell 1
  have q2 := bq.cell 2
  have q3 := bq.cell 3
  have s0 := bs.cell 0
  simp only [List.getElem?_toArray, List.getElem?_cons_zero, List.getElem?_cons_succ] at q0 q1 q2 q3 s0
  clear s0
  go_region_with (first | (go_at_call 175; refine (rightSuper_at (b : Int) e q t _).mono ?_; rintro r u1 ⟨rfl, b1⟩; rw [h]; have D1 : Below w.heap.size w u1 := (D.drew).trans (b1.mono D.size); have bz1 : Box u1 (w.heap.size + 1) #[.int .i64 0, .int .i64 0, .int .i64 0, .int .i64 0] 141 := Box.below (w := U.drew) bz b1; have bs1 : Box u1 w.heap.size #[.slice (some ⟨bb, oo, none⟩) 4096 cap] 37 := Box.below (w := U.drew) bs b1; have bq1 : Box u1 G #[.int .i64 (b : Int), .int .i64 (e : Int), .int .i64 (q : Int), .int .i64 (t : Int)] 141 := Box.below (w := U.drew) bq b1; have s0 := bs1.cell 0; have q0 := bq1.cell 0; have q1 := bq1.cell 1; have q2 := bq1.cell 2; have q3 := bq1.cell 3; simp only [List.getElem?_toArray, List.getElem?_cons_zero, List.getElem?_cons_succ] at q0 q1 q2 q3 s0) | (go_at_call 177; refine (superHead_at b e q t u1 hb9 he9 hq9 ht9).mono ?_; rintro r u2 ⟨g, rfl, hg, oh, b2⟩; have D2 : Below w.heap.size w u2 := D1.trans (b2.mono D1.size); have bz2 := bz1.below b2; have bq2 := bq1.below b2; have bs2 := bs1.below b2; have hr2 := hr.below D2 (Nat.le_refl _); have t0 := bs2.cell 0; simp only [List.getElem?_toArray, List.getElem?_cons_zero] at t0) | (go_at_call 228; refine (isThen_at cap 44 4096 44 (some ⟨bb, oo, none⟩) (some ⟨g, 0, none⟩) xs (headS b e q t) u2 Hn.out (headS_length _ _ _ _) hcap hcm (by omega) (by simp) hr2 oh.rd).mono ?_; rintro r u3 ⟨rfl, rfl⟩; rw [hH]))
  all_goals
    have m0 := bz2.cell 0
    have m1 := bz2.cell 1
    have m2 := bz2.cell 2
    have m3 := bz2.cell 3
    simp only [List.getElem?_toArray, List.getElem?_cons_zero, List.getElem?_cons_succ] at m0 m1 m2 m3
    have f0 := bz2.frozen 0
    have f1 := bz2.frozen 1
    have f2 := bz2.frozen 2
    have f3 := bz2.frozen 3
    go_wp2_with fail
    have Y := ((((bz2.store 0 (.int .i64 0)).store 1 (.int .i64 0)).store 2 (.int .i64 0)).store 3 (.int .i64 0))
    have C1 := ((((D2.setCell (p := ⟨w.heap.size + 1, 0, none⟩) (Nat.le_succ _) (.int .i64 0)).setCell (p := ⟨w.heap.size + 1, 1, none⟩) (Nat.le_succ _) (.int .i64 0)).setCell (p := ⟨w.heap.size + 1, 2, none⟩) (Nat.le_succ _) (.int .i64 0)).setCell (p := ⟨w.heap.size + 1, 3, none⟩) (Nat.le_succ _) (.int .i64 0))
    generalize ((((u2.setCell ⟨w.heap.size + 1, 0, none⟩ (.int .i64 0)).setCell ⟨w.heap.size + 1, 1, none⟩ (.int .i64 0)).setCell ⟨w.heap.size + 1, 2, none⟩ (.int .i64 0)).setCell ⟨w.heap.size + 1, 3, none⟩ (.int .i64 0)) = W9 at Y C1 ⊢
    clear m0 m1 m2 m3
    have m0 := Y.cell 0
    have m1 := Y.cell 1
    have m2 := Y.cell 2
    have m3 := Y.cell 3
    simp at m0 m1 m2 m3
    refine bodyPost_ret (v := .tuple #[.agg #[.int .i64 0, .int .i64 0, .int .i64 0, .int .i64 0], .int .i64 30]) (by simp [results, Tryz.results185, go_sem, m0, m1, m2, m3]) rfl ?_
    exact ⟨rfl, C1⟩

set_option maxRecDepth 100000 in
set_option maxHeartbeats 4000000 in
theorem getSuper_ok (bb oo cap b e q t : Nat) (xs : List UInt8) (w : World) (Hn : Hid (xs.length = 4096)) (hcap : 4096 ≤ cap) (hcm : cap ≤ 9223372036854775807) (hm : 4096 ≤ 9223372036854775807) (hr : Rd w (some ⟨bb, oo, none⟩) xs) (hB : Hid (i64 (num xs 8 8) = (b : Int))) (hE : Hid (i64 (num xs 16 8) = (e : Int))) (hQ : Hid (i64 (num xs 24 8) = (q : Int))) (hT : Hid (i64 (num xs 32 8) = (t : Int))) (h : rightS b e q t = true) (hH : isThen xs (headS b e q t) = true) :
    Calls Tryz.prog 185 #[.slice (some ⟨bb, oo, none⟩) 4096 cap] w fun r w' => GetsS w w' (some ⟨b, e, q, t⟩) r := by
  obtain ⟨hb9, he9, hq9, ht9⟩ : b < 9223372036854775808 ∧ e < 9223372036854775808 ∧ q < 9223372036854775808 ∧ t < 9223372036854775808 := by
    have := rightS_nat h
    omega
  have B1 := (Below.refl w.heap.size w).alloc (Nat.le_refl _) (.cells #[.slice (some ⟨bb, oo, none⟩) 4096 cap] 37)
  have x1 := Box.new w #[.slice (some ⟨bb, oo, none⟩) 4096 cap] 37
  obtain ⟨w1, hw1⟩ : ∃ w1, w1 = w.alloc (.cells #[.slice (some ⟨bb, oo, none⟩) 4096 cap] 37) := ⟨_, rfl⟩
  have s1 : w1.heap.size = w.heap.size + 1 := by rw [hw1]; simp
  rw [← hw1] at B1 x1
  have b2 := (Below.refl w1.heap.size w1).alloc (Nat.le_refl _) (.cells #[.int .i64 0, .int .i64 0, .int .i64 0, .int .i64 0] 141)
  have x2 := Box.new w1 #[.int .i64 0, .int .i64 0, .int .i64 0, .int .i64 0] 141
  have y1 := x1.below b2
  have B2 := B1.trans (b2.mono B1.size)
  obtain ⟨w2, hw2⟩ : ∃ w2, w2 = w1.alloc (.cells #[.int .i64 0, .int .i64 0, .int .i64 0, .int .i64 0] 141) := ⟨_, rfl⟩
  have s2 : w2.heap.size = w.heap.size + 1 + 1 := by rw [hw2]; simp [s1]
  rw [← hw2] at b2 x2 y1 B2
  have b3 := (Below.refl w2.heap.size w2).alloc (Nat.le_refl _) (.cells #[.int .i64 8] 3)
  have o3 : OneI (w2.alloc (.cells #[.int .i64 8] 3)) w2.heap.size 8 := heap_alloc_new w2 _
  have y2 := x2.below b3
  have z1 := y1.below b3
  have B3 := B2.trans (b3.mono B2.size)
  rw [s1] at y2
  rw [s2] at o3
  clear b2 b3 x1 y1 x2 B1 B2
  go_enter Tryz.func185, Tryz.ntmps185
  go_wp2_with fail
  rw [← hw1, ← hw2]
  obtain ⟨W, hW⟩ : ∃ W, W = w2.alloc (.cells #[.int .i64 8] 3) := ⟨_, rfl⟩
  rw [← hW] at o3 y2 z1 B3 ⊢
  clear hW hw1 hw2 s1 s2
  refine (next8_at w.heap.size (w.heap.size + 1 + 1) 4096 cap (some ⟨bb, oo, none⟩) xs 8 W Hn.out hm (hr.below B3 (Nat.le_refl _)) z1 o3 (by omega)).mono ?_
  rintro r v1 ⟨rfl, p1, g1⟩
  rw [hB.out]
  replace p1 : OneI v1 (w.heap.size + 1 + 1) 16 := p1
  have bs1 : Box v1 w.heap.size #[.slice (some ⟨bb, oo, none⟩) 4096 cap] 37 := (g1.block _ z1.lt (fun e => by have := Option.some.inj e; omega)).trans z1
  have bz1 : Box v1 (w.heap.size + 1) #[.int .i64 0, .int .i64 0, .int .i64 0, .int .i64 0] 141 := (g1.block _ y2.lt (fun e => by have := Option.some.inj e; omega)).trans y2
  have D1 := B3.grown g1 B3.size (fun k hk => by simp at hk; omega)
  clear g1 o3 z1 y2 B3
  go_wp2_with fail
  refine (next8_at w.heap.size (w.heap.size + 1 + 1) 4096 cap (some ⟨bb, oo, none⟩) xs 16 v1 Hn.out hm (hr.below D1 (Nat.le_refl _)) bs1 p1 (by omega)).mono ?_
  rintro r v2 ⟨rfl, p2, g2⟩
  rw [hE.out]
  replace p2 : OneI v2 (w.heap.size + 1 + 1) 24 := p2
  have bs2 : Box v2 w.heap.size #[.slice (some ⟨bb, oo, none⟩) 4096 cap] 37 := (g2.block _ bs1.lt (fun e => by have := Option.some.inj e; omega)).trans bs1
  have bz2 : Box v2 (w.heap.size + 1) #[.int .i64 0, .int .i64 0, .int .i64 0, .int .i64 0] 141 := (g2.block _ bz1.lt (fun e => by have := Option.some.inj e; omega)).trans bz1
  have D2 := D1.grown g2 D1.size (fun k hk => by simp at hk; omega)
  clear g2 p1 bs1 bz1 D1
  go_wp2_with fail
  refine (next8_at w.heap.size (w.heap.size + 1 + 1) 4096 cap (some ⟨bb, oo, none⟩) xs 24 v2 Hn.out hm (hr.below D2 (Nat.le_refl _)) bs2 p2 (by omega)).mono ?_
  rintro r v3 ⟨rfl, p3, g3⟩
  rw [hQ.out]
  replace p3 : OneI v3 (w.heap.size + 1 + 1) 32 := p3
  have bs3 : Box v3 w.heap.size #[.slice (some ⟨bb, oo, none⟩) 4096 cap] 37 := (g3.block _ bs2.lt (fun e => by have := Option.some.inj e; omega)).trans bs2
  have bz3 : Box v3 (w.heap.size + 1) #[.int .i64 0, .int .i64 0, .int .i64 0, .int .i64 0] 141 := (g3.block _ bz2.lt (fun e => by have := Option.some.inj e; omega)).trans bz2
  have D3 := D2.grown g3 D2.size (fun k hk => by simp at hk; omega)
  clear g3 p2 bs2 bz2 D2
  go_wp2_with fail
  refine (next8_at w.heap.size (w.heap.size + 1 + 1) 4096 cap (some ⟨bb, oo, none⟩) xs 32 v3 Hn.out hm (hr.below D3 (Nat.le_refl _)) bs3 p3 (by omega)).mono ?_
  rintro r v4 ⟨rfl, p4, g4⟩
  rw [hT.out]
  replace p4 : OneI v4 (w.heap.size + 1 + 1) 40 := p4
  have bs4 : Box v4 w.heap.size #[.slice (some ⟨bb, oo, none⟩) 4096 cap] 37 := (g4.block _ bs3.lt (fun e => by have := Option.some.inj e; omega)).trans bs3
  have bz4 : Box v4 (w.heap.size + 1) #[.int .i64 0, .int .i64 0, .int .i64 0, .int .i64 0] 141 := (g4.block _ bz3.lt (fun e => by have := Option.some.inj e; omega)).trans bz3
  have D4 := D3.grown g4 D3.size (fun k hk => by simp at hk; omega)
  clear g4 p3 bs3 bz3 D3
  have bA := (Below.refl v4.heap.size v4).alloc (Nat.le_refl _) (.cells #[.int .i64 (b : Int), .int .i64 (e : Int), .int .i64 (q : Int), .int .i64 (t : Int)] 141)
  have bq := Box.new v4 #[.int .i64 (b : Int), .int .i64 (e : Int), .int .i64 (q : Int), .int .i64 (t : Int)] 141
  have bs := bs4.below bA
  have bz := bz4.below bA
  have D := D4.trans (bA.mono D4.size)
  go_wp2_with fail
  obtain ⟨U, hU⟩ : ∃ U, U = v4.alloc (.cells #[.int .i64 (b : Int), .int .i64 (e : Int), .int .i64 (q : Int), .int .i64 (t : Int)] 141) := ⟨_, rfl⟩
  rw [← hU] at bq bs bz D ⊢
  obtain ⟨G, hG⟩ : ∃ G, G = v4.heap.size := ⟨_, rfl⟩
  rw [← hG] at bq ⊢
  clear bs4 bz4 D4 p4 bA hU hG
  have hrU := hr.below D (Nat.le_refl _)
  have q0 := bq.cell 0
  have q1 := bq.cell 1
  have q2 := bq.cell 2
  have q3 := bq.cell 3
  have s0 := bs.cell 0
  simp only [List.getElem?_toArray, List.getElem?_cons_zero, List.getElem?_cons_succ] at q0 q1 q2 q3 s0
  clear s0
  go_region_with (first | (go_at_call 175; refine (rightSuper_at (b : Int) e q t _).mono ?_; rintro r u1 ⟨rfl, b1⟩; rw [h]; have D1 : Below w.heap.size w u1 := (D.drew).trans (b1.mono D.size); have bz1 : Box u1 (w.heap.size + 1) #[.int .i64 0, .int .i64 0, .int .i64 0, .int .i64 0] 141 := Box.below (w := U.drew) bz b1; have bs1 : Box u1 w.heap.size #[.slice (some ⟨bb, oo, none⟩) 4096 cap] 37 := Box.below (w := U.drew) bs b1; have bq1 : Box u1 G #[.int .i64 (b : Int), .int .i64 (e : Int), .int .i64 (q : Int), .int .i64 (t : Int)] 141 := Box.below (w := U.drew) bq b1; have s0 := bs1.cell 0; have q0 := bq1.cell 0; have q1 := bq1.cell 1; have q2 := bq1.cell 2; have q3 := bq1.cell 3; simp only [List.getElem?_toArray, List.getElem?_cons_zero, List.getElem?_cons_succ] at q0 q1 q2 q3 s0) | (go_at_call 177; refine (superHead_at b e q t u1 hb9 he9 hq9 ht9).mono ?_; rintro r u2 ⟨g, rfl, hg, oh, b2⟩; have D2 : Below w.heap.size w u2 := D1.trans (b2.mono D1.size); have bz2 := bz1.below b2; have bq2 := bq1.below b2; have bs2 := bs1.below b2; have hr2 := hr.below D2 (Nat.le_refl _); have t0 := bs2.cell 0; simp only [List.getElem?_toArray, List.getElem?_cons_zero] at t0) | (go_at_call 228; refine (isThen_at cap 44 4096 44 (some ⟨bb, oo, none⟩) (some ⟨g, 0, none⟩) xs (headS b e q t) u2 Hn.out (headS_length _ _ _ _) hcap hcm (by omega) (by simp) hr2 oh.rd).mono ?_; rintro r u3 ⟨rfl, rfl⟩; rw [hH]))
  all_goals
    have m0 := bz2.cell 0
    have m1 := bz2.cell 1
    have m2 := bz2.cell 2
    have m3 := bz2.cell 3
    simp only [List.getElem?_toArray, List.getElem?_cons_zero, List.getElem?_cons_succ] at m0 m1 m2 m3
    have f0 := bz2.frozen 0
    have f1 := bz2.frozen 1
    have f2 := bz2.frozen 2
    have f3 := bz2.frozen 3
    have k0 := bq2.cell 0
    have k1 := bq2.cell 1
    have k2 := bq2.cell 2
    have k3 := bq2.cell 3
    simp only [List.getElem?_toArray, List.getElem?_cons_zero, List.getElem?_cons_succ] at k0 k1 k2 k3
    go_wp2_with fail
    have Y := ((((bz2.store 0 (.int .i64 (b : Int))).store 1 (.int .i64 (e : Int))).store 2 (.int .i64 (q : Int))).store 3 (.int .i64 (t : Int)))
    have C1 := ((((D2.setCell (p := ⟨w.heap.size + 1, 0, none⟩) (Nat.le_succ _) (.int .i64 (b : Int))).setCell (p := ⟨w.heap.size + 1, 1, none⟩) (Nat.le_succ _) (.int .i64 (e : Int))).setCell (p := ⟨w.heap.size + 1, 2, none⟩) (Nat.le_succ _) (.int .i64 (q : Int))).setCell (p := ⟨w.heap.size + 1, 3, none⟩) (Nat.le_succ _) (.int .i64 (t : Int)))
    generalize ((((u2.setCell ⟨w.heap.size + 1, 0, none⟩ (.int .i64 (b : Int))).setCell ⟨w.heap.size + 1, 1, none⟩ (.int .i64 (e : Int))).setCell ⟨w.heap.size + 1, 2, none⟩ (.int .i64 (q : Int))).setCell ⟨w.heap.size + 1, 3, none⟩ (.int .i64 (t : Int))) = W9 at Y C1 ⊢
    clear m0 m1 m2 m3
    have m0 := Y.cell 0
    have m1 := Y.cell 1
    have m2 := Y.cell 2
    have m3 := Y.cell 3
    simp at m0 m1 m2 m3
    refine bodyPost_ret (v := .tuple #[.agg #[.int .i64 (b : Int), .int .i64 (e : Int), .int .i64 (q : Int), .int .i64 (t : Int)], .int .i64 0]) (by simp [results, Tryz.results185, go_sem, m0, m1, m2, m3]) rfl ?_
    exact ⟨rfl, C1⟩

end Go.Proofs.YtnldkpckojhbhaaGreat.Su

/-
  GetInode: what an inode's bytes say.
-/
namespace Go.Proofs.YtnldkpckojhbhaaGreat.Su
open Go.RowKit

structure Ino where
  k : Nat
  l : Int
  s : Int
  d : List Ext
  n : Int
def zeroI : Ino := ⟨0, 0, 0, [], 0⟩
def inoV (i : Ino) (v : Value) : Value := .agg #[.int .u8 (i.k : Int), .int .i64 i.l, .int .i64 i.s, v, .int .i64 i.n]
def GetsI (w w' : World) (o : Option Ino) (r : Ending) : Prop := ∃ v, r = .returned (.tuple #[inoV (o.getD zeroI) v, .int .i64 (erG o.isSome)]) ∧ w'.ownsRow w.heap.size 46 3 v (o.getD zeroI).d.length (ecs (o.getD zeroI).d) ∧ Below w.heap.size w w'
def listI (xs : List UInt8) : List Ext := readE xs 8 (num xs 1 1)
def readI (xs : List UInt8) : Ino := ⟨num xs 0 1, (num xs 2 2 : Nat), (num xs 4 4 : Nat), listI xs, (num xs 26 2 : Nat)⟩
def getInode (xs : List UInt8) : Option Ino :=
  if xs.length ≠ 64 then none else if xs.all (· == 0) then some zeroI else
  if usedI (num xs 0 1) (num xs 2 2 : Nat) (num xs 4 4 : Nat) (listI xs) (num xs 26 2 : Nat) && (isThen (xs.take 60) (headI (num xs 0 1) (num xs 2 2) (num xs 4 4) (listI xs) (num xs 26 2)) && decide (num xs 60 4 = crc 0 (xs.take 60))) then some (readI xs) else none

theorem isThen_nil (xs : List UInt8) : isThen xs [] = xs.all (· == 0) := by simp [isThen]

theorem tail_nil (w w' : World) (h : Below w.heap.size w w') (i : Int) (b : Bool) (hi : i = erG b) : ∃ v, Ending.returned (.tuple #[.agg #[.int .u8 0, .int .i64 0, .int .i64 0, .slice none 0 0, .int .i64 0], .int .i64 i]) = .returned (.tuple #[inoV zeroI v, .int .i64 (erG b)]) ∧ w'.ownsRow w.heap.size 46 3 v zeroI.d.length (ecs zeroI.d) ∧ Below w.heap.size w w' :=
  ⟨.slice none 0 0, by rw [hi]; rfl, World.ownsRow_nil _ _ _ _, h⟩

end Go.Proofs.YtnldkpckojhbhaaGreat.Su

/-
  A change within four bytes: what the walks ask of lists.
-/
namespace Go.Proofs.YtnldkpckojhbhaaGreat.Su
open Go.RowKit

/-- The first k bytes from a place on, taken xor the bytes of a number, the lowest first. -/
def chg (xs : List UInt8) (p ch : Nat) : Nat → List UInt8
  | 0 => xs
  | k + 1 => (chg xs p ch k).set (p + k) ((chg xs p ch k).getD (p + k) 0 ^^^ UInt8.ofNat (ch / 2 ^ (8 * k)))

theorem chg_length (xs : List UInt8) (p ch k : Nat) : (chg xs p ch k).length = xs.length := by
  induction k with
  | zero => rfl
  | succ k ih => rw [chg, List.length_set, ih]
theorem chg_take (xs : List UInt8) (p ch k : Nat) : (chg xs p ch k).take p = xs.take p := by
  induction k with
  | zero => rfl
  | succ k ih => rw [chg, List.take_set_of_le (by omega), ih]
theorem chg_drop (xs : List UInt8) (p ch k : Nat) : (chg xs p ch k).drop (p + k) = xs.drop (p + k) := by
  induction k with
  | zero => rfl
  | succ k ih =>
    rw [chg, List.drop_set_of_lt (by omega), show p + (k + 1) = (p + k) + 1 by omega, ← List.drop_drop, ih, List.drop_drop]

theorem parts (xs : List UInt8) (p k : Nat) : xs = xs.take p ++ ((xs.drop p).take k ++ xs.drop (p + k)) := by
  have h : xs.drop (p + k) = (xs.drop p).drop k := by rw [List.drop_drop]
  rw [h, List.take_append_drop, List.take_append_drop]

/-- If a change of up to four bytes next to each other is not seen, nothing has changed. -/
theorem chg_seen (xs : List UInt8) (p ch k : Nat) (hk : k ≤ 4) (h : crc 0 xs = crc 0 (chg xs p ch k)) : xs = chg xs p ch k := by
  have h1 := parts xs p k
  have h2 := parts (chg xs p ch k) p k
  rw [chg_take, chg_drop] at h2
  rw [h2] at h
  rw [h2]
  generalize hm : ((chg xs p ch k).drop p).take k = zs at h ⊢
  have hz : zs.length = ((xs.drop p).take k).length := by rw [← hm]; simp [chg_length]
  have e : (xs.drop p).take k = zs := by
    apply crc_burst (xs.take p) _ _ (xs.drop (p + k)) hz.symm (by simp; omega)
    rw [← h1]
    exact h
  rw [← e]
  exact h1

theorem chg_byte (c : UInt8) (ch k : Nat) : bits .xor .u8 (c.toNat : Int) ((ch : Int) / 2 ^ (8 * k) % 256) = ((c ^^^ UInt8.ofNat (ch / 2 ^ (8 * k))).toNat : Int) := by
  have e : (ch : Int) / 2 ^ (8 * k) % 256 = (((ch / 2 ^ (8 * k)) % 256 : Nat) : Int) := by simp
  rw [e, xor_u8 _ _ (u8_lt c) (by omega), UInt8.toNat_xor, ofNat_toNat]

theorem bcs_set (xs : List UInt8) (j : Nat) (c : UInt8) : (bcs xs).set j (.int .u8 (c.toNat : Int)) = bcs (xs.set j c) := by
  simp [bcs, bc, List.map_set]

theorem owns_rd_at {w : World} {B n g cap : Nat} {ys : List UInt8} (h : w.ownsRow B 5 1 (.slice (some ⟨g, 0, none⟩) n cap) n (bcs ys)) : Rd w (some ⟨g, 0, none⟩) ys := fun _ => ⟨g, 0, rfl, fun j hj => by
  have := h.cells (g := g) rfl j _ (bcs_getElem? ys j hj)
  rw [Addr.add_lit] at this
  exact this⟩

theorem same_tell (xs zs : List UInt8) (h : crc 0 xs = crc 0 zs → xs = zs) : (((crc 0 xs : Nat) : Int) == ((crc 0 zs : Nat) : Int)) = (xs == zs) := by
  by_cases e : xs = zs
  · subst e; simp
  · have hne : crc 0 xs ≠ crc 0 zs := fun h' => e (h h')
    have h1 : (xs == zs) = false := by simpa using e
    have h2 : (((crc 0 xs : Nat) : Int) == ((crc 0 zs : Nat) : Int)) = false := by simp; omega
    rw [h1, h2]

/-- A number from 0 to n - 1 out of any number. -/
theorem pick_at (x : Int) (n : Nat) (w : World) (h0 : 0 < n) (hn : n ≤ 20000) :
    Calls Tryz.prog 43 #[.int .i64 x, .int .i64 n] w fun e w' => ∃ p : Nat, p < n ∧ e = .returned (.int .i64 p) ∧ w = w' := by
  have h1 : x.tmod n < n := Int.tmod_lt_of_pos x (by omega)
  have h2 : -(n : Int) < x.tmod n := Int.lt_tmod_of_pos x (by omega)
  obtain ⟨y, hy⟩ : ∃ y, x.tmod n = y := ⟨_, rfl⟩
  rw [hy] at h1 h2
  go_enter Tryz.func43, Tryz.ntmps43
  go_wp2
  · go_ret
    exact ⟨(y + n).toNat, by omega, by
      have e : ((y + n).toNat : Int) = y + n := by omega
      rw [e]
      rfl, rfl⟩
  · go_ret
    exact ⟨y.toNat, by omega, by
      have e : (y.toNat : Int) = y := by omega
      rw [e]
      rfl, rfl⟩

end Go.Proofs.YtnldkpckojhbhaaGreat.Su

/-
  One form each: what is put is got back, what is got is put the same, and a change within four bytes is seen.
-/
namespace Go.Proofs.YtnldkpckojhbhaaGreat.Su
open Go.RowKit

theorem all_zero (xs : List UInt8) (h : xs.all (· == 0) = true) : xs = noughts xs.length := by
  apply List.ext_getElem
  · rw [noughts_length]
  · intro i h1 h2
    have := (List.all_eq_true.1 h) xs[i] (List.getElem_mem h1)
    simp only [beq_iff_eq] at this
    rw [this]
    simp [noughts]
theorem noughts_all (n : Nat) : (noughts n).all (· == 0) = true := by simp [noughts]

theorem isThen_true {xs ys : List UInt8} (h : isThen xs ys = true) : ys.length ≤ xs.length ∧ xs = ys ++ noughts (xs.length - ys.length) := by
  simp only [isThen, Bool.and_eq_true, decide_eq_true_eq, beq_iff_eq] at h
  obtain ⟨⟨h1, h2⟩, h3⟩ := h
  refine ⟨h1, ?_⟩
  have h4 := all_zero _ h3
  rw [List.length_drop] at h4
  rw [← h4]
  exact ((List.take_append_drop ys.length xs).symm.trans (by rw [h2]))
theorem isThen_self (ys : List UInt8) (k : Nat) : isThen (ys ++ noughts k) ys = true := by
  simp [isThen, noughts_all]

theorem num_put (pre post : List UInt8) (k v : Nat) (i : Int) (hi : i = (pre.length : Int)) (hv : v < 256 ^ k) : num (pre ++ (toBE k v ++ post)) i k = v := by
  unfold num
  rw [numAt_put pre post k v i hi, Option.getD_some, Nat.mod_eq_of_lt hv]

theorem i64_in (v : Nat) (h : v < 9223372036854775808) : i64 v = (v : Int) := by
  unfold i64 wrap64
  omega

theorem rightS_lt {b e q t : Int} (h : rightS b e q t = true) : ∃ b' e' q' t' : Nat, b = b' ∧ e = e' ∧ q = q' ∧ t = t' ∧ b' < 9223372036854775808 ∧ e' < 9223372036854775808 ∧ q' < 9223372036854775808 ∧ t' < 9223372036854775808 := by
  have := rightS_nat h
  exact ⟨b.toNat, e.toNat, q.toNat, t.toNat, by omega, by omega, by omega, by omega, by omega, by omega, by omega, by omega⟩

/-! ### node -/
theorem extsB_split (es : List Ext) (j : Nat) (h : j < es.length) : extsB es = extsB (es.take j) ++ (extB es[j] ++ extsB (es.drop (j + 1))) := by
  have e : es = es.take j ++ (es[j] :: es.drop (j + 1)) := by rw [← List.drop_eq_getElem_cons h, List.take_append_drop]
  have e2 : extsB es = extsB (es.take j ++ (es[j] :: es.drop (j + 1))) := by rw [← e]
  rw [e2]
  unfold extsB
  rw [List.flatMap_append, List.flatMap_cons]
theorem natE_get {e : Ext} (h : natE e) : ((e.a.toNat : Int) = e.a ∧ e.a.toNat < 256 ^ 2) ∧ ((e.s.toNat : Int) = e.s ∧ e.s.toNat < 256 ^ 2) ∧ ((e.c.toNat : Int) = e.c ∧ e.c.toNat < 256 ^ 2) := by
  obtain ⟨h1, h2, h3⟩ := h
  refine ⟨⟨?_, ?_⟩, ⟨?_, ?_⟩, ⟨?_, ?_⟩⟩ <;> omega
theorem readE_exts (pre post : List UInt8) (es : List Ext) (p : Nat) (hp : pre.length = p) (hn : ∀ e ∈ es, natE e) : readE (pre ++ (extsB es ++ post)) p es.length = es := by
  apply List.ext_getElem
  · rw [readE_length]
  · intro j h1 h2
    have hj : j < es.length := h2
    obtain ⟨⟨a1, a2⟩, ⟨s1, s2⟩, ⟨c1, c2⟩⟩ := natE_get (hn es[j] (List.getElem_mem hj))
    have hl : (extsB (es.take j)).length = j * 6 := by rw [extsB_length, List.length_take]; omega
    obtain ⟨X, hX⟩ : ∃ X, X = extsB (es.drop (j + 1)) ++ post := ⟨_, rfl⟩
    have e : pre ++ (extsB es ++ post) = (pre ++ extsB (es.take j)) ++ (toBE 2 es[j].a.toNat ++ (toBE 2 es[j].s.toNat ++ (toBE 2 es[j].c.toNat ++ X))) := by
      rw [extsB_split es j hj, extB, hX]
      simp only [List.append_assoc]
    have n0 : num (pre ++ (extsB es ++ post)) ((p + 6 * j : Nat) : Int) 2 = es[j].a.toNat := by
      rw [e]
      exact num_put _ _ 2 _ _ (by rw [List.length_append, hl, hp]; omega) a2
    have n1 : num (pre ++ (extsB es ++ post)) ((p + 6 * j + 2 : Nat) : Int) 2 = es[j].s.toNat := by
      rw [e, ← List.append_assoc]
      exact num_put _ _ 2 _ _ (by rw [List.length_append, List.length_append, hl, hp, toBE_length]; omega) s2
    have n2 : num (pre ++ (extsB es ++ post)) ((p + 6 * j + 4 : Nat) : Int) 2 = es[j].c.toNat := by
      rw [e, ← List.append_assoc, ← List.append_assoc]
      exact num_put _ _ 2 _ _ (by rw [List.length_append, List.length_append, List.length_append, hl, hp, toBE_length, toBE_length]; omega) c2
    simp only [readE, List.getElem_map, List.getElem_range]
    rw [n0, n1, n2, a1, s1, c1]

theorem nodeB_eq (es : List Ext) : nodeB es = ([] ++ (toBE 2 es.length ++ (noughts 2 ++ (toBE 4 (crc 0 (bodyN es)) ++ bodyN es)))) := by simp [nodeB]
theorem zero2 : toBE 2 0 = noughts 2 := by decide
theorem nodeB_drop (es : List Ext) : (nodeB es).drop 8 = bodyN es := by
  unfold nodeB
  rw [← List.append_assoc]
  exact List.drop_left' (by simp only [List.length_append, toBE_length, noughts_length])
theorem getNode_put (es : List Ext) (h1 : es.length ≤ 250) (h2 : rightFrom 0 es = true) : getNode (nodeB es) = some es := by
  have hn := natE_of_right es 0 (by omega) h2
  have c0 : num (nodeB es) 0 2 = es.length := by
    rw [nodeB_eq]; exact num_put _ _ 2 _ _ rfl (by omega)
  have c1 : num (nodeB es) 2 2 = 0 := by
    rw [nodeB_eq, ← zero2, List.nil_append]; exact num_put _ _ 2 0 _ (by rw [toBE_length]; rfl) (by decide)
  have c2 : num (nodeB es) 4 4 = crc 0 (bodyN es) := by
    rw [nodeB]; exact num_put _ _ 4 _ _ (by rw [List.length_append, toBE_length, noughts_length]; rfl) (by have := crc_lt 0 (bodyN es); omega)
  have hl : listN (nodeB es) = es := by
    unfold listN
    rw [c0]
    have e : nodeB es = ((toBE 2 es.length ++ noughts 2) ++ toBE 4 (crc 0 (bodyN es))) ++ (extsB es ++ noughts (4088 - es.length * 6)) := by simp only [nodeB, bodyN, List.append_assoc]
    rw [e]
    exact readE_exts _ _ es 8 (by simp only [List.length_append, toBE_length, noughts_length]) hn
  unfold getNode
  rw [hl, c0, c1, c2, nodeB_drop, nodeB_length es h1, h2, decide_eq_true h1]
  have ht : isThen (bodyN es) (extsB es) = true := isThen_self _ _
  rw [ht]
  simp

theorem if_some {α : Type} {c : Bool} {x y : α} (h : (if c then some x else none) = some y) : c = true ∧ x = y := by
  cases c with
  | false => simp at h
  | true => exact ⟨rfl, by simpa using h⟩

theorem head4 (xs : List UInt8) (k n : Nat) (h : k + n ≤ xs.length) : (xs.drop k).take n = toBE n (num xs (k : Int) n) := by
  unfold num
  rw [numAt_some (by omega), Option.getD_some]
  have hl : ((xs.drop k).take n).length = n := by simp; omega
  have := toBE_beNat ((xs.drop k).take n)
  rw [hl] at this
  exact this.symm

theorem getNode_some {xs : List UInt8} {es : List Ext} (h : getNode xs = some es) : (es.length ≤ 250 ∧ rightFrom 0 es = true) ∧ nodeB es = xs := by
  obtain ⟨hc, hx⟩ := if_some h
  simp only [Bool.and_eq_true, decide_eq_true_eq] at hc
  obtain ⟨hl, h250, hz, hr, ht, hs⟩ := hc
  subst hx
  have hle : (listN xs).length = num xs 0 2 := readE_length _ _ _
  refine ⟨⟨by omega, hr⟩, ?_⟩
  obtain ⟨t1, t2⟩ := isThen_true ht
  have hb : xs.drop 8 = bodyN (listN xs) := by
    rw [t2, bodyN]
    congr 2
    rw [List.length_drop, hl, extsB_length]
  have p0 := head4 xs 0 2 (by omega)
  have p1 := head4 xs 2 2 (by omega)
  have p2 := head4 xs 4 4 (by omega)
  have e : xs = (xs.drop 0).take 2 ++ ((xs.drop 2).take 2 ++ ((xs.drop 4).take 4 ++ xs.drop 8)) := by
    have e1 : (xs.drop 4).take 4 ++ xs.drop 8 = xs.drop 4 := by
      have : xs.drop 8 = (xs.drop 4).drop 4 := by rw [List.drop_drop]
      rw [this, List.take_append_drop]
    have e2 : (xs.drop 2).take 2 ++ xs.drop 4 = xs.drop 2 := by
      have : xs.drop 4 = (xs.drop 2).drop 2 := by rw [List.drop_drop]
      rw [this, List.take_append_drop]
    rw [e1, e2, List.drop_zero, List.take_append_drop]
  have hz' : toBE 2 (num xs ((2 : Nat) : Int) 2) = noughts 2 := by
    have : num xs ((2 : Nat) : Int) 2 = 0 := hz
    rw [this, zero2]
  have hs' : num xs ((4 : Nat) : Int) 4 = crc 0 (bodyN (listN xs)) := by rw [← hb]; exact hs
  rw [nodeB, hle]
  conv => rhs; rw [e]
  rw [p0, p1, p2, hz', hs', hb]
  simp only [List.append_assoc]
  rfl

/-! ### inode -/
theorem headI_eq (k l s : Nat) (es : List Ext) (d : Nat) (post : List UInt8) : headI k l s es d ++ post = [] ++ (toBE 1 k ++ (toBE 1 es.length ++ (toBE 2 l ++ (toBE 4 s ++ (extsB es ++ (noughts (26 - (8 + es.length * 6)) ++ (toBE 2 d ++ post))))))) := by
  simp only [headI, List.append_assoc, List.nil_append]
theorem headI_nums (k l s : Nat) (es : List Ext) (d : Nat) (post : List UInt8) (hk : k < 256) (hl : l < 65536) (hs : s < 4294967296) (hd : d < 65536) (h3 : es.length ≤ 3) (hn : ∀ e ∈ es, natE e) :
    num (headI k l s es d ++ post) 0 1 = k ∧ num (headI k l s es d ++ post) 1 1 = es.length ∧ num (headI k l s es d ++ post) 2 2 = l ∧ num (headI k l s es d ++ post) 4 4 = s ∧ num (headI k l s es d ++ post) 26 2 = d ∧ readE (headI k l s es d ++ post) 8 es.length = es := by
  rw [headI_eq]
  refine ⟨?_, ?_, ?_, ?_, ?_, ?_⟩
  · exact num_put _ _ 1 _ _ rfl (by omega)
  · rw [← List.append_assoc]
    exact num_put _ _ 1 _ _ (by simp only [List.length_append, List.length_nil, toBE_length]; rfl) (by omega)
  · rw [← List.append_assoc, ← List.append_assoc]
    exact num_put _ _ 2 _ _ (by simp only [List.length_append, List.length_nil, toBE_length]; rfl) (by omega)
  · rw [← List.append_assoc, ← List.append_assoc, ← List.append_assoc]
    exact num_put _ _ 4 _ _ (by simp only [List.length_append, List.length_nil, toBE_length]; rfl) (by omega)
  · rw [← List.append_assoc, ← List.append_assoc, ← List.append_assoc, ← List.append_assoc, ← List.append_assoc, ← List.append_assoc]
    exact num_put _ _ 2 _ _ (by simp only [List.length_append, List.length_nil, toBE_length, noughts_length, extsB_length]; omega) (by omega)
  · rw [← List.append_assoc, ← List.append_assoc, ← List.append_assoc, ← List.append_assoc]
    exact readE_exts _ _ es 8 (by simp only [List.length_append, List.length_nil, toBE_length]) hn

theorem inodeB_take (k l s : Nat) (es : List Ext) (d : Nat) (h : es.length ≤ 3) : (inodeB k l s es d).take 60 = headI k l s es d ++ noughts 32 := by
  unfold inodeB
  exact List.take_left' (by rw [List.length_append, headI_length k l s es d h, noughts_length])
theorem inodeB_some_zero (k l s : Nat) (es : List Ext) (d : Nat) (hk : k = 1 ∨ k = 2) : (inodeB k l s es d).all (· == 0) = false := by
  have e : inodeB k l s es d = UInt8.ofNat k :: (inodeB k l s es d).drop 1 := by
    unfold inodeB headI
    simp only [List.append_assoc]
    rfl
  rw [e]
  rcases hk with rfl | rfl <;> simp
theorem getInode_put (k : Nat) (l s : Int) (es : List Ext) (d : Int) (h : usedI k l s es d = true) : getInode (inodeB k l.toNat s.toNat es d.toNat) = some ⟨k, l, s, es, d⟩ := by
  obtain ⟨hk, h1, h2, h3, h4, h5⟩ := usedI_nat h
  have hn := natE_of_right es 0 (by omega) h4
  obtain ⟨l, rfl⟩ := Int.eq_ofNat_of_zero_le h1.1
  obtain ⟨s, rfl⟩ := Int.eq_ofNat_of_zero_le h2.1
  obtain ⟨d, rfl⟩ := Int.eq_ofNat_of_zero_le h5.1
  simp only [Int.toNat_natCast]
  have e : inodeB k l s es d = headI k l s es d ++ (noughts 32 ++ toBE 4 (crc 0 (headI k l s es d ++ noughts 32))) := by simp only [inodeB, List.append_assoc]
  obtain ⟨n0, n1, n2, n3, n4, n5⟩ := headI_nums k l s es d (noughts 32 ++ toBE 4 (crc 0 (headI k l s es d ++ noughts 32))) (by omega) (by omega) (by omega) (by omega) h3 hn
  rw [← e] at n0 n1 n2 n3 n4 n5
  have n6 : num (inodeB k l s es d) 60 4 = crc 0 (headI k l s es d ++ noughts 32) := by
    unfold inodeB
    have := num_put (headI k l s es d ++ noughts 32) [] 4 (crc 0 (headI k l s es d ++ noughts 32)) 60 (by rw [List.length_append, headI_length k l s es d h3, noughts_length]; rfl) (by have := crc_lt 0 (headI k l s es d ++ noughts 32); omega)
    rw [List.append_nil] at this
    exact this
  have hL : listI (inodeB k l s es d) = es := by unfold listI; rw [n1, n5]
  unfold getInode readI
  rw [hL, n0, n2, n3, n4, n6, inodeB_take k l s es d h3, inodeB_length k l s es d h3, inodeB_some_zero k l s es d hk, h, isThen_self]
  simp
theorem getInode_zero : getInode (noughts 64) = some zeroI := by
  unfold getInode
  rw [noughts_length, noughts_all]
  rfl
theorem getInode_some {xs : List UInt8} {i : Ino} (h : getInode xs = some i) : putInode i.k i.l i.s i.d i.n = some xs := by
  unfold getInode at h
  by_cases hl : xs.length = 64
  · rw [if_neg (by omega)] at h
    cases hz : xs.all (· == 0)
    · rw [hz] at h
      obtain ⟨hc, hx⟩ := if_some h
      simp only [Bool.and_eq_true, decide_eq_true_eq] at hc
      obtain ⟨hu, ht, hs⟩ := hc
      subst hx
      have hu' : usedI (readI xs).k (readI xs).l (readI xs).s (readI xs).d (readI xs).n = true := hu
      obtain ⟨hk, _⟩ := usedI_nat hu
      have hun : unusedI (readI xs).k (readI xs).l (readI xs).s (readI xs).d.length (readI xs).n = false := by
        have : ((((num xs 0 1 : Nat) : Int) == 0)) = false := by
          have : num xs 0 1 ≠ 0 := by omega
          simp; omega
        simp only [unusedI, readI, this, Bool.false_and]
      unfold putInode
      rw [hun, hu']
      show some _ = some _
      congr 1
      obtain ⟨t1, t2⟩ := isThen_true ht
      obtain ⟨_, _, _, h3, _, _⟩ := usedI_nat hu
      rw [headI_length _ _ _ _ _ h3, List.length_take, hl] at t2
      have p := head4 xs 60 4 (by omega)
      have p' : xs.drop 60 = toBE 4 (crc 0 (xs.take 60)) := by
        have e1 : (xs.drop 60).take 4 = xs.drop 60 := List.take_of_length_le (by simp; omega)
        rw [e1] at p
        rw [p, ← hs]
        rfl
      simp only [readI, Int.toNat_natCast]
      unfold inodeB
      have t3 : xs.take 60 = headI (num xs 0 1) (num xs 2 2) (num xs 4 4) (listI xs) (num xs 26 2) ++ noughts 32 := t2
      rw [← t3, ← p', List.take_append_drop]
    · rw [hz] at h
      have hx : zeroI = i := by simpa using h
      subst hx
      rw [all_zero xs hz, hl]
      rfl
  · rw [if_pos (by omega)] at h
    simp at h

/-! ### what four turned bytes are -/
theorem chg_getD (xs : List UInt8) (p ch : Nat) : ∀ k i, i < k → p + k ≤ xs.length → (chg xs p ch k).getD (p + i) 0 = xs.getD (p + i) 0 ^^^ UInt8.ofNat (ch / 2 ^ (8 * i))
  | 0, _, h, _ => by omega
  | k + 1, i, h, hl => by
    rw [chg]
    by_cases e : i = k
    · subst e
      have hd := chg_drop xs p ch i
      have h0 : (chg xs p ch i).getD (p + i) 0 = xs.getD (p + i) 0 := by
        have := congrArg (fun l => l.getD 0 0) hd
        simpa [List.getD] using this
      rw [h0]
      simp [List.getD, chg_length, show p + i < xs.length by omega]
    · have := chg_getD xs p ch k i (by omega) (by omega)
      rw [← this]
      simp [List.getD, show ¬ (k = i) by omega]
theorem chg_ne (xs : List UInt8) (p ch : Nat) (hl : p + 4 ≤ xs.length) (h0 : 0 < ch) (h4 : ch < 4294967296) : chg xs p ch 4 ≠ xs := by
  intro e
  have hz : ∀ i, i < 4 → ch / 2 ^ (8 * i) % 256 = 0 := by
    intro i hi
    have := chg_getD xs p ch 4 i hi hl
    rw [e] at this
    have h2 : (0 : UInt8) = UInt8.ofNat (ch / 2 ^ (8 * i)) := by
      have h3 := congrArg (fun c => xs.getD (p + i) 0 ^^^ c) this
      simp only [UInt8.xor_self, ← UInt8.xor_assoc] at h3
      simpa using h3
    have h4 := congrArg UInt8.toNat h2
    rw [ofNat_toNat] at h4
    exact h4.symm
  have z0 := hz 0 (by omega)
  have z1 := hz 1 (by omega)
  have z2 := hz 2 (by omega)
  have z3 := hz 3 (by omega)
  simp at z0 z1 z2 z3
  omega
theorem chg_left (A B : List UInt8) (p ch : Nat) : ∀ k, p + k ≤ A.length → chg (A ++ B) p ch k = chg A p ch k ++ B
  | 0, _ => rfl
  | k + 1, h => by
    rw [chg, chg, chg_left A B p ch k (by omega), List.set_append_left _ _ (by rw [chg_length]; omega)]
    congr 2
    simp [List.getD, List.getElem?_append_left (show p + k < (chg A p ch k).length by rw [chg_length]; omega)]
theorem chg_right (A B : List UInt8) (p ch n : Nat) (hn : A.length = n) : ∀ k, chg (A ++ B) (n + p) ch k = A ++ chg B p ch k
  | 0 => rfl
  | k + 1 => by
    rw [chg, chg, chg_right A B p ch n hn k]
    have e : n + p + k = A.length + (p + k) := by omega
    rw [e, List.set_append_right _ _ (by omega)]
    congr 2
    · congr 1
      omega
    · congr 1
      simp [List.getD, List.getElem?_append_right]

theorem toBE_inj {n a b : Nat} (ha : a < 256 ^ n) (hb : b < 256 ^ n) (h : toBE n a = toBE n b) : a = b := by
  have := congrArg beNat h
  rw [beNat_toBE, beNat_toBE, Nat.mod_eq_of_lt ha, Nat.mod_eq_of_lt hb] at this
  exact this

theorem getNode_turned (es : List Ext) (p ch : Nat) (h1 : es.length ≤ 250) (hp : p < 4085) (h0 : 0 < ch) (h4 : ch < 4294967296) : getNode (chg (nodeB es) (8 + p) ch 4) = none := by
  cases h : getNode (chg (nodeB es) (8 + p) ch 4) with
  | none => rfl
  | some fs =>
    exfalso
    obtain ⟨⟨g1, _⟩, g2⟩ := getNode_some h
    have e : nodeB es = ((toBE 2 es.length ++ noughts 2) ++ toBE 4 (crc 0 (bodyN es))) ++ bodyN es := by simp only [nodeB, List.append_assoc]
    have e' : nodeB fs = ((toBE 2 fs.length ++ noughts 2) ++ toBE 4 (crc 0 (bodyN fs))) ++ bodyN fs := by simp only [nodeB, List.append_assoc]
    rw [e, chg_right _ _ p ch 8 (by simp only [List.length_append, toBE_length, noughts_length]), e'] at g2
    have hin := List.append_inj g2 (by simp only [List.length_append, toBE_length, noughts_length])
    have hin2 := List.append_inj' hin.1 (by rw [toBE_length, toBE_length])
    have hc := toBE_inj (by have := crc_lt 0 (bodyN fs); omega) (by have := crc_lt 0 (bodyN es); omega) hin2.2
    rw [hin.2] at hc
    have := chg_seen (bodyN es) p ch 4 (by omega) hc.symm
    exact chg_ne (bodyN es) p ch (by rw [bodyN_length es h1]; omega) h0 h4 this.symm
end Go.Proofs.YtnldkpckojhbhaaGreat.Su

/-
  GetSuper's contract, and a superblock's one form.
-/
namespace Go.Proofs.YtnldkpckojhbhaaGreat.Su
open Go.RowKit

theorem getSuper_at (n cap : Nat) (a : Option Addr) (xs : List UInt8) (w : World) (hn : xs.length = n) (hcap : n ≤ cap) (hm : cap ≤ 9223372036854775807) (hr : Rd w a xs) :
    Calls Tryz.prog 185 #[.slice a n cap] w fun r w' => GetsS w w' (getSuper xs) r := by
  have e : getSuper xs = ansS (i64 (num xs 8 8)) (i64 (num xs 16 8)) (i64 (num xs 24 8)) (i64 (num xs 32 8)) n xs := by rw [← hn]; rfl
  rw [e]
  cases h : rightS (i64 (num xs 8 8)) (i64 (num xs 16 8)) (i64 (num xs 24 8)) (i64 (num xs 32 8))
  · exact getSuper_wrong n cap a xs _ _ _ _ w hn (by omega) hr rfl rfl rfl rfl h
  · by_cases h4 : n = 4096
    · subst h4
      obtain ⟨bb, oo, rfl, _⟩ := hr (by omega)
      have hh := rightS_nat h
      obtain ⟨b, hb⟩ := Int.eq_ofNat_of_zero_le (show 0 ≤ i64 (num xs 8 8) by omega)
      obtain ⟨e, he⟩ := Int.eq_ofNat_of_zero_le (show 0 ≤ i64 (num xs 16 8) by omega)
      obtain ⟨q, hq⟩ := Int.eq_ofNat_of_zero_le (show 0 ≤ i64 (num xs 24 8) by omega)
      obtain ⟨t, ht⟩ := Int.eq_ofNat_of_zero_le (show 0 ≤ i64 (num xs 32 8) by omega)
      rw [hb, he, hq, ht] at h ⊢
      rcases Bool.eq_false_or_eq_true (isThen xs (headS b e q t)) with hH | hH
      · have e9 : ansS b e q t 4096 xs = some ⟨b, e, q, t⟩ := by
          have hH' : isThen xs (headS (b : Int).toNat (e : Int).toNat (q : Int).toNat (t : Int).toNat) = true := hH
          unfold ansS
          rw [h, decide_eq_true (rfl : (4096 : Nat) = 4096), hH']
          rfl
        rw [e9]
        exact getSuper_ok bb oo cap b e q t xs w hn hcap hm (by omega) hr hb he hq ht h hH
      · have e9 : ansS b e q t 4096 xs = none := by
          have hH' : isThen xs (headS (b : Int).toNat (e : Int).toNat (q : Int).toNat (t : Int).toNat) = false := hH
          unfold ansS
          rw [h, decide_eq_true (rfl : (4096 : Nat) = 4096), hH']
          rfl
        rw [e9]
        exact getSuper_bad bb oo cap b e q t xs w hn hcap hm (by omega) hr hb he hq ht h hH
    · exact getSuper_off n cap a xs _ _ _ _ w hn (by omega) hr rfl rfl rfl rfl h h4

theorem superB_eq (b e q t : Nat) : superB b e q t = letters ++ (toBE 8 b ++ (toBE 8 e ++ (toBE 8 q ++ (toBE 8 t ++ (toBE 4 (crc 0 (lead [b, e, q, t])) ++ noughts 4052))))) := by
  simp [superB, headS, lead]
theorem readS_put (b e q t : Nat) (hb : b < 9223372036854775808) (he : e < 9223372036854775808) (hq : q < 9223372036854775808) (ht : t < 9223372036854775808) : readS (superB b e q t) = ⟨b, e, q, t⟩ := by
  have n0 : num (superB b e q t) 8 8 = b := by rw [superB_eq]; exact num_put _ _ 8 _ _ rfl (by omega)
  have n1 : num (superB b e q t) 16 8 = e := by
    rw [superB_eq, ← List.append_assoc]
    exact num_put _ _ 8 _ _ (by simp only [List.length_append, toBE_length]; rfl) (by omega)
  have n2 : num (superB b e q t) 24 8 = q := by
    rw [superB_eq, ← List.append_assoc, ← List.append_assoc]
    exact num_put _ _ 8 _ _ (by simp only [List.length_append, toBE_length]; rfl) (by omega)
  have n3 : num (superB b e q t) 32 8 = t := by
    rw [superB_eq, ← List.append_assoc, ← List.append_assoc, ← List.append_assoc]
    exact num_put _ _ 8 _ _ (by simp only [List.length_append, toBE_length]; rfl) (by omega)
  unfold readS
  rw [n0, n1, n2, n3, i64_in b hb, i64_in e he, i64_in q hq, i64_in t ht]
theorem getSuper_put (b e q t : Int) (h : rightS b e q t = true) : getSuper (superB b.toNat e.toNat q.toNat t.toNat) = some ⟨b, e, q, t⟩ := by
  obtain ⟨b, e, q, t, rfl, rfl, rfl, rfl, hb, he, hq, ht⟩ := rightS_lt h
  simp only [Int.toNat_natCast]
  unfold getSuper
  rw [readS_put b e q t hb he hq ht]
  have hi : isThen (superB b e q t) (headS (b : Int).toNat (e : Int).toNat (q : Int).toNat (t : Int).toNat) = true := isThen_self (headS b e q t) 4052
  show (if rightS b e q t && (decide ((superB b e q t).length = 4096) && isThen (superB b e q t) (headS (b : Int).toNat (e : Int).toNat (q : Int).toNat (t : Int).toNat)) then some (⟨b, e, q, t⟩ : Sup) else none) = _
  rw [h, hi, decide_eq_true (superB_length b e q t)]
  rfl
theorem getSuper_some {xs : List UInt8} {s : Sup} (h : getSuper xs = some s) : rightS s.b s.e s.q s.t = true ∧ superB s.b.toNat s.e.toNat s.q.toNat s.t.toNat = xs := by
  obtain ⟨hc, hx⟩ := if_some h
  simp only [Bool.and_eq_true, decide_eq_true_eq] at hc
  obtain ⟨hr, hl, ht⟩ := hc
  subst hx
  refine ⟨hr, ?_⟩
  obtain ⟨_, t2⟩ := isThen_true ht
  rw [hl, headS_length] at t2
  exact t2.symm
theorem getSuper_turned (b e q t p ch : Nat) (hp : p < 37) (h0 : 0 < ch) (h4 : ch < 4294967296) : getSuper (chg (superB b e q t) p ch 4) = none := by
  cases h : getSuper (chg (superB b e q t) p ch 4) with
  | none => rfl
  | some s =>
    exfalso
    obtain ⟨_, g2⟩ := getSuper_some h
    obtain ⟨b', hb⟩ : ∃ x, x = s.b.toNat := ⟨_, rfl⟩
    obtain ⟨e', he⟩ : ∃ x, x = s.e.toNat := ⟨_, rfl⟩
    obtain ⟨q', hq⟩ : ∃ x, x = s.q.toNat := ⟨_, rfl⟩
    obtain ⟨t', ht⟩ : ∃ x, x = s.t.toNat := ⟨_, rfl⟩
    rw [← hb, ← he, ← hq, ← ht] at g2
    have e1 : ∀ b e q t, superB b e q t = lead [b, e, q, t] ++ (toBE 4 (crc 0 (lead [b, e, q, t])) ++ noughts 4052) := fun b e q t => by simp only [superB, headS, List.append_assoc]
    rw [e1 b e q t, e1 b' e' q' t', chg_left _ _ p ch 4 (by rw [lead_length]; simp; omega)] at g2
    have hin := List.append_inj g2 (by rw [chg_length, lead_length, lead_length]; rfl)
    have hin2 := List.append_inj hin.2 (by rw [toBE_length, toBE_length])
    have hc := toBE_inj (by have := crc_lt 0 (lead [b', e', q', t']); omega) (by have := crc_lt 0 (lead [b, e, q, t]); omega) hin2.1
    rw [hin.1] at hc
    have := chg_seen (lead [b, e, q, t]) p ch 4 (by omega) hc.symm
    exact chg_ne (lead [b, e, q, t]) p ch (by rw [lead_length]; simp; omega) h0 h4 this.symm
end Go.Proofs.YtnldkpckojhbhaaGreat.Su

/-
  Plain lists: images are laid, a superblock behind them; what any crash leaves. No program is named here.
-/
namespace Go.Proofs.YtnldkpckojhbhaaGreat.H
open Go.Proofs.YtnldkpckojhbhaaGreat.Dk

/-- images are written one behind the other, then flushed; the first error ends it -/
def layD : List (Int × List UInt8) → DS → DS × Nat
  | [], D => (D.flush, D.operE)
  | p :: r, D => if D.writeE p.1 p.2 = 0 then layD r (D.write p.1 p.2) else (D.write p.1 p.2, D.writeE p.1 p.2)
def doD (ims : List (Int × List UInt8)) (slot : Int) (sb : List UInt8) (D : DS) : DS × Nat :=
  if (layD ims D).2 = 0 then layD [(slot, sb)] (layD ims D).1 else layD ims D

theorem oper_keeps (D : DS) : D.oper.nb = D.nb ∧ D.oper.dur = D.dur ∧ D.oper.uf = D.uf ∧ D.oper.n = D.n := ⟨D.oper_nb, D.oper_dur, D.oper_uf, D.oper_n⟩
theorem write_le (D : DS) (n : Int) (b : List UInt8) : (D.write n b).nb = D.nb ∧ (D.write n b).uf.length ≤ D.uf.length + 1 ∧ (D.write n b).n ≤ D.n + 1 := by
  obtain ⟨h1, h2, h3, h4⟩ := oper_keeps D
  unfold DS.write
  split
  · split
    · exact ⟨h1, by simp, Nat.le_refl _⟩
    · exact ⟨h1, by rw [h3]; omega, by rw [h4]; omega⟩
  · exact ⟨rfl, by omega, by omega⟩
theorem flush_le (D : DS) : D.flush.nb = D.nb ∧ D.flush.uf.length ≤ D.uf.length ∧ D.flush.n = D.n := by
  obtain ⟨h1, h2, h3, h4⟩ := oper_keeps D
  unfold DS.flush
  split
  · exact ⟨h1, by simp, h4⟩
  · exact ⟨h1, by rw [h3]; omega, h4⟩
theorem layD_le : ∀ (ims : List (Int × List UInt8)) (D : DS), (layD ims D).1.nb = D.nb ∧ (layD ims D).1.uf.length ≤ D.uf.length + ims.length ∧ (layD ims D).1.n ≤ D.n + ims.length
  | [], D => by
    obtain ⟨h1, h2, h3⟩ := flush_le D
    exact ⟨h1, by simpa [layD] using h2, by show D.flush.n ≤ _; rw [h3]; simp⟩
  | p :: r, D => by
    obtain ⟨h1, h2, h3⟩ := write_le D p.1 p.2
    unfold layD
    split
    · obtain ⟨i1, i2, i3⟩ := layD_le r (D.write p.1 p.2)
      exact ⟨i1.trans h1, by simp; omega, by simp; omega⟩
    · exact ⟨h1, by simp; omega, by simp; omega⟩
theorem doD_le (ims : List (Int × List UInt8)) (slot : Int) (sb : List UInt8) (D : DS) : (doD ims slot sb D).1.nb = D.nb ∧ (doD ims slot sb D).1.uf.length ≤ D.uf.length + (ims.length + 1) ∧ (doD ims slot sb D).1.n ≤ D.n + (ims.length + 1) := by
  obtain ⟨h1, h2, h3⟩ := layD_le ims D
  unfold doD
  split
  · obtain ⟨i1, i2, i3⟩ := layD_le [(slot, sb)] (layD ims D).1
    simp only [List.length_cons, List.length_nil] at i2 i3
    exact ⟨i1.trans h1, by omega, by omega⟩
  · exact ⟨h1, by omega, by omega⟩

/-- What may be written to a disk of 64 blocks, and what its bytes then are: a property of bytes that each write of W keeps, whole or torn, stays. -/
structure Stays (Q : List UInt8 → Prop) (W : Nat × List UInt8 → Prop) : Prop where
  keep : ∀ d b x m, Q d → W (b, x) → Q (carry d b x m)
def Held (Q : List UInt8 → Prop) (W : Nat × List UInt8 → Prop) (D : DS) : Prop := Q D.dur ∧ ∀ p ∈ D.uf, W p
theorem Stays.carryTo {Q : List UInt8 → Prop} {W : Nat × List UInt8 → Prop} (s : Stays Q W) {uf : List (Nat × List UInt8)} {d : List UInt8} (hq : Q d) (hw : ∀ p ∈ uf, W p) : ∀ k, Q (carryTo uf d k)
  | 0 => hq
  | k + 1 => by
    have ih := s.carryTo hq hw k
    unfold Dk.carryTo
    cases e : uf[k]? with
    | none => exact ih
    | some w => exact s.keep _ _ _ _ ih (hw _ (List.mem_of_getElem? e))
theorem Stays.crashTo {Q : List UInt8 → Prop} {W : Nat × List UInt8 → Prop} (s : Stays Q W) {uf : List (Nat × List UInt8)} {d : List UInt8} (hq : Q d) (hw : ∀ p ∈ uf, W p) (ks : List Bool) (t : Int) (m : Nat) : ∀ k, Q (crashTo ks t m uf d k)
  | 0 => hq
  | k + 1 => by
    have ih := s.crashTo hq hw ks t m k
    unfold Dk.crashTo
    cases e : uf[k]? with
    | none => exact ih
    | some w =>
      have hm := hw _ (List.mem_of_getElem? e)
      show Q (if _ then carry _ _ _ _ else if _ then carry _ _ _ _ else _)
      split
      · exact s.keep _ _ _ _ ih hm
      · split
        · exact s.keep _ _ _ _ ih hm
        · exact ih
theorem Stays.crash {Q : List UInt8 → Prop} {W : Nat × List UInt8 → Prop} (s : Stays Q W) {D : DS} (h : Held Q W D) (ks : List Bool) (t : Int) (m : Nat) : Held Q W (D.crash ks t m) :=
  ⟨s.crashTo h.1 h.2 ks t m _, fun p hp => by simp [DS.crash] at hp⟩
theorem Stays.flush {Q : List UInt8 → Prop} {W : Nat × List UInt8 → Prop} (s : Stays Q W) {D : DS} (h : Held Q W D) : Held Q W D.flush := by
  obtain ⟨h1, h2, h3, h4⟩ := oper_keeps D
  unfold DS.flush
  split
  · exact ⟨s.carryTo h.1 h.2 _, fun p hp => by simp at hp⟩
  · exact ⟨by rw [h2]; exact h.1, by rw [h3]; exact h.2⟩
theorem Held.write {Q : List UInt8 → Prop} {W : Nat × List UInt8 → Prop} {D : DS} (h : Held Q W D) (n : Int) (b : List UInt8) (hw : W (n.toNat, b)) : Held Q W (D.write n b) := by
  obtain ⟨h1, h2, h3, h4⟩ := oper_keeps D
  unfold DS.write
  split
  · split
    · refine ⟨by show Q D.oper.dur; rw [h2]; exact h.1, fun p hp => ?_⟩
      rcases List.mem_append.1 hp with hp | hp
      · exact h.2 p hp
      · simp at hp; rw [hp]; exact hw
    · exact ⟨by rw [h2]; exact h.1, by rw [h3]; exact h.2⟩
  · exact h
theorem Stays.lay {Q : List UInt8 → Prop} {W : Nat × List UInt8 → Prop} (s : Stays Q W) : ∀ (ims : List (Int × List UInt8)) {D : DS}, Held Q W D → (∀ p ∈ ims, W (p.1.toNat, p.2)) → Held Q W (layD ims D).1
  | [], D, h, _ => s.flush h
  | p :: r, D, h, hw => by
    have h1 := h.write p.1 p.2 (hw p (List.mem_cons_self ..))
    unfold layD
    split
    · exact s.lay r h1 (fun q hq => hw q (List.mem_cons_of_mem _ hq))
    · exact h1
theorem Stays.do {Q : List UInt8 → Prop} {W : Nat × List UInt8 → Prop} (s : Stays Q W) (ims : List (Int × List UInt8)) (slot : Int) (sb : List UInt8) {D : DS} (h : Held Q W D) (hw : ∀ p ∈ ims, W (p.1.toNat, p.2)) (hs : W (slot.toNat, sb)) : Held Q W (doD ims slot sb D).1 := by
  have h1 := s.lay ims h hw
  unfold doD
  split
  · exact s.lay _ h1 (fun q hq => by simp at hq; rw [hq]; exact hs)
  · exact h1

/-- a lay without an error: all is durable -/
theorem layD_ok : ∀ (ims : List (Int × List UInt8)) (D : DS), (layD ims D).2 = 0 → (layD ims D).1.uf = [] ∧ (layD ims D).1.dur = (D.uf ++ ims.map (fun p => (p.1.toNat, p.2))).foldl (fun d w => carry d w.1 w.2 255) D.dur
  | [], D, h => by
    have h : D.operE = 0 := h
    show D.flush.uf = [] ∧ D.flush.dur = _
    rw [DS.flush, if_pos h]
    refine ⟨rfl, ?_⟩
    show carryTo D.uf D.dur D.uf.length = _
    rw [List.map_nil, List.append_nil]
    have : ∀ k, k ≤ D.uf.length → carryTo D.uf D.dur k = (D.uf.take k).foldl (fun d w => carry d w.1 w.2 255) D.dur := by
      intro k
      induction k with
      | zero => intro _; rfl
      | succ k ih =>
        intro hk
        rw [carryTo_succ _ _ _ (by omega), ih (by omega), List.take_succ_eq_append_getElem (by omega), List.foldl_append]
        rfl
    rw [this _ (Nat.le_refl _), List.take_length]
  | p :: r, D, h => by
    unfold layD at h ⊢
    split at h
    · rename_i he
      rw [if_pos he]
      obtain ⟨i1, i2⟩ := layD_ok r _ h
      refine ⟨i1, ?_⟩
      rw [i2]
      have hc : (D.has p.1 && decide (p.2.length = 4096)) = true ∧ D.operE = 0 := by
        unfold DS.writeE at he
        split at he
        · split at he
          · rename_i a b
            exact ⟨by rw [a, decide_eq_true b]; rfl, he⟩
          · omega
        · omega
      have e1 : (D.write p.1 p.2).uf = D.uf ++ [(p.1.toNat, p.2)] := by rw [DS.write, if_pos hc.1, if_pos hc.2]
      have e2 : (D.write p.1 p.2).dur = D.dur := by rw [DS.write, if_pos hc.1, if_pos hc.2]; exact D.oper_dur
      rw [e1, e2, List.map_cons, List.append_assoc]
      rfl
    · rename_i he
      exact absurd h he
theorem layD_quiet : ∀ (ims : List (Int × List UInt8)) (D : DS), D.quiet → (∀ p ∈ ims, D.has p.1 = true ∧ p.2.length = 4096) → (layD ims D).2 = 0 ∧ (layD ims D).1.quiet ∧ (layD ims D).1.nb = D.nb ∧ (layD ims D).1.n = D.n + ims.length
  | [], D, h, _ => by
    refine ⟨h.operE, ?_⟩
    show D.flush.quiet ∧ D.flush.nb = _ ∧ D.flush.n = _
    rw [h.flush]
    exact ⟨h, rfl, rfl⟩
  | p :: r, D, h, hp => by
    obtain ⟨h1, h2⟩ := hp p (List.mem_cons_self ..)
    have e0 : D.writeE p.1 p.2 = 0 := by unfold DS.writeE; rw [if_pos h1, if_pos h2]; exact h.operE
    have e1 : D.write p.1 p.2 = { D with uf := D.uf ++ [(p.1.toNat, p.2)], n := D.n + 1 } := by
      rw [DS.write, h1, decide_eq_true h2, h.operE, h.oper]; rfl
    unfold layD
    rw [if_pos e0]
    obtain ⟨i1, i2, i3, i4⟩ := layD_quiet r (D.write p.1 p.2) (by rw [e1]; exact h) (fun q hq => by rw [e1]; exact hp q (List.mem_cons_of_mem _ hq))
    refine ⟨i1, i2, by rw [i3, e1], ?_⟩
    rw [i4, e1, List.length_cons]
    show D.n + 1 + r.length = _
    omega
theorem doD_quiet (ims : List (Int × List UInt8)) (slot : Int) (sb : List UInt8) (D : DS) (h : D.quiet) (hi : ∀ p ∈ ims, D.has p.1 = true ∧ p.2.length = 4096) (hs : D.has slot = true ∧ sb.length = 4096) : (doD ims slot sb D).2 = 0 ∧ (doD ims slot sb D).1.quiet ∧ (doD ims slot sb D).1.nb = D.nb ∧ (doD ims slot sb D).1.n = D.n + ims.length + 1 := by
  obtain ⟨i1, i2, i3, i4⟩ := layD_quiet ims D h hi
  have := layD_quiet [(slot, sb)] (layD ims D).1 i2 (fun p hp => by simp at hp; subst hp; unfold DS.has; rw [i3]; exact hs)
  unfold doD
  rw [if_pos i1]
  obtain ⟨j1, j2, j3, j4⟩ := this
  exact ⟨j1, j2, j3.trans i3, by rw [j4, i4]; rfl⟩
theorem doD_ok (ims : List (Int × List UInt8)) (slot : Int) (sb : List UInt8) (D : DS) (h : (doD ims slot sb D).2 = 0) : (doD ims slot sb D).1.uf = [] ∧ (doD ims slot sb D).1.dur = carry ((D.uf ++ ims.map (fun p => (p.1.toNat, p.2))).foldl (fun d w => carry d w.1 w.2 255) D.dur) slot.toNat sb 255 := by
  unfold doD at h ⊢
  split at h
  · rename_i h1
    rw [if_pos h1]
    obtain ⟨i1, i2⟩ := layD_ok ims D h1
    obtain ⟨j1, j2⟩ := layD_ok _ _ h
    refine ⟨j1, ?_⟩
    rw [j2, i1, i2]
    rfl
  · rename_i h1
    exact absurd h h1

/-- blocks of what is laid in order -/
theorem fold_len (l : List (Nat × List UInt8)) (d : List UInt8) (hd : d.length = 64 * 4096) (hl : ∀ p ∈ l, p.1 < 64 ∧ p.2.length = 4096) : (l.foldl (fun d w => carry d w.1 w.2 255) d).length = 64 * 4096 := by
  induction l generalizing d with
  | nil => exact hd
  | cons p r ih =>
    obtain ⟨h1, h2⟩ := hl p (List.mem_cons_self ..)
    exact ih _ (by rw [carry_length _ _ _ _ (by rw [hd]; omega) h2]; exact hd) (fun q hq => hl q (List.mem_cons_of_mem _ hq))
theorem fold_other (l : List (Nat × List UInt8)) (d : List UInt8) (n : Nat) (hd : d.length = 64 * 4096) (hl : ∀ p ∈ l, p.1 < 64 ∧ p.2.length = 4096) (hn : ∀ p ∈ l, p.1 ≠ n) : blk (l.foldl (fun d w => carry d w.1 w.2 255) d) n = blk d n := by
  induction l generalizing d with
  | nil => rfl
  | cons p r ih =>
    obtain ⟨h1, h2⟩ := hl p (List.mem_cons_self ..)
    have hf : p.1 * 4096 + 4096 ≤ d.length := by rw [hd]; omega
    rw [List.foldl_cons, ih _ (by rw [carry_length _ _ _ _ hf h2]; exact hd) (fun q hq => hl q (List.mem_cons_of_mem _ hq)) (fun q hq => hn q (List.mem_cons_of_mem _ hq))]
    exact blk_carry_other _ _ _ _ _ hf h2 (fun e => hn p (List.mem_cons_self ..) e.symm)
theorem fold_one (l : List (Nat × List UInt8)) (d : List UInt8) (p : Nat × List UInt8) (hp : p ∈ l) (hd : d.length = 64 * 4096) (hl : ∀ p ∈ l, p.1 < 64 ∧ p.2.length = 4096) (hn : (l.map (·.1)).Nodup) : blk (l.foldl (fun d w => carry d w.1 w.2 255) d) p.1 = p.2 := by
  induction l generalizing d with
  | nil => cases hp
  | cons q r ih =>
    obtain ⟨h1, h2⟩ := hl q (List.mem_cons_self ..)
    have hf : q.1 * 4096 + 4096 ≤ d.length := by rw [hd]; omega
    have hd' : (carry d q.1 q.2 255).length = 64 * 4096 := by rw [carry_length _ _ _ _ hf h2]; exact hd
    rw [List.map_cons, List.nodup_cons] at hn
    rw [List.foldl_cons]
    rcases List.mem_cons.1 hp with rfl | hp
    · rw [fold_other r _ _ hd' (fun q hq => hl q (List.mem_cons_of_mem _ hq)) (fun q hq e => hn.1 (List.mem_map.2 ⟨q, hq, e⟩))]
      exact blk_carry_all _ _ _ hf h2
    · exact ih _ hp hd' (fun q hq => hl q (List.mem_cons_of_mem _ hq)) hn.2
end Go.Proofs.YtnldkpckojhbhaaGreat.H

/-
  The document's own numbers in bytes, and its own sum.
-/
namespace Go.Proofs.YtnldkpckojhbhaaGreat.Su
open Go.RowKit

/-- the lowest j bytes, the lowest first -/
def leB (j v : Nat) : List UInt8 := (toBE j v).reverse
theorem leB_length (j v : Nat) : (leB j v).length = j := by simp [leB, toBE_length]
theorem leB_succ (j v : Nat) : leB (j + 1) v = leB j v ++ [UInt8.ofNat (v / 256 ^ j)] := by simp [leB, toBE_cons]
theorem leB_at (n v k : Nat) (h : k < n) : (leB n v)[n - 1 - k]'(by rw [leB_length]; omega) = (toBE n v)[k]'(by rw [toBE_length]; omega) := by
  simp only [leB, List.getElem_reverse, toBE_length]
  congr 1
  omega

theorem step_byte (q : Nat) : (q : Int) % 256 = ((UInt8.ofNat q).toNat : Int) := by
  rw [ofNat_toNat]; omega
theorem step_div (v j q : Nat) (h : q = v / 256 ^ j) : q / 256 = v / 256 ^ (j + 1) := by
  rw [h, Nat.pow_succ, ← Nat.div_div_eq_div_mul]

theorem take_succ_at (l : List UInt8) (k : Nat) (h : k < l.length) : l.take (k + 1) = l.take k ++ [l[k]] := List.take_succ_eq_append_getElem h

set_option maxRecDepth 100000 in
set_option maxHeartbeats 800000 in
theorem refAdd_at (cap n N : Nat) (a : Option Addr) (xs : List UInt8) (v : Nat) (V S : Int) (w : World) (hV : V = (v : Int)) (hS : S = (N : Int)) (hl : xs.length = n) (hv : v < 18446744073709551616) (hN0 : 0 < N) (hN : N ≤ 8) (hn : n ≤ 140737488355300) (hr : Rd w a xs) (hnil : a = none → cap = 0) :
    Calls Tryz.prog 210 #[.slice a n cap, .int .u64 V, .int .i64 S] w fun e w' => ∃ v', e = .returned v' ∧ w'.ownsRow w.heap.size 5 1 v' (n + N) (bcs (xs ++ toBE N v)) ∧ Below w.heap.size w w' := by
  subst hV hS
  obtain ⟨i0, hi, hz0, hz1, hz2⟩ := info_parts info5
  have Hl : Hid (xs.length = n) := hl
  clear hl
  go_enter Tryz.func210, Tryz.ntmps210
  go_wp2
  go_loopw [1, 7, 8] (fun q l i wr => ∃ j p : Nat, j ≤ N ∧ i = .int .i64 j ∧ q = .int .u64 (p : Int) ∧ p < 18446744073709551616 ∧ Hid (p = v / 256 ^ j) ∧ wr.ownsRow w.heap.size 5 1 l j (bcs (leB j v)) ∧ Below w.heap.size w wr) (fun _ _ i _ => N - (intOf i).toNat)
  case atStart => exact ⟨0, v, Nat.zero_le _, rfl, rfl, hv, by show _ = _; simp, World.ownsRow_nil _ _ _ _, Below.refl _ _⟩
  case round =>
    obtain ⟨j, p, hj, rfl, rfl, hp, hq, ho, hb⟩ := hrel
    by_cases hlt : j < N
    · go_wp2_with (at_builtin; refine wpList_append_own _ rfl _ _ 37 rfl w.heap.size 5 i0 (.int .u8 0) 1 1 Tryz.underlying37 hi hz0 hz1 hz2 rfl (by decide) _ j (bcs (leB j v)) rfl (ho.alloc _) ⟨wr.heap.size, 0, none⟩ 1 1 [.int .u8 ((p : Int) % 256)] rfl rfl ?c1 ?c2 ?c3 ?c4 ?c5 ?_)
      case c1 =>
        intro i u hi'
        match i, hi' with
        | 0, hi' => simp at hi'; subst hi'; simp [Addr.add]
      case c2 => intro u hu; simp at hu; subst hu; rfl
      case c3 => unfold maxLen; omega
      case c4 => omega
      case c5 => have := hb.size; simp; omega
      · intro v' w1 hown hgrow _
        have hown1 : w1.ownsRow w.heap.size 5 1 v' (j + 1) (bcs (leB (j + 1) v)) := by
          rw [leB_succ, ← append_bcs, ← hq.out, ← step_byte]; exact hown
        have hb1 : Below w.heap.size w w1 := (hb.alloc hb.size _).grown hgrow (by have := hb.size; simp; omega) (fun k hk => (ho.lt k hk).1)
        have hq1 : Hid (p / 256 = v / 256 ^ (j + 1)) := step_div v j p hq.out
        clear hown hgrow ho hb hq
        go_wp2
        go_roundw
        case rel => exact ⟨j + 1, p / 256, by omega, by go_num, by go_num, by omega, hq1, hown1, hb1⟩
        case measure => simp [intOf]; omega
    · obtain rfl : j = N := by omega
      obtain ⟨wA, rfl⟩ : ∃ x, x = wr := ⟨wr, rfl⟩
      have hrB : Rd wA a xs := hr.below hb (Nat.le_refl _)
      obtain ⟨al, cl, hval, hll, hlc, hlm, hrl, hpos⟩ := owns_rd ho
      obtain ⟨g, rfl, hg0, hg1⟩ := hpos hN0
      subst hval
      unfold maxLen at hlm
      obtain ⟨gb, go, heq, hcl⟩ := hrl (by omega)
      simp only [Option.some.injEq, Addr.mk.injEq, and_true] at heq
      obtain ⟨rfl, rfl⟩ := heq
      have HC : Hid (∀ k (hk : k < (leB j v).length), wA.cell? ⟨g, 0 + k, none⟩ = some (.int .u8 ((leB j v)[k].toNat : Int))) := hcl
      have Hll : Hid ((leB j v).length = j) := hll
      clear hq hp hj hlt ho hrl hcl hpos hr hll
      go_wp2_with (at_builtin; refine wpList_append_bytes rfl _ _ rfl wA.heap.size (.slice none 0 0) 0 [] rfl (World.ownsRow_nil _ _ _ _) a n cap xs rfl Hl.out hrB hnil (by omega) (Nat.le_refl _) ?_)
      intro v2 w2 ho2 hg2
      have ho2' : w2.ownsRow wA.heap.size 5 1 v2 n (bcs xs) := by simpa using ho2
      have hb2 : Below wA.heap.size wA w2 := (Below.refl _ _).grown hg2 (Nat.le_refl _) (fun k hk => by simp [Value.ownBlock] at hk)
      clear ho2 hg2 hrB hnil
      go_wp2_with fail
      go_loopw [9, 10] (fun l i wr => ∃ k : Nat, k ≤ j ∧ i = .int .i64 ((j : Int) - 1 - k) ∧ wr.ownsRow wA.heap.size 5 1 l (n + k) (bcs (xs ++ (toBE j v).take k)) ∧ Below wA.heap.size wA wr) (fun _ i _ => (intOf i + 1).toNat)
      case atStart => exact ⟨0, Nat.zero_le _, by go_num, by simpa using ho2', hb2⟩
      case round =>
        obtain ⟨k, hk, rfl, ho, hbq⟩ := hrel
        by_cases hlt : k < j
        · have hcell : wr.cell? ⟨g, j - 1 - k, none⟩ = some (.int .u8 (((toBE j v)[k]'(by rw [toBE_length]; omega)).toNat : Int)) := by
            rw [hbq.cell (p := ⟨g, j - 1 - k, none⟩) hg1, ← leB_at j v k hlt]
            have := HC.out (j - 1 - k) (by rw [Hll.out]; omega)
            rw [Nat.zero_add] at this
            exact this
          have htl : Hid (k < (toBE j v).length) := by show _ < _; rw [toBE_length]; exact hlt
          obtain ⟨c, hc⟩ : ∃ c, c = (toBE j v)[k]'htl.out := ⟨_, rfl⟩
          rw [← hc] at hcell
          have Hc : Hid (c = (toBE j v)[k]'htl.out) := hc
          clear hc
          go_wp2_with (at_builtin; refine wpList_append_own _ rfl _ _ 37 rfl wA.heap.size 5 i0 (.int .u8 0) 1 1 Tryz.underlying37 hi hz0 hz1 hz2 rfl (by decide) _ (n + k) (bcs (xs ++ (toBE j v).take k)) rfl (ho.alloc _) ⟨wr.heap.size, 0, none⟩ 1 1 [.int .u8 (c.toNat : Int)] rfl rfl ?c1 ?c2 ?c3 ?c4 ?c5 ?_)
          case c1 =>
            intro i u hi'
            match i, hi' with
            | 0, hi' => simp at hi'; subst hi'; simp [Addr.add]
          case c2 => intro u hu; simp at hu; subst hu; rfl
          case c3 => unfold maxLen; omega
          case c4 => omega
          case c5 => have := hbq.size; simp; omega
          · intro v' w1 hown hgrow _
            have hown1 : w1.ownsRow wA.heap.size 5 1 v' (n + (k + 1)) (bcs (xs ++ (toBE j v).take (k + 1))) := by
              rw [take_succ_at _ _ htl.out, ← Hc.out, ← List.append_assoc, ← append_bcs, ← Nat.add_assoc]; exact hown
            have hb1 : Below wA.heap.size wA w1 := (hbq.alloc hbq.size _).grown hgrow (by have := hbq.size; simp; omega) (fun k hk => (ho.lt k hk).1)
            clear hown hgrow ho hbq hcell Hc
            go_wp2
            go_roundw
            case rel => exact ⟨k + 1, by omega, by go_num, hown1, hb1⟩
            case measure => simp [intOf]; omega
        · obtain rfl : k = j := by omega
          rw [List.take_of_length_le (by rw [toBE_length]; exact Nat.le_refl _)] at ho
          have hB : Below w.heap.size w wr := hb.trans (hbq.mono hb.size)
          have ho' : wr.ownsRow w.heap.size 5 1 u9 (n + k) (bcs (xs ++ toBE k v)) := ⟨ho.1, by
            rcases ho.2 with h | ⟨g', cap', cur, h1, h2, h3⟩
            · exact .inl h
            · exact .inr ⟨g', cap', cur, h1, Nat.le_trans hb.size h2, h3⟩⟩
          clear ho hb hbq
          go_wp2
          go_ret
          exact ⟨_, rfl, ho', hB⟩


theorem ref_bit (c : UInt8) (j : Nat) : ((c.toNat : Int) % 4294967296 / 2 ^ j).tmod 2 = ((c.toNat / 2 ^ j % 2 : Nat) : Int) := by
  have e : (c.toNat : Int) % 4294967296 = c.toNat := by have := u8_lt c; omega
  have e2 : ((c.toNat : Int) / 2 ^ j) = ((c.toNat / 2 ^ j : Nat) : Int) := by simp
  rw [e, e2, Int.tmod_eq_emod_of_nonneg (Int.natCast_nonneg _)]
  simp

theorem ref_unlike (X b : Nat) (B : Int) (hB : B = (b : Int)) (hX : X < 4294967296) (h : (B != (X : Int) % 2) = true) : bits .xor .u32 ((X : Int) / 2) 2197175160 = ((step X b : Nat) : Int) := by
  subst hB
  have hne : X % 2 ≠ b := by
    intro e
    simp at h
    omega
  unfold step
  rw [if_neg hne]
  exact xor_u32 (X / 2) taps (by omega) (by decide)

theorem ref_like (X b : Nat) (B : Int) (hB : B = (b : Int)) (h : (B != (X : Int) % 2) = false) : (X : Int) / 2 = ((step X b : Nat) : Int) := by
  subst hB
  have he : X % 2 = b := by
    have := of_not_bne h
    omega
  unfold step
  rw [if_pos he]
  omega

theorem ref_in (b o cap n : Nat) (xs : List UInt8) (s : Nat) (w : World) (hl : xs.length = n) (hn : n ≤ 9223372036854775807) (hs : s < 4294967296)
    (hc : ∀ j, j < n → w.cell? ⟨b, o + j, none⟩ = some (.int .u8 ((xs.getD j 0).toNat : Int))) :
    Calls Tryz.prog 169 #[.int .u32 s, .slice (some ⟨b, o, none⟩) n cap] w fun e w' => e = .returned (.int .u32 (crc s xs : Nat)) ∧ w = w' := by
  have Hl : Hid (xs.length = n) := hl
  clear hl
  go_enter Tryz.func169, Tryz.ntmps169
  go_wp2_with fail
  go_loop [5, 6] (fun r i => ∃ k : Nat, k ≤ n ∧ i = .int .i64 k ∧ r = .int .u32 (reg (4294967295 - s) (xs.take k) : Nat)) (fun _ i => n - (intOf i).toNat)
  case atStart => exact ⟨0, Nat.zero_le _, rfl, by simp [reg_nil]; omega⟩
  case round =>
    obtain ⟨k, hk, rfl, rfl⟩ := hrel
    obtain ⟨R, hR⟩ : ∃ R, reg (4294967295 - s) (xs.take k) = R := ⟨_, rfl⟩
    rw [hR]
    have HR : Hid _ := hR
    clear hR
    have hRl : R < 4294967296 := by rw [← HR.out]; exact reg_lt _ (by omega)
    by_cases hlt : k < n
    · obtain ⟨c, hcc⟩ : ∃ c, xs.getD k 0 = c := ⟨_, rfl⟩
      have hcx : w.cell? ⟨b, o + k, none⟩ = some (.int .u8 (c.toNat : Int)) := by rw [← hcc]; exact hc k hlt
      have Hcc : Hid _ := hcc
      clear hcc hc
      go_wp2_with fail
      go_loop [5, 7] (fun r i => ∃ j : Nat, j ≤ 8 ∧ i = .int .i64 j ∧ r = .int .u32 (steps R c.toNat j : Nat)) (fun _ i => 8 - (intOf i).toNat)
      case atStart => exact ⟨0, Nat.zero_le _, rfl, rfl⟩
      case round =>
        obtain ⟨j, hj, rfl, rfl⟩ := hrel
        by_cases hlt2 : j < 8
        · have hXl := steps_lt c.toNat hRl j
          go_wp2
          · rename_i ht
            rw [ref_unlike _ _ _ (ref_bit c j) hXl ht]
            go_round
            case rel => exact ⟨j + 1, by omega, by go_num, rfl⟩
            case measure => simp [intOf]; omega
          · rename_i ht
            rw [ref_like _ _ _ (ref_bit c j) ht]
            go_round
            case rel => exact ⟨j + 1, by omega, by go_num, rfl⟩
            case measure => simp [intOf]; omega
        · obtain rfl : j = 8 := by omega
          go_wp2
          go_round
          case rel =>
            refine ⟨k + 1, by omega, by go_num, ?_⟩
            have hk' : k < xs.length := by rw [Hl.out]; exact hlt
            have hcc := Hcc.out
            rw [reg_succ _ _ _ hk', HR.out]
            simp only [List.getD, List.getElem?_eq_getElem hk', Option.getD_some] at hcc
            rw [hcc]
          case measure => simp [intOf]; omega
    · obtain rfl : k = n := by omega
      go_wp2
      go_ret
      have hR := HR.out
      rw [List.take_of_length_le (by rw [Hl.out]; exact Nat.le_refl _)] at hR
      refine ⟨?_, rfl⟩
      unfold crc
      rw [hR]
      show Ending.returned (.int .u32 (4294967295 - (R : Int))) = _
      congr 2
      omega

theorem ref_none (a : Option Addr) (cap : Nat) (s : Nat) (w : World) (hs : s < 4294967296) :
    Calls Tryz.prog 169 #[.int .u32 s, .slice a 0 cap] w fun e w' => e = .returned (.int .u32 (crc s [] : Nat)) ∧ w = w' := by
  go_enter Tryz.func169, Tryz.ntmps169
  go_wp2_with fail
  refine wp_loop_rounds 1 ?_
  rw [rounds_succ]
  go_wp2
  go_ret
  refine ⟨?_, rfl⟩
  rw [crc_nil hs]
  show Ending.returned (.int .u32 (4294967295 - (4294967295 - (s : Int)))) = _
  congr 2
  omega

/-- The document's sum. -/
theorem ref_at (cap n : Nat) (a : Option Addr) (xs : List UInt8) (s : Nat) (S : Int) (w : World) (hS : S = (s : Int)) (hl : xs.length = n) (hn : n ≤ 9223372036854775807) (hs : s < 4294967296) (hr : Rd w a xs) :
    Calls Tryz.prog 169 #[.int .u32 S, .slice a n cap] w fun e w' => e = .returned (.int .u32 (crc s xs : Nat)) ∧ w = w' := by
  subst hS
  by_cases h0 : 0 < n
  · obtain ⟨b, o, rfl, hc⟩ := hr (by omega)
    refine ref_in b o cap n xs s w hl hn hs (fun j hj => ?_)
    rw [hc j (by omega)]
    simp [List.getD, List.getElem?_eq_getElem (show j < xs.length by omega)]
  · obtain rfl : n = 0 := by omega
    obtain rfl : xs = [] := List.eq_nil_of_length_eq_zero hl
    exact ref_none a cap s w hs

end Go.Proofs.YtnldkpckojhbhaaGreat.Su

/-
  SameExtents, SameInode; turned.
-/
namespace Go.Proofs.YtnldkpckojhbhaaGreat.Su
open Go.RowKit

/-- SameInode -/
def sameI (i j : Ino) : Bool := ((i.k : Int) == (j.k : Int)) && ((i.l == j.l) && ((i.s == j.s) && ((i.n == j.n) && decide (i.d = j.d))))
theorem sameI_self (i : Ino) : sameI i i = true := by simp [sameI]

end Go.Proofs.YtnldkpckojhbhaaGreat.Su

/-
  A region that draws its order and holds loads beside calls that make memory: a load whose value is one in a whole class of frames and worlds may be taken first, if each step stays in the class.
-/
namespace Go.Proofs.YtnldkpckojhbhaaGreat.Su

section
variable {P : Program} {ops : Array Oper} {Q : Exit → Act → World → Prop} {md : Region.Mode} {C : Act → World → Prop}

/-- Whatever order the draw gives: it ends in Q, and every step stays in the class. -/
def wpAnyC (P : Program) (md : Region.Mode) (ops : Array Oper) (Q : Exit → Act → World → Prop) (C : Act → World → Prop) : Nat → Array Bool → Act → World → Prop
  | 0, listed, a, w => Region.ready md ops listed = [] ∧ Q .normal a w
  | fuel + 1, listed, a, w => (Region.ready md ops listed = [] → Q .normal a w) ∧
    ∀ i ∈ Region.ready md ops listed, wpOp P ops Q i (fun a' w' => C a' w' ∧ wpAnyC P md ops Q C fuel (listed.setIfInBounds i true) a' w') a w

theorem wpAny_of_class : ∀ (fuel : Nat) (listed : Array Bool) (a : Act) (w : World), wpAnyC P md ops Q C fuel listed a w → wpAny P md ops Q fuel listed a w
  | 0, _, _, _, h => h
  | fuel + 1, _, _, _, h => ⟨h.1, fun i hi => wpOp_mono (fun a' w' h' => wpAny_of_class fuel _ a' w' h'.2) (h.2 i hi)⟩

/-- In all of the class the operation yields this one value, and leaves the world. -/
def Gives (P : Program) (ops : Array Oper) (C : Act → World → Prop) (o : Oper) (v : Value) : Prop :=
  ∀ a w, C a w → Region.wanted o (yielded ops a.tmps) = true ∧ (execOp a.eval o).run P w = .ok (.value v) w

theorem Gives.wpOp {i : Nat} {o : Oper} {v : Value} {a : Act} {w : World} (hi : ops[i]? = some o) (hg : Gives P ops C o v) (hc : C a w) {K : Act → World → Prop} (h : K (a.put o.dst v) w) : wpOp P ops Q i K a w := by
  obtain ⟨h1, h2⟩ := hg a w hc
  unfold Go.wpOp
  simp only [hi, h1, if_true, Oper.wp, h2, Oper.upon]
  exact .inl h

/-- the stand-in: the same slot, a constant -/
def standIn (o : Oper) (v : Value) : Oper := { o with op := .move (.const v), guard := none }
theorem standIn_yields (o : Oper) (v : Value) (a : Act) : Yields P ops (standIn o v) v a := by
  refine .inl ⟨rfl, fun w => ?_⟩
  rfl
theorem standIn_apart {o y : Oper} {v : Value} (h : o.apart ops y = true) : (standIn o v).apart ops y = true := by
  unfold Oper.apart at h ⊢
  simp only [Bool.and_eq_true] at h ⊢
  refine ⟨h.1, ?_⟩
  have e : (standIn o v).looksAt ops = [] := rfl
  rw [e]
  cases y.dst <;> rfl

theorem wpAnyC_first {i : Nat} {oi : Oper} {v : Value} (hi : ops[i]? = some oi) (hs : Region.noSelect ops = true)
    (hQ : ∀ c a w, Q (.panic c) (a.put oi.dst v) w → Q (.panic c) a w) (hg : Gives P ops C oi v) (hdn : ∀ a w, C (a.put oi.dst v) w → C a w) (hup : ∀ a w, C a w → C (a.put oi.dst v) w) :
    ∀ (fuel : Nat) (listed : Array Bool) (a : Act) (w : World),
      (∀ j oj, ops[j]? = some oj → j ≠ i → listed.getD j true = false → (∀ e ∈ oj.after, Region.binds md e = true → e.on ≠ i) → oi.apart ops oj = true) →
      i ∈ Region.ready md ops listed → C a w →
      wpAnyC P md ops Q C fuel (listed.setIfInBounds i true) (a.put oi.dst v) w → wpAnyC P md ops Q C (fuel + 1) listed a w
  | fuel, listed, a, w, hfree, hr, hc, H => by
    refine ⟨fun h => (by rw [h] at hr; cases hr), fun j hj => ?_⟩
    by_cases hji : j = i
    · subst hji
      exact hg.wpOp hi hc ⟨hup a w hc, H⟩
    · have hm := ready_mono hj hji
      cases fuel with
      | zero =>
        rw [H.1] at hm
        cases hm
      | succ fuel =>
        obtain ⟨hjun, oj, hoj, hall⟩ := mem_ready.1 hj
        have hnot : ∀ e ∈ oj.after, Region.binds md e = true → e.on ≠ i := fun e he hb heq => by
          have h1 := hall e he hb
          have h0 := (mem_ready.1 hr).1
          rw [heq] at h1
          rcases Nat.lt_or_ge i listed.size with h' | h'
          · simp [h'] at h0 h1; rw [h0] at h1; cases h1
          · simp [Array.getElem?_eq_none h'] at h1
        have h2 := wpOp_put (oi := standIn oi v) (v := v) hoj (standIn_apart (hfree j oj hoj hji hjun hnot)) (fun cs b h => by cases h) (fun cs b => Region.noSelect_spec hs j oj cs b hoj) hQ (standIn_yields oi v a) (H.2 j hm)
        have hfree' : ∀ k ok, ops[k]? = some ok → k ≠ i → (listed.setIfInBounds j true).getD k true = false →
            (∀ e ∈ ok.after, Region.binds md e = true → e.on ≠ i) → oi.apart ops ok = true := fun k ok hk hki hun hno => by
          refine hfree k ok hk hki ?_ hno
          by_cases hjk : j = k
          · subst hjk; exact hjun
          · rw [getD_set_ne true hjk] at hun; exact hun
        refine wpOp_mono (fun a' w' h3 => ?_) h2
        have hc' := hdn a' w' h3.2.1
        refine ⟨hc', wpAnyC_first hi hs hQ hg hdn hup fuel (listed.setIfInBounds j true) a' w' hfree' (ready_mono hr (Ne.symm hji)) hc' ?_⟩
        rw [Array.setIfInBounds_comm _ _ hji]
        exact h3.2.2

/-- A load is taken first. -/
theorem wpAnyC_take {i : Nat} {oi : Oper} {v : Value} {fuel : Nat} {listed : Array Bool} {a : Act} {w : World} (hi : ops[i]? = some oi) (hs : Region.noSelect ops = true)
    (hf : Region.free md ops listed i = true) (hr : (Region.ready md ops listed).contains i = true)
    (hQ : ∀ c a w, Q (.panic c) (a.put oi.dst v) w → Q (.panic c) a w) (hg : Gives P ops C oi v) (hdn : ∀ a w, C (a.put oi.dst v) w → C a w) (hup : ∀ a w, C a w → C (a.put oi.dst v) w)
    (hc : C a w) (h : wpAnyC P md ops Q C fuel (listed.setIfInBounds i true) (a.put oi.dst v) w) : wpAnyC P md ops Q C (fuel + 1) listed a w :=
  wpAnyC_first hi hs hQ hg hdn hup fuel listed a w (Region.free_spec hi hf) (by simpa using hr) hc h

/-- One operation alone may come up. -/
theorem wpAnyC_one {i : Nat} {o : Oper} {fuel : Nat} {listed : Array Bool} {a : Act} {w : World} (hr : Region.ready md ops listed = [i]) (ho : ops[i]? = some o)
    (h : ∀ K' : Act → World → Prop, (∀ a w, (C a w ∧ wpAnyC P md ops Q C fuel (listed.setIfInBounds i true) a w) → K' a w) → if Region.wanted o (yielded ops a.tmps) = true then Oper.wp P o a w K' Q else K' (a.put o.dst undef) w) :
    wpAnyC P md ops Q C (fuel + 1) listed a w := by
  refine ⟨fun h0 => (by rw [hr] at h0; cases h0), fun j hj => ?_⟩
  rw [hr] at hj
  obtain rfl : j = i := by simpa using hj
  exact wpOp_step ho h

theorem wpAnyC_done {listed : Array Bool} {a : Act} {w : World} (hr : Region.ready md ops listed = []) (h : Q .normal a w) : ∀ fuel, wpAnyC P md ops Q C fuel listed a w
  | 0 => ⟨hr, h⟩
  | _ + 1 => ⟨fun _ => h, by rw [hr]; simp⟩
end
end Go.Proofs.YtnldkpckojhbhaaGreat.Su
