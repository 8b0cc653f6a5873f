import Derived.Test.YtpponamckndhpaaRows
import Derived.Test.YtpponamckndhpaaPlain
import Derived.WalkKit
import Derived.WalkSpells
import Derived.WalkLawsBesides
import Derived.Laws.CopyOwn
namespace Go.Proofs.Ytpponamckndhpaa
open Go.RowKit

/-- Block g holds just these bytes, and may be written. -/
def Own (w : World) (g : Nat) (ys : List UInt8) : Prop := w.heap[g]? = some (.cells (bcs ys).toArray 5 (0, 0))

theorem Own.cell {w : World} {g : Nat} {ys : List UInt8} (h : Own w g ys) (j : Nat) (hj : j < ys.length) : w.cell? ⟨g, j, none⟩ = some (.int .u8 (ys[j].toNat : Int)) := by
  rw [cell_of_row w g j _ 5 (0, 0) h]
  simpa using bcs_getElem? ys j hj
theorem Own.frozen {w : World} {g : Nat} {ys : List UInt8} (h : Own w g ys) (j : Nat) : w.frozen? ⟨g, j, none⟩ = false := frozen_of_row w g j _ 5 h
theorem Own.lt {w : World} {g : Nat} {ys : List UInt8} (h : Own w g ys) : g < w.heap.size := (Array.getElem?_eq_some_iff.1 h).1
theorem Own.store {w : World} {g : Nat} {ys : List UInt8} (h : Own w g ys) (j : Nat) (c : UInt8) : Own (w.setCell ⟨g, j, none⟩ (.int .u8 (c.toNat : Int))) g (ys.set j c) := by
  unfold Own
  rw [heap_setCell_same w g j _ 5 _ h]
  congr 2
  apply Array.toList_inj.1
  simp [bcs, bc]
/-- What lies below a mark stays. -/
theorem Own.below {B : Nat} {w w' : World} {g : Nat} {ys : List UInt8} (h : Own w g ys) (hb : Below B w w') (hg : g < B) : Own w' g ys := (hb.block g hg).trans h

theorem grown_trans {a b c : World} {row : Option Nat} (h : a.grownBy b row) (k : b.grownBy c row) : a.grownBy c row :=
  ⟨k.os.trans h.os, k.tape.trans h.tape, k.output.trans h.output, Nat.le_trans h.size k.size, fun i hi hr => (k.block i (Nat.lt_of_lt_of_le hi h.size) hr).trans (h.block i hi hr)⟩
theorem grown_store (w : World) (g j : Nat) (u : Value) : w.grownBy (w.setCell ⟨g, j, none⟩ u) (some g) :=
  ⟨rfl, rfl, rfl, by simp, fun k _ hk => heap_setCell_other w ⟨g, j, none⟩ k u (fun e => hk (by simp [e]))⟩
theorem grown_setRow (w : World) (g : Nat) (cs : Array Value) : w.grownBy (w.setRow g cs) (some g) :=
  ⟨rfl, rfl, rfl, by simp [World.setRow], fun k _ hk => setRow_other w g k cs (fun e => hk (by simp [e]))⟩

/-- The bytes xs lie where a says (of no bytes nothing is asked). -/
def Rd (w : World) (a : Option Addr) (xs : List UInt8) : Prop :=
  0 < xs.length → ∃ b o, a = some ⟨b, o, none⟩ ∧ ∀ j (h : j < xs.length), w.cell? ⟨b, o + j, none⟩ = some (.int .u8 (xs[j].toNat : Int))
theorem Rd.nil (w : World) (a : Option Addr) : Rd w a [] := fun h => absurd h (by simp)
theorem Own.rd {w : World} {g : Nat} {ys : List UInt8} (h : Own w g ys) : Rd w (some ⟨g, 0, none⟩) ys := fun _ => ⟨g, 0, rfl, fun j hj => by rw [Nat.zero_add]; exact h.cell j hj⟩
/-- What is read stays as long as old blocks stay. -/
theorem Rd.below {B : Nat} {w w' : World} {a : Option Addr} {xs : List UInt8} (h : Rd w a xs) (hb : Below B w w') (hB : w.heap.size ≤ B) : Rd w' a xs := fun hp => by
  obtain ⟨b, o, ha, hc⟩ := h hp
  refine ⟨b, o, ha, fun j hj => ?_⟩
  have hlt : b < w.heap.size := block_lt_of_cell (hc j hj)
  rw [hb.cell (p := ⟨b, o + j, none⟩) (Nat.lt_of_lt_of_le hlt hB)]
  exact hc j hj

theorem info5 : (Try.prog.info? 5).map (fun i => (i.zero, i.size, i.bytes)) = some (some (.int .u8 0), 1, 1) := by kernel_rfl
theorem size5 : (Try.prog.info? 5).map (·.size) = some 1 := by kernel_rfl

/-- copy of bytes onto a row of one's own. -/
theorem copy_run (g off dLen dCap : Nat) (d a : Option Addr) (cap : Nat) (xs ys : List UInt8) (u : World) (hg : Own u g ys) (hr : Rd u a xs) (hd : 0 < xs.length → d = some ⟨g, off, none⟩) (hl : xs.length ≤ dLen) (hfit : off + xs.length ≤ ys.length) :
    ∃ W, (∀ ty, (Builtin.copy_ #[25, 25] ty #[.slice d dLen dCap, .slice a xs.length cap]).run Try.prog u = .ok (goInt xs.length) W) ∧ Own W g (ys.take off ++ (xs ++ ys.drop (off + xs.length))) ∧ u.grownBy W (some g) := by
  by_cases h0 : xs.length = 0
  · obtain rfl : xs = [] := List.eq_nil_of_length_eq_zero h0
    refine ⟨u, fun ty => ?_, by simpa using hg, World.grownBy.refl _ _⟩
    have h := run_copy_none (P := Try.prog) u 25 25 ty 5 d a dLen dCap 0 cap Try.underlying25 size5 (by simp)
    exact h
  · obtain ⟨b, o, rfl, hc⟩ := hr (by omega)
    obtain rfl := hd (by omega)
    refine ⟨u.setRow g ((bcs ys).take off ++ bcs xs ++ (bcs ys).drop (off + (bcs xs).length)).toArray, fun ty => ?_, ?_, grown_setRow _ _ _⟩
    · have h := run_copy_row (P := Try.prog) u 25 25 ty 5 g off dLen dCap ⟨b, o, none⟩ xs.length cap (bcs ys).toArray 5 (bcs xs) Try.underlying25 size5 hg (by rw [bcs_length]; exact (Nat.min_eq_left hl).symm) (fun j v hj => by
          have hj' : j < xs.length := by have := (List.getElem?_eq_some_iff.1 hj).1; simpa [bcs_length] using this
          rw [bcs_getElem? xs j hj'] at hj
          rw [Addr.add_lit, hc j hj']
          exact hj) (by simpa [bcs_length] using hfit) (bcs_oneCell xs)
      rw [h, bcs_length]
    · unfold Own
      rw [setRow_heap u g _ _ 5 _ hg]
      simp [bcs]

/-- copy of a text onto a row of one's own. -/
theorem copy_str_run (g off : Nat) (s : ByteArray) (ys : List UInt8) (u : World) (hg : Own u g ys) (hfit : off + s.size ≤ ys.length) :
    ∃ W, (∀ ty d dLen dCap, (0 < s.size → d = some ⟨g, off, none⟩) → s.size ≤ dLen → (Builtin.copy_ #[25, 9] ty #[.slice d dLen dCap, .string s]).run Try.prog u = .ok (goInt s.size) W) ∧ Own W g (ys.take off ++ (s.data.toList ++ ys.drop (off + s.size))) ∧ u.grownBy W (some g) := by
  obtain ⟨i, hi, hi1⟩ := Option.map_eq_some_iff.1 size5
  have hs : s.data.toList.length = s.size := by simp
  have hex : List.take s.size (List.map (fun b : UInt8 => Value.int .u8 (b.toNat : Int)) s.data.toList) = bcs s.data.toList := by
    rw [List.take_of_length_le (by simp)]; rfl
  by_cases h0 : s.size = 0
  · have he : s.data.toList = [] := List.eq_nil_of_length_eq_zero (by omega)
    refine ⟨u, fun ty d dLen dCap _ hl => ?_, by rw [he, h0]; simpa using hg, World.grownBy.refl _ _⟩
    cases d with
    | none => simp [Builtin.copy_, run_underlying Try.underlying25, Builtin.lenOf, Builtin.firstCells, sizeOf, typeInfo, hi, h0]
    | some d => simp [Builtin.copy_, run_underlying Try.underlying25, Builtin.lenOf, Builtin.firstCells, sizeOf, typeInfo, hi, he, h0, storeCells]
  · have hst := run_storeCells_at Try.prog g off 5 (bcs s.data.toList) 0 (bcs ys).toArray u hg (by simpa [bcs_length, hs] using hfit) (bcs_oneCell _)
    refine ⟨_, fun ty d dLen dCap hd hl => ?_, ?_, grown_setRow u g ((bcs ys).take off ++ bcs s.data.toList ++ (bcs ys).drop (off + (bcs s.data.toList).length)).toArray⟩
    · obtain rfl := hd (by omega)
      have hn : Nat.min s.size dLen = s.size := Nat.min_eq_left hl
      simp [Builtin.copy_, run_underlying Try.underlying25, Builtin.lenOf, Builtin.firstCells, sizeOf, typeInfo, hi, hn, hex, hst]
    · unfold Own
      rw [setRow_heap u g _ _ 5 _ hg]
      simp [bcs, hs]

theorem below_of_grown {w u : World} {g : Nat} (h : w.grownBy u (some g)) (hg : w.heap.size ≤ g) : Below w.heap.size w u := (Below.refl _ _).grown h (Nat.le_refl _) (fun k hk => by simp at hk; omega)

theorem made_zero (n : Nat) : (madeCells #[Value.int .u8 0] n) = (bcs (List.replicate n 0)).toArray := by
  apply Array.toList_inj.1
  apply List.ext_getElem
  · simp [madeCells, bcs]
  · intro i h1 h2
    simp [madeCells, bcs, bc, Nat.mod_one]

set_option maxHeartbeats 400000 in
theorem longer_any (a : Option Addr) (cap more : Nat) (xs : List UInt8) (w : World) (hr : Rd w a xs) (hm : xs.length + more ≤ 281474976710656) :
    Calls Try.prog 26 #[.slice a xs.length cap, .int .i64 more] w fun e w' => e = .returned (.slice (some ⟨w.heap.size, 0, none⟩) (xs.length + more) (xs.length + more)) ∧ Own w' w.heap.size (xs ++ List.replicate more 0) ∧ Below w.heap.size w w' := by
  obtain ⟨i0, hi, hz0, hz1, hz2⟩ := info_parts info5
  have hmk : ∀ u : World, (Instr.makeSlice 25 (.int .i64 ((xs.length : Int) + (more : Int))) (.int .i64 ((xs.length : Int) + (more : Int)))).run Try.prog u =
      .ok (.slice (some ⟨u.heap.size, 0, none⟩) (xs.length + more) (xs.length + more)) (u.alloc (.cells (madeCells #[.int .u8 0] (xs.length + more)) 5)) := fun u => by
    have h := run_make (P := Try.prog) u 25 5 i0 (.int .u8 0) Try.underlying25 hi hz0 .i64 .i64 ((xs.length : Int) + (more : Int)) ((xs.length : Int) + (more : Int)) (by omega) (Int.le_refl _) (by rw [hz2]; omega) (by omega)
    have e : ((xs.length : Int) + (more : Int)).toNat = xs.length + more := by omega
    rw [e] at h
    simpa [hz1, Value.cells] using h
  have hb0 : Below w.heap.size w (w.alloc (.cells (madeCells #[.int .u8 0] (xs.length + more)) 5)) := (Below.refl _ _).alloc (Nat.le_refl _) _
  have ho : Own (w.alloc (.cells (madeCells #[.int .u8 0] (xs.length + more)) 5)) w.heap.size (List.replicate (xs.length + more) 0) := by
    rw [made_zero]; exact heap_alloc_new w _
  obtain ⟨W, hcp, hoW, hgW⟩ := copy_run w.heap.size 0 (xs.length + more) (xs.length + more) (some ⟨w.heap.size, 0, none⟩) a cap xs _ _ ho (hr.below hb0 (Nat.le_refl _)) (fun _ => rfl) (by omega) (by simp)
  have hbW : Below w.heap.size w W := hb0.grown hgW (by simp) (fun k hk => by simp at hk; omega)
  have hres : Own W w.heap.size (xs ++ List.replicate more 0) := by
    have e : (List.replicate (xs.length + more) (0 : UInt8)).drop (0 + xs.length) = List.replicate more 0 := by simp
    rw [e] at hoW
    simpa using hoW
  clear hb0 ho hoW hgW hr
  go_enter Try.func26, Try.ntmps26
  go_wp2
  go_ret
  exact ⟨rfl, hres, hbW⟩

/-! ### to read -/
/-- The number of so many bytes from a place on, if all are there. -/
def numAt (xs : List UInt8) (i : Int) (size : Nat) : Option Nat := if 0 ≤ i ∧ i + size ≤ xs.length then some (beNat ((xs.drop i.toNat).take size)) else none

theorem numAt_none {xs : List UInt8} {i : Int} {size : Nat} (h : ¬ (0 ≤ i ∧ i + size ≤ xs.length)) : numAt xs i size = none := by unfold numAt; rw [if_neg h]
theorem numAt_some {xs : List UInt8} {k size : Nat} (h : k + size ≤ xs.length) : numAt xs k size = some (beNat ((xs.drop k).take size)) := by unfold numAt; rw [if_pos (by omega)]; simp
theorem numAt_lt (xs : List UInt8) (i : Int) (size : Nat) : (numAt xs i size).getD 0 < 256 ^ size := by
  unfold numAt
  split
  · have h := beNat_lt ((xs.drop i.toNat).take size)
    have h2 : 256 ^ ((xs.drop i.toNat).take size).length ≤ 256 ^ size := Nat.pow_le_pow_right (by omega) (List.length_take_le _ _)
    simp only [Option.getD_some]
    omega
  · simpa using Nat.pow_pos (by omega)

theorem number_out (a : Option Addr) (n cap : Nat) (i : Int) (size : Nat) (w : World) (hs : size ≤ 8) (hn : n ≤ 9223372036854775807) (h : i < 0 ∨ (n : Int) - size < i) :
    Calls Try.prog 25 #[.slice a n cap, .int .i64 i, .int .i64 size] w fun e w' => e = .returned (.tuple #[.int .u64 0, .bool false]) ∧ w = w' := by
  by_cases h1 : i < 0
  · go_enter Try.func25, Try.ntmps25
    go_wp2
    go_ret2
    exact ⟨rfl, rfl⟩
  · have h2 : (n : Int) - size < i := by omega
    go_enter Try.func25, Try.ntmps25
    go_wp2
    go_ret2
    exact ⟨rfl, rfl⟩

theorem number_in (b off cap : Nat) (xs : List UInt8) (k size : Nat) (w : World) (hs : size ≤ 8) (hn : xs.length ≤ 9223372036854775807)
    (hc : ∀ j (h : j < xs.length), w.cell? ⟨b, off + j, none⟩ = some (.int .u8 (xs[j].toNat : Int))) (h : k + size ≤ xs.length) :
    Calls Try.prog 25 #[.slice (some ⟨b, off, none⟩) xs.length cap, .int .i64 k, .int .i64 size] w fun e w' => e = .returned (.tuple #[.int .u64 (beNat ((xs.drop k).take size)), .bool true]) ∧ w = w' := by
  go_enter Try.func25, Try.ntmps25
  go_wp2
  go_loop [8, 21] (fun v i => ∃ j : Nat, j ≤ size ∧ i = .int .i64 j ∧ v = .int .u64 (beNat ((xs.drop k).take j))) (fun _ i => size - (intOf i).toNat)
  case atStart => exact ⟨0, Nat.zero_le _, rfl, rfl⟩
  case round =>
    obtain ⟨j, hj, rfl, rfl⟩ := hrel
    by_cases hlt : j < size
    · have hcc := hc (k + j) (by omega)
      go_wp2
      go_round
      case rel => exact ⟨j + 1, by omega, by go_num, by rw [or_step _ _ (beNat_take_lt7 _ _ (by omega)) (u8_lt _), be_window_succ xs k j (by omega)]⟩
      case measure => simp [intOf]; omega
    · obtain rfl : j = size := by omega
      go_wp2
      go_ret2
      exact ⟨rfl, rfl⟩

theorem number_any (a : Option Addr) (cap : Nat) (xs : List UInt8) (i : Int) (size : Nat) (w : World) (hs0 : 0 < size) (hs : size ≤ 8) (hn : xs.length ≤ 9223372036854775807) (hr : Rd w a xs) :
    Calls Try.prog 25 #[.slice a xs.length cap, .int .i64 i, .int .i64 size] w fun e w' => e = .returned (.tuple #[.int .u64 ((numAt xs i size).getD 0 : Nat), .bool (numAt xs i size).isSome]) ∧ w = w' := by
  by_cases h : 0 ≤ i ∧ i + size ≤ xs.length
  · obtain ⟨k, rfl⟩ := Int.eq_ofNat_of_zero_le h.1
    have hk : k + size ≤ xs.length := by omega
    obtain ⟨b, o, rfl, hc⟩ := hr (by omega)
    rw [numAt_some hk]
    exact number_in b o cap xs k size w hs hn hc hk
  · rw [numAt_none h]
    exact number_out a xs.length cap i size w hs hn (by omega)

theorem wrap_u8_in (n : Nat) (h : n < 256) : IntKind.u8.wrap (n : Int) = n := by rw [IntKind.wrap_u8]; omega
theorem wrap_u16_in (n : Nat) (h : n < 65536) : IntKind.u16.wrap (n : Int) = n := by simp [IntKind.wrap, IntKind.bits, IntKind.signed]; omega
theorem wrap_u32_in (n : Nat) (h : n < 4294967296) : IntKind.u32.wrap (n : Int) = n := by rw [IntKind.wrap_u32]; omega

theorem u8_any (a : Option Addr) (cap : Nat) (xs : List UInt8) (i : Int) (w : World) (hn : xs.length ≤ 9223372036854775807) (hr : Rd w a xs) :
    Calls Try.prog 9 #[.slice a xs.length cap, .int .i64 i] w fun e w' => e = .returned (.tuple #[.int .u8 ((numAt xs i 1).getD 0 : Nat), .bool (numAt xs i 1).isSome]) ∧ w = w' := by
  have hb := numAt_lt xs i 1
  go_enter Try.func9, Try.ntmps9
  go_wp2_with (go_at_call 25; refine (number_any a cap xs i 1 _ (by omega) (by omega) hn hr).mono ?_; rintro e w' ⟨rfl, rfl⟩)
  go_ret2
  exact ⟨rfl, rfl⟩

theorem u16_any (a : Option Addr) (cap : Nat) (xs : List UInt8) (i : Int) (w : World) (hn : xs.length ≤ 9223372036854775807) (hr : Rd w a xs) :
    Calls Try.prog 7 #[.slice a xs.length cap, .int .i64 i] w fun e w' => e = .returned (.tuple #[.int .u16 ((numAt xs i 2).getD 0 : Nat), .bool (numAt xs i 2).isSome]) ∧ w = w' := by
  have hb := numAt_lt xs i 2
  go_enter Try.func7, Try.ntmps7
  go_wp2_with (go_at_call 25; refine (number_any a cap xs i 2 _ (by omega) (by omega) hn hr).mono ?_; rintro e w' ⟨rfl, rfl⟩)
  go_ret2
  exact ⟨rfl, rfl⟩

theorem u32_any (a : Option Addr) (cap : Nat) (xs : List UInt8) (i : Int) (w : World) (hn : xs.length ≤ 9223372036854775807) (hr : Rd w a xs) :
    Calls Try.prog 10 #[.slice a xs.length cap, .int .i64 i] w fun e w' => e = .returned (.tuple #[.int .u32 ((numAt xs i 4).getD 0 : Nat), .bool (numAt xs i 4).isSome]) ∧ w = w' := by
  have hb := numAt_lt xs i 4
  go_enter Try.func10, Try.ntmps10
  go_wp2_with (go_at_call 25; refine (number_any a cap xs i 4 _ (by omega) (by omega) hn hr).mono ?_; rintro e w' ⟨rfl, rfl⟩)
  go_ret2
  exact ⟨rfl, rfl⟩

theorem u64_any (a : Option Addr) (cap : Nat) (xs : List UInt8) (i : Int) (w : World) (hn : xs.length ≤ 9223372036854775807) (hr : Rd w a xs) :
    Calls Try.prog 8 #[.slice a xs.length cap, .int .i64 i] w fun e w' => e = .returned (.tuple #[.int .u64 ((numAt xs i 8).getD 0 : Nat), .bool (numAt xs i 8).isSome]) ∧ w = w' := by
  go_enter Try.func8, Try.ntmps8
  go_wp2_with (go_at_call 25; refine (number_any a cap xs i 8 _ (by omega) (by omega) hn hr).mono ?_; rintro e w' ⟨rfl, rfl⟩)
  go_ret2
  exact ⟨rfl, rfl⟩

/-! ### to write -/
set_option maxHeartbeats 400000 in
theorem put_any (g off n cap : Nat) (ys : List UInt8) (v : Nat) (w : World) (_hv : v < 18446744073709551616) (h : off + n ≤ ys.length) (hn : n ≤ 8) (hg : Own w g ys) :
    Calls Try.prog 27 #[.slice (some ⟨g, off, none⟩) n cap, .int .u64 v] w fun e w' => e = .returned (.tuple #[]) ∧ Own w' g (putAt ys off n n v) ∧ w.grownBy w' (some g) := by
  go_enter Try.func27, Try.ntmps27
  go_wp2
  go_loopw [7] (fun i wr => ∃ j : Nat, j ≤ n ∧ i = .int .i64 j ∧ Own wr g (putAt ys off n j v) ∧ w.grownBy wr (some g)) (fun i _ => n - (intOf i).toNat)
  case atStart => exact ⟨0, Nat.zero_le _, rfl, by rw [putAt_zero]; exact hg, World.grownBy.refl _ _⟩
  case round =>
    obtain ⟨j, hj, rfl, ho, hb⟩ := hrel
    by_cases hlt : j < n
    · have hf := ho.frozen (off + (n - 1 - j))
      have hcl := ho.cell (off + (n - 1 - j)) (by rw [putAt_length _ _ _ _ _ h hj]; omega)
      have hst := ho.store (off + (n - 1 - j)) (UInt8.ofNat (v / 256 ^ j))
      rw [putAt_succ ys off n j v h hlt, ← shr_byte, IntKind.wrap_u8] at hst
      have hgr := grown_trans hb (grown_store wr g (off + (n - 1 - j)) (.int .u8 ((v : Int) / 2 ^ (8 * j) % 256)))
      go_wp2
      go_roundw
      case rel => exact ⟨j + 1, by omega, by go_num, hst, hgr⟩
      case measure => simp [intOf]; omega
    · obtain rfl : j = n := by omega
      go_wp2
      go_end0
      exact ⟨rfl, ho, hb⟩

theorem putAt_behind (xs zs : List UInt8) (n v : Nat) (hz : zs.length = n) : putAt (xs ++ zs) xs.length n n v = xs ++ toBE n v := by
  unfold putAt
  rw [show xs.length + n - n = xs.length by omega, List.take_left, List.drop_eq_nil_of_le (by simp; omega), List.append_nil]

set_option maxHeartbeats 400000 in
theorem addNumber_any (a : Option Addr) (cap : Nat) (xs : List UInt8) (v n : Nat) (w : World) (hv : v < 18446744073709551616) (hn0 : 0 < n) (hn : n ≤ 8) (hm : xs.length + n ≤ 281474976710656) (hr : Rd w a xs) :
    Calls Try.prog 29 #[.slice a xs.length cap, .int .u64 v, .int .i64 n] w fun e w' => e = .returned (.slice (some ⟨w.heap.size, 0, none⟩) (xs.length + n) (xs.length + n)) ∧ Own w' w.heap.size (xs ++ toBE n v) ∧ Below w.heap.size w w' := by
  have hsz : ¬ xs.length + n = xs.length := by omega
  go_enter Try.func29, Try.ntmps29
  go_wp2_with (go_at_call 26; refine (longer_any a cap n xs _ hr hm).mono ?_; rintro e w1 ⟨rfl, ho, hb⟩)
  refine (put_any w.heap.size xs.length n n (xs ++ List.replicate n 0) v w1 hv (by simp) hn ho).mono ?_
  rintro e w2 ⟨rfl, ho2, hg2⟩
  have hb2 : Below w.heap.size w w2 := hb.grown hg2 hb.size (fun k hk => by simp at hk; omega)
  rw [putAt_behind xs _ n v (by simp)] at ho2
  clear ho hb hg2 hr
  go_wp2
  go_ret
  exact ⟨rfl, ho2, hb2⟩

theorem add8_any (a : Option Addr) (cap : Nat) (xs : List UInt8) (v : Nat) (w : World) (hv : v < 256) (hm : xs.length + 1 ≤ 281474976710656) (hr : Rd w a xs) :
    Calls Try.prog 17 #[.slice a xs.length cap, .int .u8 v] w fun e w' => e = .returned (.slice (some ⟨w.heap.size, 0, none⟩) (xs.length + 1) (xs.length + 1)) ∧ Own w' w.heap.size (xs ++ toBE 1 v) ∧ Below w.heap.size w w' := by
  go_enter Try.func17, Try.ntmps17
  go_wp2_with (go_at_call 29; refine (addNumber_any a cap xs v 1 _ (by omega) (by omega) (by omega) hm hr).mono ?_; rintro e w1 ⟨rfl, ho, hb⟩)
  go_ret
  exact ⟨rfl, ho, hb⟩

theorem add16_any (a : Option Addr) (cap : Nat) (xs : List UInt8) (v : Nat) (w : World) (hv : v < 65536) (hm : xs.length + 2 ≤ 281474976710656) (hr : Rd w a xs) :
    Calls Try.prog 19 #[.slice a xs.length cap, .int .u16 v] w fun e w' => e = .returned (.slice (some ⟨w.heap.size, 0, none⟩) (xs.length + 2) (xs.length + 2)) ∧ Own w' w.heap.size (xs ++ toBE 2 v) ∧ Below w.heap.size w w' := by
  go_enter Try.func19, Try.ntmps19
  go_wp2_with (go_at_call 29; refine (addNumber_any a cap xs v 2 _ (by omega) (by omega) (by omega) hm hr).mono ?_; rintro e w1 ⟨rfl, ho, hb⟩)
  go_ret
  exact ⟨rfl, ho, hb⟩

theorem add32_any (a : Option Addr) (cap : Nat) (xs : List UInt8) (v : Nat) (w : World) (hv : v < 4294967296) (hm : xs.length + 4 ≤ 281474976710656) (hr : Rd w a xs) :
    Calls Try.prog 20 #[.slice a xs.length cap, .int .u32 v] w fun e w' => e = .returned (.slice (some ⟨w.heap.size, 0, none⟩) (xs.length + 4) (xs.length + 4)) ∧ Own w' w.heap.size (xs ++ toBE 4 v) ∧ Below w.heap.size w w' := by
  go_enter Try.func20, Try.ntmps20
  go_wp2_with (go_at_call 29; refine (addNumber_any a cap xs v 4 _ (by omega) (by omega) (by omega) hm hr).mono ?_; rintro e w1 ⟨rfl, ho, hb⟩)
  go_ret
  exact ⟨rfl, ho, hb⟩

theorem add64_any (a : Option Addr) (cap : Nat) (xs : List UInt8) (v : Nat) (w : World) (hv : v < 18446744073709551616) (hm : xs.length + 8 ≤ 281474976710656) (hr : Rd w a xs) :
    Calls Try.prog 21 #[.slice a xs.length cap, .int .u64 v] w fun e w' => e = .returned (.slice (some ⟨w.heap.size, 0, none⟩) (xs.length + 8) (xs.length + 8)) ∧ Own w' w.heap.size (xs ++ toBE 8 v) ∧ Below w.heap.size w w' := by
  go_enter Try.func21, Try.ntmps21
  go_wp2_with (go_at_call 29; refine (addNumber_any a cap xs v 8 _ (by omega) (by omega) (by omega) hm hr).mono ?_; rintro e w1 ⟨rfl, ho, hb⟩)
  go_ret
  exact ⟨rfl, ho, hb⟩

/-! ### texts -/
theorem addText_long (a : Option Addr) (n cap : Nat) (s : ByteArray) (w : World) (hs : s.size ≤ maxLen) (hl : 65535 < s.size) :
    Calls Try.prog 12 #[.slice a n cap, .string s] w fun e w' => e = .returned (.tuple #[.slice none 0 0, .int .i64 3]) ∧ w = w' := by
  unfold maxLen at hs
  go_enter Try.func12, Try.ntmps12
  go_wp2
  go_ret2
  exact ⟨rfl, rfl⟩

theorem text_rows (xs t : List UInt8) (v : Nat) : putAt (xs ++ List.replicate (2 + t.length) 0) xs.length 2 2 v = xs ++ (toBE 2 v ++ List.replicate t.length 0) := by
  unfold putAt
  rw [show xs.length + 2 - 2 = xs.length by omega, List.take_left, List.drop_append]
  simp

theorem text_rows2 (xs t : List UInt8) (v : Nat) : (xs ++ (toBE 2 v ++ List.replicate t.length 0)).take (xs.length + 2) ++ (t ++ (xs ++ (toBE 2 v ++ List.replicate t.length 0)).drop (xs.length + 2 + t.length)) = xs ++ (toBE 2 v ++ t) := by
  have e1 : (xs ++ (toBE 2 v ++ List.replicate t.length (0 : UInt8))).take (xs.length + 2) = xs ++ toBE 2 v := by
    rw [← List.append_assoc, List.take_append_of_le_length (by simp [toBE_length])]
    exact List.take_of_length_le (by simp [toBE_length])
  have e2 : (xs ++ (toBE 2 v ++ List.replicate t.length (0 : UInt8))).drop (xs.length + 2 + t.length) = [] := List.drop_eq_nil_of_le (by simp [toBE_length]; omega)
  rw [e1, e2]
  simp

set_option maxHeartbeats 400000 in
theorem addText_any (a : Option Addr) (cap : Nat) (xs : List UInt8) (s : ByteArray) (w : World) (hs : s.size ≤ 65535) (hm : xs.length + (2 + s.size) ≤ 281474976710656) (hr : Rd w a xs) :
    Calls Try.prog 12 #[.slice a xs.length cap, .string s] w fun e w' => e = .returned (.tuple #[.slice (some ⟨w.heap.size, 0, none⟩) (xs.length + (2 + s.size)) (xs.length + (2 + s.size)), .int .i64 0]) ∧ Own w' w.heap.size (xs ++ (toBE 2 s.size ++ s.data.toList)) ∧ Below w.heap.size w w' := by
  have hls : s.data.toList.length = s.size := by simp
  have hno : ¬ (65535 : Int) < (s.size : Int) := by omega
  have hsz : ¬ xs.length + (2 + s.size) = xs.length := by omega
  go_enter Try.func12, Try.ntmps12
  go_wp2_with (go_at_call 26; refine (longer_any a cap (2 + s.size) xs _ hr hm).mono ?_; rintro e w1 ⟨rfl, ho, hb⟩)
  have e2 : xs.length + 2 - xs.length = 2 := by omega
  refine (put_any w.heap.size xs.length 2 (2 + s.size) (xs ++ List.replicate (2 + s.size) 0) s.size w1 (by omega) (by simp) (by omega) ho).mono ?_
  rintro e w2 ⟨rfl, ho2, hg2⟩
  have hb2 : Below w.heap.size w w2 := hb.grown hg2 hb.size (fun k hk => by simp at hk; omega)
  rw [← hls, text_rows] at ho2
  obtain ⟨W, hcp, ho3, hg3⟩ := copy_str_run w.heap.size (xs.length + 2) s _ w2 ho2 (by simp [toBE_length]; omega)
  rw [← hls, text_rows2, hls] at ho3
  have hb3 : Below w.heap.size w W := hb2.grown hg3 hb2.size (fun k hk => by simp at hk; omega)
  clear ho hb hg2 ho2 hb2 hg3 hr hls e2
  by_cases h0 : s.size = 0
  · have hc := fun ty d dl dc => hcp ty d dl dc (by omega) (by omega)
    clear hcp
    go_wp2
    go_ret2
    exact ⟨by rw [h0]; rfl, ho3, hb3⟩
  · have hc := fun ty dc => hcp ty (some ⟨w.heap.size, xs.length + 2, none⟩) s.size dc (fun _ => rfl) (Nat.le_refl _)
    have hsz2 : ¬ xs.length + (2 + s.size) = xs.length + 2 := by omega
    have e3 : xs.length + (2 + s.size) - (xs.length + 2) = s.size := by omega
    clear hcp
    go_wp2
    go_ret2
    exact ⟨rfl, ho3, hb3⟩
end Go.Proofs.Ytpponamckndhpaa
