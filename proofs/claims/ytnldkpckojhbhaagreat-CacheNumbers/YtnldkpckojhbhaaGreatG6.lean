/-
  SuSums, SuExts, SuNoughts, SuPutSuper, SuPutExts, SuPutInode, SuReads, SuGetNode, SuGetSuper, SuGetInode, SuChg, SuForms, SuFormS, HPlain, SuRef, SuSame, SuLoads, SuRefPut, SuRefSuper, HSmall, HFit, HLay, HDo, VFormat, JStand, DkBackw, DkCopy: put together.
-/
import Derived.Test.YtnldkpckojhbhaaGreatG5
import Derived.WalkKit
import Derived.WalkSpells
import Derived.WalkLawsBesides
import Derived.Laws.BitsLemmas
import Derived.Lib.SlBytesConst
import Derived.BigQuiet
import Derived.Deep.RegionWith
import Derived.Laws.OwnMore
import Derived.Laws.StructEq
import Derived.Orders
import Derived.RegionTactic
import Derived.RangeFuncNested
import Derived.RangeFuncBound
import Derived.RangeFuncCalls
import Derived.RangeFuncLeaves
import Derived.Shelf.Abstract
import Derived.Shelf.RegionOpen
import Derived.OwnWalkIn
import Derived.TacticsInMore
import Derived.LoopNIn
import Derived.LoopIn
/-
  What the layer's calls do: the closure's turn, More, Crc; each told by the register of the plain text.
-/
namespace Go.Proofs.YtnldkpckojhbhaaGreat.Su
open Go.RowKit

def One (w : World) (g r : Nat) : Prop := w.heap[g]? = some (.cells #[.int .u32 (r : Int)] 216 (0, 0))

theorem One.cell {w : World} {g r : Nat} (h : One w g r) : w.cell? ⟨g, 0, none⟩ = some (.int .u32 (r : Int)) := cell_of_one h
theorem One.frozen {w : World} {g r : Nat} (h : One w g r) : w.frozen? ⟨g, 0, none⟩ = false := free_of_one h
theorem One.store {w : World} {g r : Nat} (h : One w g r) (s : Nat) : One (w.setCell ⟨g, 0, none⟩ (.int .u32 (s : Int))) g s := one_setCell h

theorem xor_u32 (a b : Nat) (ha : a < 4294967296) (hb : b < 4294967296) : bits .xor .u32 (a : Int) (b : Int) = ((a ^^^ b : Nat) : Int) := by
  have hx : a ^^^ b < 2 ^ 32 := Nat.xor_lt_two_pow (by omega) (by omega)
  have h1 : (BitVec.ofInt 32 (a : Int)).toNat = a := by
    rw [BitVec.ofInt_natCast, BitVec.toNat_ofNat]; exact Nat.mod_eq_of_lt (by omega)
  have h2 : (BitVec.ofInt 32 (b : Int)).toNat = b := by
    rw [BitVec.ofInt_natCast, BitVec.toNat_ofNat]; exact Nat.mod_eq_of_lt (by omega)
  show IntKind.u32.wrap ((BitVec.ofInt 32 (a : Int) ^^^ BitVec.ofInt 32 (b : Int)).toNat : Int) = _
  rw [BitVec.toNat_xor, h1, h2, IntKind.wrap_u32]
  omega

theorem and_one (a : Nat) (ha : a < 4294967296) : bits .and .u32 (a : Int) 1 = ((a % 2 : Nat) : Int) := by
  have h := bits_mask .u32 32 (by decide) (fun n h0 h1 => by rw [IntKind.wrap_u32]; omega) 1 (by decide) (a : Int) (by omega) (by omega)
  simpa using h

theorem of_not_bne {a b : Int} (h : (a != b) = false) : a = b := by simpa using h

theorem not_u32 (s : Nat) (hs : s < 4294967296) : bits .xor .u32 IntKind.u32.max (s : Int) = ((4294967295 - s : Nat) : Int) := by
  have e : IntKind.u32.max = ((4294967295 : Nat) : Int) := by decide
  rw [e, xor_u32 _ _ (by decide) hs, Nat.xor_comm, ← flip_xor hs]

theorem turn_any (g r b : Nat) (w : World) (hr : r < 4294967296) (h : One w g r) :
    Calls Tryz.prog 277 #[.int .u32 b, .pointer (some ⟨g, 0, none⟩)] w fun e w' => e = .returned (.tuple #[]) ∧ One w' g (step r b) ∧ w.grownBy w' (some g) := by
  have hc := h.cell
  have hf := h.frozen
  have ha := and_one r hr
  have hx : bits .xor .u32 ((r : Int) / 2) 2197175160 = ((r / 2 ^^^ taps : Nat) : Int) := xor_u32 (r / 2) taps (by omega) (by decide)
  have Ha : Hid _ := ha
  have Hx : Hid _ := hx
  clear ha hx
  go_enter Tryz.func277, Tryz.ntmps277
  go_wp2
  · go_end0
    rename_i ht
    rw [Ha.out] at ht
    have hne : r % 2 ≠ b := by
      intro e
      rw [e] at ht
      simp at ht
    rw [Hx.out]
    unfold step
    rw [if_neg hne]
    exact ⟨rfl, (h.store (r / 2)).store _, grown_trans (grown_store _ _ _ _) (grown_store _ _ _ _)⟩
  · go_end0
    rename_i ht
    rw [Ha.out] at ht
    have heq : r % 2 = b := by
      have := of_not_bne ht
      omega
    unfold step
    rw [if_pos heq]
    exact ⟨rfl, h.store (r / 2), grown_store _ _ _ _⟩

theorem turn_at (g r b : Nat) (V : Int) (w : World) (hV : V = (b : Int)) (hr : r < 4294967296) (h : One w g r) :
    Calls Tryz.prog 277 #[.int .u32 V, .pointer (some ⟨g, 0, none⟩)] w fun e w' => e = .returned (.tuple #[]) ∧ One w' g (step r b) ∧ w.grownBy w' (some g) := by
  subst hV
  exact turn_any g r b w hr h

theorem byte_bit (c : UInt8) (i : Nat) : bits .and .u32 ((c.toNat : Int) % 4294967296 / 2 ^ i) 1 = ((c.toNat / 2 ^ i % 2 : Nat) : Int) := by
  have e : (c.toNat : Int) % 4294967296 = c.toNat := by have := u8_lt c; omega
  rw [e]
  have h := and_one (c.toNat / 2 ^ i) (by have := u8_lt c; have := Nat.div_le_self c.toNat (2 ^ i); omega)
  rw [← h]
  congr 1

theorem more_in (b o cap n : Nat) (xs : List UInt8) (s : Nat) (w : World) (hl : xs.length = n) (hn : n ≤ 9223372036854775807) (hs : s < 4294967296)
    (hc : ∀ j, j < n → w.cell? ⟨b, o + j, none⟩ = some (.int .u8 ((xs.getD j 0).toNat : Int))) (hb : b < w.heap.size) :
    Calls Tryz.prog 247 #[.int .u32 s, .slice (some ⟨b, o, none⟩) n cap] w fun e w' => e = .returned (.int .u32 (crc s xs : Nat)) ∧ Below w.heap.size w w' := by
  have Hl : Hid (xs.length = n) := hl
  clear hl
  have Hs : Hid _ := not_u32 s hs
  go_enter Tryz.func247, Tryz.ntmps247
  go_wp2_with fail
  rw [Hs.out]
  go_loopw [15] (fun i wr => ∃ k : Nat, k ≤ n ∧ i = .int .i64 k ∧ One wr w.heap.size (reg (4294967295 - s) (xs.take k)) ∧ Below w.heap.size w wr) (fun i _ => n - (intOf i).toNat)
  case atStart => exact ⟨0, Nat.zero_le _, rfl, heap_alloc_new w _, (Below.refl _ _).alloc (Nat.le_refl _) _⟩
  case round =>
    obtain ⟨k, hk, rfl, hone, hbel⟩ := hrel
    by_cases hlt : k < n
    · obtain ⟨c, hcc⟩ : ∃ c, xs.getD k 0 = c := ⟨_, rfl⟩
      have hcx : wr.cell? ⟨b, o + k, none⟩ = some (.int .u8 (c.toNat : Int)) := by rw [← hcc]; exact (hbel.cell (by exact hb)).trans (hc k hlt)
      obtain ⟨R, hR⟩ : ∃ R, reg (4294967295 - s) (xs.take k) = R := ⟨_, rfl⟩
      rw [hR] at hone
      have HR : Hid _ := hR
      have Hcc : Hid _ := hcc
      clear hR hcc
      have hRl : R < 4294967296 := by rw [← HR.out]; exact reg_lt _ (by omega)
      go_wp2_with fail
      go_loopw [19] (fun i wq => ∃ j : Nat, j ≤ 8 ∧ i = .int .i64 j ∧ One wq w.heap.size (steps R c.toNat j) ∧ Below w.heap.size w wq) (fun i _ => 8 - (intOf i).toNat)
      case atStart => exact ⟨0, Nat.zero_le _, rfl, hone, hbel⟩
      case round =>
        obtain ⟨j, hj, rfl, hone2, hbel2⟩ := hrel
        by_cases hlt2 : j < 8
        · go_wp2_with fail
          refine (turn_at w.heap.size (steps R c.toNat j) (c.toNat / 2 ^ j % 2) _ wr (byte_bit c j) (steps_lt _ hRl j) hone2).mono ?_
          rintro e w1 ⟨rfl, hone3, hgr⟩
          have hbel3 : Below w.heap.size w w1 := hbel2.grown hgr hbel2.size (fun k hk => by simp at hk; omega)
          clear hgr hone2 hbel2
          go_wp2
          go_roundw
          case rel => exact ⟨j + 1, by omega, by go_num, hone3, hbel3⟩
          case measure => simp [intOf]; omega
        · obtain rfl : j = 8 := by omega
          go_wp2
          go_roundw
          case rel =>
            refine ⟨k + 1, by omega, by go_num, ?_, hbel2⟩
            have hk' : k < xs.length := by rw [Hl.out]; exact hlt
            have hcc := Hcc.out
            rw [reg_succ _ _ _ hk', HR.out]
            simp only [List.getD, List.getElem?_eq_getElem hk', Option.getD_some] at hcc
            rw [hcc]
            exact hone2
          case measure => simp [intOf]; omega
    · obtain rfl : k = n := by omega
      have hce := hone.cell
      go_wp2
      go_ret
      refine ⟨?_, hbel⟩
      rw [List.take_of_length_le (by rw [Hl.out]; exact Nat.le_refl _), not_u32 _ (reg_lt _ (by omega))]
      rfl

theorem more_none (a : Option Addr) (cap : Nat) (s : Nat) (w : World) (hs : s < 4294967296) :
    Calls Tryz.prog 247 #[.int .u32 s, .slice a 0 cap] w fun e w' => e = .returned (.int .u32 (crc s [] : Nat)) ∧ Below w.heap.size w w' := by
  have Hs : Hid _ := not_u32 s hs
  have Ht : Hid _ := not_u32 (4294967295 - s) (by omega)
  go_enter Tryz.func247, Tryz.ntmps247
  go_wp2_with fail
  rw [Hs.out]
  refine wp_loop_rounds 1 ?_
  rw [rounds_succ]
  go_wp2
  go_ret
  rw [Ht.out]
  exact ⟨rfl, (Below.refl _ _).alloc (Nat.le_refl _) _⟩

theorem more_at (cap n : Nat) (a : Option Addr) (xs : List UInt8) (s : Nat) (S : Int) (w : World) (hS : S = (s : Int)) (hl : xs.length = n) (hn : n ≤ 9223372036854775807) (hs : s < 4294967296) (hr : Rd w a xs) :
    Calls Tryz.prog 247 #[.int .u32 S, .slice a n cap] w fun e w' => e = .returned (.int .u32 (crc s xs : Nat)) ∧ Below w.heap.size w w' := by
  subst hS
  by_cases h0 : 0 < n
  · obtain ⟨b, o, rfl, hc⟩ := hr (by omega)
    refine more_in b o cap n xs s w hl hn hs (fun j hj => ?_) (block_lt_of_cell (hc 0 (by omega)))
    rw [hc j (by omega)]
    simp [List.getD, List.getElem?_eq_getElem (show j < xs.length by omega)]
  · obtain rfl : n = 0 := by omega
    obtain rfl : xs = [] := List.eq_nil_of_length_eq_zero hl
    exact more_none a cap s w hs

theorem crc_at (cap n : Nat) (a : Option Addr) (xs : List UInt8) (w : World) (hl : xs.length = n) (hn : n ≤ 9223372036854775807) (hr : Rd w a xs) :
    Calls Tryz.prog 217 #[.slice a n cap] w fun e w' => e = .returned (.int .u32 (crc 0 xs : Nat)) ∧ Below w.heap.size w w' := by
  have Hl : Hid _ := hl
  clear hl
  go_enter Tryz.func217, Tryz.ntmps217
  go_wp2_with (go_at_call 247; refine (more_at cap n a xs 0 0 w rfl Hl.out hn (by omega) hr).mono ?_; rintro e w1 ⟨rfl, hb⟩)
  go_ret
  exact ⟨rfl, hb⟩

theorem rd_marked (w : World) (fr : Nat × Nat) (xs : List UInt8) : Rd (w.alloc (.cells (bcs xs).toArray 5 fr)) (some ⟨w.heap.size, 0, none⟩) xs := fun _ => ⟨w.heap.size, 0, rfl, fun j hj => by
  rw [Nat.zero_add, cell_of_row _ w.heap.size j _ 5 fr (heap_alloc_new w _)]
  simpa using bcs_getElem? xs j hj⟩

end Go.Proofs.YtnldkpckojhbhaaGreat.Su

/-
  Extents in memory, and what Right says of them.
-/
namespace Go.Proofs.YtnldkpckojhbhaaGreat.Su
open Go.RowKit

def wi (v l h : Int) : Bool := decide (l ≤ v) && decide (v ≤ h)

theorem within_at (v l h : Int) (w : World) : Calls Tryz.prog 214 #[.int .i64 v, .int .i64 l, .int .i64 h] w fun e w' => e = .returned (.bool (wi v l h)) ∧ w = w' := by
  unfold wi
  by_cases h1 : l ≤ v
  · go_enter Tryz.func214, Tryz.ntmps214
    go_wp2
    go_ret
    simp [h1]
  · go_enter Tryz.func214, Tryz.ntmps214
    go_wp2
    go_ret
    simp
    omega

structure Ext where
  a : Int
  s : Int
  c : Int
deriving DecidableEq, Inhabited

def RdE (w : World) (ad : Option Addr) (es : List Ext) : Prop :=
  0 < es.length → ∃ b o, ad = some ⟨b, o, none⟩ ∧ ∀ j (h : j < es.length), w.cell? ⟨b, o + j * 3, none⟩ = some (.int .i64 es[j].a) ∧ w.cell? ⟨b, o + j * 3 + 1, none⟩ = some (.int .i64 es[j].s) ∧ w.cell? ⟨b, o + j * 3 + 2, none⟩ = some (.int .i64 es[j].c)

def OneI (w : World) (g : Nat) (r : Int) : Prop := w.heap[g]? = some (.cells #[.int .i64 r] 3 (0, 0))
theorem OneI.cell {w : World} {g : Nat} {r : Int} (h : OneI w g r) : w.cell? ⟨g, 0, none⟩ = some (.int .i64 r) := cell_of_one h
theorem OneI.frozen {w : World} {g : Nat} {r : Int} (h : OneI w g r) : w.frozen? ⟨g, 0, none⟩ = false := free_of_one h
theorem OneI.store {w : World} {g : Nat} {r : Int} (h : OneI w g r) (s : Int) : OneI (w.setCell ⟨g, 0, none⟩ (.int .i64 s)) g s := one_setCell h

theorem OneI.lt {w : World} {g : Nat} {r : Int} (h : OneI w g r) : g < w.heap.size := (Array.getElem?_eq_some_iff.1 h).1
theorem OneI.alloc {w : World} {g : Nat} {r : Int} (h : OneI w g r) (o : Obj) : OneI (w.alloc o) g r := (Below.heap_alloc w o g h.lt).trans h
theorem OneI.below {B : Nat} {w w' : World} {g : Nat} {r : Int} (h : OneI w g r) (hb : Below B w w') (hg : g < B) : OneI w' g r := (hb.block g hg).trans h

theorem RdE.lt {w : World} {a : Option Addr} {es : List Ext} (h : RdE w a es) (hp : 0 < es.length) (ad : Addr) (ha : a = some ad) : ad.block < w.heap.size := by
  obtain ⟨b, o, h1, h2⟩ := h hp
  rw [ha] at h1
  obtain rfl := Option.some.inj h1
  exact block_lt_of_cell (h2 0 hp).1
theorem RdE.below {B : Nat} {w w' : World} {a : Option Addr} {es : List Ext} (h : RdE w a es) (hb : Below B w w') (hB : w.heap.size ≤ B) : RdE w' a es := fun hp => by
  obtain ⟨b, o, ha, hc⟩ := h hp
  have hlt : b < B := Nat.lt_of_lt_of_le (block_lt_of_cell (hc 0 hp).1) hB
  refine ⟨b, o, ha, fun j hj => ?_⟩
  obtain ⟨h0, h1, h2⟩ := hc j hj
  exact ⟨(hb.cell (p := ⟨b, _, none⟩) hlt).trans h0, (hb.cell (p := ⟨b, _, none⟩) hlt).trans h1, (hb.cell (p := ⟨b, _, none⟩) hlt).trans h2⟩
theorem RdE.nil (w : World) (a : Option Addr) : RdE w a [] := fun h => absurd h (by simp)

end Go.Proofs.YtnldkpckojhbhaaGreat.Su

/-
  What stands behind what is right: isThenNoughts and what it calls; padded.
-/
namespace Go.Proofs.YtnldkpckojhbhaaGreat.Su
open Go.RowKit

theorem equal_at (ca cb n m : Nat) (a b : Option Addr) (xs ys : List UInt8) (w : World) (hn : xs.length = n) (hm : ys.length = m) (ha : Rd w a xs) (hb : Rd w b ys) :
    Calls Tryz.prog 288 #[.slice a n ca, .slice b m cb] w fun e w' => e = .returned (.bool (xs == ys)) ∧ w = w' := by
  subst hn hm
  have h1 := conv_run w a ca xs ha
  have h2 := conv_run w b cb ys hb
  go_enter Tryz.func288, Tryz.ntmps288
  go_wp2
  go_ret
  exact ⟨rfl, rfl⟩

theorem Rd.take {w : World} {a : Option Addr} {xs : List UInt8} (h : Rd w a xs) (k : Nat) : Rd w a (xs.take k) := by
  have e := (List.take_append_drop k xs).symm
  rw [e] at h
  exact h.head

theorem Rd.drop {w : World} {b o : Nat} {xs : List UInt8} (h : Rd w (some ⟨b, o, none⟩) xs) (k : Nat) : Rd w (some ⟨b, o + k, none⟩) (xs.drop k) := fun hp => by
  have hk : k < xs.length := by simp at hp; omega
  obtain ⟨b', o', he, hc⟩ := h (by omega)
  simp only [Option.some.injEq, Addr.mk.injEq, and_true] at he
  obtain ⟨rfl, rfl⟩ := he
  refine ⟨b, o + k, rfl, fun j hj => ?_⟩
  have hj' : k + j < xs.length := by simp at hj; omega
  rw [Nat.add_assoc, hc (k + j) hj']
  simp

theorem prefix_at (ca cb n m : Nat) (a b : Option Addr) (xs ys : List UInt8) (w : World) (hn : xs.length = n) (hm : ys.length = m) (hcap : n ≤ ca) (_hmax : ca ≤ 9223372036854775807) (_hM : m ≤ 9223372036854775807) (ha : Rd w a xs) (hb : Rd w b ys) :
    Calls Tryz.prog 264 #[.slice a n ca, .slice b m cb] w fun e w' => e = .returned (.bool (decide (m ≤ n) && xs.take m == ys)) ∧ w = w' := by
  by_cases h : m ≤ n
  · have htl : Hid ((xs.take m).length = m) := by show _ = _; simp; omega
    have ht := ha.take m
    have hn0 : m ≤ ca := by omega
    have Hm : Hid _ := hm
    clear hn hm
    go_enter Tryz.func264, Tryz.ntmps264
    go_wp2_with fail
    all_goals refine (equal_at _ cb m m _ b (xs.take m) ys w htl.out Hm.out ht hb).mono ?_
    all_goals rintro e w' ⟨rfl, rfl⟩
    all_goals go_wp2
    all_goals go_ret
    all_goals simp [h]
  · clear hn hm
    go_enter Tryz.func264, Tryz.ntmps264
    go_wp2
    go_ret
    simp [h]

theorem set_at (c : UInt8) (w : World) : Calls Tryz.prog 263 #[.int .u8 (c.toNat : Int)] w fun e w' => e = .returned (.bool (c != 0)) ∧ w = w' := by
  have h : ((c.toNat : Int) != 0) = (c != 0) := by
    by_cases e : c = 0
    · subst e; rfl
    · have e2 : c.toNat ≠ 0 := fun h => e (UInt8.toNat_inj.1 h)
      have h1 : (c != 0) = true := by simpa using e
      have h2 : ((c.toNat : Int) != 0) = true := by simp; omega
      rw [h1, h2]
  go_enter Tryz.func263, Tryz.ntmps263
  go_wp2
  go_ret
  rw [← h]
  exact ⟨rfl, rfl⟩

theorem all_take_succ (xs : List UInt8) (k : Nat) (h : k < xs.length) (ha : (xs.take k).all (· == 0) = true) (hc : (xs[k] != 0) = false) : (xs.take (k + 1)).all (· == 0) = true := by
  rw [List.take_succ_eq_append_getElem h, List.all_append, ha]
  simpa using hc

theorem indexB_in (b o cap n : Nat) (xs : List UInt8) (w : World) (hl : xs.length = n) (hn : n ≤ 9223372036854775807) (hc : ∀ j (h : j < xs.length), w.cell? ⟨b, o + j, none⟩ = some (.int .u8 (xs[j].toNat : Int))) :
    Calls Tryz.prog 289 #[.slice (some ⟨b, o, none⟩) n cap, .func (.func 263) #[] #[]] w fun e w' => (∃ r : Int, e = .returned (.int .i64 r) ∧ decide (0 ≤ r) = !xs.all (· == 0)) ∧ w = w' := by
  have Hl : Hid _ := hl
  have Hc : Hid _ := hc
  clear hl hc
  go_enter Tryz.func289, Tryz.ntmps289
  go_wp2_with fail
  go_loop [8] (fun i => ∃ k : Nat, k ≤ n ∧ i = .int .i64 k ∧ Hid ((xs.take k).all (· == 0) = true)) (fun i => n - (intOf i).toNat)
  case atStart => exact ⟨0, Nat.zero_le _, rfl, by show _ = _; simp⟩
  case round =>
    obtain ⟨k, hk, rfl, hall⟩ := hrel
    by_cases hlt : k < n
    · have hlt' : Hid (k < xs.length) := by show _ < _; rw [Hl.out]; exact hlt
      obtain ⟨c, hcc⟩ : ∃ c, c = xs[k]'hlt'.out := ⟨_, rfl⟩
      have hce := Hc.out k hlt'.out
      rw [← hcc] at hce
      have Hcc : Hid _ := hcc
      clear hcc
      go_wp2_with fail
      refine (set_at c w).mono ?_
      rintro e w' ⟨rfl, rfl⟩
      cases hz : (c != 0)
      · go_wp2
        go_round
        case rel => exact ⟨k + 1, by omega, by go_num, all_take_succ xs k hlt'.out hall.out (by rw [← Hcc.out]; exact hz)⟩
        case measure => simp [intOf]; omega
      · go_wp2
        go_ret
        refine ⟨⟨k, rfl, ?_⟩, rfl⟩
        have h1 : xs.all (· == 0) = false := by
          rw [List.all_eq_false]
          exact ⟨xs[k]'hlt'.out, List.getElem_mem _, by rw [← Hcc.out]; simpa using hz⟩
        rw [h1]
        simp
    · obtain rfl : k = n := by omega
      go_wp2
      go_ret
      refine ⟨⟨-1, rfl, ?_⟩, rfl⟩
      have h1 := hall.out
      rw [List.take_of_length_le (by rw [Hl.out]; exact Nat.le_refl _)] at h1
      rw [h1]
      rfl

theorem indexB_none (a : Option Addr) (cap : Nat) (w : World) :
    Calls Tryz.prog 289 #[.slice a 0 cap, .func (.func 263) #[] #[]] w fun e w' => (∃ r : Int, e = .returned (.int .i64 r) ∧ decide (0 ≤ r) = !([] : List UInt8).all (· == 0)) ∧ w = w' := by
  go_enter Tryz.func289, Tryz.ntmps289
  go_wp2_with fail
  refine wp_loop_rounds 1 ?_
  rw [rounds_succ]
  go_wp2
  go_ret
  exact ⟨⟨-1, rfl, rfl⟩, rfl⟩

theorem containsB_at (cap n : Nat) (a : Option Addr) (xs : List UInt8) (w : World) (hl : xs.length = n) (hn : n ≤ 9223372036854775807) (hr : Rd w a xs) :
    Calls Tryz.prog 265 #[.slice a n cap, .func (.func 263) #[] #[]] w fun e w' => e = .returned (.bool (!xs.all (· == 0))) ∧ w = w' := by
  have c : Calls Tryz.prog 289 #[.slice a n cap, .func (.func 263) #[] #[]] w fun e w' => (∃ r : Int, e = .returned (.int .i64 r) ∧ decide (0 ≤ r) = !xs.all (· == 0)) ∧ w = w' := by
    by_cases h0 : 0 < n
    · obtain ⟨b, o, rfl, hc⟩ := hr (by omega)
      exact indexB_in b o cap n xs w hl hn hc
    · obtain rfl : n = 0 := by omega
      obtain rfl : xs = [] := List.eq_nil_of_length_eq_zero hl
      exact indexB_none a cap w
  generalize (!xs.all (· == 0)) = q at c ⊢
  clear hl
  go_enter Tryz.func265, Tryz.ntmps265
  go_wp2_with fail
  refine c.mono ?_
  rintro e w' ⟨⟨r, rfl, hq⟩, rfl⟩
  go_wp2
  go_ret
  exact ⟨by rw [← hq]; rfl, rfl⟩

def isThen (xs ys : List UInt8) : Bool := decide (ys.length ≤ xs.length) && xs.take ys.length == ys && (xs.drop ys.length).all (· == 0)

theorem isThen_at (ca cb n m : Nat) (a b : Option Addr) (xs ys : List UInt8) (w : World) (hn : xs.length = n) (hm : ys.length = m) (hcap : n ≤ ca) (hmax : ca ≤ 9223372036854775807) (hM : m ≤ 9223372036854775807) (hnil : a = none → ca = 0) (ha : Rd w a xs) (hb : Rd w b ys) :
    Calls Tryz.prog 228 #[.slice a n ca, .slice b m cb] w fun e w' => e = .returned (.bool (isThen xs ys)) ∧ w = w' := by
  unfold isThen
  rw [hn, hm]
  have c1 := prefix_at ca cb n m a b xs ys w hn hm hcap hmax hM ha hb
  cases hq : (decide (m ≤ n) && xs.take m == ys)
  · rw [hq] at c1
    clear hn hm
    go_enter Tryz.func228, Tryz.ntmps228
    go_wp2_with fail
    refine c1.mono ?_
    rintro e w' ⟨rfl, rfl⟩
    go_wp2
    go_ret
    exact ⟨rfl, rfl⟩
  · rw [hq] at c1
    have hmn : m ≤ n := by
      by_cases h : m ≤ n
      · exact h
      · simp [h] at hq
    have hdl : Hid ((xs.drop m).length = n - m) := by show _ = _; simp; omega
    have hmc : m ≤ ca := by omega
    clear hn hm hq hb
    go_enter Tryz.func228, Tryz.ntmps228
    go_wp2_with fail
    refine c1.mono ?_
    rintro e w' ⟨rfl, rfl⟩
    clear c1
    go_wp2_with fail
    · have e0 : xs.drop m = [] := List.eq_nil_of_length_eq_zero (by rw [hdl.out]; omega)
      have e1 : n - m = 0 := by omega
      rw [e1]
      refine (containsB_at 0 0 a [] w rfl (by omega) (Rd.nil _ _)).mono ?_
      rintro e w' ⟨rfl, rfl⟩
      go_wp2
      go_ret
      rw [e0]
      exact ⟨rfl, rfl⟩
    · have hrd : Rd w (Option.map (fun x => x.add m) a) (xs.drop m) := by
        cases a with
        | none => exact absurd (hnil rfl) (by omega)
        | some ad =>
          by_cases hp : 0 < xs.length
          · obtain ⟨b', o', he, _⟩ := ha hp
            obtain rfl := Option.some.inj he
            have h := ha.drop m
            rw [← Addr.add_lit] at h
            exact h
          · have : xs.drop m = [] := List.eq_nil_of_length_eq_zero (by simp; omega)
            rw [this]
            exact Rd.nil _ _
      refine (containsB_at (ca - m) (n - m) _ (xs.drop m) w hdl.out (by omega) hrd).mono ?_
      rintro e w' ⟨rfl, rfl⟩
      go_wp2
      go_ret
      exact ⟨by simp, rfl⟩

theorem padded_at (g cap n N : Nat) (a : Option Addr) (xs : List UInt8) (S : Int) (w : World) (hS : S = (N : Int)) (hg : w.heap.size = g) (hn : xs.length = n) (hN : n ≤ N) (hm : N ≤ 281474976710656) (hr : Rd w a xs) :
    Calls Tryz.prog 176 #[.slice a n cap, .int .i64 S] w fun e w' => e = .returned (.slice (some ⟨g, 0, none⟩) N N) ∧ Own w' g (xs ++ List.replicate (N - n) 0) ∧ Below g w w' := by
  subst hS hg hn
  obtain ⟨i0, hi, hz0, hz1, hz2⟩ := info_parts info5
  have hmk : ∀ u : World, (Instr.makeSlice 37 (.int .i64 (N : Int)) (.int .i64 (N : Int))).run Tryz.prog u =
      .ok (.slice (some ⟨u.heap.size, 0, none⟩) N N) (u.alloc (.cells (madeCells #[.int .u8 0] N) 5)) := fun u => by
    have h := run_make (P := Tryz.prog) u 37 5 i0 (.int .u8 0) Tryz.underlying37 hi hz0 .i64 .i64 (N : Int) (N : Int) (by omega) (Int.le_refl _) (by rw [hz2]; omega) (by omega)
    have e : ((N : Int)).toNat = N := by omega
    rw [e, hz1, Nat.mul_one] at h
    exact h
  have ho : Own (w.alloc (.cells (madeCells #[.int .u8 0] N) 5)) w.heap.size (List.replicate N 0) := by
    rw [made_zero]; exact heap_alloc_new w _
  have hb0 : Below w.heap.size w (w.alloc (.cells (madeCells #[.int .u8 0] N) 5)) := (Below.refl _ _).alloc (Nat.le_refl _) _
  obtain ⟨W, hcp, hoW, hgW⟩ := copy_run w.heap.size 0 N N (some ⟨w.heap.size, 0, none⟩) a cap xs (List.replicate N 0) _ ho (hr.below hb0 (Nat.le_refl _)) (fun _ => rfl) hN (by simpa using hN)
  have hbW : Below w.heap.size w W := hb0.grown hgW (by simp) (fun k hk => by simp at hk; omega)
  have hres : Own W w.heap.size (xs ++ List.replicate (N - xs.length) 0) := by
    have e : (List.replicate N (0 : UInt8)).drop (0 + xs.length) = List.replicate (N - xs.length) 0 := by simp
    rw [e] at hoW
    simpa using hoW
  clear hb0 ho hoW hgW hr
  go_enter Tryz.func176, Tryz.ntmps176
  go_wp2
  go_ret
  exact ⟨rfl, hres, hbW⟩
end Go.Proofs.YtnldkpckojhbhaaGreat.Su

/-
  A superblock: what is right, its bytes, PutSuper.
-/
namespace Go.Proofs.YtnldkpckojhbhaaGreat.Su
open Go.RowKit

def rightS (b e q t : Int) : Bool := wi b 64 512 && (wi e 1 8388608 && (wi q 1 549755813888 && wi t 0 511))

set_option maxHeartbeats 400000 in
theorem rightSuper_at (b e q t : Int) (w : World) : Calls Tryz.prog 175 #[.agg #[.int .i64 b, .int .i64 e, .int .i64 q, .int .i64 t]] w fun r w' => r = .returned (.bool (rightS b e q t)) ∧ Below w.heap.size w w' := by
  unfold rightS
  have hb := fun o => (Below.refl w.heap.size w).alloc (Nat.le_refl _) o
  cases h1 : wi b 64 512
  · go_enter Tryz.func175, Tryz.ntmps175
    go_wp2_with fail
    refine (within_at _ _ _ _).mono ?_
    rintro r w' ⟨rfl, rfl⟩
    rw [h1]
    go_wp2
    go_ret
    exact ⟨rfl, hb _⟩
  · cases h2 : wi e 1 8388608
    · go_enter Tryz.func175, Tryz.ntmps175
      go_wp2_with fail
      refine (within_at _ _ _ _).mono ?_
      rintro r w' ⟨rfl, rfl⟩
      rw [h1]
      go_wp2_with fail
      refine (within_at _ _ _ _).mono ?_
      rintro r w' ⟨rfl, rfl⟩
      rw [h2]
      go_wp2
      go_ret
      exact ⟨rfl, hb _⟩
    · cases h3 : wi q 1 549755813888
      · go_enter Tryz.func175, Tryz.ntmps175
        go_wp2_with fail
        refine (within_at _ _ _ _).mono ?_
        rintro r w' ⟨rfl, rfl⟩
        rw [h1]
        go_wp2_with fail
        refine (within_at _ _ _ _).mono ?_
        rintro r w' ⟨rfl, rfl⟩
        rw [h2]
        go_wp2_with fail
        refine (within_at _ _ _ _).mono ?_
        rintro r w' ⟨rfl, rfl⟩
        rw [h3]
        go_wp2
        go_ret
        exact ⟨rfl, hb _⟩
      · go_enter Tryz.func175, Tryz.ntmps175
        go_wp2_with fail
        refine (within_at _ _ _ _).mono ?_
        rintro r w' ⟨rfl, rfl⟩
        rw [h1]
        go_wp2_with fail
        refine (within_at _ _ _ _).mono ?_
        rintro r w' ⟨rfl, rfl⟩
        rw [h2]
        go_wp2_with fail
        refine (within_at _ _ _ _).mono ?_
        rintro r w' ⟨rfl, rfl⟩
        rw [h3]
        go_wp2_with fail
        refine (within_at _ _ _ _).mono ?_
        rintro r w' ⟨rfl, rfl⟩
        go_wp2
        go_ret
        exact ⟨rfl, hb _⟩

theorem rightS_nat {b e q t : Int} (h : rightS b e q t = true) : (64 ≤ b ∧ b ≤ 512) ∧ (1 ≤ e ∧ e ≤ 8388608) ∧ (1 ≤ q ∧ q ≤ 549755813888) ∧ (0 ≤ t ∧ t ≤ 511) := by
  simpa [rightS, wi] using h

def letters : List UInt8 := [76, 69, 68, 71, 69, 82, 48, 49]
def lead (vs : List Nat) : List UInt8 := letters ++ vs.flatMap (toBE 8)
theorem lead_length (vs : List Nat) : (lead vs).length = 8 + 8 * vs.length := by
  induction vs with
  | nil => rfl
  | cons v l ih => simp [lead, toBE_length] at ih ⊢; omega
def headS (b e q t : Nat) : List UInt8 := lead [b, e, q, t] ++ toBE 4 (crc 0 (lead [b, e, q, t]))
theorem headS_length (b e q t : Nat) : (headS b e q t).length = 44 := by simp [headS, lead_length, toBE_length]
def noughts (n : Nat) : List UInt8 := List.replicate n 0
theorem noughts_length (n : Nat) : (noughts n).length = n := List.length_replicate
def superB (b e q t : Nat) : List UInt8 := headS b e q t ++ noughts 4052
theorem superB_length (b e q t : Nat) : (superB b e q t).length = 4096 := by rw [superB, List.length_append, headS_length, noughts_length]

theorem cell_new (w : World) (cs : Array Value) (t : TypeId) (fr : Nat × Nat) (j : Nat) : (w.alloc (.cells cs t fr)).cell? ⟨w.heap.size, j, none⟩ = cs[j]? := cell_of_row _ w.heap.size j cs t fr (heap_alloc_new w _)

theorem headWorld (b e q t : Nat) (w W : World) (hW : W = (((w.alloc (.cells #[.int .i64 b, .int .i64 e, .int .i64 q, .int .i64 t] 141)).alloc (.cells #[.int .u8 76, .int .u8 69, .int .u8 68, .int .u8 71, .int .u8 69, .int .u8 82, .int .u8 48, .int .u8 49] 5 (8, 9))).alloc (.cells #[.int .i64 b, .int .i64 e, .int .i64 q, .int .i64 t] 3))) :
    Rd W (some ⟨w.heap.size + 1, 0, none⟩) letters ∧ (W.cell? ⟨w.heap.size + 1 + 1, 0, none⟩ = some (.int .i64 b) ∧ W.cell? ⟨w.heap.size + 1 + 1, 1, none⟩ = some (.int .i64 e) ∧ W.cell? ⟨w.heap.size + 1 + 1, 2, none⟩ = some (.int .i64 q) ∧ W.cell? ⟨w.heap.size + 1 + 1, 3, none⟩ = some (.int .i64 t)) ∧ Below w.heap.size w W ∧ W.heap.size = w.heap.size + 3 := by
  obtain ⟨w1, h1⟩ : ∃ w1, w1 = w.alloc (.cells #[.int .i64 b, .int .i64 e, .int .i64 q, .int .i64 t] 141) := ⟨_, rfl⟩
  obtain ⟨w2, h2⟩ : ∃ w2, w2 = w1.alloc (.cells #[.int .u8 76, .int .u8 69, .int .u8 68, .int .u8 71, .int .u8 69, .int .u8 82, .int .u8 48, .int .u8 49] 5 (8, 9)) := ⟨_, rfl⟩
  rw [← h1, ← h2] at hW
  have s1 : w1.heap.size = w.heap.size + 1 := by rw [h1]; simp
  have s2 : w2.heap.size = w.heap.size + 1 + 1 := by rw [h2]; simp [s1]
  have b1 : Below w.heap.size w w1 := by rw [h1]; exact (Below.refl _ _).alloc (Nat.le_refl _) _
  have b2 : Below w1.heap.size w1 w2 := by rw [h2]; exact (Below.refl _ _).alloc (Nat.le_refl _) _
  have b3 : Below w2.heap.size w2 W := by rw [hW]; exact (Below.refl _ _).alloc (Nat.le_refl _) _
  refine ⟨?_, ?_, b1.trans ((b2.mono b1.size).trans (b3.mono (Nat.le_trans b1.size b2.size))), by rw [hW]; simp [s2]⟩
  · have h := rd_marked w1 (8, 9) letters
    have e1 : (bcs letters).toArray = #[.int .u8 76, .int .u8 69, .int .u8 68, .int .u8 71, .int .u8 69, .int .u8 82, .int .u8 48, .int .u8 49] := rfl
    rw [e1, ← h2, s1] at h
    exact h.below b3 (Nat.le_refl _)
  · have h := cell_new w2 #[.int .i64 b, .int .i64 e, .int .i64 q, .int .i64 t] 3 (0, 0)
    rw [← hW, s2] at h
    exact ⟨h 0, h 1, h 2, h 3⟩

set_option maxRecDepth 100000 in
set_option maxHeartbeats 1000000 in
theorem superHead_at (b e q t : Nat) (w : World) (hb : b < 9223372036854775808) (he : e < 9223372036854775808) (hq : q < 9223372036854775808) (ht : t < 9223372036854775808) :
    Calls Tryz.prog 177 #[.agg #[.int .i64 b, .int .i64 e, .int .i64 q, .int .i64 t]] w fun r w' => ∃ g, r = .returned (.slice (some ⟨g, 0, none⟩) 44 44) ∧ w.heap.size ≤ g ∧ Own w' g (headS b e q t) ∧ Below w.heap.size w w' := by
  obtain ⟨L0, hL0⟩ : ∃ L, L = letters := ⟨_, rfl⟩
  obtain ⟨L1, hL1⟩ : ∃ L, L = L0 ++ toBE 8 b := ⟨_, rfl⟩
  obtain ⟨L2, hL2⟩ : ∃ L, L = L1 ++ toBE 8 e := ⟨_, rfl⟩
  obtain ⟨L3, hL3⟩ : ∃ L, L = L2 ++ toBE 8 q := ⟨_, rfl⟩
  obtain ⟨L4, hL4⟩ : ∃ L, L = L3 ++ toBE 8 t := ⟨_, rfl⟩
  have N0 : Hid (L0.length = 8) := by rw [hL0]; exact rfl
  have N1 : Hid (L1.length = 16) := by rw [hL1, List.length_append, toBE_length, N0.out]; exact rfl
  have N2 : Hid (L2.length = 24) := by rw [hL2, List.length_append, toBE_length, N1.out]; exact rfl
  have N3 : Hid (L3.length = 32) := by rw [hL3, List.length_append, toBE_length, N2.out]; exact rfl
  have N4 : Hid (L4.length = 40) := by rw [hL4, List.length_append, toBE_length, N3.out]; exact rfl
  have E4 : Hid (lead [b, e, q, t] = L4) := by show _ = _; rw [hL4, hL3, hL2, hL1, hL0]; simp [lead]
  have U0 : Hid _ := hL0
  have U1 : Hid _ := hL1
  have U2 : Hid _ := hL2
  have U3 : Hid _ := hL3
  have U4 : Hid _ := hL4
  clear hL0 hL1 hL2 hL3 hL4
  have kc := Lib.run_convert_bytes_const (P := Tryz.prog) (w.alloc (.cells #[.int .i64 b, .int .i64 e, .int .i64 q, .int .i64 t] 141)) 37 5 #[.int .u8 76, .int .u8 69, .int .u8 68, .int .u8 71, .int .u8 69, .int .u8 82, .int .u8 48, .int .u8 49] 8 8 Tryz.underlying37 Tryz.underlying5
  have sz : (w.alloc (.cells #[.int .i64 b, .int .i64 e, .int .i64 q, .int .i64 t] 141)).heap.size = w.heap.size + 1 := by simp
  rw [sz] at kc
  go_enter Tryz.func177, Tryz.ntmps177
  go_wp2_with fail
  refine wp_loop_rounds 5 ?_
  rw [rounds_succ]
  go_wp2_with fail
  clear kc sz
  obtain ⟨W, hW⟩ : ∃ W, W = (((w.alloc (.cells #[.int .i64 b, .int .i64 e, .int .i64 q, .int .i64 t] 141)).alloc (.cells #[.int .u8 76, .int .u8 69, .int .u8 68, .int .u8 71, .int .u8 69, .int .u8 82, .int .u8 48, .int .u8 49] 5 (8, 9))).alloc (.cells #[.int .i64 b, .int .i64 e, .int .i64 q, .int .i64 t] 3)) := ⟨_, rfl⟩
  rw [← hW]
  obtain ⟨hr, ⟨c0, c1, c2, c3⟩, hB, hs⟩ := headWorld b e q t w W hW
  rw [← U0.out] at hr
  clear hW
  refine (add64_at W.heap.size _ 8 _ L0 b _ W rfl rfl N0.out (by omega) (by omega) hr).mono ?_
  rintro r w1 ⟨rfl, o1, b1⟩
  rw [← U1.out] at o1
  have B1 := hB.trans (b1.mono hB.size)
  have d1 := (b1.cell (p := ⟨w.heap.size + 1 + 1, 1, none⟩) (by simp; omega)).trans c1
  have d2 := (b1.cell (p := ⟨w.heap.size + 1 + 1, 2, none⟩) (by simp; omega)).trans c2
  have d3 := (b1.cell (p := ⟨w.heap.size + 1 + 1, 3, none⟩) (by simp; omega)).trans c3
  have s1 := b1.size
  have s0 : w.heap.size + 3 ≤ W.heap.size := by omega
  clear c0 c1 c2 c3 hr b1 hB hs
  go_wp2_with fail
  rw [rounds_succ]
  go_wp2_with fail
  refine (add64_at w1.heap.size _ 16 _ L1 e _ w1 rfl rfl N1.out (by omega) (by omega) o1.rd).mono ?_
  rintro r w2 ⟨rfl, o2, b2⟩
  rw [← U2.out] at o2
  have B2 := B1.trans (b2.mono B1.size)
  have e2 := (b2.cell (p := ⟨w.heap.size + 1 + 1, 2, none⟩) (by simp; omega)).trans d2
  have e3 := (b2.cell (p := ⟨w.heap.size + 1 + 1, 3, none⟩) (by simp; omega)).trans d3
  have s2 := b2.size
  clear d1 d2 d3 o1 b2 B1
  go_wp2_with fail
  rw [rounds_succ]
  go_wp2_with fail
  refine (add64_at w2.heap.size _ 24 _ L2 q _ w2 rfl rfl N2.out (by omega) (by omega) o2.rd).mono ?_
  rintro r w3 ⟨rfl, o3, b3⟩
  rw [← U3.out] at o3
  have B3 := B2.trans (b3.mono B2.size)
  have f3 := (b3.cell (p := ⟨w.heap.size + 1 + 1, 3, none⟩) (by simp; omega)).trans e3
  have s3 := b3.size
  clear e2 e3 o2 b3 B2
  go_wp2_with fail
  rw [rounds_succ]
  go_wp2_with fail
  refine (add64_at w3.heap.size _ 32 _ L3 t _ w3 rfl rfl N3.out (by omega) (by omega) o3.rd).mono ?_
  rintro r w4 ⟨rfl, o4, b4⟩
  rw [← U4.out] at o4
  have B4 := B3.trans (b4.mono B3.size)
  have s4 := b4.size
  have hl4 : w3.heap.size < w4.heap.size := o4.lt
  clear f3 o3 b4 B3
  go_wp2_with fail
  rw [rounds_succ]
  go_wp2_with fail
  refine (crc_at 40 40 _ L4 w4 N4.out (by omega) o4.rd).mono ?_
  rintro r w5 ⟨rfl, b5⟩
  have B5 := B4.trans (b5.mono B4.size)
  have o5 := o4.below b5 hl4
  have s5 := b5.size
  have hcl := crc_lt 0 L4
  obtain ⟨C, hC⟩ : ∃ C, C = crc 0 L4 := ⟨_, rfl⟩
  rw [← hC] at hcl ⊢
  have HC : Hid _ := hC
  clear B4 b5 o4 hC
  go_wp2_with fail
  refine (add32_at w5.heap.size _ 40 _ L4 C _ w5 rfl rfl N4.out hcl (by omega) o5.rd).mono ?_
  rintro r w6 ⟨rfl, o6, b6⟩
  have B6 := B5.trans (b6.mono B5.size)
  clear o5 b6 B5
  go_wp2
  go_ret
  refine ⟨w5.heap.size, rfl, by omega, ?_, B6⟩
  unfold headS
  rw [E4.out, ← HC.out]
  exact o6

def erP (o : Option (List UInt8)) : Int := if o.isSome then 0 else 2
def Puts (w w' : World) (o : Option (List UInt8)) (r : Ending) : Prop := ∃ v, r = .returned (.tuple #[v, .int .i64 (erP o)]) ∧ w'.ownsRow w.heap.size 5 1 v (o.getD []).length (bcs (o.getD [])) ∧ Below w.heap.size w w'

theorem Own.owns {w : World} {g B n : Nat} {ys : List UInt8} (h : Own w g ys) (hg : B ≤ g) (hn : ys.length = n) (hm : n ≤ 281474976710656) : w.ownsRow B 5 1 (.slice (some ⟨g, 0, none⟩) n n) n (bcs ys) := by
  subst hn
  refine ⟨by rw [bcs_length]; omega, .inr ⟨g, ys.length, (bcs ys).toArray, rfl, hg, h, Nat.le_refl _, by unfold maxLen; omega, by simp [bcs_length], ?_⟩⟩
  rw [List.take_of_length_le (by simp [bcs_length])]

def putSuper (b e q t : Int) : Option (List UInt8) := if rightS b e q t then some (superB b.toNat e.toNat q.toNat t.toNat) else none

set_option maxRecDepth 100000 in
theorem putSuper_at (b e q t : Int) (w : World) : Calls Tryz.prog 114 #[.agg #[.int .i64 b, .int .i64 e, .int .i64 q, .int .i64 t]] w fun r w' => Puts w w' (putSuper b e q t) r := by
  have hb0 := fun o => (Below.refl w.heap.size w).alloc (Nat.le_refl _) o
  unfold putSuper
  cases h : rightS b e q t
  · go_enter Tryz.func114, Tryz.ntmps114
    go_wp2_with fail
    refine (rightSuper_at b e q t _).mono ?_
    rintro r w1 ⟨rfl, b1⟩
    rw [h]
    have B1 := (hb0 _).trans (b1.mono (hb0 _).size)
    go_wp2
    go_ret2
    exact ⟨_, rfl, World.ownsRow_nil _ _ _ _, B1⟩
  · obtain ⟨hb, he, hq, ht⟩ := rightS_nat h
    obtain ⟨b, rfl⟩ := Int.eq_ofNat_of_zero_le (show 0 ≤ b by omega)
    obtain ⟨e, rfl⟩ := Int.eq_ofNat_of_zero_le (show 0 ≤ e by omega)
    obtain ⟨q, rfl⟩ := Int.eq_ofNat_of_zero_le (show 0 ≤ q by omega)
    obtain ⟨t, rfl⟩ := Int.eq_ofNat_of_zero_le (show 0 ≤ t by omega)
    have B0 := hb0 (.cells #[.int .i64 b, .int .i64 e, .int .i64 q, .int .i64 t] 141)
    have sz : (w.alloc (.cells #[.int .i64 b, .int .i64 e, .int .i64 q, .int .i64 t] 141)).heap.size = w.heap.size + 1 := by simp
    have hc := cell_new w #[.int .i64 b, .int .i64 e, .int .i64 q, .int .i64 t] 141 (0, 0)
    have c0 := hc 0
    have c1 := hc 1
    have c2 := hc 2
    have c3 := hc 3
    clear hc
    go_enter Tryz.func114, Tryz.ntmps114
    go_wp2_with fail
    refine (rightSuper_at b e q t _).mono ?_
    rintro r w1 ⟨rfl, b1⟩
    rw [h]
    have B1 := B0.trans (b1.mono B0.size)
    have d0 := (b1.cell (p := ⟨w.heap.size, 0, none⟩) (by simp)).trans c0
    have d1 := (b1.cell (p := ⟨w.heap.size, 1, none⟩) (by simp)).trans c1
    have d2 := (b1.cell (p := ⟨w.heap.size, 2, none⟩) (by simp)).trans c2
    have d3 := (b1.cell (p := ⟨w.heap.size, 3, none⟩) (by simp)).trans c3
    simp only [List.getElem?_toArray, List.getElem?_cons_zero, List.getElem?_cons_succ] at d0 d1 d2 d3
    clear c0 c1 c2 c3 sz b1 B0 hb0
    go_wp2_with fail
    refine (superHead_at b e q t w1 (by omega) (by omega) (by omega) (by omega)).mono ?_
    rintro r w2 ⟨g, rfl, hg, o2, b2⟩
    have B2 := B1.trans (b2.mono B1.size)
    clear d0 d1 d2 d3 b2
    go_wp2_with fail
    refine (padded_at w2.heap.size _ 44 4096 _ (headS b e q t) _ w2 rfl rfl (headS_length _ _ _ _) (by omega) (by omega) o2.rd).mono ?_
    rintro r w3 ⟨rfl, o3, b3⟩
    have B3 := B2.trans (b3.mono B2.size)
    have hsz := B2.size
    have o3' : Own w3 w2.heap.size (superB b e q t) := o3
    clear o3 b3
    go_wp2
    go_ret2
    refine ⟨_, rfl, ?_, B3⟩
    have h4 := o3'.owns hsz (superB_length _ _ _ _) (by omega)
    simpa [superB_length] using h4
end Go.Proofs.YtnldkpckojhbhaaGreat.Su

/-
  The bytes of extents; PutNode.
-/
namespace Go.Proofs.YtnldkpckojhbhaaGreat.Su
open Go.RowKit

theorem own_ne {w : World} {B n Q : Nat} {v : Value} {xs : List Value} {cs : Array Value} {fr : Nat × Nat} (h : w.ownsRow B 5 1 v n xs) (hq : w.heap[Q]? = some (.cells cs 3 fr)) : ∀ k, v.ownBlock = some k → Q ≠ k := by
  intro k hk e
  subst e
  rcases h.2 with ⟨rfl, _⟩ | ⟨g, cap, cur, rfl, hb, hg, _⟩
  · simp [Value.ownBlock] at hk
  · simp [Value.ownBlock] at hk
    subst hk
    rw [hg] at hq
    simp at hq

theorem owns_below {w w' : World} {B e z n : Nat} {v : Value} {xs : List Value} (h : w.ownsRow B e z v n xs) (hb : Below w.heap.size w w') : w'.ownsRow B e z v n xs :=
  h.kept (row := none) ⟨hb.os, hb.tape, hb.output, hb.size, fun k hk _ => hb.block k hk⟩ (Classical.em _)

def Three (w : World) (Q : Nat) (a b c : Int) : Prop := w.heap[Q]? = some (.cells #[.int .i64 a, .int .i64 b, .int .i64 c] 3 (0, 0))
theorem Three.cell {w : World} {Q : Nat} {a b c : Int} (h : Three w Q a b c) : w.cell? ⟨Q, 0, none⟩ = some (.int .i64 a) ∧ w.cell? ⟨Q, 1, none⟩ = some (.int .i64 b) ∧ w.cell? ⟨Q, 2, none⟩ = some (.int .i64 c) :=
  ⟨cell_of_row w Q 0 _ 3 (0, 0) h, cell_of_row w Q 1 _ 3 (0, 0) h, cell_of_row w Q 2 _ 3 (0, 0) h⟩
theorem Three.lt {w : World} {Q : Nat} {a b c : Int} (h : Three w Q a b c) : Q < w.heap.size := (Array.getElem?_eq_some_iff.1 h).1
theorem Three.below {w w' : World} {Q : Nat} {a b c : Int} (h : Three w Q a b c) (hb : Below w.heap.size w w') : Three w' Q a b c := (hb.block Q h.lt).trans h
theorem Three.grown {w w' : World} {Q B n : Nat} {v : Value} {xs : List Value} {a b c : Int} (h : Three w Q a b c) (ho : w.ownsRow B 5 1 v n xs) (hg : w.grownBy w' v.ownBlock) : Three w' Q a b c :=
  (hg.block Q h.lt (fun e => own_ne ho h Q e.symm rfl)).trans h

end Go.Proofs.YtnldkpckojhbhaaGreat.Su

/-
  An inode: what is right, its bytes, PutInode.
-/
namespace Go.Proofs.YtnldkpckojhbhaaGreat.Su
open Go.RowKit

def Box (w : World) (g : Nat) (cs : Array Value) (t : TypeId) : Prop := w.heap[g]? = some (.cells cs t (0, 0))
theorem Box.cell {w : World} {g : Nat} {cs : Array Value} {t : TypeId} (h : Box w g cs t) (j : Nat) : w.cell? ⟨g, j, none⟩ = cs[j]? := cell_of_row w g j cs t (0, 0) h
theorem Box.lt {w : World} {g : Nat} {cs : Array Value} {t : TypeId} (h : Box w g cs t) : g < w.heap.size := (Array.getElem?_eq_some_iff.1 h).1
theorem Box.below {w w' : World} {g : Nat} {cs : Array Value} {t : TypeId} (h : Box w g cs t) (hb : Below w.heap.size w w') : Box w' g cs t := (hb.block g h.lt).trans h
theorem Box.new (w : World) (cs : Array Value) (t : TypeId) : Box (w.alloc (.cells cs t)) w.heap.size cs t := heap_alloc_new w _

end Go.Proofs.YtnldkpckojhbhaaGreat.Su

/-
  What the Gets read: numbers, extents, an inode.
-/
namespace Go.Proofs.YtnldkpckojhbhaaGreat.Su
open Go.RowKit

def num (xs : List UInt8) (i : Int) (size : Nat) : Nat := (numAt xs i size).getD 0
theorem num_lt (xs : List UInt8) (i : Int) (size : Nat) : num xs i size < 256 ^ size := numAt_lt xs i size
theorem u64_o (cap n : Nat) (a : Option Addr) (xs : List UInt8) (i : Int) (w : World) (hn : xs.length = n) (hm : n ≤ 9223372036854775807) (hr : Rd w a xs) :
    Calls Tryz.prog 227 #[.slice a n cap, .int .i64 i] w fun e w' => ∃ ok, e = .returned (.tuple #[.int .u64 (num xs i 8 : Nat), .bool ok]) ∧ w = w' := by
  subst hn; refine (u64_any a cap xs i w hm hr).mono ?_; rintro e w' ⟨rfl, rfl⟩; exact ⟨_, rfl, rfl⟩

def i64 (v : Nat) : Int := wrap64 (v : Int)

theorem next8_at (gb ga n cap : Nat) (a : Option Addr) (xs : List UInt8) (p : Int) (w : World) (hn : xs.length = n) (hm : n ≤ 9223372036854775807) (hr : Rd w a xs) (hbx : Box w gb #[.slice a n cap] 37) (h1 : OneI w ga p) (hp : 0 ≤ p ∧ p ≤ 1000000) :
    Calls Tryz.prog 226 #[.pointer (some ⟨gb, 0, none⟩), .pointer (some ⟨ga, 0, none⟩)] w fun e w' => e = .returned (.int .i64 (i64 (num xs p 8))) ∧ OneI w' ga (p + 8) ∧ w.grownBy w' (some ga) := by
  have c0 := hbx.cell 0
  simp only [List.getElem?_toArray, List.getElem?_cons_zero] at c0
  have c1 := h1.cell
  have f1 := h1.frozen
  have hlt := num_lt xs p 8
  obtain ⟨V, hV⟩ : ∃ V, V = num xs p 8 := ⟨_, rfl⟩
  have cc := u64_o cap n a xs p w hn hm hr
  rw [← hV] at hlt cc ⊢
  clear hn hV
  go_enter Tryz.func226, Tryz.ntmps226
  go_wp2_with fail
  refine cc.mono ?_
  rintro e w' ⟨ok, rfl, rfl⟩
  go_wp2
  go_ret
  refine ⟨?_, h1.store _, grown_store _ _ _ _⟩
  rfl

def readE (xs : List UInt8) (p k : Nat) : List Ext := (List.range k).map fun j => ⟨(num xs ((p + 6 * j : Nat) : Int) 2 : Nat), (num xs ((p + 6 * j + 2 : Nat) : Int) 2 : Nat), (num xs ((p + 6 * j + 4 : Nat) : Int) 2 : Nat)⟩
theorem Box.frozen {w : World} {g : Nat} {cs : Array Value} {t : TypeId} (h : Box w g cs t) (j : Nat) : w.frozen? ⟨g, j, none⟩ = false := frozen_of_row w g j cs t h

theorem Box.store {w : World} {g : Nat} {cs : Array Value} {t : TypeId} (h : Box w g cs t) (j : Nat) (v : Value) : Box (w.setCell ⟨g, j, none⟩ v) g (cs.setIfInBounds j v) t := heap_setCell_same w g j cs t v h

end Go.Proofs.YtnldkpckojhbhaaGreat.Su

/-
  GetNode: what a block of extents says.
-/
namespace Go.Proofs.YtnldkpckojhbhaaGreat.Su
open Go.RowKit

def erG (b : Bool) : Int := if b then 0 else 30
end Go.Proofs.YtnldkpckojhbhaaGreat.Su

/-
  GetSuper: what a superblock says.
-/
namespace Go.Proofs.YtnldkpckojhbhaaGreat.Su
open Go.RowKit

structure Sup where
  b : Int
  e : Int
  q : Int
  t : Int
def zeroS : Sup := ⟨0, 0, 0, 0⟩
def supV (s : Sup) : Value := .agg #[.int .i64 s.b, .int .i64 s.e, .int .i64 s.q, .int .i64 s.t]
def GetsS (w w' : World) (o : Option Sup) (r : Ending) : Prop := r = .returned (.tuple #[supV (o.getD zeroS), .int .i64 (erG o.isSome)]) ∧ Below w.heap.size w w'
def readS (xs : List UInt8) : Sup := ⟨i64 (num xs 8 8), i64 (num xs 16 8), i64 (num xs 24 8), i64 (num xs 32 8)⟩
def getSuper (xs : List UInt8) : Option Sup :=
  if rightS (readS xs).b (readS xs).e (readS xs).q (readS xs).t && (decide (xs.length = 4096) && isThen xs (headS (readS xs).b.toNat (readS xs).e.toNat (readS xs).q.toNat (readS xs).t.toNat)) then some (readS xs) else none

def ansS (B E Q T : Int) (n : Nat) (xs : List UInt8) : Option Sup := if rightS B E Q T && (decide (n = 4096) && isThen xs (headS B.toNat E.toNat Q.toNat T.toNat)) then some ⟨B, E, Q, T⟩ else none

set_option maxRecDepth 100000 in
set_option maxHeartbeats 2000000 in
theorem getSuper_wrong (n cap : Nat) (a : Option Addr) (xs : List UInt8) (B E Q T : Int) (w : World) (Hn : Hid (xs.length = n)) (hm : n ≤ 9223372036854775807) (hr : Rd w a xs) (hB : Hid (i64 (num xs 8 8) = B)) (hE : Hid (i64 (num xs 16 8) = E)) (hQ : Hid (i64 (num xs 24 8) = Q)) (hT : Hid (i64 (num xs 32 8) = T)) (h : rightS B E Q T = false) :
    Calls Tryz.prog 185 #[.slice a n cap] w fun r w' => GetsS w w' (ansS B E Q T n xs) r := by
  have e : ansS B E Q T n xs = none := by unfold ansS; rw [h]; rfl
  rw [e]
  clear e
  have B1 := (Below.refl w.heap.size w).alloc (Nat.le_refl _) (.cells #[.slice a n cap] 37)
  have x1 := Box.new w #[.slice a n cap] 37
  obtain ⟨w1, hw1⟩ : ∃ w1, w1 = w.alloc (.cells #[.slice a n cap] 37) := ⟨_, rfl⟩
  have s1 : w1.heap.size = w.heap.size + 1 := by rw [hw1]; simp
  rw [← hw1] at B1 x1
  have b2 := (Below.refl w1.heap.size w1).alloc (Nat.le_refl _) (.cells #[.int .i64 0, .int .i64 0, .int .i64 0, .int .i64 0] 141)
  have x2 := Box.new w1 #[.int .i64 0, .int .i64 0, .int .i64 0, .int .i64 0] 141
  have y1 := x1.below b2
  have B2 := B1.trans (b2.mono B1.size)
  obtain ⟨w2, hw2⟩ : ∃ w2, w2 = w1.alloc (.cells #[.int .i64 0, .int .i64 0, .int .i64 0, .int .i64 0] 141) := ⟨_, rfl⟩
  have s2 : w2.heap.size = w.heap.size + 1 + 1 := by rw [hw2]; simp [s1]
  rw [← hw2] at b2 x2 y1 B2
  have b3 := (Below.refl w2.heap.size w2).alloc (Nat.le_refl _) (.cells #[.int .i64 8] 3)
  have o3 : OneI (w2.alloc (.cells #[.int .i64 8] 3)) w2.heap.size 8 := heap_alloc_new w2 _
  have y2 := x2.below b3
  have z1 := y1.below b3
  have B3 := B2.trans (b3.mono B2.size)
  rw [s1] at y2
  rw [s2] at o3
  clear b2 b3 x1 y1 x2 B1 B2
  go_enter Tryz.func185, Tryz.ntmps185
  go_wp2_with fail
  rw [← hw1, ← hw2]
  obtain ⟨W, hW⟩ : ∃ W, W = w2.alloc (.cells #[.int .i64 8] 3) := ⟨_, rfl⟩
  rw [← hW] at o3 y2 z1 B3 ⊢
  clear hW hw1 hw2 s1 s2
  refine (next8_at w.heap.size (w.heap.size + 1 + 1) n cap a xs 8 W Hn.out hm (hr.below B3 (Nat.le_refl _)) z1 o3 (by omega)).mono ?_
  rintro r v1 ⟨rfl, p1, g1⟩
  rw [hB.out]
  replace p1 : OneI v1 (w.heap.size + 1 + 1) 16 := p1
  have bs1 : Box v1 w.heap.size #[.slice a n cap] 37 := (g1.block _ z1.lt (fun e => by have := Option.some.inj e; omega)).trans z1
  have bz1 : Box v1 (w.heap.size + 1) #[.int .i64 0, .int .i64 0, .int .i64 0, .int .i64 0] 141 := (g1.block _ y2.lt (fun e => by have := Option.some.inj e; omega)).trans y2
  have D1 := B3.grown g1 B3.size (fun k hk => by simp at hk; omega)
  clear g1 o3 z1 y2 B3
  go_wp2_with fail
  refine (next8_at w.heap.size (w.heap.size + 1 + 1) n cap a xs 16 v1 Hn.out hm (hr.below D1 (Nat.le_refl _)) bs1 p1 (by omega)).mono ?_
  rintro r v2 ⟨rfl, p2, g2⟩
  rw [hE.out]
  replace p2 : OneI v2 (w.heap.size + 1 + 1) 24 := p2
  have bs2 : Box v2 w.heap.size #[.slice a n cap] 37 := (g2.block _ bs1.lt (fun e => by have := Option.some.inj e; omega)).trans bs1
  have bz2 : Box v2 (w.heap.size + 1) #[.int .i64 0, .int .i64 0, .int .i64 0, .int .i64 0] 141 := (g2.block _ bz1.lt (fun e => by have := Option.some.inj e; omega)).trans bz1
  have D2 := D1.grown g2 D1.size (fun k hk => by simp at hk; omega)
  clear g2 p1 bs1 bz1 D1
  go_wp2_with fail
  refine (next8_at w.heap.size (w.heap.size + 1 + 1) n cap a xs 24 v2 Hn.out hm (hr.below D2 (Nat.le_refl _)) bs2 p2 (by omega)).mono ?_
  rintro r v3 ⟨rfl, p3, g3⟩
  rw [hQ.out]
  replace p3 : OneI v3 (w.heap.size + 1 + 1) 32 := p3
  have bs3 : Box v3 w.heap.size #[.slice a n cap] 37 := (g3.block _ bs2.lt (fun e => by have := Option.some.inj e; omega)).trans bs2
  have bz3 : Box v3 (w.heap.size + 1) #[.int .i64 0, .int .i64 0, .int .i64 0, .int .i64 0] 141 := (g3.block _ bz2.lt (fun e => by have := Option.some.inj e; omega)).trans bz2
  have D3 := D2.grown g3 D2.size (fun k hk => by simp at hk; omega)
  clear g3 p2 bs2 bz2 D2
  go_wp2_with fail
  refine (next8_at w.heap.size (w.heap.size + 1 + 1) n cap a xs 32 v3 Hn.out hm (hr.below D3 (Nat.le_refl _)) bs3 p3 (by omega)).mono ?_
  rintro r v4 ⟨rfl, p4, g4⟩
  rw [hT.out]
  replace p4 : OneI v4 (w.heap.size + 1 + 1) 40 := p4
  have bs4 : Box v4 w.heap.size #[.slice a n cap] 37 := (g4.block _ bs3.lt (fun e => by have := Option.some.inj e; omega)).trans bs3
  have bz4 : Box v4 (w.heap.size + 1) #[.int .i64 0, .int .i64 0, .int .i64 0, .int .i64 0] 141 := (g4.block _ bz3.lt (fun e => by have := Option.some.inj e; omega)).trans bz3
  have D4 := D3.grown g4 D3.size (fun k hk => by simp at hk; omega)
  clear g4 p3 bs3 bz3 D3
  have bA := (Below.refl v4.heap.size v4).alloc (Nat.le_refl _) (.cells #[.int .i64 B, .int .i64 E, .int .i64 Q, .int .i64 T] 141)
  have bq := Box.new v4 #[.int .i64 B, .int .i64 E, .int .i64 Q, .int .i64 T] 141
  have bs := bs4.below bA
  have bz := bz4.below bA
  have D := D4.trans (bA.mono D4.size)
  go_wp2_with fail
  obtain ⟨U, hU⟩ : ∃ U, U = v4.alloc (.cells #[.int .i64 B, .int .i64 E, .int .i64 Q, .int .i64 T] 141) := ⟨_, rfl⟩
  rw [← hU] at bq bs bz D ⊢
  obtain ⟨G, hG⟩ : ∃ G, G = v4.heap.size := ⟨_, rfl⟩
  rw [← hG] at bq ⊢
  clear bs4 bz4 D4 p4 bA hU hG
  have hrU := hr.below D (Nat.le_refl _)
  have q0 := bq.cell 0
  have q1 := bq.cell 1
  have q2 := bq.cell 2
  have q3 := bq.cell 3
  have s0 := bs.cell 0
  simp only [List.getElem?_toArray, List.getElem?_cons_zero, List.getElem?_cons_succ] at q0 q1 q2 q3 s0
  go_region_with (go_at_call 175; refine (rightSuper_at B E Q T _).mono ?_; rintro r u1 ⟨rfl, b1⟩; rw [h]; have D1 : Below w.heap.size w u1 := (D.drew).trans (b1.mono D.size); have bz1 : Box u1 (w.heap.size + 1) #[.int .i64 0, .int .i64 0, .int .i64 0, .int .i64 0] 141 := Box.below (w := U.drew) bz b1)
  all_goals
    have m0 := bz1.cell 0
    have m1 := bz1.cell 1
    have m2 := bz1.cell 2
    have m3 := bz1.cell 3
    simp only [List.getElem?_toArray, List.getElem?_cons_zero, List.getElem?_cons_succ] at m0 m1 m2 m3
    have f0 := bz1.frozen 0
    have f1 := bz1.frozen 1
    have f2 := bz1.frozen 2
    have f3 := bz1.frozen 3
    go_wp2_with fail
    have Y := ((((bz1.store 0 (.int .i64 0)).store 1 (.int .i64 0)).store 2 (.int .i64 0)).store 3 (.int .i64 0))
    have C1 := ((((D1.setCell (p := ⟨w.heap.size + 1, 0, none⟩) (Nat.le_succ _) (.int .i64 0)).setCell (p := ⟨w.heap.size + 1, 1, none⟩) (Nat.le_succ _) (.int .i64 0)).setCell (p := ⟨w.heap.size + 1, 2, none⟩) (Nat.le_succ _) (.int .i64 0)).setCell (p := ⟨w.heap.size + 1, 3, none⟩) (Nat.le_succ _) (.int .i64 0))
    generalize ((((u1.setCell ⟨w.heap.size + 1, 0, none⟩ (.int .i64 0)).setCell ⟨w.heap.size + 1, 1, none⟩ (.int .i64 0)).setCell ⟨w.heap.size + 1, 2, none⟩ (.int .i64 0)).setCell ⟨w.heap.size + 1, 3, none⟩ (.int .i64 0)) = W9 at Y C1 ⊢
    clear m0 m1 m2 m3
    have m0 := Y.cell 0
    have m1 := Y.cell 1
    have m2 := Y.cell 2
    have m3 := Y.cell 3
    simp at m0 m1 m2 m3
    refine bodyPost_ret (v := .tuple #[.agg #[.int .i64 0, .int .i64 0, .int .i64 0, .int .i64 0], .int .i64 30]) (by simp [results, Tryz.results185, go_sem, m0, m1, m2, m3]) rfl ?_
    exact ⟨rfl, C1⟩

set_option maxRecDepth 100000 in
set_option maxHeartbeats 2000000 in
theorem getSuper_off (n cap : Nat) (a : Option Addr) (xs : List UInt8) (B E Q T : Int) (w : World) (Hn : Hid (xs.length = n)) (hm : n ≤ 9223372036854775807) (hr : Rd w a xs) (hB : Hid (i64 (num xs 8 8) = B)) (hE : Hid (i64 (num xs 16 8) = E)) (hQ : Hid (i64 (num xs 24 8) = Q)) (hT : Hid (i64 (num xs 32 8) = T)) (h : rightS B E Q T = true) (h4 : n ≠ 4096) :
    Calls Tryz.prog 185 #[.slice a n cap] w fun r w' => GetsS w w' (ansS B E Q T n xs) r := by
  have e : ansS B E Q T n xs = none := by unfold ansS; rw [decide_eq_false h4]; simp
  rw [e]
  clear e
  have h5 : ((n : Int) != 4096) = true := by simp; omega
  clear h4
  have B1 := (Below.refl w.heap.size w).alloc (Nat.le_refl _) (.cells #[.slice a n cap] 37)
  have x1 := Box.new w #[.slice a n cap] 37
  obtain ⟨w1, hw1⟩ : ∃ w1, w1 = w.alloc (.cells #[.slice a n cap] 37) := ⟨_, rfl⟩
  have s1 : w1.heap.size = w.heap.size + 1 := by rw [hw1]; simp
  rw [← hw1] at B1 x1
  have b2 := (Below.refl w1.heap.size w1).alloc (Nat.le_refl _) (.cells #[.int .i64 0, .int .i64 0, .int .i64 0, .int .i64 0] 141)
  have x2 := Box.new w1 #[.int .i64 0, .int .i64 0, .int .i64 0, .int .i64 0] 141
  have y1 := x1.below b2
  have B2 := B1.trans (b2.mono B1.size)
  obtain ⟨w2, hw2⟩ : ∃ w2, w2 = w1.alloc (.cells #[.int .i64 0, .int .i64 0, .int .i64 0, .int .i64 0] 141) := ⟨_, rfl⟩
  have s2 : w2.heap.size = w.heap.size + 1 + 1 := by rw [hw2]; simp [s1]
  rw [← hw2] at b2 x2 y1 B2
  have b3 := (Below.refl w2.heap.size w2).alloc (Nat.le_refl _) (.cells #[.int .i64 8] 3)
  have o3 : OneI (w2.alloc (.cells #[.int .i64 8] 3)) w2.heap.size 8 := heap_alloc_new w2 _
  have y2 := x2.below b3
  have z1 := y1.below b3
  have B3 := B2.trans (b3.mono B2.size)
  rw [s1] at y2
  rw [s2] at o3
  clear b2 b3 x1 y1 x2 B1 B2
  go_enter Tryz.func185, Tryz.ntmps185
  go_wp2_with fail
  rw [← hw1, ← hw2]
  obtain ⟨W, hW⟩ : ∃ W, W = w2.alloc (.cells #[.int .i64 8] 3) := ⟨_, rfl⟩
  rw [← hW] at o3 y2 z1 B3 ⊢
  clear hW hw1 hw2 s1 s2
  refine (next8_at w.heap.size (w.heap.size + 1 + 1) n cap a xs 8 W Hn.out hm (hr.below B3 (Nat.le_refl _)) z1 o3 (by omega)).mono ?_
  rintro r v1 ⟨rfl, p1, g1⟩
  rw [hB.out]
  replace p1 : OneI v1 (w.heap.size + 1 + 1) 16 := p1
  have bs1 : Box v1 w.heap.size #[.slice a n cap] 37 := (g1.block _ z1.lt (fun e => by have := Option.some.inj e; omega)).trans z1
  have bz1 : Box v1 (w.heap.size + 1) #[.int .i64 0, .int .i64 0, .int .i64 0, .int .i64 0] 141 := (g1.block _ y2.lt (fun e => by have := Option.some.inj e; omega)).trans y2
  have D1 := B3.grown g1 B3.size (fun k hk => by simp at hk; omega)
  clear g1 o3 z1 y2 B3
  go_wp2_with fail
  refine (next8_at w.heap.size (w.heap.size + 1 + 1) n cap a xs 16 v1 Hn.out hm (hr.below D1 (Nat.le_refl _)) bs1 p1 (by omega)).mono ?_
  rintro r v2 ⟨rfl, p2, g2⟩
  rw [hE.out]
  replace p2 : OneI v2 (w.heap.size + 1 + 1) 24 := p2
  have bs2 : Box v2 w.heap.size #[.slice a n cap] 37 := (g2.block _ bs1.lt (fun e => by have := Option.some.inj e; omega)).trans bs1
  have bz2 : Box v2 (w.heap.size + 1) #[.int .i64 0, .int .i64 0, .int .i64 0, .int .i64 0] 141 := (g2.block _ bz1.lt (fun e => by have := Option.some.inj e; omega)).trans bz1
  have D2 := D1.grown g2 D1.size (fun k hk => by simp at hk; omega)
  clear g2 p1 bs1 bz1 D1
  go_wp2_with fail
  refine (next8_at w.heap.size (w.heap.size + 1 + 1) n cap a xs 24 v2 Hn.out hm (hr.below D2 (Nat.le_refl _)) bs2 p2 (by omega)).mono ?_
  rintro r v3 ⟨rfl, p3, g3⟩
  rw [hQ.out]
  replace p3 : OneI v3 (w.heap.size + 1 + 1) 32 := p3
  have bs3 : Box v3 w.heap.size #[.slice a n cap] 37 := (g3.block _ bs2.lt (fun e => by have := Option.some.inj e; omega)).trans bs2
  have bz3 : Box v3 (w.heap.size + 1) #[.int .i64 0, .int .i64 0, .int .i64 0, .int .i64 0] 141 := (g3.block _ bz2.lt (fun e => by have := Option.some.inj e; omega)).trans bz2
  have D3 := D2.grown g3 D2.size (fun k hk => by simp at hk; omega)
  clear g3 p2 bs2 bz2 D2
  go_wp2_with fail
  refine (next8_at w.heap.size (w.heap.size + 1 + 1) n cap a xs 32 v3 Hn.out hm (hr.below D3 (Nat.le_refl _)) bs3 p3 (by omega)).mono ?_
  rintro r v4 ⟨rfl, p4, g4⟩
  rw [hT.out]
  replace p4 : OneI v4 (w.heap.size + 1 + 1) 40 := p4
  have bs4 : Box v4 w.heap.size #[.slice a n cap] 37 := (g4.block _ bs3.lt (fun e => by have := Option.some.inj e; omega)).trans bs3
  have bz4 : Box v4 (w.heap.size + 1) #[.int .i64 0, .int .i64 0, .int .i64 0, .int .i64 0] 141 := (g4.block _ bz3.lt (fun e => by have := Option.some.inj e; omega)).trans bz3
  have D4 := D3.grown g4 D3.size (fun k hk => by simp at hk; omega)
  clear g4 p3 bs3 bz3 D3
  have bA := (Below.refl v4.heap.size v4).alloc (Nat.le_refl _) (.cells #[.int .i64 B, .int .i64 E, .int .i64 Q, .int .i64 T] 141)
  have bq := Box.new v4 #[.int .i64 B, .int .i64 E, .int .i64 Q, .int .i64 T] 141
  have bs := bs4.below bA
  have bz := bz4.below bA
  have D := D4.trans (bA.mono D4.size)
  go_wp2_with fail
  obtain ⟨U, hU⟩ : ∃ U, U = v4.alloc (.cells #[.int .i64 B, .int .i64 E, .int .i64 Q, .int .i64 T] 141) := ⟨_, rfl⟩
  rw [← hU] at bq bs bz D ⊢
  obtain ⟨G, hG⟩ : ∃ G, G = v4.heap.size := ⟨_, rfl⟩
  rw [← hG] at bq ⊢
  clear bs4 bz4 D4 p4 bA hU hG
  have hrU := hr.below D (Nat.le_refl _)
  have q0 := bq.cell 0
  have q1 := bq.cell 1
  have q2 := bq.cell 2
  have q3 := bq.cell 3
  have s0 := bs.cell 0
  simp only [List.getElem?_toArray, List.getElem?_cons_zero, List.getElem?_cons_succ] at q0 q1 q2 q3 s0
  clear s0
  go_region_with (go_at_call 175; refine (rightSuper_at B E Q T _).mono ?_; rintro r u1 ⟨rfl, b1⟩; rw [h]; have D1 : Below w.heap.size w u1 := (D.drew).trans (b1.mono D.size); have bz1 : Box u1 (w.heap.size + 1) #[.int .i64 0, .int .i64 0, .int .i64 0, .int .i64 0] 141 := Box.below (w := U.drew) bz b1; have bs1 : Box u1 w.heap.size #[.slice a n cap] 37 := Box.below (w := U.drew) bs b1; have bq1 : Box u1 G #[.int .i64 B, .int .i64 E, .int .i64 Q, .int .i64 T] 141 := Box.below (w := U.drew) bq b1; have s0 := bs1.cell 0; have q0 := bq1.cell 0; have q1 := bq1.cell 1; have q2 := bq1.cell 2; have q3 := bq1.cell 3; simp only [List.getElem?_toArray, List.getElem?_cons_zero, List.getElem?_cons_succ] at q0 q1 q2 q3 s0)
  all_goals
    have m0 := bz1.cell 0
    have m1 := bz1.cell 1
    have m2 := bz1.cell 2
    have m3 := bz1.cell 3
    simp only [List.getElem?_toArray, List.getElem?_cons_zero, List.getElem?_cons_succ] at m0 m1 m2 m3
    have f0 := bz1.frozen 0
    have f1 := bz1.frozen 1
    have f2 := bz1.frozen 2
    have f3 := bz1.frozen 3
    go_wp2_with fail
    have Y := ((((bz1.store 0 (.int .i64 0)).store 1 (.int .i64 0)).store 2 (.int .i64 0)).store 3 (.int .i64 0))
    have C1 := ((((D1.setCell (p := ⟨w.heap.size + 1, 0, none⟩) (Nat.le_succ _) (.int .i64 0)).setCell (p := ⟨w.heap.size + 1, 1, none⟩) (Nat.le_succ _) (.int .i64 0)).setCell (p := ⟨w.heap.size + 1, 2, none⟩) (Nat.le_succ _) (.int .i64 0)).setCell (p := ⟨w.heap.size + 1, 3, none⟩) (Nat.le_succ _) (.int .i64 0))
    generalize ((((u1.setCell ⟨w.heap.size + 1, 0, none⟩ (.int .i64 0)).setCell ⟨w.heap.size + 1, 1, none⟩ (.int .i64 0)).setCell ⟨w.heap.size + 1, 2, none⟩ (.int .i64 0)).setCell ⟨w.heap.size + 1, 3, none⟩ (.int .i64 0)) = W9 at Y C1 ⊢
    clear m0 m1 m2 m3
    have m0 := Y.cell 0
    have m1 := Y.cell 1
    have m2 := Y.cell 2
    have m3 := Y.cell 3
    simp at m0 m1 m2 m3
    refine bodyPost_ret (v := .tuple #[.agg #[.int .i64 0, .int .i64 0, .int .i64 0, .int .i64 0], .int .i64 30]) (by simp [results, Tryz.results185, go_sem, m0, m1, m2, m3]) rfl ?_
    exact ⟨rfl, C1⟩

set_option maxRecDepth 100000 in
set_option maxHeartbeats 4000000 in
theorem getSuper_bad (bb oo cap b e q t : Nat) (xs : List UInt8) (w : World) (Hn : Hid (xs.length = 4096)) (hcap : 4096 ≤ cap) (hcm : cap ≤ 9223372036854775807) (hm : 4096 ≤ 9223372036854775807) (hr : Rd w (some ⟨bb, oo, none⟩) xs) (hB : Hid (i64 (num xs 8 8) = (b : Int))) (hE : Hid (i64 (num xs 16 8) = (e : Int))) (hQ : Hid (i64 (num xs 24 8) = (q : Int))) (hT : Hid (i64 (num xs 32 8) = (t : Int))) (h : rightS b e q t = true) (hH : isThen xs (headS b e q t) = false) :
    Calls Tryz.prog 185 #[.slice (some ⟨bb, oo, none⟩) 4096 cap] w fun r w' => GetsS w w' none r := by
  obtain ⟨hb9, he9, hq9, ht9⟩ : b < 9223372036854775808 ∧ e < 9223372036854775808 ∧ q < 9223372036854775808 ∧ t < 9223372036854775808 := by
    have := rightS_nat h
    omega
  have B1 := (Below.refl w.heap.size w).alloc (Nat.le_refl _) (.cells #[.slice (some ⟨bb, oo, none⟩) 4096 cap] 37)
  have x1 := Box.new w #[.slice (some ⟨bb, oo, none⟩) 4096 cap] 37
  obtain ⟨w1, hw1⟩ : ∃ w1, w1 = w.alloc (.cells #[.slice (some ⟨bb, oo, none⟩) 4096 cap] 37) := ⟨_, rfl⟩
  have s1 : w1.heap.size = w.heap.size + 1 := by rw [hw1]; simp
  rw [← hw1] at B1 x1
  have b2 := (Below.refl w1.heap.size w1).alloc (Nat.le_refl _) (.cells #[.int .i64 0, .int .i64 0, .int .i64 0, .int .i64 0] 141)
  have x2 := Box.new w1 #[.int .i64 0, .int .i64 0, .int .i64 0, .int .i64 0] 141
  have y1 := x1.below b2
  have B2 := B1.trans (b2.mono B1.size)
  obtain ⟨w2, hw2⟩ : ∃ w2, w2 = w1.alloc (.cells #[.int .i64 0, .int .i64 0, .int .i64 0, .int .i64 0] 141) := ⟨_, rfl⟩
  have s2 : w2.heap.size = w.heap.size + 1 + 1 := by rw [hw2]; simp [s1]
  rw [← hw2] at b2 x2 y1 B2
  have b3 := (Below.refl w2.heap.size w2).alloc (Nat.le_refl _) (.cells #[.int .i64 8] 3)
  have o3 : OneI (w2.alloc (.cells #[.int .i64 8] 3)) w2.heap.size 8 := heap_alloc_new w2 _
  have y2 := x2.below b3
  have z1 := y1.below b3
  have B3 := B2.trans (b3.mono B2.size)
  rw [s1] at y2
  rw [s2] at o3
  clear b2 b3 x1 y1 x2 B1 B2
  go_enter Tryz.func185, Tryz.ntmps185
  go_wp2_with fail
  rw [← hw1, ← hw2]
  obtain ⟨W, hW⟩ : ∃ W, W = w2.alloc (.cells #[.int .i64 8] 3) := ⟨_, rfl⟩
  rw [← hW] at o3 y2 z1 B3 ⊢
  clear hW hw1 hw2 s1 s2
  refine (next8_at w.heap.size (w.heap.size + 1 + 1) 4096 cap (some ⟨bb, oo, none⟩) xs 8 W Hn.out hm (hr.below B3 (Nat.le_refl _)) z1 o3 (by omega)).mono ?_
  rintro r v1 ⟨rfl, p1, g1⟩
  rw [hB.out]
  replace p1 : OneI v1 (w.heap.size + 1 + 1) 16 := p1
  have bs1 : Box v1 w.heap.size #[.slice (some ⟨bb, oo, none⟩) 4096 cap] 37 := (g1.block _ z1.lt (fun e => by have := Option.some.inj e; omega)).trans z1
  have bz1 : Box v1 (w.heap.size + 1) #[.int .i64 0, .int .i64 0, .int .i64 0, .int .i64 0] 141 := (g1.block _ y2.lt (fun e => by have := Option.some.inj e; omega)).trans y2
  have D1 := B3.grown g1 B3.size (fun k hk => by simp at hk; omega)
  clear g1 o3 z1 y2 B3
  go_wp2_with fail
  refine (next8_at w.heap.size (w.heap.size + 1 + 1) 4096 cap (some ⟨bb, oo, none⟩) xs 16 v1 Hn.out hm (hr.below D1 (Nat.le_refl _)) bs1 p1 (by omega)).mono ?_
  rintro r v2 ⟨rfl, p2, g2⟩
  rw [hE.out]
  replace p2 : OneI v2 (w.heap.size + 1 + 1) 24 := p2
  have bs2 : Box v2 w.heap.size #[.slice (some ⟨bb, oo, none⟩) 4096 cap] 37 := (g2.block _ bs1.lt (fun e => by have := Option.some.inj e; omega)).trans bs1
  have bz2 : Box v2 (w.heap.size + 1) #[.int .i64 0, .int .i64 0, .int .i64 0, .int .i64 0] 141 := (g2.block _ bz1.lt (fun e => by have := Option.some.inj e; omega)).trans bz1
  have D2 := D1.grown g2 D1.size (fun k hk => by simp at hk; omega)
  clear g2 p1 bs1 bz1 D1
  go_wp2_with fail
  refine (next8_at w.heap.size (w.heap.size + 1 + 1) 4096 cap (some ⟨bb, oo, none⟩) xs 24 v2 Hn.out hm (hr.below D2 (Nat.le_refl _)) bs2 p2 (by omega)).mono ?_
  rintro r v3 ⟨rfl, p3, g3⟩
  rw [hQ.out]
  replace p3 : OneI v3 (w.heap.size + 1 + 1) 32 := p3
  have bs3 : Box v3 w.heap.size #[.slice (some ⟨bb, oo, none⟩) 4096 cap] 37 := (g3.block _ bs2.lt (fun e => by have := Option.some.inj e; omega)).trans bs2
  have bz3 : Box v3 (w.heap.size + 1) #[.int .i64 0, .int .i64 0, .int .i64 0, .int .i64 0] 141 := (g3.block _ bz2.lt (fun e => by have := Option.some.inj e; omega)).trans bz2
  have D3 := D2.grown g3 D2.size (fun k hk => by simp at hk; omega)
  clear g3 p2 bs2 bz2 D2
  go_wp2_with fail
  refine (next8_at w.heap.size (w.heap.size + 1 + 1) 4096 cap (some ⟨bb, oo, none⟩) xs 32 v3 Hn.out hm (hr.below D3 (Nat.le_refl _)) bs3 p3 (by omega)).mono ?_
  rintro r v4 ⟨rfl, p4, g4⟩
  rw [hT.out]
  replace p4 : OneI v4 (w.heap.size + 1 + 1) 40 := p4
  have bs4 : Box v4 w.heap.size #[.slice (some ⟨bb, oo, none⟩) 4096 cap] 37 := (g4.block _ bs3.lt (fun e => by have := Option.some.inj e; omega)).trans bs3
  have bz4 : Box v4 (w.heap.size + 1) #[.int .i64 0, .int .i64 0, .int .i64 0, .int .i64 0] 141 := (g4.block _ bz3.lt (fun e => by have := Option.some.inj e; omega)).trans bz3
  have D4 := D3.grown g4 D3.size (fun k hk => by simp at hk; omega)
  clear g4 p3 bs3 bz3 D3
  have bA := (Below.refl v4.heap.size v4).alloc (Nat.le_refl _) (.cells #[.int .i64 (b : Int), .int .i64 (e : Int), .int .i64 (q : Int), .int .i64 (t : Int)] 141)
  have bq := Box.new v4 #[.int .i64 (b : Int), .int .i64 (e : Int), .int .i64 (q : Int), .int .i64 (t : Int)] 141
  have bs := bs4.below bA
  have bz := bz4.below bA
  have D := D4.trans (bA.mono D4.size)
  go_wp2_with fail
  obtain ⟨U, hU⟩ : ∃ U, U = v4.alloc (.cells #[.int .i64 (b : Int), .int .i64 (e : Int), .int .i64 (q : Int), .int .i64 (t : Int)] 141) := ⟨_, rfl⟩
  rw [← hU] at bq bs bz D ⊢
  obtain ⟨G, hG⟩ : ∃ G, G = v4.heap.size := ⟨_, rfl⟩
  rw [← hG] at bq ⊢
  clear bs4 bz4 D4 p4 bA hU hG
  have hrU := hr.below D (Nat.le_refl _)
  have q0 := bq.cell 0
  have q1 := bq.cell 1
  have q2 := bq.cell 2
  have q3 := bq.cell 3
  have s0 := bs.cell 0
  simp only [List.getElem?_toArray, List.getElem?_cons_zero, List.getElem?_cons_succ] at q0 q1 q2 q3 s0
  clear s0
  go_region_with (first | (go_at_call 175; refine (rightSuper_at (b : Int) e q t _).mono ?_; rintro r u1 ⟨rfl, b1⟩; rw [h]; have D1 : Below w.heap.size w u1 := (D.drew).trans (b1.mono D.size); have bz1 : Box u1 (w.heap.size + 1) #[.int .i64 0, .int .i64 0, .int .i64 0, .int .i64 0] 141 := Box.below (w := U.drew) bz b1; have bs1 : Box u1 w.heap.size #[.slice (some ⟨bb, oo, none⟩) 4096 cap] 37 := Box.below (w := U.drew) bs b1; have bq1 : Box u1 G #[.int .i64 (b : Int), .int .i64 (e : Int), .int .i64 (q : Int), .int .i64 (t : Int)] 141 := Box.below (w := U.drew) bq b1; have s0 := bs1.cell 0; have q0 := bq1.cell 0; have q1 := bq1.cell 1; have q2 := bq1.cell 2; have q3 := bq1.cell 3; simp only [List.getElem?_toArray, List.getElem?_cons_zero, List.getElem?_cons_succ] at q0 q1 q2 q3 s0) | (go_at_call 177; refine (superHead_at b e q t u1 hb9 he9 hq9 ht9).mono ?_; rintro r u2 ⟨g, rfl, hg, oh, b2⟩; have D2 : Below w.heap.size w u2 := D1.trans (b2.mono D1.size); have bz2 := bz1.below b2; have bq2 := bq1.below b2; have bs2 := bs1.below b2; have hr2 := hr.below D2 (Nat.le_refl _); have t0 := bs2.cell 0; simp only [List.getElem?_toArray, List.getElem?_cons_zero] at t0) | (go_at_call 228; refine (isThen_at cap 44 4096 44 (some ⟨bb, oo, none⟩) (some ⟨g, 0, none⟩) xs (headS b e q t) u2 Hn.out (headS_length _ _ _ _) hcap hcm (by omega) (by simp) hr2 oh.rd).mono ?_; rintro r u3 ⟨rfl, rfl⟩; rw [hH]))
  all_goals
    have m0 := bz2.cell 0
    have m1 := bz2.cell 1
    have m2 := bz2.cell 2
    have m3 := bz2.cell 3
    simp only [List.getElem?_toArray, List.getElem?_cons_zero, List.getElem?_cons_succ] at m0 m1 m2 m3
    have f0 := bz2.frozen 0
    have f1 := bz2.frozen 1
    have f2 := bz2.frozen 2
    have f3 := bz2.frozen 3
    go_wp2_with fail
    have Y := ((((bz2.store 0 (.int .i64 0)).store 1 (.int .i64 0)).store 2 (.int .i64 0)).store 3 (.int .i64 0))
    have C1 := ((((D2.setCell (p := ⟨w.heap.size + 1, 0, none⟩) (Nat.le_succ _) (.int .i64 0)).setCell (p := ⟨w.heap.size + 1, 1, none⟩) (Nat.le_succ _) (.int .i64 0)).setCell (p := ⟨w.heap.size + 1, 2, none⟩) (Nat.le_succ _) (.int .i64 0)).setCell (p := ⟨w.heap.size + 1, 3, none⟩) (Nat.le_succ _) (.int .i64 0))
    generalize ((((u2.setCell ⟨w.heap.size + 1, 0, none⟩ (.int .i64 0)).setCell ⟨w.heap.size + 1, 1, none⟩ (.int .i64 0)).setCell ⟨w.heap.size + 1, 2, none⟩ (.int .i64 0)).setCell ⟨w.heap.size + 1, 3, none⟩ (.int .i64 0)) = W9 at Y C1 ⊢
    clear m0 m1 m2 m3
    have m0 := Y.cell 0
    have m1 := Y.cell 1
    have m2 := Y.cell 2
    have m3 := Y.cell 3
    simp at m0 m1 m2 m3
    refine bodyPost_ret (v := .tuple #[.agg #[.int .i64 0, .int .i64 0, .int .i64 0, .int .i64 0], .int .i64 30]) (by simp [results, Tryz.results185, go_sem, m0, m1, m2, m3]) rfl ?_
    exact ⟨rfl, C1⟩

set_option maxRecDepth 100000 in
set_option maxHeartbeats 4000000 in
theorem getSuper_ok (bb oo cap b e q t : Nat) (xs : List UInt8) (w : World) (Hn : Hid (xs.length = 4096)) (hcap : 4096 ≤ cap) (hcm : cap ≤ 9223372036854775807) (hm : 4096 ≤ 9223372036854775807) (hr : Rd w (some ⟨bb, oo, none⟩) xs) (hB : Hid (i64 (num xs 8 8) = (b : Int))) (hE : Hid (i64 (num xs 16 8) = (e : Int))) (hQ : Hid (i64 (num xs 24 8) = (q : Int))) (hT : Hid (i64 (num xs 32 8) = (t : Int))) (h : rightS b e q t = true) (hH : isThen xs (headS b e q t) = true) :
    Calls Tryz.prog 185 #[.slice (some ⟨bb, oo, none⟩) 4096 cap] w fun r w' => GetsS w w' (some ⟨b, e, q, t⟩) r := by
  obtain ⟨hb9, he9, hq9, ht9⟩ : b < 9223372036854775808 ∧ e < 9223372036854775808 ∧ q < 9223372036854775808 ∧ t < 9223372036854775808 := by
    have := rightS_nat h
    omega
  have B1 := (Below.refl w.heap.size w).alloc (Nat.le_refl _) (.cells #[.slice (some ⟨bb, oo, none⟩) 4096 cap] 37)
  have x1 := Box.new w #[.slice (some ⟨bb, oo, none⟩) 4096 cap] 37
  obtain ⟨w1, hw1⟩ : ∃ w1, w1 = w.alloc (.cells #[.slice (some ⟨bb, oo, none⟩) 4096 cap] 37) := ⟨_, rfl⟩
  have s1 : w1.heap.size = w.heap.size + 1 := by rw [hw1]; simp
  rw [← hw1] at B1 x1
  have b2 := (Below.refl w1.heap.size w1).alloc (Nat.le_refl _) (.cells #[.int .i64 0, .int .i64 0, .int .i64 0, .int .i64 0] 141)
  have x2 := Box.new w1 #[.int .i64 0, .int .i64 0, .int .i64 0, .int .i64 0] 141
  have y1 := x1.below b2
  have B2 := B1.trans (b2.mono B1.size)
  obtain ⟨w2, hw2⟩ : ∃ w2, w2 = w1.alloc (.cells #[.int .i64 0, .int .i64 0, .int .i64 0, .int .i64 0] 141) := ⟨_, rfl⟩
  have s2 : w2.heap.size = w.heap.size + 1 + 1 := by rw [hw2]; simp [s1]
  rw [← hw2] at b2 x2 y1 B2
  have b3 := (Below.refl w2.heap.size w2).alloc (Nat.le_refl _) (.cells #[.int .i64 8] 3)
  have o3 : OneI (w2.alloc (.cells #[.int .i64 8] 3)) w2.heap.size 8 := heap_alloc_new w2 _
  have y2 := x2.below b3
  have z1 := y1.below b3
  have B3 := B2.trans (b3.mono B2.size)
  rw [s1] at y2
  rw [s2] at o3
  clear b2 b3 x1 y1 x2 B1 B2
  go_enter Tryz.func185, Tryz.ntmps185
  go_wp2_with fail
  rw [← hw1, ← hw2]
  obtain ⟨W, hW⟩ : ∃ W, W = w2.alloc (.cells #[.int .i64 8] 3) := ⟨_, rfl⟩
  rw [← hW] at o3 y2 z1 B3 ⊢
  clear hW hw1 hw2 s1 s2
  refine (next8_at w.heap.size (w.heap.size + 1 + 1) 4096 cap (some ⟨bb, oo, none⟩) xs 8 W Hn.out hm (hr.below B3 (Nat.le_refl _)) z1 o3 (by omega)).mono ?_
  rintro r v1 ⟨rfl, p1, g1⟩
  rw [hB.out]
  replace p1 : OneI v1 (w.heap.size + 1 + 1) 16 := p1
  have bs1 : Box v1 w.heap.size #[.slice (some ⟨bb, oo, none⟩) 4096 cap] 37 := (g1.block _ z1.lt (fun e => by have := Option.some.inj e; omega)).trans z1
  have bz1 : Box v1 (w.heap.size + 1) #[.int .i64 0, .int .i64 0, .int .i64 0, .int .i64 0] 141 := (g1.block _ y2.lt (fun e => by have := Option.some.inj e; omega)).trans y2
  have D1 := B3.grown g1 B3.size (fun k hk => by simp at hk; omega)
  clear g1 o3 z1 y2 B3
  go_wp2_with fail
  refine (next8_at w.heap.size (w.heap.size + 1 + 1) 4096 cap (some ⟨bb, oo, none⟩) xs 16 v1 Hn.out hm (hr.below D1 (Nat.le_refl _)) bs1 p1 (by omega)).mono ?_
  rintro r v2 ⟨rfl, p2, g2⟩
  rw [hE.out]
  replace p2 : OneI v2 (w.heap.size + 1 + 1) 24 := p2
  have bs2 : Box v2 w.heap.size #[.slice (some ⟨bb, oo, none⟩) 4096 cap] 37 := (g2.block _ bs1.lt (fun e => by have := Option.some.inj e; omega)).trans bs1
  have bz2 : Box v2 (w.heap.size + 1) #[.int .i64 0, .int .i64 0, .int .i64 0, .int .i64 0] 141 := (g2.block _ bz1.lt (fun e => by have := Option.some.inj e; omega)).trans bz1
  have D2 := D1.grown g2 D1.size (fun k hk => by simp at hk; omega)
  clear g2 p1 bs1 bz1 D1
  go_wp2_with fail
  refine (next8_at w.heap.size (w.heap.size + 1 + 1) 4096 cap (some ⟨bb, oo, none⟩) xs 24 v2 Hn.out hm (hr.below D2 (Nat.le_refl _)) bs2 p2 (by omega)).mono ?_
  rintro r v3 ⟨rfl, p3, g3⟩
  rw [hQ.out]
  replace p3 : OneI v3 (w.heap.size + 1 + 1) 32 := p3
  have bs3 : Box v3 w.heap.size #[.slice (some ⟨bb, oo, none⟩) 4096 cap] 37 := (g3.block _ bs2.lt (fun e => by have := Option.some.inj e; omega)).trans bs2
  have bz3 : Box v3 (w.heap.size + 1) #[.int .i64 0, .int .i64 0, .int .i64 0, .int .i64 0] 141 := (g3.block _ bz2.lt (fun e => by have := Option.some.inj e; omega)).trans bz2
  have D3 := D2.grown g3 D2.size (fun k hk => by simp at hk; omega)
  clear g3 p2 bs2 bz2 D2
  go_wp2_with fail
  refine (next8_at w.heap.size (w.heap.size + 1 + 1) 4096 cap (some ⟨bb, oo, none⟩) xs 32 v3 Hn.out hm (hr.below D3 (Nat.le_refl _)) bs3 p3 (by omega)).mono ?_
  rintro r v4 ⟨rfl, p4, g4⟩
  rw [hT.out]
  replace p4 : OneI v4 (w.heap.size + 1 + 1) 40 := p4
  have bs4 : Box v4 w.heap.size #[.slice (some ⟨bb, oo, none⟩) 4096 cap] 37 := (g4.block _ bs3.lt (fun e => by have := Option.some.inj e; omega)).trans bs3
  have bz4 : Box v4 (w.heap.size + 1) #[.int .i64 0, .int .i64 0, .int .i64 0, .int .i64 0] 141 := (g4.block _ bz3.lt (fun e => by have := Option.some.inj e; omega)).trans bz3
  have D4 := D3.grown g4 D3.size (fun k hk => by simp at hk; omega)
  clear g4 p3 bs3 bz3 D3
  have bA := (Below.refl v4.heap.size v4).alloc (Nat.le_refl _) (.cells #[.int .i64 (b : Int), .int .i64 (e : Int), .int .i64 (q : Int), .int .i64 (t : Int)] 141)
  have bq := Box.new v4 #[.int .i64 (b : Int), .int .i64 (e : Int), .int .i64 (q : Int), .int .i64 (t : Int)] 141
  have bs := bs4.below bA
  have bz := bz4.below bA
  have D := D4.trans (bA.mono D4.size)
  go_wp2_with fail
  obtain ⟨U, hU⟩ : ∃ U, U = v4.alloc (.cells #[.int .i64 (b : Int), .int .i64 (e : Int), .int .i64 (q : Int), .int .i64 (t : Int)] 141) := ⟨_, rfl⟩
  rw [← hU] at bq bs bz D ⊢
  obtain ⟨G, hG⟩ : ∃ G, G = v4.heap.size := ⟨_, rfl⟩
  rw [← hG] at bq ⊢
  clear bs4 bz4 D4 p4 bA hU hG
  have hrU := hr.below D (Nat.le_refl _)
  have q0 := bq.cell 0
  have q1 := bq.cell 1
  have q2 := bq.cell 2
  have q3 := bq.cell 3
  have s0 := bs.cell 0
  simp only [List.getElem?_toArray, List.getElem?_cons_zero, List.getElem?_cons_succ] at q0 q1 q2 q3 s0
  clear s0
  go_region_with (first | (go_at_call 175; refine (rightSuper_at (b : Int) e q t _).mono ?_; rintro r u1 ⟨rfl, b1⟩; rw [h]; have D1 : Below w.heap.size w u1 := (D.drew).trans (b1.mono D.size); have bz1 : Box u1 (w.heap.size + 1) #[.int .i64 0, .int .i64 0, .int .i64 0, .int .i64 0] 141 := Box.below (w := U.drew) bz b1; have bs1 : Box u1 w.heap.size #[.slice (some ⟨bb, oo, none⟩) 4096 cap] 37 := Box.below (w := U.drew) bs b1; have bq1 : Box u1 G #[.int .i64 (b : Int), .int .i64 (e : Int), .int .i64 (q : Int), .int .i64 (t : Int)] 141 := Box.below (w := U.drew) bq b1; have s0 := bs1.cell 0; have q0 := bq1.cell 0; have q1 := bq1.cell 1; have q2 := bq1.cell 2; have q3 := bq1.cell 3; simp only [List.getElem?_toArray, List.getElem?_cons_zero, List.getElem?_cons_succ] at q0 q1 q2 q3 s0) | (go_at_call 177; refine (superHead_at b e q t u1 hb9 he9 hq9 ht9).mono ?_; rintro r u2 ⟨g, rfl, hg, oh, b2⟩; have D2 : Below w.heap.size w u2 := D1.trans (b2.mono D1.size); have bz2 := bz1.below b2; have bq2 := bq1.below b2; have bs2 := bs1.below b2; have hr2 := hr.below D2 (Nat.le_refl _); have t0 := bs2.cell 0; simp only [List.getElem?_toArray, List.getElem?_cons_zero] at t0) | (go_at_call 228; refine (isThen_at cap 44 4096 44 (some ⟨bb, oo, none⟩) (some ⟨g, 0, none⟩) xs (headS b e q t) u2 Hn.out (headS_length _ _ _ _) hcap hcm (by omega) (by simp) hr2 oh.rd).mono ?_; rintro r u3 ⟨rfl, rfl⟩; rw [hH]))
  all_goals
    have m0 := bz2.cell 0
    have m1 := bz2.cell 1
    have m2 := bz2.cell 2
    have m3 := bz2.cell 3
    simp only [List.getElem?_toArray, List.getElem?_cons_zero, List.getElem?_cons_succ] at m0 m1 m2 m3
    have f0 := bz2.frozen 0
    have f1 := bz2.frozen 1
    have f2 := bz2.frozen 2
    have f3 := bz2.frozen 3
    have k0 := bq2.cell 0
    have k1 := bq2.cell 1
    have k2 := bq2.cell 2
    have k3 := bq2.cell 3
    simp only [List.getElem?_toArray, List.getElem?_cons_zero, List.getElem?_cons_succ] at k0 k1 k2 k3
    go_wp2_with fail
    have Y := ((((bz2.store 0 (.int .i64 (b : Int))).store 1 (.int .i64 (e : Int))).store 2 (.int .i64 (q : Int))).store 3 (.int .i64 (t : Int)))
    have C1 := ((((D2.setCell (p := ⟨w.heap.size + 1, 0, none⟩) (Nat.le_succ _) (.int .i64 (b : Int))).setCell (p := ⟨w.heap.size + 1, 1, none⟩) (Nat.le_succ _) (.int .i64 (e : Int))).setCell (p := ⟨w.heap.size + 1, 2, none⟩) (Nat.le_succ _) (.int .i64 (q : Int))).setCell (p := ⟨w.heap.size + 1, 3, none⟩) (Nat.le_succ _) (.int .i64 (t : Int)))
    generalize ((((u2.setCell ⟨w.heap.size + 1, 0, none⟩ (.int .i64 (b : Int))).setCell ⟨w.heap.size + 1, 1, none⟩ (.int .i64 (e : Int))).setCell ⟨w.heap.size + 1, 2, none⟩ (.int .i64 (q : Int))).setCell ⟨w.heap.size + 1, 3, none⟩ (.int .i64 (t : Int))) = W9 at Y C1 ⊢
    clear m0 m1 m2 m3
    have m0 := Y.cell 0
    have m1 := Y.cell 1
    have m2 := Y.cell 2
    have m3 := Y.cell 3
    simp at m0 m1 m2 m3
    refine bodyPost_ret (v := .tuple #[.agg #[.int .i64 (b : Int), .int .i64 (e : Int), .int .i64 (q : Int), .int .i64 (t : Int)], .int .i64 0]) (by simp [results, Tryz.results185, go_sem, m0, m1, m2, m3]) rfl ?_
    exact ⟨rfl, C1⟩

end Go.Proofs.YtnldkpckojhbhaaGreat.Su

/-
  GetInode: what an inode's bytes say.
-/
namespace Go.Proofs.YtnldkpckojhbhaaGreat.Su
open Go.RowKit

end Go.Proofs.YtnldkpckojhbhaaGreat.Su

/-
  A change within four bytes: what the walks ask of lists.
-/
namespace Go.Proofs.YtnldkpckojhbhaaGreat.Su
open Go.RowKit

theorem owns_rd_at {w : World} {B n g cap : Nat} {ys : List UInt8} (h : w.ownsRow B 5 1 (.slice (some ⟨g, 0, none⟩) n cap) n (bcs ys)) : Rd w (some ⟨g, 0, none⟩) ys := fun _ => ⟨g, 0, rfl, fun j hj => by
  have := h.cells (g := g) rfl j _ (bcs_getElem? ys j hj)
  rw [Addr.add_lit] at this
  exact this⟩

end Go.Proofs.YtnldkpckojhbhaaGreat.Su

/-
  One form each: what is put is got back, what is got is put the same, and a change within four bytes is seen.
-/
namespace Go.Proofs.YtnldkpckojhbhaaGreat.Su
open Go.RowKit

theorem all_zero (xs : List UInt8) (h : xs.all (· == 0) = true) : xs = noughts xs.length := by
  apply List.ext_getElem
  · rw [noughts_length]
  · intro i h1 h2
    have := (List.all_eq_true.1 h) xs[i] (List.getElem_mem h1)
    simp only [beq_iff_eq] at this
    rw [this]
    simp [noughts]
theorem noughts_all (n : Nat) : (noughts n).all (· == 0) = true := by simp [noughts]

theorem isThen_true {xs ys : List UInt8} (h : isThen xs ys = true) : ys.length ≤ xs.length ∧ xs = ys ++ noughts (xs.length - ys.length) := by
  simp only [isThen, Bool.and_eq_true, decide_eq_true_eq, beq_iff_eq] at h
  obtain ⟨⟨h1, h2⟩, h3⟩ := h
  refine ⟨h1, ?_⟩
  have h4 := all_zero _ h3
  rw [List.length_drop] at h4
  rw [← h4]
  exact ((List.take_append_drop ys.length xs).symm.trans (by rw [h2]))
theorem isThen_self (ys : List UInt8) (k : Nat) : isThen (ys ++ noughts k) ys = true := by
  simp [isThen, noughts_all]

theorem num_put (pre post : List UInt8) (k v : Nat) (i : Int) (hi : i = (pre.length : Int)) (hv : v < 256 ^ k) : num (pre ++ (toBE k v ++ post)) i k = v := by
  unfold num
  rw [numAt_put pre post k v i hi, Option.getD_some, Nat.mod_eq_of_lt hv]

theorem i64_in (v : Nat) (h : v < 9223372036854775808) : i64 v = (v : Int) := by
  unfold i64 wrap64
  omega

theorem rightS_lt {b e q t : Int} (h : rightS b e q t = true) : ∃ b' e' q' t' : Nat, b = b' ∧ e = e' ∧ q = q' ∧ t = t' ∧ b' < 9223372036854775808 ∧ e' < 9223372036854775808 ∧ q' < 9223372036854775808 ∧ t' < 9223372036854775808 := by
  have := rightS_nat h
  exact ⟨b.toNat, e.toNat, q.toNat, t.toNat, by omega, by omega, by omega, by omega, by omega, by omega, by omega, by omega⟩

theorem if_some {α : Type} {c : Bool} {x y : α} (h : (if c then some x else none) = some y) : c = true ∧ x = y := by
  cases c with
  | false => simp at h
  | true => exact ⟨rfl, by simpa using h⟩

end Go.Proofs.YtnldkpckojhbhaaGreat.Su

/-
  GetSuper's contract, and a superblock's one form.
-/
namespace Go.Proofs.YtnldkpckojhbhaaGreat.Su
open Go.RowKit

theorem getSuper_at (n cap : Nat) (a : Option Addr) (xs : List UInt8) (w : World) (hn : xs.length = n) (hcap : n ≤ cap) (hm : cap ≤ 9223372036854775807) (hr : Rd w a xs) :
    Calls Tryz.prog 185 #[.slice a n cap] w fun r w' => GetsS w w' (getSuper xs) r := by
  have e : getSuper xs = ansS (i64 (num xs 8 8)) (i64 (num xs 16 8)) (i64 (num xs 24 8)) (i64 (num xs 32 8)) n xs := by rw [← hn]; rfl
  rw [e]
  cases h : rightS (i64 (num xs 8 8)) (i64 (num xs 16 8)) (i64 (num xs 24 8)) (i64 (num xs 32 8))
  · exact getSuper_wrong n cap a xs _ _ _ _ w hn (by omega) hr rfl rfl rfl rfl h
  · by_cases h4 : n = 4096
    · subst h4
      obtain ⟨bb, oo, rfl, _⟩ := hr (by omega)
      have hh := rightS_nat h
      obtain ⟨b, hb⟩ := Int.eq_ofNat_of_zero_le (show 0 ≤ i64 (num xs 8 8) by omega)
      obtain ⟨e, he⟩ := Int.eq_ofNat_of_zero_le (show 0 ≤ i64 (num xs 16 8) by omega)
      obtain ⟨q, hq⟩ := Int.eq_ofNat_of_zero_le (show 0 ≤ i64 (num xs 24 8) by omega)
      obtain ⟨t, ht⟩ := Int.eq_ofNat_of_zero_le (show 0 ≤ i64 (num xs 32 8) by omega)
      rw [hb, he, hq, ht] at h ⊢
      rcases Bool.eq_false_or_eq_true (isThen xs (headS b e q t)) with hH | hH
      · have e9 : ansS b e q t 4096 xs = some ⟨b, e, q, t⟩ := by
          have hH' : isThen xs (headS (b : Int).toNat (e : Int).toNat (q : Int).toNat (t : Int).toNat) = true := hH
          unfold ansS
          rw [h, decide_eq_true (rfl : (4096 : Nat) = 4096), hH']
          rfl
        rw [e9]
        exact getSuper_ok bb oo cap b e q t xs w hn hcap hm (by omega) hr hb he hq ht h hH
      · have e9 : ansS b e q t 4096 xs = none := by
          have hH' : isThen xs (headS (b : Int).toNat (e : Int).toNat (q : Int).toNat (t : Int).toNat) = false := hH
          unfold ansS
          rw [h, decide_eq_true (rfl : (4096 : Nat) = 4096), hH']
          rfl
        rw [e9]
        exact getSuper_bad bb oo cap b e q t xs w hn hcap hm (by omega) hr hb he hq ht h hH
    · exact getSuper_off n cap a xs _ _ _ _ w hn (by omega) hr rfl rfl rfl rfl h h4

theorem superB_eq (b e q t : Nat) : superB b e q t = letters ++ (toBE 8 b ++ (toBE 8 e ++ (toBE 8 q ++ (toBE 8 t ++ (toBE 4 (crc 0 (lead [b, e, q, t])) ++ noughts 4052))))) := by
  simp [superB, headS, lead]
theorem readS_put (b e q t : Nat) (hb : b < 9223372036854775808) (he : e < 9223372036854775808) (hq : q < 9223372036854775808) (ht : t < 9223372036854775808) : readS (superB b e q t) = ⟨b, e, q, t⟩ := by
  have n0 : num (superB b e q t) 8 8 = b := by rw [superB_eq]; exact num_put _ _ 8 _ _ rfl (by omega)
  have n1 : num (superB b e q t) 16 8 = e := by
    rw [superB_eq, ← List.append_assoc]
    exact num_put _ _ 8 _ _ (by simp only [List.length_append, toBE_length]; rfl) (by omega)
  have n2 : num (superB b e q t) 24 8 = q := by
    rw [superB_eq, ← List.append_assoc, ← List.append_assoc]
    exact num_put _ _ 8 _ _ (by simp only [List.length_append, toBE_length]; rfl) (by omega)
  have n3 : num (superB b e q t) 32 8 = t := by
    rw [superB_eq, ← List.append_assoc, ← List.append_assoc, ← List.append_assoc]
    exact num_put _ _ 8 _ _ (by simp only [List.length_append, toBE_length]; rfl) (by omega)
  unfold readS
  rw [n0, n1, n2, n3, i64_in b hb, i64_in e he, i64_in q hq, i64_in t ht]
theorem getSuper_put (b e q t : Int) (h : rightS b e q t = true) : getSuper (superB b.toNat e.toNat q.toNat t.toNat) = some ⟨b, e, q, t⟩ := by
  obtain ⟨b, e, q, t, rfl, rfl, rfl, rfl, hb, he, hq, ht⟩ := rightS_lt h
  simp only [Int.toNat_natCast]
  unfold getSuper
  rw [readS_put b e q t hb he hq ht]
  have hi : isThen (superB b e q t) (headS (b : Int).toNat (e : Int).toNat (q : Int).toNat (t : Int).toNat) = true := isThen_self (headS b e q t) 4052
  show (if rightS b e q t && (decide ((superB b e q t).length = 4096) && isThen (superB b e q t) (headS (b : Int).toNat (e : Int).toNat (q : Int).toNat (t : Int).toNat)) then some (⟨b, e, q, t⟩ : Sup) else none) = _
  rw [h, hi, decide_eq_true (superB_length b e q t)]
  rfl
theorem getSuper_some {xs : List UInt8} {s : Sup} (h : getSuper xs = some s) : rightS s.b s.e s.q s.t = true ∧ superB s.b.toNat s.e.toNat s.q.toNat s.t.toNat = xs := by
  obtain ⟨hc, hx⟩ := if_some h
  simp only [Bool.and_eq_true, decide_eq_true_eq] at hc
  obtain ⟨hr, hl, ht⟩ := hc
  subst hx
  refine ⟨hr, ?_⟩
  obtain ⟨_, t2⟩ := isThen_true ht
  rw [hl, headS_length] at t2
  exact t2.symm
end Go.Proofs.YtnldkpckojhbhaaGreat.Su

/-
  Plain lists: images are laid, a superblock behind them; what any crash leaves. No program is named here.
-/
namespace Go.Proofs.YtnldkpckojhbhaaGreat.H
open Go.Proofs.YtnldkpckojhbhaaGreat.Dk

def layD : List (Int × List UInt8) → DS → DS × Nat
  | [], D => (D.flush, D.operE)
  | p :: r, D => if D.writeE p.1 p.2 = 0 then layD r (D.write p.1 p.2) else (D.write p.1 p.2, D.writeE p.1 p.2)
def doD (ims : List (Int × List UInt8)) (slot : Int) (sb : List UInt8) (D : DS) : DS × Nat :=
  if (layD ims D).2 = 0 then layD [(slot, sb)] (layD ims D).1 else layD ims D

theorem oper_keeps (D : DS) : D.oper.nb = D.nb ∧ D.oper.dur = D.dur ∧ D.oper.uf = D.uf ∧ D.oper.n = D.n := ⟨D.oper_nb, D.oper_dur, D.oper_uf, D.oper_n⟩
theorem write_le (D : DS) (n : Int) (b : List UInt8) : (D.write n b).nb = D.nb ∧ (D.write n b).uf.length ≤ D.uf.length + 1 ∧ (D.write n b).n ≤ D.n + 1 := by
  obtain ⟨h1, h2, h3, h4⟩ := oper_keeps D
  unfold DS.write
  split
  · split
    · exact ⟨h1, by simp, Nat.le_refl _⟩
    · exact ⟨h1, by rw [h3]; omega, by rw [h4]; omega⟩
  · exact ⟨rfl, by omega, by omega⟩
theorem flush_le (D : DS) : D.flush.nb = D.nb ∧ D.flush.uf.length ≤ D.uf.length ∧ D.flush.n = D.n := by
  obtain ⟨h1, h2, h3, h4⟩ := oper_keeps D
  unfold DS.flush
  split
  · exact ⟨h1, by simp, h4⟩
  · exact ⟨h1, by rw [h3]; omega, h4⟩
theorem layD_le : ∀ (ims : List (Int × List UInt8)) (D : DS), (layD ims D).1.nb = D.nb ∧ (layD ims D).1.uf.length ≤ D.uf.length + ims.length ∧ (layD ims D).1.n ≤ D.n + ims.length
  | [], D => by
    obtain ⟨h1, h2, h3⟩ := flush_le D
    exact ⟨h1, by simpa [layD] using h2, by show D.flush.n ≤ _; rw [h3]; simp⟩
  | p :: r, D => by
    obtain ⟨h1, h2, h3⟩ := write_le D p.1 p.2
    unfold layD
    split
    · obtain ⟨i1, i2, i3⟩ := layD_le r (D.write p.1 p.2)
      exact ⟨i1.trans h1, by simp; omega, by simp; omega⟩
    · exact ⟨h1, by simp; omega, by simp; omega⟩
structure Stays (Q : List UInt8 → Prop) (W : Nat × List UInt8 → Prop) : Prop where
  keep : ∀ d b x m, Q d → W (b, x) → Q (carry d b x m)
def Held (Q : List UInt8 → Prop) (W : Nat × List UInt8 → Prop) (D : DS) : Prop := Q D.dur ∧ ∀ p ∈ D.uf, W p
theorem Stays.carryTo {Q : List UInt8 → Prop} {W : Nat × List UInt8 → Prop} (s : Stays Q W) {uf : List (Nat × List UInt8)} {d : List UInt8} (hq : Q d) (hw : ∀ p ∈ uf, W p) : ∀ k, Q (carryTo uf d k)
  | 0 => hq
  | k + 1 => by
    have ih := s.carryTo hq hw k
    unfold Dk.carryTo
    cases e : uf[k]? with
    | none => exact ih
    | some w => exact s.keep _ _ _ _ ih (hw _ (List.mem_of_getElem? e))
theorem Stays.crashTo {Q : List UInt8 → Prop} {W : Nat × List UInt8 → Prop} (s : Stays Q W) {uf : List (Nat × List UInt8)} {d : List UInt8} (hq : Q d) (hw : ∀ p ∈ uf, W p) (ks : List Bool) (t : Int) (m : Nat) : ∀ k, Q (crashTo ks t m uf d k)
  | 0 => hq
  | k + 1 => by
    have ih := s.crashTo hq hw ks t m k
    unfold Dk.crashTo
    cases e : uf[k]? with
    | none => exact ih
    | some w =>
      have hm := hw _ (List.mem_of_getElem? e)
      show Q (if _ then carry _ _ _ _ else if _ then carry _ _ _ _ else _)
      split
      · exact s.keep _ _ _ _ ih hm
      · split
        · exact s.keep _ _ _ _ ih hm
        · exact ih
theorem Stays.crash {Q : List UInt8 → Prop} {W : Nat × List UInt8 → Prop} (s : Stays Q W) {D : DS} (h : Held Q W D) (ks : List Bool) (t : Int) (m : Nat) : Held Q W (D.crash ks t m) :=
  ⟨s.crashTo h.1 h.2 ks t m _, fun p hp => by simp [DS.crash] at hp⟩
theorem Stays.flush {Q : List UInt8 → Prop} {W : Nat × List UInt8 → Prop} (s : Stays Q W) {D : DS} (h : Held Q W D) : Held Q W D.flush := by
  obtain ⟨h1, h2, h3, h4⟩ := oper_keeps D
  unfold DS.flush
  split
  · exact ⟨s.carryTo h.1 h.2 _, fun p hp => by simp at hp⟩
  · exact ⟨by rw [h2]; exact h.1, by rw [h3]; exact h.2⟩
theorem Held.write {Q : List UInt8 → Prop} {W : Nat × List UInt8 → Prop} {D : DS} (h : Held Q W D) (n : Int) (b : List UInt8) (hw : W (n.toNat, b)) : Held Q W (D.write n b) := by
  obtain ⟨h1, h2, h3, h4⟩ := oper_keeps D
  unfold DS.write
  split
  · split
    · refine ⟨by show Q D.oper.dur; rw [h2]; exact h.1, fun p hp => ?_⟩
      rcases List.mem_append.1 hp with hp | hp
      · exact h.2 p hp
      · simp at hp; rw [hp]; exact hw
    · exact ⟨by rw [h2]; exact h.1, by rw [h3]; exact h.2⟩
  · exact h
theorem Stays.lay {Q : List UInt8 → Prop} {W : Nat × List UInt8 → Prop} (s : Stays Q W) : ∀ (ims : List (Int × List UInt8)) {D : DS}, Held Q W D → (∀ p ∈ ims, W (p.1.toNat, p.2)) → Held Q W (layD ims D).1
  | [], D, h, _ => s.flush h
  | p :: r, D, h, hw => by
    have h1 := h.write p.1 p.2 (hw p (List.mem_cons_self ..))
    unfold layD
    split
    · exact s.lay r h1 (fun q hq => hw q (List.mem_cons_of_mem _ hq))
    · exact h1
end Go.Proofs.YtnldkpckojhbhaaGreat.H

/-
  The document's own numbers in bytes, and its own sum.
-/
namespace Go.Proofs.YtnldkpckojhbhaaGreat.Su
open Go.RowKit

end Go.Proofs.YtnldkpckojhbhaaGreat.Su

/-
  SameExtents, SameInode; turned.
-/
namespace Go.Proofs.YtnldkpckojhbhaaGreat.Su
open Go.RowKit

end Go.Proofs.YtnldkpckojhbhaaGreat.Su

/-
  A region that draws its order and holds loads beside calls that make memory: a load whose value is one in a whole class of frames and worlds may be taken first, if each step stays in the class.
-/
namespace Go.Proofs.YtnldkpckojhbhaaGreat.Su

section
variable {P : Program} {ops : Array Oper} {Q : Exit → Act → World → Prop} {md : Region.Mode} {C : Act → World → Prop}

def wpAnyC (P : Program) (md : Region.Mode) (ops : Array Oper) (Q : Exit → Act → World → Prop) (C : Act → World → Prop) : Nat → Array Bool → Act → World → Prop
  | 0, listed, a, w => Region.ready md ops listed = [] ∧ Q .normal a w
  | fuel + 1, listed, a, w => (Region.ready md ops listed = [] → Q .normal a w) ∧
    ∀ i ∈ Region.ready md ops listed, wpOp P ops Q i (fun a' w' => C a' w' ∧ wpAnyC P md ops Q C fuel (listed.setIfInBounds i true) a' w') a w

theorem wpAny_of_class : ∀ (fuel : Nat) (listed : Array Bool) (a : Act) (w : World), wpAnyC P md ops Q C fuel listed a w → wpAny P md ops Q fuel listed a w
  | 0, _, _, _, h => h
  | fuel + 1, _, _, _, h => ⟨h.1, fun i hi => wpOp_mono (fun a' w' h' => wpAny_of_class fuel _ a' w' h'.2) (h.2 i hi)⟩

def Gives (P : Program) (ops : Array Oper) (C : Act → World → Prop) (o : Oper) (v : Value) : Prop :=
  ∀ a w, C a w → Region.wanted o (yielded ops a.tmps) = true ∧ (execOp a.eval o).run P w = .ok (.value v) w

theorem Gives.wpOp {i : Nat} {o : Oper} {v : Value} {a : Act} {w : World} (hi : ops[i]? = some o) (hg : Gives P ops C o v) (hc : C a w) {K : Act → World → Prop} (h : K (a.put o.dst v) w) : wpOp P ops Q i K a w := by
  obtain ⟨h1, h2⟩ := hg a w hc
  unfold Go.wpOp
  simp only [hi, h1, if_true, Oper.wp, h2, Oper.upon]
  exact .inl h

def standIn (o : Oper) (v : Value) : Oper := { o with op := .move (.const v), guard := none }
theorem standIn_yields (o : Oper) (v : Value) (a : Act) : Yields P ops (standIn o v) v a := by
  refine .inl ⟨rfl, fun w => ?_⟩
  rfl
theorem standIn_apart {o y : Oper} {v : Value} (h : o.apart ops y = true) : (standIn o v).apart ops y = true := by
  unfold Oper.apart at h ⊢
  simp only [Bool.and_eq_true] at h ⊢
  refine ⟨h.1, ?_⟩
  have e : (standIn o v).looksAt ops = [] := rfl
  rw [e]
  cases y.dst <;> rfl

theorem wpAnyC_first {i : Nat} {oi : Oper} {v : Value} (hi : ops[i]? = some oi) (hs : Region.noSelect ops = true)
    (hQ : ∀ c a w, Q (.panic c) (a.put oi.dst v) w → Q (.panic c) a w) (hg : Gives P ops C oi v) (hdn : ∀ a w, C (a.put oi.dst v) w → C a w) (hup : ∀ a w, C a w → C (a.put oi.dst v) w) :
    ∀ (fuel : Nat) (listed : Array Bool) (a : Act) (w : World),
      (∀ j oj, ops[j]? = some oj → j ≠ i → listed.getD j true = false → (∀ e ∈ oj.after, Region.binds md e = true → e.on ≠ i) → oi.apart ops oj = true) →
      i ∈ Region.ready md ops listed → C a w →
      wpAnyC P md ops Q C fuel (listed.setIfInBounds i true) (a.put oi.dst v) w → wpAnyC P md ops Q C (fuel + 1) listed a w
  | fuel, listed, a, w, hfree, hr, hc, H => by
    refine ⟨fun h => (by rw [h] at hr; cases hr), fun j hj => ?_⟩
    by_cases hji : j = i
    · subst hji
      exact hg.wpOp hi hc ⟨hup a w hc, H⟩
    · have hm := ready_mono hj hji
      cases fuel with
      | zero =>
        rw [H.1] at hm
        cases hm
      | succ fuel =>
        obtain ⟨hjun, oj, hoj, hall⟩ := mem_ready.1 hj
        have hnot : ∀ e ∈ oj.after, Region.binds md e = true → e.on ≠ i := fun e he hb heq => by
          have h1 := hall e he hb
          have h0 := (mem_ready.1 hr).1
          rw [heq] at h1
          rcases Nat.lt_or_ge i listed.size with h' | h'
          · simp [h'] at h0 h1; rw [h0] at h1; cases h1
          · simp [Array.getElem?_eq_none h'] at h1
        have h2 := wpOp_put (oi := standIn oi v) (v := v) hoj (standIn_apart (hfree j oj hoj hji hjun hnot)) (fun cs b h => by cases h) (fun cs b => Region.noSelect_spec hs j oj cs b hoj) hQ (standIn_yields oi v a) (H.2 j hm)
        have hfree' : ∀ k ok, ops[k]? = some ok → k ≠ i → (listed.setIfInBounds j true).getD k true = false →
            (∀ e ∈ ok.after, Region.binds md e = true → e.on ≠ i) → oi.apart ops ok = true := fun k ok hk hki hun hno => by
          refine hfree k ok hk hki ?_ hno
          by_cases hjk : j = k
          · subst hjk; exact hjun
          · rw [getD_set_ne true hjk] at hun; exact hun
        refine wpOp_mono (fun a' w' h3 => ?_) h2
        have hc' := hdn a' w' h3.2.1
        refine ⟨hc', wpAnyC_first hi hs hQ hg hdn hup fuel (listed.setIfInBounds j true) a' w' hfree' (ready_mono hr (Ne.symm hji)) hc' ?_⟩
        rw [Array.setIfInBounds_comm _ _ hji]
        exact h3.2.2

theorem wpAnyC_take {i : Nat} {oi : Oper} {v : Value} {fuel : Nat} {listed : Array Bool} {a : Act} {w : World} (hi : ops[i]? = some oi) (hs : Region.noSelect ops = true)
    (hf : Region.free md ops listed i = true) (hr : (Region.ready md ops listed).contains i = true)
    (hQ : ∀ c a w, Q (.panic c) (a.put oi.dst v) w → Q (.panic c) a w) (hg : Gives P ops C oi v) (hdn : ∀ a w, C (a.put oi.dst v) w → C a w) (hup : ∀ a w, C a w → C (a.put oi.dst v) w)
    (hc : C a w) (h : wpAnyC P md ops Q C fuel (listed.setIfInBounds i true) (a.put oi.dst v) w) : wpAnyC P md ops Q C (fuel + 1) listed a w :=
  wpAnyC_first hi hs hQ hg hdn hup fuel listed a w (Region.free_spec hi hf) (by simpa using hr) hc h

theorem wpAnyC_one {i : Nat} {o : Oper} {fuel : Nat} {listed : Array Bool} {a : Act} {w : World} (hr : Region.ready md ops listed = [i]) (ho : ops[i]? = some o)
    (h : ∀ K' : Act → World → Prop, (∀ a w, (C a w ∧ wpAnyC P md ops Q C fuel (listed.setIfInBounds i true) a w) → K' a w) → if Region.wanted o (yielded ops a.tmps) = true then Oper.wp P o a w K' Q else K' (a.put o.dst undef) w) :
    wpAnyC P md ops Q C (fuel + 1) listed a w := by
  refine ⟨fun h0 => (by rw [hr] at h0; cases h0), fun j hj => ?_⟩
  rw [hr] at hj
  obtain rfl : j = i := by simpa using hj
  exact wpOp_step ho h

theorem wpAnyC_done {listed : Array Bool} {a : Act} {w : World} (hr : Region.ready md ops listed = []) (h : Q .normal a w) : ∀ fuel, wpAnyC P md ops Q C fuel listed a w
  | 0 => ⟨hr, h⟩
  | _ + 1 => ⟨fun _ => h, by rw [hr]; simp⟩
end
end Go.Proofs.YtnldkpckojhbhaaGreat.Su

/-
  The document's own Puts.
-/
namespace Go.Proofs.YtnldkpckojhbhaaGreat.Su
open Go.RowKit

def SlotsBox (ps : List (Nat × Value)) (G : Nat) (cs : Array Value) (t : TypeId) (a : Act) (u : World) : Prop := (∀ p ∈ ps, a.eval (.tmp p.1) = p.2) ∧ Box u G cs t
theorem SlotsBox.put {ps : List (Nat × Value)} {G : Nat} {cs : Array Value} {t : TypeId} {a : Act} {u : World} (s : Nat) (v : Value) (hs : (ps.all fun p => p.1 != s) = true) :
    SlotsBox ps G cs t (a.put (some s) v) u ↔ SlotsBox ps G cs t a u := by
  have e : ∀ p ∈ ps, (a.put (some s) v).eval (.tmp p.1) = a.eval (.tmp p.1) := fun p hp => Act.eval_put (fun d hd => by
    have h1 := (List.all_eq_true.1 hs) p hp
    simp at h1 hd
    subst hd
    intro h
    injection h with h
    exact h1 h)
  constructor
  · rintro ⟨h, hb⟩
    exact ⟨fun p hp => (e p hp).symm.trans (h p hp), hb⟩
  · rintro ⟨h, hb⟩
    exact ⟨fun p hp => (e p hp).trans (h p hp), hb⟩

end Go.Proofs.YtnldkpckojhbhaaGreat.Su

/-
  The document's own PutSuper, whatever the super.
-/
namespace Go.Proofs.YtnldkpckojhbhaaGreat.Su
open Go.RowKit

end Go.Proofs.YtnldkpckojhbhaaGreat.Su

/-
  replay's small calls: within, later; the law's of.
-/
namespace Go.Proofs.YtnldkpckojhbhaaGreat.H
open Go.RowKit
open Go.Proofs.YtnldkpckojhbhaaGreat.Su (wi Sup zeroS supV)
open Go.Proofs.YtnldkpckojhbhaaGreat.Dk (Box)

theorem within_at (v l h : Int) (w : World) : Calls Tryz.prog 162 #[.int .i64 v, .int .i64 l, .int .i64 h] w fun e w' => e = .returned (.bool (wi v l h)) ∧ w = w' := by
  unfold wi
  by_cases h1 : l ≤ v
  · go_enter Tryz.func162, Tryz.ntmps162
    go_wp2
    go_ret
    simp [h1]
  · go_enter Tryz.func162, Tryz.ntmps162
    go_wp2
    go_ret
    simp
    omega

def later (a b : Sup) : Bool := decide (b.e < a.e) || (a.e == b.e) && decide (b.q < a.q)
theorem later_at (a b : Sup) (w : World) : Calls Tryz.prog 186 #[supV a, supV b] w fun e w' => e = .returned (.bool (later a b)) ∧ Below w.heap.size w w' := by
  obtain ⟨a1, a2, a3, a4⟩ := a
  obtain ⟨b1, b2, b3, b4⟩ := b
  unfold later supV
  dsimp only
  have B2 := ((Below.refl w.heap.size w).alloc (Nat.le_refl _) (.cells #[.int .i64 a1, .int .i64 a2, .int .i64 a3, .int .i64 a4] 141)).alloc (by simp) (.cells #[.int .i64 b1, .int .i64 b2, .int .i64 b3, .int .i64 b4] 141)
  have x := (Box.new w #[.int .i64 a1, .int .i64 a2, .int .i64 a3, .int .i64 a4] 141).alloc (.cells #[.int .i64 b1, .int .i64 b2, .int .i64 b3, .int .i64 b4] 141)
  have y := Box.new (w.alloc (.cells #[.int .i64 a1, .int .i64 a2, .int .i64 a3, .int .i64 a4] 141)) #[.int .i64 b1, .int .i64 b2, .int .i64 b3, .int .i64 b4] 141
  have z : (w.alloc (.cells #[.int .i64 a1, .int .i64 a2, .int .i64 a3, .int .i64 a4] 141)).heap.size = w.heap.size + 1 := by simp
  rw [z] at y
  have c1 := x.cell 1
  have c2 := x.cell 2
  have d1 := y.cell 1
  have d2 := y.cell 2
  simp only [List.getElem?_toArray, List.getElem?_cons_succ, List.getElem?_cons_zero] at c1 c2 d1 d2
  clear x y z
  by_cases h1 : b2 < a2
  · go_enter Tryz.func186, Tryz.ntmps186
    go_wp2
    go_ret
    exact ⟨by simp [h1], B2⟩
  · by_cases h2 : a2 = b2
    · subst h2
      go_enter Tryz.func186, Tryz.ntmps186
      go_wp2
      go_ret
      exact ⟨by simp, B2⟩
    · go_enter Tryz.func186, Tryz.ntmps186
      go_wp2
      go_ret
      exact ⟨by simp [h1, h2], B2⟩

theorem owns_le {w : World} {B B' e z n : Nat} {v : Value} {xs : List Value} (h : w.ownsRow B e z v n xs) (hb : B' ≤ B) : w.ownsRow B' e z v n xs :=
  ⟨h.1, h.2.imp id fun ⟨g, cap, cur, a, b, r⟩ => ⟨g, cap, cur, a, Nat.le_trans hb b, r⟩⟩
end Go.Proofs.YtnldkpckojhbhaaGreat.H

/-
  allFit; the law's made.
-/
namespace Go.Proofs.YtnldkpckojhbhaaGreat.H
open Go.RowKit
open Go.Proofs.YtnldkpckojhbhaaGreat.Su (wi)
open Go.Proofs.YtnldkpckojhbhaaGreat.Dk (Box)

def CellsI (w : World) (a : Option Addr) (is : List (Int × Option Addr × Nat × Nat)) : Prop :=
  0 < is.length → ∃ b o, a = some ⟨b, o, none⟩ ∧ ∀ j (h : j < is.length), w.cell? ⟨b, o + j * 2, none⟩ = some (.int .i64 is[j].1) ∧ w.cell? ⟨b, o + j * 2 + 1, none⟩ = some (.slice is[j].2.1 is[j].2.2.1 is[j].2.2.2)
def fits (size : Int) (q : Int × Option Addr × Nat × Nat) : Bool := wi q.1 2 (size - 1) && decide (q.2.2.1 = 4096)

set_option maxRecDepth 100000 in
set_option maxHeartbeats 4000000 in
theorem allFit_at (w : World) (a : Option Addr) (n c : Nat) (is : List (Int × Option Addr × Nat × Nat)) (size : Int) (hl : is.length = n) (hn : n ≤ 1000000) (hs : 0 ≤ size ∧ size ≤ 1000000) (hc : CellsI w a is) :
    Calls Tryz.prog 163 #[.slice a n c, .int .i64 size] w fun r w' => r = .returned (.bool (is.all (fits size))) ∧ Below w.heap.size w w' := by
  have HC : Hid (CellsI w a is) := hc
  have HL : Hid (is.length = n) := hl
  obtain ⟨hs1, hs2⟩ := hs
  clear hc hl
  go_enter Tryz.func163, Tryz.ntmps163
  go_wp2_with fail
  go_loopw [9] (fun i u => ∃ k : Nat, k ≤ n ∧ i = .int .i64 (k : Int) ∧ (is.take k).all (fits size) = true ∧ Below w.heap.size w u) (fun i _ => n - (intOf i).toNat)
  case atStart => exact ⟨0, Nat.zero_le _, rfl, by simp, Below.refl _ _⟩
  case round =>
    obtain ⟨k, hk, rfl, hal, B⟩ := hrel
    have HA : Hid ((is.take k).all (fits size) = true) := hal
    clear hal
    by_cases hlt : k < n
    · have hki : (k : Int) < (n : Int) := by omega
      have hkl : k < is.length := by rw [HL.out]; exact hlt
      obtain ⟨b, o, rfl, hcc⟩ := HC.out (by omega)
      obtain ⟨c0, c1⟩ := hcc k hkl
      have hst : Hid ((is.take (k + 1)).all (fits size) = ((is.take k).all (fits size) && fits size is[k])) := by
        show _ = _
        rw [List.take_succ_eq_append_getElem hkl, List.all_append]; simp
      have hno : Hid (fits size is[k] = false → is.all (fits size) = false) := fun h => by
        rw [List.all_eq_false]
        exact ⟨is[k], List.getElem_mem hkl, by rw [h]; simp⟩
      generalize (is[k]'hkl) = q at c0 c1 hst hno
      obtain ⟨qb, qa, qn, qc⟩ := q
      dsimp only at c0 c1
      have l0 := block_lt_of_cell c0
      have x0 := (B.cell (p := ⟨b, o + k * 2, none⟩) l0).trans c0
      have x1 := (B.cell (p := ⟨b, o + k * 2 + 1, none⟩) l0).trans c1
      have bx := Box.new wr #[.int .i64 qb, .slice qa qn qc] 89
      have B1 := B.alloc B.size (.cells #[.int .i64 qb, .slice qa qn qc] 89)
      have y0 := bx.cell 0
      have y1 := bx.cell 1
      simp only [List.getElem?_toArray, List.getElem?_cons_zero, List.getElem?_cons_succ] at y0 y1
      have cW := within_at qb 2 (size - 1) (wr.alloc (.cells #[.int .i64 qb, .slice qa qn qc] 89))
      have wr1 : IntKind.i64.wrap (size - 1) = size - 1 := by rw [IntKind.wrap_i64]; omega
      clear hcc c0 c1 l0 bx
      cases hwi : wi qb 2 (size - 1)
      · have hf : fits size (qb, qa, qn, qc) = false := by simp [fits, hwi]
        have hres := hno.out hf
        rw [hwi] at cW
        have HRes : Hid (is.all (fits size) = false) := hres
        clear hres hf hst hno HA
        go_wp2_with fail
        refine Calls.mono cW ?_
        rintro r u ⟨rfl, rfl⟩
        go_wp2_with fail
        go_ret
        exact ⟨by rw [HRes.out]; rfl, B1⟩
      · rw [hwi] at cW
        by_cases hq : qn = 4096
        · have hf : fits size (qb, qa, qn, qc) = true := by simp [fits, hwi, hq]
          have hal : (is.take (k + 1)).all (fits size) = true := by rw [hst.out, HA.out, hf]; rfl
          have HA2 : Hid ((is.take (k + 1)).all (fits size) = true) := hal
          clear hal hst hno HA hf
          subst hq
          go_wp2_with fail
          refine Calls.mono cW ?_
          rintro r u ⟨rfl, rfl⟩
          go_wp2_with fail
          go_roundw
          case rel => exact ⟨k + 1, by omega, by push_cast; rfl, HA2.out, B1⟩
          case measure => simp [intOf]; omega
        · have hf : fits size (qb, qa, qn, qc) = false := by simp [fits, hwi, hq]
          have hres := hno.out hf
          have hne : ((qn : Int) != 4096) = true := by simp; omega
          have HRes : Hid (is.all (fits size) = false) := hres
          clear hres hq hf hst hno HA
          go_wp2_with fail
          refine Calls.mono cW ?_
          rintro r u ⟨rfl, rfl⟩
          go_wp2_with fail
          go_ret
          exact ⟨by rw [HRes.out]; rfl, B1⟩
    · have hke : k = n := by omega
      have hall : is.all (fits size) = true := by have := HA.out; rw [hke, ← HL.out, List.take_length] at this; exact this
      have HRes : Hid (is.all (fits size) = true) := hall
      clear hall HA
      subst hke
      go_wp2_with fail
      go_ret
      exact ⟨by rw [HRes.out]; rfl, B⟩
end Go.Proofs.YtnldkpckojhbhaaGreat.H

/-
  lay: images are written in order, then the disk is flushed.
-/
namespace Go.Proofs.YtnldkpckojhbhaaGreat.H
open Go.RowKit
open Go.Proofs.YtnldkpckojhbhaaGreat.Dk (Box Upd IsDisk DS Rd)

abbrev ImD := (Int × Option Addr × Nat × Nat) × List UInt8
def pl (L : List ImD) : List (Int × List UInt8) := L.map fun p => (p.1.1, p.2)
structure ImsD (w : World) (a : Option Addr) (L : List ImD) (F : Nat → Prop) : Prop where
  cells : CellsI w a (L.map (·.1))
  data : ∀ p ∈ L, Rd w p.1.2.1 p.2 ∧ p.2.length = p.1.2.2.1 ∧ ∀ ad, p.1.2.1 = some ad → ad.block < w.heap.size ∧ ¬ F ad.block
  out : ∀ ad, a = some ad → ¬ F ad.block
theorem rd_upd {F : Nat → Prop} {w w' : World} {a : Option Addr} {xs : List UInt8} (h : Rd w a xs) (hu : Upd F w w') (hg : ∀ ad, a = some ad → ¬ F ad.block) : Rd w' a xs := fun hp => by
  obtain ⟨b, o, rfl, hc⟩ := h hp
  exact (Dk.Rd.upd (fun _ => ⟨b, o, rfl, hc⟩) hu (hg _ rfl)) hp

set_option maxRecDepth 100000 in
set_option maxHeartbeats 4000000 in
theorem lay_at {g : Nat} {w : World} {D : DS} {F : Nat → Prop} (hd : IsDisk w g D F) (a : Option Addr) (n c : Nat) (L : List ImD) (hl : L.length = n) (hn : n ≤ 1000) (hI : ImsD w a L F) (hlim : D.uf.length ≤ 900000 ∧ D.n ≤ 900000) :
    Calls Tryz.prog 164 #[.pointer (some ⟨g, 0, none⟩), .slice a n c] w fun e w' => e = .returned (.int .i64 ((layD (pl L) D).2 : Int)) ∧ (∃ F', IsDisk w' g (layD (pl L) D).1 F' ∧ ∀ i, F' i → F i ∨ w.heap.size ≤ i) ∧ Upd F w w' := by
  have HI : Hid (ImsD w a L F) := hI
  have HL : Hid (L.length = n) := hl
  have HLim : Hid (D.uf.length ≤ 900000 ∧ D.n ≤ 900000) := hlim
  have HD : Hid (IsDisk w g D F) := hd
  clear hI hl hlim hd
  go_enter Tryz.func164, Tryz.ntmps164
  go_wp2_with fail
  go_loopw [10] (fun i u => ∃ (k : Nat) (E : DS) (F' : Nat → Prop), k ≤ n ∧ i = .int .i64 (k : Int) ∧ IsDisk u g E F' ∧ (∀ i, F' i → F i ∨ w.heap.size ≤ i) ∧ Upd F w u ∧ layD (pl L) D = layD ((pl L).drop k) E ∧ E.uf.length ≤ D.uf.length + k ∧ E.n ≤ D.n + k) (fun i _ => n - (intOf i).toNat)
  case atStart => exact ⟨0, D, F, Nat.zero_le _, rfl, HD.out, fun i h => .inl h, Upd.refl _ _, by simp, by omega, by omega⟩
  case round =>
    obtain ⟨k, E, F', hk, rfl, hd, hF', U, hlay, hu, hn2⟩ := hrel
    have HDk : Hid (IsDisk wr g E F') := hd
    have HF : Hid (∀ i, F' i → F i ∨ w.heap.size ≤ i) := hF'
    have HLay : Hid (layD (pl L) D = layD ((pl L).drop k) E) := hlay
    have HB : Hid (E.uf.length ≤ D.uf.length + k ∧ E.n ≤ D.n + k) := ⟨hu, hn2⟩
    clear hd hF' hlay hu hn2
    by_cases hlt : k < n
    · have hki : (k : Int) < (n : Int) := by omega
      have hkl : k < L.length := by rw [HL.out]; exact hlt
      obtain ⟨b, o, rfl, hcc⟩ := HI.out.cells (by rw [List.length_map]; omega)
      obtain ⟨c0, c1⟩ := hcc k (by rw [List.length_map]; exact hkl)
      obtain ⟨hr, hlen, hno⟩ := HI.out.data L[k] (List.getElem_mem hkl)
      have hdrop : Hid ((pl L).drop k = (L[k].1.1, L[k].2) :: (pl L).drop (k + 1)) := by
        show _ = _
        have h1 : k < (pl L).length := by simp [pl]; exact hkl
        rw [List.drop_eq_getElem_cons h1]
        simp [pl]
      simp only [List.getElem_map] at c0 c1
      generalize (L[k]'hkl) = q at c0 c1 hr hlen hno hdrop
      obtain ⟨⟨qb, qa, qn, qc⟩, xs⟩ := q
      dsimp only at c0 c1 hr hlen hno hdrop
      have nb := HI.out.out _ rfl
      have l0 := block_lt_of_cell c0
      have x0 : wr.cell? ⟨b, o + k * 2, none⟩ = some (.int .i64 qb) := (World.cell?_of_block (a := ⟨b, o + k * 2, none⟩) (U.block b l0 nb)).trans c0
      have x1 : wr.cell? ⟨b, o + k * 2 + 1, none⟩ = some (.slice qa qn qc) := (World.cell?_of_block (a := ⟨b, o + k * 2 + 1, none⟩) (U.block b l0 nb)).trans c1
      have bx := Box.new wr #[.int .i64 qb, .slice qa qn qc] 89
      have bA := (Below.refl wr.heap.size wr).alloc (Nat.le_refl _) (.cells #[.int .i64 qb, .slice qa qn qc] 89)
      have U1 := U.alloc (.cells #[.int .i64 qb, .slice qa qn qc] 89)
      have y0 := bx.cell 0
      have y1 := bx.cell 1
      simp only [List.getElem?_toArray, List.getElem?_cons_zero, List.getElem?_cons_succ] at y0 y1
      have hnoF' : ∀ ad, qa = some ad → ¬ F' ad.block := fun ad e hf => by
        rcases HF.out _ hf with h1 | h1
        · exact (hno ad e).2 h1
        · exact absurd (hno ad e).1 (Nat.not_lt.2 h1)
      have cW := Dk.write_at (HDk.out.below bA) qb qa qn qc xs hlen ⟨by have := HB.out.1; have := HLim.out.1; omega, by have := HB.out.2; have := HLim.out.2; omega⟩ ((rd_upd hr U (fun ad e => (hno ad e).2)).below bA (Nat.le_refl _)) hnoF'
      have hle := write_le E qb xs
      clear hcc c0 c1 l0 bx hr nb
      have HW : Hid ((E.write qb xs).nb = E.nb ∧ (E.write qb xs).uf.length ≤ E.uf.length + 1 ∧ (E.write qb xs).n ≤ E.n + 1) := hle
      have hE2 : Hid (layD (pl L) D = if E.writeE qb xs = 0 then layD ((pl L).drop (k + 1)) (E.write qb xs) else (E.write qb xs, E.writeE qb xs)) := by
        show _ = _
        rw [HLay.out, hdrop.out]
        rfl
      clear hle HLay hdrop
      by_cases he : E.writeE qb xs = 0
      · rw [he] at cW
        have hE3 : Hid (layD (pl L) D = layD ((pl L).drop (k + 1)) (E.write qb xs)) := hE2.out.trans (if_pos he)
        clear hE2 he
        go_wp2_with fail
        refine Calls.mono cW ?_
        rintro r u ⟨rfl, ⟨F2, hd2, hF2⟩, U2⟩
        have U3 : Upd F w u := U1.trans U2 (fun i h => HF.out i h)
        clear cW y0 y1 x0 x1
        go_wp2_with fail
        go_roundw
        case rel => exact ⟨k + 1, _, F2, by omega, by push_cast; rfl, hd2, fun i hi => by
            rcases hF2 i hi with h1 | h1
            · exact HF.out i h1
            · exact .inr (Nat.le_trans U1.size h1), U3, hE3.out, by have := HW.out.2.1; have := HB.out.1; omega, by have := HW.out.2.2; have := HB.out.2; omega⟩
        case measure => simp [intOf]; omega
      · have hE3 : Hid (layD (pl L) D = (E.write qb xs, E.writeE qb xs)) := hE2.out.trans (if_neg he)
        have hne : ((E.writeE qb xs : Int) != 0) = true := by simp; omega
        generalize E.writeE qb xs = ee at cW hE3 hne
        clear hE2 he
        go_wp2_with fail
        refine Calls.mono cW ?_
        rintro r u ⟨rfl, ⟨F2, hd2, hF2⟩, U2⟩
        have U3 : Upd F w u := U1.trans U2 (fun i h => HF.out i h)
        clear cW y0 y1 x0 x1
        go_wp2_with fail
        go_ret
        rw [hE3.out]
        exact ⟨rfl, ⟨F2, hd2, fun i hi => by
            rcases hF2 i hi with h1 | h1
            · exact HF.out i h1
            · exact .inr (Nat.le_trans U1.size h1)⟩, U3⟩
    · have hke : k = n := by omega
      have hE3 : Hid (layD (pl L) D = (E.flush, E.operE)) := by
        show _ = _
        rw [HLay.out, hke, List.drop_of_length_le (by simp [pl, HL.out])]
        rfl
      have cF := Dk.flush_at HDk.out
      subst hke
      generalize E.operE = ee at cF hE3
      clear HLay
      go_wp2_with fail
      refine Calls.mono cF ?_
      rintro r u ⟨rfl, hd2, U2⟩
      go_wp2_with fail
      go_ret
      rw [hE3.out]
      exact ⟨rfl, ⟨F', hd2, HF.out⟩, U.trans U2 (fun i h => HF.out i h)⟩
end Go.Proofs.YtnldkpckojhbhaaGreat.H

/-
  Do: the images, then the superblock; what it refuses.
-/
namespace Go.Proofs.YtnldkpckojhbhaaGreat.H
open Go.RowKit
open Go.Proofs.YtnldkpckojhbhaaGreat.Su (wi supV erP)
open Go.Proofs.YtnldkpckojhbhaaGreat.Dk (Box Upd IsDisk DS Rd)

def doR (D : DS) (L : List ImD) (o : Option (List UInt8)) (slot : Int) : DS × Nat :=
  match o with
  | none => (D, 2)
  | some sb => if wi slot 0 1 && (L.map (·.1)).all (fits D.nb) then doD (pl L) slot sb D else (D, 2)

theorem owns4096 {w : World} {B n : Nat} {v : Value} {ys : List UInt8} (h : w.ownsRow B 5 1 v n (Su.bcs ys)) (hn : n = 4096) : ∃ g c, v = .slice (some ⟨g, 0, none⟩) 4096 c ∧ B ≤ g ∧ g < w.heap.size ∧ Rd w (some ⟨g, 0, none⟩) ys := by
  subst hn
  rcases h.2 with ⟨h1, h2⟩ | ⟨g, cap, cur, h1, hBg, hg2, hnc, hcm, hcs, ht⟩
  · omega
  · subst h1
    refine ⟨g, cap, rfl, hBg, (Array.getElem?_eq_some_iff.1 hg2).1, ?_⟩
    exact Su.owns_rd_at h

set_option maxRecDepth 100000 in
set_option maxHeartbeats 4000000 in
theorem do_at {g : Nat} {w : World} {D : DS} {F : Nat → Prop} (hd : IsDisk w g D F) (a : Option Addr) (n c : Nat) (L : List ImD) (b e q t slot : Int) (hl : L.length = n) (hn : n ≤ 1000) (hI : ImsD w a L F) (hlim : D.uf.length ≤ 800000 ∧ D.n ≤ 800000) :
    Calls Tryz.prog 91 #[.pointer (some ⟨g, 0, none⟩), .slice a n c, .agg #[.int .i64 b, .int .i64 e, .int .i64 q, .int .i64 t], .int .i64 slot] w fun r w' => r = .returned (.int .i64 ((doR D L (Su.putSuper b e q t) slot).2 : Int)) ∧ (∃ F', IsDisk w' g (doR D L (Su.putSuper b e q t) slot).1 F' ∧ ∀ i, F' i → F i ∨ w.heap.size ≤ i) ∧ Upd F w w' := by
  have HI : Hid (ImsD w a L F) := hI
  have HL : Hid (L.length = n) := hl
  have HLim : Hid (D.uf.length ≤ 800000 ∧ D.n ≤ 800000) := hlim
  have HD : Hid (IsDisk w g D F) := hd
  have hok := hd.ok
  have hflt := hd.flt
  have x := Box.new w #[.int .i64 b, .int .i64 e, .int .i64 q, .int .i64 t] 141
  have B0 := (Below.refl w.heap.size w).alloc (Nat.le_refl _) (.cells #[.int .i64 b, .int .i64 e, .int .i64 q, .int .i64 t] 141)
  have c0 := x.cell 0
  have c1 := x.cell 1
  have c2 := x.cell 2
  have c3 := x.cell 3
  simp only [List.getElem?_toArray, List.getElem?_cons_zero, List.getElem?_cons_succ] at c0 c1 c2 c3
  have cS := Dk.size_of (HD.out.below B0)
  have cP := Su.putSuper_at b e q t (w.alloc (.cells #[.int .i64 b, .int .i64 e, .int .i64 q, .int .i64 t] 141))
  have hsb : Hid (∀ sb, Su.putSuper b e q t = some sb → sb.length = 4096) := fun sb h => by
    unfold Su.putSuper at h
    split at h
    · injection h with h
      rw [← h, Su.superB_length]
    · cases h
  generalize Su.putSuper b e q t = o at cP hsb ⊢
  have hnb1 := hok.lo
  have hnb2 := hok.hi
  have HF : Hid (∀ i, F i → i < w.heap.size) := hflt
  obtain ⟨N, hN⟩ : ∃ N, N = D.nb := ⟨_, rfl⟩
  have HNb : Hid (N = D.nb) := hN
  rw [← hN] at cS hnb1 hnb2
  have hN0 : ((N : Int) == 0) = false := by simp; omega
  clear hI hl hlim hd hok hflt x hN
  go_enter Tryz.func91, Tryz.ntmps91
  go_wp2_with fail
  refine Calls.mono cS ?_
  rintro r u0 ⟨rfl, rfl⟩
  clear cS
  go_wp2_with fail
  refine Calls.mono cP ?_
  rintro r u1 ⟨v, rfl, hrow, b1⟩
  have B1 := B0.trans (b1.mono B0.size)
  clear cP c0 c1 c2 c3
  have U1 : Upd F w u1 := Upd.of_below B1
  cases o with
  | none =>
    have he : erP none = 2 := rfl
    rw [he]
    clear hrow
    go_wp2_with fail
    go_ret
    exact ⟨rfl, ⟨F, HD.out.below B1, fun i h => .inl h⟩, U1⟩
  | some sb =>
    have he : erP (some sb) = 0 := rfl
    rw [he]
    have hl := hsb.out sb rfl
    obtain ⟨gb, cb, rfl, hgb, hgbl, rd⟩ := owns4096 hrow hl
    have hgb : w.heap.size ≤ gb := Nat.le_trans B0.size hgb
    have HR : Hid (Rd u1 (some ⟨gb, 0, none⟩) sb) := rd
    have HSl : Hid (sb.length = 4096) := hl
    clear hrow rd hsb hl
    have cW := within_at slot 0 1 u1
    cases hw : wi slot 0 1 with
    | false =>
      rw [hw] at cW
      have hres : Hid (doR D L (some sb) slot = (D, 2)) := by show _ = _; simp [doR, hw]
      go_wp2_with fail
      refine Calls.mono cW ?_
      rintro r u2 ⟨rfl, rfl⟩
      go_wp2_with fail
      go_ret
      rw [hres.out]
      exact ⟨rfl, ⟨F, HD.out.below B1, fun i h => .inl h⟩, U1⟩
    | true =>
      rw [hw] at cW
      have cA := allFit_at u1 a n c (L.map (·.1)) N (by rw [List.length_map]; exact HL.out) (by omega) ⟨by omega, by omega⟩ (fun h => by
        obtain ⟨b', o', e', hc'⟩ := HI.out.cells h
        exact ⟨b', o', e', fun j hj => ⟨(B1.cell (p := ⟨b', o' + j * 2, none⟩) (block_lt_of_cell (hc' j hj).1)).trans (hc' j hj).1, (B1.cell (p := ⟨b', o' + j * 2 + 1, none⟩) (block_lt_of_cell (hc' j hj).2)).trans (hc' j hj).2⟩⟩)
      cases ha : (L.map (·.1)).all (fits N) with
      | false =>
        rw [ha] at cA
        have hres : Hid (doR D L (some sb) slot = (D, 2)) := by show _ = _; simp only [doR]; rw [← HNb.out, ha, hw]; rfl
        clear ha
        go_wp2_with fail
        refine Calls.mono cW ?_
        rintro r u2 ⟨rfl, rfl⟩
        go_wp2_with fail
        refine Calls.mono cA ?_
        rintro r u3 ⟨rfl, b3⟩
        go_wp2_with fail
        go_ret
        rw [hres.out]
        have B3 := B1.trans (b3.mono B1.size)
        exact ⟨rfl, ⟨F, HD.out.below B3, fun i h => .inl h⟩, Upd.of_below B3⟩
      | true =>
        rw [ha] at cA
        have hres : Hid (doR D L (some sb) slot = doD (pl L) slot sb D) := by show _ = _; simp only [doR]; rw [← HNb.out, ha, hw]; rfl
        clear ha
        go_wp2_with fail
        refine Calls.mono cW ?_
        rintro r u2 ⟨rfl, rfl⟩
        go_wp2_with fail
        refine Calls.mono cA ?_
        rintro r u3 ⟨rfl, b3⟩
        have B3 := B1.trans (b3.mono B1.size)
        have hI3 : ImsD u3 a L F := by
          refine ⟨fun h => ?_, fun p hp => ?_, HI.out.out⟩
          · obtain ⟨b', o', e', hc'⟩ := HI.out.cells h
            exact ⟨b', o', e', fun j hj => ⟨(B3.cell (p := ⟨b', o' + j * 2, none⟩) (block_lt_of_cell (hc' j hj).1)).trans (hc' j hj).1, (B3.cell (p := ⟨b', o' + j * 2 + 1, none⟩) (block_lt_of_cell (hc' j hj).2)).trans (hc' j hj).2⟩⟩
          · obtain ⟨h1, h2, h3⟩ := HI.out.data p hp
            exact ⟨rd_upd h1 (Upd.of_below (F := F) B3) (fun ad e => (h3 ad e).2), h2, fun ad e => ⟨Nat.lt_of_lt_of_le (h3 ad e).1 B3.size, (h3 ad e).2⟩⟩
        have cL := lay_at (HD.out.below B3) a n c L HL.out hn hI3 ⟨by have := HLim.out.1; omega, by have := HLim.out.2; omega⟩
        have hr3 : Hid (Rd u3 (some ⟨gb, 0, none⟩) sb) := HR.out.below b3 (Nat.le_refl _)
        have z3 : gb < u3.heap.size := Nat.lt_of_lt_of_le hgbl b3.size
        have hle := layD_le (pl L) D
        have HLe : Hid ((layD (pl L) D).1.nb = D.nb ∧ (layD (pl L) D).1.uf.length ≤ D.uf.length + n ∧ (layD (pl L) D).1.n ≤ D.n + n) := by
          rw [show (pl L).length = n by simp [pl, HL.out]] at hle
          exact hle
        clear cA cW hI3 b3 HR hgbl hle
        by_cases h0 : (layD (pl L) D).2 = 0
        · have hres2 : Hid (doR D L (some sb) slot = layD [(slot, sb)] (layD (pl L) D).1) := by show _ = _; rw [hres.out, doD, if_pos h0]
          rw [h0] at cL
          generalize (layD (pl L) D).1 = D1 at cL hres2 HLe
          clear hres h0
          go_wp2_with fail
          refine Calls.mono cL ?_
          rintro r u4 ⟨rfl, ⟨F4, hd4, hF4⟩, U4⟩
          have U5 : Upd F w u4 := (Upd.of_below (F := F) B3).trans U4 (fun i h => .inl h)
          have hg4 : ¬ F gb := fun h => by have := HF.out _ h; omega
          have hgF4 : ¬ F4 gb := fun h => by
            rcases hF4 _ h with h1 | h1
            · exact hg4 h1
            · omega
          have rd4 : Rd u4 (some ⟨gb, 0, none⟩) sb := rd_upd hr3.out U4 (fun ad e => by injection e with e; rw [← e]; exact hg4)
          have bA := (Below.refl u4.heap.size u4).alloc (Nat.le_refl _) (.cells #[.int .i64 slot, .slice (some ⟨gb, 0, none⟩) 4096 cb] 89)
          have bx := Box.new u4 #[.int .i64 slot, .slice (some ⟨gb, 0, none⟩) 4096 cb] 89
          have z4 : gb < u4.heap.size := Nat.lt_of_lt_of_le z3 U4.size
          have hFl := hd4.flt
          have hI5 : ImsD (u4.alloc (.cells #[.int .i64 slot, .slice (some ⟨gb, 0, none⟩) 4096 cb] 89)) (some ⟨u4.heap.size, 0, none⟩) [((slot, some ⟨gb, 0, none⟩, 4096, cb), sb)] F4 := by
            refine ⟨fun _ => ⟨u4.heap.size, 0, rfl, fun j hj => ?_⟩, fun p hp => ?_, fun ad e => ?_⟩
            · have hj0 : j = 0 := by simp at hj; omega
              subst hj0
              have y0 := bx.cell 0
              have y1 := bx.cell 1
              simp only [List.getElem?_toArray, List.getElem?_cons_zero, List.getElem?_cons_succ] at y0 y1
              exact ⟨y0, y1⟩
            · simp at hp
              subst hp
              exact ⟨rd4.below bA (Nat.le_refl _), HSl.out, fun ad e => by injection e with e; rw [← e]; exact ⟨by simp; omega, hgF4⟩⟩
            · injection e with e
              rw [← e]
              intro h
              have := hFl _ h
              exact Nat.lt_irrefl _ this
          have cL2 := lay_at (hd4.below bA) (some ⟨u4.heap.size, 0, none⟩) 1 1 [((slot, some ⟨gb, 0, none⟩, 4096, cb), sb)] rfl (by decide) hI5 ⟨by have := HLe.out.2.1; have := HLim.out.1; omega, by have := HLe.out.2.2; have := HLim.out.2; omega⟩
          have hpl : pl [((slot, some ⟨gb, 0, none⟩, 4096, cb), sb)] = [(slot, sb)] := rfl
          rw [hpl] at cL2
          clear cL hI5 bx rd4 hpl
          generalize layD [(slot, sb)] D1 = R at cL2 hres2
          go_wp2_with fail
          refine Calls.mono cL2 ?_
          rintro r u6 ⟨rfl, ⟨F6, hd6, hF6⟩, U6⟩
          go_wp2_with fail
          go_ret
          rw [hres2.out]
          have U7 := (U5.alloc (.cells #[.int .i64 slot, .slice (some ⟨gb, 0, none⟩) 4096 cb] 89)).trans U6 (fun i h => by
            rcases hF4 i h with h1 | h1
            · exact .inl h1
            · exact .inr (Nat.le_trans B3.size h1))
          refine ⟨rfl, ⟨F6, hd6, fun i hi => ?_⟩, U7⟩
          rcases hF6 i hi with h1 | h1
          · rcases hF4 i h1 with h2 | h2
            · exact .inl h2
            · exact .inr (Nat.le_trans B3.size h2)
          · exact .inr (Nat.le_trans (Nat.le_trans U5.size bA.size) h1)
        · have hres2 : Hid (doR D L (some sb) slot = layD (pl L) D) := by show _ = _; rw [hres.out, doD, if_neg h0]
          have hne : (((layD (pl L) D).2 : Int) != 0) = true := by simp; omega
          clear h0 hres
          generalize layD (pl L) D = R at cL hres2 hne
          obtain ⟨D4, ee⟩ := R
          dsimp only at cL hne
          go_wp2_with fail
          refine Calls.mono cL ?_
          rintro r u4 ⟨rfl, ⟨F4, hd4, hF4⟩, U4⟩
          go_wp2_with fail
          go_ret
          rw [hres2.out]
          exact ⟨rfl, ⟨F4, hd4, fun i hi => by
            rcases hF4 i hi with h1 | h1
            · exact .inl h1
            · exact .inr (Nat.le_trans B3.size h1)⟩, (Upd.of_below (F := F) B3).trans U4 (fun i h => .inl h)⟩
end Go.Proofs.YtnldkpckojhbhaaGreat.H

/-
  Format: noughts, then the superblock.
-/
namespace Go.Proofs.YtnldkpckojhbhaaGreat.V
open Go.RowKit
open Go.Proofs.YtnldkpckojhbhaaGreat.Dk (Box DS IsDisk Upd Rd nought)
open Go.Proofs.YtnldkpckojhbhaaGreat.H (layD doD owns4096 write_le)

def fmtL : Nat → List (Int × List UInt8)
  | 0 => []
  | n + 1 => fmtL n ++ [((n : Int) + 1, nought 4096)]
theorem fmtL_len (n : Nat) : (fmtL n).length = n := by
  induction n with
  | zero => rfl
  | succ n ih => simp [fmtL, ih]
theorem fmtL_get (n k : Nat) (h : k < (fmtL n).length) : (fmtL n)[k] = ((k : Int) + 1, nought 4096) := by
  induction n with
  | zero => simp [fmtL] at h
  | succ n ih =>
    have hl := fmtL_len n
    simp only [fmtL]
    by_cases hk : k < n
    · rw [List.getElem_append_left (by omega)]
      exact ih (by omega)
    · have hk2 : k = n := by rw [fmtL_len] at h; omega
      subst hk2
      rw [List.getElem_append_right (by omega)]
      simp [hl]
theorem fmtL_drop (n k : Nat) (h : k < n) : (fmtL n).drop k = ((k : Int) + 1, nought 4096) :: (fmtL n).drop (k + 1) := by
  have hk : k < (fmtL n).length := by rw [fmtL_len]; exact h
  rw [List.drop_eq_getElem_cons hk, fmtL_get n k hk]

def fmtD (D : DS) : DS × Nat := doD (fmtL 22) 0 (Su.superB 64 1 1 0) D
theorem right11 : Su.putSuper 64 1 1 0 = some (Su.superB 64 1 1 0) := by
  unfold Su.putSuper
  rw [if_pos (by decide)]
  rfl
set_option maxRecDepth 100000 in
set_option maxHeartbeats 4000000 in
theorem format_at {g : Nat} {w : World} {D : DS} {F : Nat → Prop} (hd : IsDisk w g D F) (hnb : D.nb = 64) (hlim : D.uf.length ≤ 800000 ∧ D.n ≤ 800000) :
    Calls Tryz.prog 48 #[.pointer (some ⟨g, 0, none⟩)] w fun r w' => r = .returned (.int .i64 ((fmtD D).2 : Int)) ∧ (∃ F', IsDisk w' g (fmtD D).1 F' ∧ ∀ i, F' i → F i ∨ w.heap.size ≤ i) ∧ Upd F w w' := by
  have cS := Dk.size_of hd
  rw [hnb] at cS
  have cO := La.of_good 64 w (by decide) (by decide)
  rw [show La.layA 64 = #[.int .i64 64, .int .i64 2, .int .i64 16, .int .i64 18, .int .i64 19, .int .i64 4, .int .i64 23] by rfl] at cO
  have HD : Hid (IsDisk w g D F) := hd
  have HLim : Hid (D.uf.length ≤ 800000 ∧ D.n ≤ 800000) := hlim
  have hfl : Hid (∀ i, F i → i < w.heap.size) := hd.flt
  have hZl : Hid ((nought 4096).length = 4096) := Dk.nought_length 4096
  have hmk : ∀ u, (Instr.makeSlice 37 (.int .i64 4096) (.int .i64 4096)).run Tryz.prog u = .ok (.slice (some ⟨u.heap.size, 0, none⟩) 4096 4096) (u.alloc (.cells (Dk.bcs (nought 4096)).toArray 5)) := fun u => Dk.make_run 4096 (by decide) u
  have HZr : Hid (∀ u : World, Rd (u.alloc (.cells (Dk.bcs (nought 4096)).toArray 5)) (some ⟨u.heap.size, 0, none⟩) (nought 4096)) := fun u => (Dk.own_lit u (nought 4096)).rd
  have hdrop : Hid (∀ k, k < 22 → (fmtL 22).drop k = ((k : Int) + 1, nought 4096) :: (fmtL 22).drop (k + 1)) := fun k hk => fmtL_drop 22 k hk
  have hend : Hid ((fmtL 22).drop 22 = []) := List.drop_eq_nil_of_le (by rw [fmtL_len]; exact Nat.le_refl _)
  have hfd : Hid (fmtD D = doD (fmtL 22) 0 (Su.superB 64 1 1 0) D) := rfl
  have cP : Hid (∀ u, Calls Tryz.prog 114 #[.agg #[.int .i64 64, .int .i64 1, .int .i64 1, .int .i64 0]] u fun r w' => Su.Puts u w' (some (Su.superB 64 1 1 0)) r) := fun u => by
    have := Su.putSuper_at 64 1 1 0 u
    rw [right11] at this
    exact this
  have hsl : Hid ((Su.superB 64 1 1 0).length = 4096) := Su.superB_length 64 1 1 0
  clear hd hlim hnb
  generalize Su.superB 64 1 1 0 = sb at hfd cP hsl
  generalize nought 4096 = zs at hZl hmk HZr hdrop
  generalize fmtL 22 = FL at hdrop hend hfd
  go_enter Tryz.func48, Tryz.ntmps48
  go_wp2_with fail
  refine Calls.mono cS ?_
  rintro r w' ⟨rfl, rfl⟩
  go_wp2_with fail
  refine Calls.mono cO ?_
  rintro r wu1 ⟨rfl, b1⟩
  have HB1 : Hid (w.heap.size ≤ wu1.heap.size) := b1.size
  have x := Box.new wu1 #[.int .i64 64, .int .i64 2, .int .i64 16, .int .i64 18, .int .i64 19, .int .i64 4, .int .i64 23] 57
  have B2 := b1.alloc b1.size (.cells #[.int .i64 64, .int .i64 2, .int .i64 16, .int .i64 18, .int .i64 19, .int .i64 4, .int .i64 23] 57)
  have cQ := cP.out (wu1.alloc (.cells #[.int .i64 64, .int .i64 2, .int .i64 16, .int .i64 18, .int .i64 19, .int .i64 4, .int .i64 23] 57))
  clear cS cO cP b1
  go_wp2_with fail
  refine Calls.mono cQ ?_
  rintro r wu2 ⟨v, rfl, hrow, b2⟩
  have he : Su.erP (some sb) = 0 := rfl
  rw [he]
  obtain ⟨gb, cb, rfl, hgb, hgbl, rd⟩ := owns4096 hrow hsl.out
  have B3 := B2.trans (b2.mono B2.size)
  have x2 := x.below b2
  have bz : Below wu2.heap.size wu2 (wu2.alloc (.cells (Dk.bcs zs).toArray 5)) := (Below.refl _ _).alloc (Nat.le_refl _) _
  have hrz := HZr.out wu2
  have B4 := B3.trans (bz.mono B3.size)
  obtain ⟨wu3, hu3⟩ : ∃ u, u = wu2.alloc (.cells (Dk.bcs zs).toArray 5) := ⟨_, rfl⟩
  have HU3 : Hid (wu3 = wu2.alloc (.cells (Dk.bcs zs).toArray 5)) := hu3
  rw [← hu3] at bz hrz B4
  have hz3 : wu2.heap.size < wu3.heap.size := by rw [hu3]; simp
  have HX3 : Hid (Box wu3 wu1.heap.size #[.int .i64 64, .int .i64 2, .int .i64 16, .int .i64 18, .int .i64 19, .int .i64 4, .int .i64 23] 57) := x2.below bz
  have HR3 : Hid (Rd wu3 (some ⟨gb, 0, none⟩) sb) := rd.below bz (Nat.le_refl _)
  have HZ3 : Hid (Rd wu3 (some ⟨wu2.heap.size, 0, none⟩) zs) := hrz
  have HB4 : Hid (Below w.heap.size w wu3) := B4
  have HD3 : Hid (IsDisk wu3 g D F) := HD.out.below B4
  have HG : Hid (w.heap.size ≤ gb ∧ gb < wu3.heap.size ∧ w.heap.size ≤ wu1.heap.size ∧ wu1.heap.size < wu3.heap.size ∧ w.heap.size ≤ wu2.heap.size ∧ wu2.heap.size < wu3.heap.size) := by
    have h1 := B2.size
    have h2 := x2.lt
    have h3 := b2.size
    have h4 := B3.size
    have h5 := HB1.out
    exact ⟨by omega, by omega, h5, by omega, h4, hz3⟩
  clear cQ hrow b2 x x2 B2 B3 bz hrz rd hgb hgbl B4 hz3 hu3 HD
  go_wp2_with fail
  rw [← HU3.out]
  clear HU3 hmk
  go_loopw [8] (fun i u => ∃ (k : Nat) (E : DS) (F' : Nat → Prop), k ≤ 22 ∧ i = .int .i64 ((k : Int) + 1) ∧ IsDisk u g E F' ∧ (∀ i, F' i → F i ∨ wu3.heap.size ≤ i) ∧ Upd F wu3 u ∧ layD FL D = layD (FL.drop k) E ∧ E.uf.length ≤ D.uf.length + k ∧ E.n ≤ D.n + k) (fun i _ => 23 - (intOf i).toNat)
  case atStart => exact ⟨0, D, F, by omega, rfl, HD3.out, fun i h => .inl h, Upd.refl _ _, by simp, by omega, by omega⟩
  case round =>
    obtain ⟨k, E, F', hk, rfl, hdk, hF', U, hlay, hu, hn2⟩ := hrel
    have HDk : Hid (IsDisk wr g E F') := hdk
    have HF : Hid (∀ i, F' i → F i ∨ wu3.heap.size ≤ i) := hF'
    have HU : Hid (Upd F wu3 wr) := U
    have HLay : Hid (layD FL D = layD (FL.drop k) E) := hlay
    have HB : Hid (E.uf.length ≤ D.uf.length + k ∧ E.n ≤ D.n + k) := ⟨hu, hn2⟩
    have hnF : ∀ i, w.heap.size ≤ i → i < wu3.heap.size → ¬ F' i := fun i h1 h2 hf => by
      rcases hF' i hf with h | h
      · have := hfl.out i h; omega
      · omega
    have hnF0 : ∀ i, w.heap.size ≤ i → ¬ F i := fun i h1 hf => by have := hfl.out i hf; omega
    have xk := U.box HX3.out (hnF0 _ HG.out.2.2.1)
    have x6 := xk.cell 6
    simp only [List.getElem?_toArray, List.getElem?_cons_zero, List.getElem?_cons_succ] at x6
    have HnF : Hid (∀ i, w.heap.size ≤ i → i < wu3.heap.size → ¬ F' i) := hnF
    have HnF0 : Hid (∀ i, w.heap.size ≤ i → ¬ F i) := hnF0
    have hki1 : (k : Int) + 1 ≤ 23 := by omega
    clear hdk hF' hlay hu hn2 U xk hnF hnF0
    by_cases hlt : k < 22
    · have hki : (k : Int) + 1 < 23 := by omega
      have hrz := Dk.Rd.upd HZ3.out HU.out (HnF0.out _ HG.out.2.2.2.2.1)
      have cW := Dk.write_at HDk.out ((k : Int) + 1) (some ⟨wu2.heap.size, 0, none⟩) 4096 4096 zs hZl.out ⟨by have := HB.out.1; have := HLim.out.1; omega, by have := HB.out.2; have := HLim.out.2; omega⟩ hrz (fun ad e => by injection e with e; subst e; exact HnF.out _ HG.out.2.2.2.2.1 HG.out.2.2.2.2.2)
      have HW : Hid ((E.write ((k : Int) + 1) zs).nb = E.nb ∧ (E.write ((k : Int) + 1) zs).uf.length ≤ E.uf.length + 1 ∧ (E.write ((k : Int) + 1) zs).n ≤ E.n + 1) := write_le E ((k : Int) + 1) zs
      have hE2 : Hid (layD FL D = if E.writeE ((k : Int) + 1) zs = 0 then layD (FL.drop (k + 1)) (E.write ((k : Int) + 1) zs) else (E.write ((k : Int) + 1) zs, E.writeE ((k : Int) + 1) zs)) := by
        show _ = _
        rw [HLay.out, hdrop.out k hlt]
        rfl
      clear HLay hrz
      by_cases h0 : E.writeE ((k : Int) + 1) zs = 0
      · rw [h0] at cW
        have hE3 : Hid (layD FL D = layD (FL.drop (k + 1)) (E.write ((k : Int) + 1) zs)) := hE2.out.trans (if_pos h0)
        clear hE2 h0
        go_wp2_with fail
        refine Calls.mono cW ?_
        rintro r u ⟨rfl, ⟨F2, hd2, hF2⟩, U2⟩
        have U3 : Upd F wu3 u := HU.out.trans U2 (fun i h => HF.out i h)
        clear cW x6
        go_wp2_with fail
        go_roundw
        case rel => exact ⟨k + 1, _, F2, by omega, by push_cast; rfl, hd2, fun i hi => by
            rcases hF2 i hi with h1 | h1
            · exact HF.out i h1
            · exact .inr (Nat.le_trans HU.out.size h1), U3, hE3.out, by have := HW.out.2.1; have := HB.out.1; omega, by have := HW.out.2.2; have := HB.out.2; omega⟩
        case measure => simp [intOf]; omega
      · have hE3 : Hid (layD FL D = (E.write ((k : Int) + 1) zs, E.writeE ((k : Int) + 1) zs)) := hE2.out.trans (if_neg h0)
        have hne : ((E.writeE ((k : Int) + 1) zs : Int) != 0) = true := by simp; omega
        have hno : ¬ (layD FL D).2 = 0 := by rw [hE3.out]; exact h0
        have hres : Hid (fmtD D = (E.write ((k : Int) + 1) zs, E.writeE ((k : Int) + 1) zs)) := by
          show _ = _
          rw [hfd.out, doD, if_neg hno, hE3.out]
        generalize E.writeE ((k : Int) + 1) zs = ee at cW hE3 hne hres
        clear hE2 h0 hno hE3
        go_wp2_with fail
        refine Calls.mono cW ?_
        rintro r u ⟨rfl, ⟨F2, hd2, hF2⟩, U2⟩
        have U3 : Upd F wu3 u := HU.out.trans U2 (fun i h => HF.out i h)
        clear cW x6
        go_wp2_with fail
        go_ret
        rw [hres.out]
        exact ⟨rfl, ⟨F2, hd2, fun i hi => by
            rcases hF2 i hi with h1 | h1
            · rcases HF.out i h1 with h | h
              · exact .inl h
              · exact .inr (Nat.le_trans HB4.out.size h)
            · exact .inr (Nat.le_trans HB4.out.size (Nat.le_trans HU.out.size h1))⟩, (Dk.Upd.of_below HB4.out).trans U3 (fun i h => .inl h)⟩
    · have hke : k = 22 := by omega
      subst hke
      have hki : ¬ ((22 : Nat) : Int) + 1 < 23 := by omega
      have hlayE : Hid (layD FL D = (E.flush, E.operE)) := by
        show _ = _
        rw [HLay.out, hend.out]
        rfl
      have cF := Dk.flush_at HDk.out
      clear HLay hlt hdrop hend
      rw [show ((22 : Nat) : Int) + 1 = 23 by decide]
      go_wp2_with fail
      refine Calls.mono cF ?_
      rintro r wu4 ⟨rfl, hd4, U4⟩
      have U5 : Upd F wu3 wu4 := HU.out.trans U4 (fun i h => HF.out i h)
      clear cF x6
      by_cases h0 : E.operE = 0
      · have hz : ((E.operE : Int) != 0) = false := by simp; omega
        have hdo : Hid (fmtD D = layD [(0, sb)] E.flush) := by
          show _ = _
          rw [hfd.out, doD, hlayE.out, if_pos h0]
        have hle := H.flush_le E
        have hrs := Dk.Rd.upd HR3.out U5 (HnF0.out _ HG.out.1)
        have cW := Dk.write_at hd4 0 (some ⟨gb, 0, none⟩) 4096 cb sb hsl.out ⟨by have := HB.out.1; have := HLim.out.1; omega, by have := HB.out.2; have := HLim.out.2; omega⟩ hrs (fun ad e => by injection e with e; subst e; exact HnF.out _ HG.out.1 HG.out.2.1)
        have HD4 : Hid (IsDisk wu4 g E.flush F') := hd4
        clear hle hrs hd4 h0
        go_wp2_with fail
        refine Calls.mono cW ?_
        rintro r wu5 ⟨rfl, ⟨F2, hd5, hF5⟩, U6⟩
        have U7 : Upd F wu3 wu5 := U5.trans U6 (fun i h => HF.out i h)
        have HF2 : Hid (∀ i, F2 i → F i ∨ w.heap.size ≤ i) := fun i hi => by
          rcases hF5 i hi with h1 | h1
          · rcases HF.out i h1 with h | h
            · exact .inl h
            · exact .inr (Nat.le_trans HB4.out.size h)
          · exact .inr (Nat.le_trans HB4.out.size (Nat.le_trans U5.size h1))
        clear cW hz
        by_cases hw0 : E.flush.writeE 0 sb = 0
        · have hz : ((E.flush.writeE 0 sb : Int) != 0) = false := by simp; omega
          have hres : Hid (fmtD D = ((E.flush.write 0 sb).flush, (E.flush.write 0 sb).operE)) := by
            show _ = _
            rw [hdo.out]
            unfold layD
            rw [if_pos hw0]
            rfl
          have cF := Dk.flush_at hd5
          have HF5 : Hid (∀ i, F2 i → F' i ∨ wu4.heap.size ≤ i) := hF5
          clear hw0 hd5 hF5
          go_wp2_with fail
          refine Calls.mono cF ?_
          rintro r wu6 ⟨rfl, hd6, U8⟩
          have U9 : Upd F wu3 wu6 := U7.trans U8 (fun i h => by
            rcases HF5.out i h with h | h
            · exact HF.out i h
            · exact .inr (Nat.le_trans U5.size h))
          clear cF
          go_wp2_with fail
          go_ret
          rw [hres.out]
          exact ⟨rfl, ⟨F2, hd6, HF2.out⟩, (Dk.Upd.of_below HB4.out).trans U9 (fun i h => .inl h)⟩
        · have hne : ((E.flush.writeE 0 sb : Int) != 0) = true := by simp; omega
          have hres : Hid (fmtD D = (E.flush.write 0 sb, E.flush.writeE 0 sb)) := by
            show _ = _
            rw [hdo.out]
            unfold layD
            rw [if_neg hw0]
          generalize E.flush.writeE 0 sb = ee at hne hres
          clear hw0
          go_wp2_with fail
          go_ret
          rw [hres.out]
          exact ⟨rfl, ⟨F2, hd5, HF2.out⟩, (Dk.Upd.of_below HB4.out).trans U7 (fun i h => .inl h)⟩
      · have hne : ((E.operE : Int) != 0) = true := by simp; omega
        have hres : Hid (fmtD D = (E.flush, E.operE)) := by
          show _ = _
          rw [hfd.out, doD, hlayE.out, if_neg h0]
        generalize E.operE = ee at hne hres
        clear h0
        go_wp2_with fail
        go_ret
        rw [hres.out]
        exact ⟨rfl, ⟨F', hd4, fun i hi => by
          rcases HF.out i hi with h | h
          · exact .inl h
          · exact .inr (Nat.le_trans HB4.out.size h)⟩, (Dk.Upd.of_below HB4.out).trans U5 (fun i h => .inl h)⟩
end Go.Proofs.YtnldkpckojhbhaaGreat.V

/-
  What a disk's blocks are behind a group's writes.
-/
namespace Go.Proofs.YtnldkpckojhbhaaGreat.J
open Go.RowKit

theorem lastOf_front (uf ws : List (Nat × List UInt8)) (n : Nat) : ∀ k, k ≤ uf.length → Dk.lastOf (uf ++ ws) n k = Dk.lastOf uf n k
  | 0, _ => rfl
  | k + 1, h => by
    rw [Dk.lastOf, Dk.lastOf, List.getElem?_append_left (by omega), lastOf_front uf ws n k (by omega)]
theorem lastOf_snoc (uf : List (Nat × List UInt8)) (x : Nat × List UInt8) (n : Nat) : Dk.lastOf (uf ++ [x]) n (uf ++ [x]).length = if x.1 = n then some x.2 else Dk.lastOf uf n uf.length := by
  rw [List.length_append, List.length_singleton, Dk.lastOf, List.getElem?_concat_length, lastOf_front uf [x] n _ (Nat.le_refl _)]
theorem stand_snoc (D : Dk.DS) (x : Nat × List UInt8) (m n : Nat) : ({ D with uf := D.uf ++ [x], n := m } : Dk.DS).stand n = if x.1 = n then x.2 else D.stand n := by
  unfold Dk.DS.stand
  simp only [lastOf_snoc]
  split
  · rfl
  · rfl
theorem wrs_one (S f : Nat) (bs : List (List UInt8)) (k : Nat) : wrs S f bs (k + 1) = wrs S f bs k ++ [(2 + (f + k) % S, bs.getD k [])] := by simp [wrs, List.range_succ]
theorem grow_one (D : Dk.DS) (S f : Nat) (bs : List (List UInt8)) (k : Nat) : grow D S f bs (k + 1) = { grow D S f bs k with uf := (grow D S f bs k).uf ++ [(2 + (f + k) % S, bs.getD k [])], n := (grow D S f bs k).n + 1 } := by
  simp only [grow, wrs_one, List.append_assoc, Nat.add_assoc]
theorem grow_out (D : Dk.DS) (S f : Nat) (bs : List (List UInt8)) (p : Nat) : ∀ k, (∀ i, i < k → 2 + (f + i) % S ≠ p) → (grow D S f bs k).stand p = D.stand p
  | 0, _ => by rw [grow_zero]
  | k + 1, h => by
    rw [grow_one, stand_snoc, if_neg (h k (by omega)), grow_out D S f bs p k (fun i hi => h i (by omega))]
end Go.Proofs.YtnldkpckojhbhaaGreat.J
namespace Go.Proofs.YtnldkpckojhbhaaGreat.Dk
theorem blk_carryTo (uf : List (Nat × List UInt8)) (d : List UInt8) (nb k : Nat) (hk : k < nb) (hd : d.length = nb * 4096) (hu : ∀ w ∈ uf, w.1 < nb ∧ w.2.length = 4096) : ∀ n, n ≤ uf.length → (carryTo uf d n).length = nb * 4096 ∧ blk (carryTo uf d n) k = (lastOf uf k n).getD (blk d k)
  | 0, _ => ⟨hd, rfl⟩
  | n + 1, h => by
    obtain ⟨ih1, ih2⟩ := blk_carryTo uf d nb k hk hd hu n (by omega)
    have hg : uf[n]? = some uf[n] := List.getElem?_eq_getElem (by omega)
    obtain ⟨hw1, hw2⟩ := hu uf[n] (List.getElem_mem (by omega))
    have hfit : uf[n].1 * 4096 + 4096 ≤ (carryTo uf d n).length := by rw [ih1]; omega
    rw [carryTo, lastOf, hg]
    refine ⟨?_, ?_⟩
    · show (carry (carryTo uf d n) uf[n].1 uf[n].2 255).length = _
      rw [carry_length _ _ _ _ hfit hw2, ih1]
    · show blk (carry (carryTo uf d n) uf[n].1 uf[n].2 255) k = (if uf[n].1 = k then some uf[n].2 else lastOf uf k n).getD (blk d k)
      by_cases e : uf[n].1 = k
      · rw [if_pos e, ← e, blk_carry_all _ _ _ hfit hw2]
        rfl
      · rw [if_neg e, blk_carry_other _ _ _ _ _ hfit hw2 (fun h => e h.symm), ih2]
theorem stand_blk (D : DS) (ok : D.Ok) (k : Nat) (hk : k < D.nb) : blk D.image k = D.stand k := (blk_carryTo D.uf D.dur D.nb k hk ok.len ok.each D.uf.length (Nat.le_refl _)).2
end Go.Proofs.YtnldkpckojhbhaaGreat.Dk
namespace Go.Proofs.YtnldkpckojhbhaaGreat.J
theorem stand_flush {D : Dk.DS} (h : Calm D) (ok : D.Ok) (n : Nat) (hn : n < D.nb) : D.flush.stand n = D.stand n := by
  rw [h.flush.1, ← Dk.stand_blk D ok n hn]
  rfl
def pk (x : Int) (n : Nat) : Int := if x.tmod n < 0 then x.tmod n + n else x.tmod n
theorem pk_in (x : Int) (n : Nat) (h0 : 0 < n) : 0 ≤ pk x n ∧ pk x n < n := by
  have h1 : x.tmod n < n := Int.tmod_lt_of_pos x (by omega)
  have h2 : -(n : Int) < x.tmod n := Int.lt_tmod_of_pos x (by omega)
  unfold pk
  split <;> omega
theorem pick_eq (x : Int) (n : Nat) (N : Int) (w : World) (hN : N = (n : Int)) (h0 : 0 < n) (hn : n ≤ 2000000) :
    Calls Tryz.prog 43 #[.int .i64 x, .int .i64 N] w fun e w' => e = .returned (.int .i64 (pk x n)) ∧ w = w' := by
  subst hN
  have h1 : x.tmod n < n := Int.tmod_lt_of_pos x (by omega)
  have h2 : -(n : Int) < x.tmod n := Int.lt_tmod_of_pos x (by omega)
  unfold pk
  obtain ⟨y, hy⟩ : ∃ y, x.tmod n = y := ⟨_, rfl⟩
  rw [hy] at h1 h2 ⊢
  by_cases hneg : y < 0
  · rw [if_pos hneg]
    go_enter Tryz.func43, Tryz.ntmps43
    go_wp2
    go_ret
    exact ⟨rfl, rfl⟩
  · rw [if_neg hneg]
    go_enter Tryz.func43, Tryz.ntmps43
    go_wp2
    go_ret
    exact ⟨rfl, rfl⟩
end Go.Proofs.YtnldkpckojhbhaaGreat.J

/-
  The library's walk through a list of writes, from its end.
-/
namespace Go.Proofs.YtnldkpckojhbhaaGreat.Dk
open Go.RowKit Go.Shelf
attribute [local go_sem] Oper.semAt_some

abbrev Wr := Nat × (Nat × Nat × Nat)
def encW (x : Wr) : Array Value := #[.int .i64 (x.1 : Int), .agg #[.int .i64 (x.2.1 : Int), .slice (some ⟨x.2.2.1, 0, none⟩) 4096 x.2.2.2]]
def comes (ps : List (Nat × Nat × Nat)) (j : Nat) : Wr := (ps.length - 1 - j, ps[ps.length - 1 - j]?.getD (0, 0, 0))
def downs (ps : List (Nat × Nat × Nat)) (k : Nat) : List Wr := (List.range k).map (comes ps)
theorem downs_succ (ps : List (Nat × Nat × Nat)) (k : Nat) : downs ps (k + 1) = downs ps k ++ [comes ps k] := by simp [downs, List.range_succ]
theorem downs_length (ps : List (Nat × Nat × Nat)) (k : Nat) : (downs ps k).length = k := by simp [downs]

set_option maxRecDepth 100000 in
set_option maxHeartbeats 2000000 in
theorem back1_in (n : Nat) (hn : 1 ≤ n) (l Bs n₀ b len cap : Nat) (ps : List (Nat × Nat × Nat)) (hlen : ps.length = len) (hmax : len ≤ 1000000) (hb : b < n₀) (J Jx : List Wr → World → Prop)
    (hY : ∀ pre x W, J pre W → pre.length < len → YieldAt Fence.wide (n - 1) Tryz.prog l (encW x) W fun e W' =>
      (e = .returned (.bool true) ∧ J (pre ++ [x]) W' ∧ Below n₀ W W') ∨ (e = .returned (.bool false) ∧ Jx (pre ++ [x]) W'))
    (W : World) (hBs : W.cell? ⟨Bs, 0, none⟩ = some (.slice (some ⟨b, 0, none⟩) len cap)) (hBn : Bs < n₀)
    (hc : ∀ j (h : j < ps.length), W.cell? ⟨b, 0 + j * 2, none⟩ = some (.int .i64 (ps[j].1 : Int)) ∧ W.cell? ⟨b, 0 + j * 2 + 1, none⟩ = some (.slice (some ⟨ps[j].2.1, 0, none⟩) 4096 ps[j].2.2)) (h0 : J [] W) :
    CallsIn Fence.wide n Tryz.prog 209 #[.func (.yield l) #[] #[], .pointer (some ⟨Bs, 0, none⟩)] W fun e W' => (∃ v, e = .returned v) ∧
      ((∃ ys, ys = downs ps len ∧ J ys W') ∨ (∃ pre, (∃ k, k ≤ len ∧ pre = downs ps k) ∧ Jx pre W')) := by
  have Hlen : Hid _ := hlen
  have Hc : Hid _ := hc
  clear hlen hc
  refine callsIn_of_wp Tryz.func209 rfl trivial ?_ rfl
  simp only [Tryz.ntmps209, List.size_toArray, List.length_cons, List.length_nil, Nat.reduceAdd, Nat.reduceSub, Array.replicate_succ, Array.replicate_zero, List.push_toArray, List.append_toArray, List.nil_append, List.cons_append]
  gi_wp2
  gi_loopw [3] (fun i wr => ∃ k : Nat, k ≤ len ∧ i = .int .i64 ((len : Int) - 1 - (k : Int)) ∧ J (downs ps k) wr ∧ Below n₀ W wr)
    (fun i _ => (intOf i + 1).toNat)
  case atStart => exact ⟨0, Nat.zero_le _, by simp, h0, Below.refl _ _⟩
  case round =>
    obtain ⟨k, hk, rfl, hJs, hnx⟩ := hrel
    have hBs' := (hnx.cell (p := ⟨Bs, 0, none⟩) hBn).trans hBs
    by_cases hlt : k < len
    · obtain ⟨j, hj⟩ : ∃ j : Nat, j = len - 1 - k := ⟨_, rfl⟩
      have hji : (len : Int) - 1 - (k : Int) = (j : Int) := by omega
      have hjl : j < ps.length := by rw [Hlen.out]; omega
      obtain ⟨a0, a1⟩ := Hc.out j hjl
      have hcm : comes ps k = (j, ps[j]) := by
        unfold comes
        rw [Hlen.out, ← hj, List.getElem?_eq_getElem hjl]
        rfl
      obtain ⟨fn, tmps, assign, body, hy, hR⟩ := hY _ (comes ps k) wr hJs (by rw [downs_length]; exact hlt)
      rw [hcm] at hy
      dsimp only [encW] at hy
      have b0 := (hnx.cell (p := ⟨b, 0 + j * 2, none⟩) hb).trans a0
      have b1 := (hnx.cell (p := ⟨b, 0 + j * 2 + 1, none⟩) hb).trans a1
      simp only [Nat.zero_add] at b0 b1
      have hjn : (j : Int) < len := by omega
      rw [hji]
      generalize (ps[j]'hjl) = p at hy b0 b1 hcm
      obtain ⟨pb, pg, pc⟩ := p
      dsimp only at hy b0 b1
      have Hcm : Hid _ := hcm
      have Hji : Hid _ := hji
      have Hj : Hid _ := hj
      clear a0 a1 hcm hji hj
      gi_wp2
      refine hR.mono ?_
      rintro e W3 (⟨rfl, hJ3, hk3⟩ | ⟨rfl, hJx3⟩)
      · gi_wp2
        go_roundw
        case rel => exact ⟨k + 1, by omega, by congr 1; have := Hji.out; omega, by rw [downs_succ]; exact hJ3, hnx.trans hk3⟩
        case measure => simp [intOf]
      · gi_wp2
        refine bodyPost_ret (results_none rfl _ _ _) rfl ?_
        exact ⟨⟨_, rfl⟩, .inr ⟨_, ⟨k + 1, by omega, (downs_succ _ _).symm⟩, hJx3⟩⟩
    · obtain rfl : k = len := by omega
      have e1 : (k : Int) - 1 - (k : Int) = -1 := by omega
      rw [e1]
      gi_wp2
      go_end0
      exact ⟨⟨_, rfl⟩, .inl ⟨_, rfl, hJs⟩⟩

set_option maxRecDepth 100000 in
set_option maxHeartbeats 1000000 in
/-- .. of no writes: no round. -/
theorem back1_nil_in (n : Nat) (l Bs cap : Nat) (a : Option Addr) (J : List Wr → World → Prop) (W : World) (hBs : W.cell? ⟨Bs, 0, none⟩ = some (.slice a 0 cap)) (h0 : J [] W) :
    CallsIn Fence.wide n Tryz.prog 209 #[.func (.yield l) #[] #[], .pointer (some ⟨Bs, 0, none⟩)] W fun e W' => (∃ v, e = .returned v) ∧ J [] W' := by
  refine callsIn_of_wp Tryz.func209 rfl trivial ?_ rfl
  simp only [Tryz.ntmps209, List.size_toArray, List.length_cons, List.length_nil, Nat.reduceAdd, Nat.reduceSub, Array.replicate_succ, Array.replicate_zero, List.push_toArray, List.append_toArray, List.nil_append, List.cons_append]
  gi_wp2
  gi_loopw [3] (fun i wr => i = .int .i64 (-1) ∧ J [] wr) (fun _ _ => 0)
  case atStart => exact ⟨rfl, h0⟩
  case round =>
    obtain ⟨rfl, hJs⟩ := hrel
    gi_wp2
    go_end0
    exact ⟨⟨_, rfl⟩, hJs⟩

set_option maxHeartbeats 1000000 in
/-- slices.Backward: the list is boxed; the function captures the box. -/
theorem back_in (n : Nat) (a : Option Addr) (len cap : Nat) (w : World) :
    CallsIn Fence.wide n Tryz.prog 167 #[.slice a len cap] w fun e w' => e = .returned (.func (.func 209) #[] #[.pointer (some ⟨w.heap.size, 0, none⟩)]) ∧ w' = w.alloc (.cells #[.slice a len cap] 128) := by
  refine callsIn_of_wp Tryz.func167 rfl trivial ?_ rfl
  simp only [Tryz.ntmps167, List.size_toArray, List.length_cons, List.length_nil, Nat.reduceAdd, Nat.reduceSub, Array.replicate_succ, Array.replicate_zero, List.push_toArray, List.append_toArray, List.nil_append, List.cons_append]
  gi_wp2
  go_ret
  exact ⟨rfl, rfl⟩

def Wrs (n₀ : Nat) (w : World) (v : Value) (ps : List (Nat × Nat × Nat)) : Prop :=
  (∃ a cap, v = .slice a 0 cap ∧ ps = []) ∨ ∃ b cap, v = .slice (some ⟨b, 0, none⟩) ps.length cap ∧ b < n₀ ∧ ∀ j (h : j < ps.length), w.cell? ⟨b, 0 + j * 2, none⟩ = some (.int .i64 (ps[j].1 : Int)) ∧ w.cell? ⟨b, 0 + j * 2 + 1, none⟩ = some (.slice (some ⟨ps[j].2.1, 0, none⟩) 4096 ps[j].2.2)
theorem Wrs.below {n₀ : Nat} {A B : World} {v : Value} {ps : List (Nat × Nat × Nat)} (hb : Below n₀ A B) (h : Wrs n₀ A v ps) : Wrs n₀ B v ps := by
  rcases h with h | ⟨b, cap, hv, hlt, hc⟩
  · exact .inl h
  · refine .inr ⟨b, cap, hv, hlt, fun j hj => ?_⟩
    obtain ⟨h0, h1⟩ := hc j hj
    exact ⟨(hb.cell (p := ⟨b, 0 + j * 2, none⟩) hlt).trans h0, (hb.cell (p := ⟨b, 0 + j * 2 + 1, none⟩) hlt).trans h1⟩

theorem back_stops (n : Nat) (hn : 1 ≤ n) (Bs n₀ : Nat) (v : Value) (ps : List (Nat × Nat × Nat)) (hmax : ps.length ≤ 1000000) (w : World) (hBs : Bs < n₀) (hn₀ : n₀ ≤ w.heap.size) (hc : w.cell? ⟨Bs, 0, none⟩ = some v) (hI : Wrs n₀ w v ps) :
    SeqStopsK Fence.wide n Tryz.prog 209 #[.pointer (some ⟨Bs, 0, none⟩)] encW (Below n₀) (fun ys => ys = downs ps ps.length) (fun pre => ∃ k, k ≤ ps.length ∧ pre = downs ps k) ps.length w := fun l J Jx W hW _ _ hY h0 => by
  have hc' := (hW.cell (p := ⟨Bs, 0, none⟩) (Nat.lt_of_lt_of_le hBs hn₀)).trans hc
  rcases hI.below (hW.mono hn₀) with ⟨a, cap, rfl, rfl⟩ | ⟨b, cap, rfl, hb, hcs⟩
  · exact (back1_nil_in n l Bs cap a J W hc' h0).mono fun e W' ⟨he, hj⟩ => ⟨he, .inl ⟨_, rfl, hj⟩⟩
  · exact back1_in n hn l Bs n₀ b ps.length cap ps rfl hmax hb J Jx hY W hc' hBs hcs h0
end Go.Proofs.YtnldkpckojhbhaaGreat.Dk

/-
  Copy.
-/
namespace Go.Proofs.YtnldkpckojhbhaaGreat.Dk
open Go.RowKit

theorem Lies.shape {w : World} {g : Nat} {D : DS} {F : Nat → Prop} {gd cd : Nat} {vu : Value} {ps : List (Nat × Nat × Nat)} (h : Lies w g D F gd cd vu ps) : ∃ av cu, vu = .slice av D.uf.length cu := by
  have hrow := h.row
  rcases hrow.2 with ⟨h1, h2⟩ | ⟨gv, cu, cur, hv, _⟩
  · exact ⟨none, 0, by rw [h1, h2]⟩
  · exact ⟨some ⟨gv, 0, none⟩, cu, hv⟩

end Go.Proofs.YtnldkpckojhbhaaGreat.Dk
