/-
  SuPutInode, SuReads, SuGetNode, SuGetInode, SuChg, SuForms, SuSame, SuLoads, SuRefPut, SuRefSuper, SuGetSuper, SuFormS, DkBytes: put together.
-/
import Derived.Test.YtdkaacjeogifdaaG1
import Derived.Laws.OwnMore
import Derived.Laws.StructEq
import Derived.BigQuiet
import Derived.Deep.RegionWith
import Derived.WalkKit
import Derived.Orders
import Derived.RegionTactic
import Derived.Test.YtdkaacjeogifdaaRows
import Derived.WalkSpells
import Derived.WalkLawsBesides
import Derived.Laws.BytesArg
import Derived.Laws.AppendOwnNone
import Derived.ProofKit
/-
  An inode: what is right, its bytes, PutInode.
-/
namespace Go.Proofs.Ytdkaacjeogifdaa.Su
open Go.RowKit

/-- a block that was made for one value -/
def Box (w : World) (g : Nat) (cs : Array Value) (t : TypeId) : Prop := w.heap[g]? = some (.cells cs t (0, 0))
theorem Box.cell {w : World} {g : Nat} {cs : Array Value} {t : TypeId} (h : Box w g cs t) (j : Nat) : w.cell? ⟨g, j, none⟩ = cs[j]? := cell_of_row w g j cs t (0, 0) h
theorem Box.lt {w : World} {g : Nat} {cs : Array Value} {t : TypeId} (h : Box w g cs t) : g < w.heap.size := (Array.getElem?_eq_some_iff.1 h).1
theorem Box.below {w w' : World} {g : Nat} {cs : Array Value} {t : TypeId} (h : Box w g cs t) (hb : Below w.heap.size w w') : Box w' g cs t := (hb.block g h.lt).trans h
theorem Box.new (w : World) (cs : Array Value) (t : TypeId) : Box (w.alloc (.cells cs t)) w.heap.size cs t := heap_alloc_new w _

theorem own_ne32 {w : World} {B n Q : Nat} {v : Value} {xs : List Value} {cs : Array Value} (h : w.ownsRow B 5 1 v n xs) (hq : Box w Q cs 32) : ∀ k, v.ownBlock = some k → Q ≠ k := by
  intro k hk e
  subst e
  unfold Box at hq
  rcases h.2 with ⟨rfl, _⟩ | ⟨g, cap, cur, rfl, hb, hg, _⟩
  · simp [Value.ownBlock] at hk
  · simp [Value.ownBlock] at hk
    subst hk
    rw [hg] at hq
    simp at hq

def unusedI (k : Nat) (l s : Int) (n : Nat) (d : Int) : Bool := ((k : Int) == 0) && ((l == 0) && ((s == 0) && (((n : Int) == 0) && (d == 0))))
def usedI (k : Nat) (l s : Int) (es : List Ext) (d : Int) : Bool := (((k : Int) == 1) || ((k : Int) == 2)) && (wi l 0 100 && (wi s 0 131072 && (decide ((es.length : Int) ≤ 3) && (rightFrom 0 es && wi d 0 511))))

theorem usedI_nat {k : Nat} {l s d : Int} {es : List Ext} (h : usedI k l s es d = true) : (k = 1 ∨ k = 2) ∧ (0 ≤ l ∧ l ≤ 100) ∧ (0 ≤ s ∧ s ≤ 131072) ∧ es.length ≤ 3 ∧ rightFrom 0 es = true ∧ (0 ≤ d ∧ d ≤ 511) := by
  simp only [usedI, wi, Bool.and_eq_true, Bool.or_eq_true, decide_eq_true_eq, beq_iff_eq] at h
  obtain ⟨h1, h2, h3, h4, h5, h6⟩ := h
  exact ⟨by omega, h2, h3, by omega, h5, h6⟩

def headI (k l s : Nat) (es : List Ext) (d : Nat) : List UInt8 := (((((toBE 1 k ++ toBE 1 es.length) ++ toBE 2 l) ++ toBE 4 s) ++ extsB es) ++ noughts (26 - (8 + es.length * 6))) ++ toBE 2 d
theorem headI_length (k l s : Nat) (es : List Ext) (d : Nat) (h : es.length ≤ 3) : (headI k l s es d).length = 28 := by
  simp only [headI, List.length_append, toBE_length, noughts_length, extsB_length]; omega

def inodeB (k l s : Nat) (es : List Ext) (d : Nat) : List UInt8 := (headI k l s es d ++ noughts 32) ++ toBE 4 (crc 0 (headI k l s es d ++ noughts 32))
theorem inodeB_length (k l s : Nat) (es : List Ext) (d : Nat) (h : es.length ≤ 3) : (inodeB k l s es d).length = 64 := by
  rw [inodeB, List.length_append, List.length_append, headI_length k l s es d h, noughts_length, toBE_length]

def putInode (k : Nat) (l s : Int) (es : List Ext) (d : Int) : Option (List UInt8) :=
  if unusedI k l s es.length d then some (noughts 64) else if usedI k l s es d then some (inodeB k l.toNat s.toNat es d.toNat) else none

end Go.Proofs.Ytdkaacjeogifdaa.Su

/-
  What the Gets read: numbers, extents, an inode.
-/
namespace Go.Proofs.Ytdkaacjeogifdaa.Su
open Go.RowKit

/-- The number of so many bytes from a place on; 0 where they are not all there. -/
def num (xs : List UInt8) (i : Int) (size : Nat) : Nat := (numAt xs i size).getD 0
theorem num_lt (xs : List UInt8) (i : Int) (size : Nat) : num xs i size < 256 ^ size := numAt_lt xs i size
theorem u64_o (cap n : Nat) (a : Option Addr) (xs : List UInt8) (i : Int) (w : World) (hn : xs.length = n) (hm : n ≤ 9223372036854775807) (hr : Rd w a xs) :
    Calls Try.prog 51 #[.slice a n cap, .int .i64 i] w fun e w' => ∃ ok, e = .returned (.tuple #[.int .u64 (num xs i 8 : Nat), .bool ok]) ∧ w = w' := by
  subst hn; refine (u64_any a cap xs i w hm hr).mono ?_; rintro e w' ⟨rfl, rfl⟩; exact ⟨_, rfl, rfl⟩

/-- a number of 64 bits as a whole number -/
def i64 (v : Nat) : Int := wrap64 (v : Int)

theorem next8_at (gb ga n cap : Nat) (a : Option Addr) (xs : List UInt8) (p : Int) (w : World) (hn : xs.length = n) (hm : n ≤ 9223372036854775807) (hr : Rd w a xs) (hbx : Box w gb #[.slice a n cap] 26) (h1 : OneI w ga p) (hp : 0 ≤ p ∧ p ≤ 1000000) :
    Calls Try.prog 50 #[.pointer (some ⟨gb, 0, none⟩), .pointer (some ⟨ga, 0, none⟩)] w fun e w' => e = .returned (.int .i64 (i64 (num xs p 8))) ∧ OneI w' ga (p + 8) ∧ w.grownBy w' (some ga) := by
  have c0 := hbx.cell 0
  simp only [List.getElem?_toArray, List.getElem?_cons_zero] at c0
  have c1 := h1.cell
  have f1 := h1.frozen
  have hlt := num_lt xs p 8
  obtain ⟨V, hV⟩ : ∃ V, V = num xs p 8 := ⟨_, rfl⟩
  have cc := u64_o cap n a xs p w hn hm hr
  rw [← hV] at hlt cc ⊢
  clear hn hV
  go_enter Try.func50, Try.ntmps50
  go_wp2_with fail
  refine cc.mono ?_
  rintro e w' ⟨ok, rfl, rfl⟩
  go_wp2
  go_ret
  refine ⟨?_, h1.store _, grown_store _ _ _ _⟩
  rfl


def ec (e : Ext) : List Value := [.int .i64 e.a, .int .i64 e.s, .int .i64 e.c]
def ecs (es : List Ext) : List Value := es.flatMap ec
theorem ecs_length (es : List Ext) : (ecs es).length = es.length * 3 := by
  induction es with
  | nil => rfl
  | cons e l ih => simp [ecs, ec] at ih ⊢; omega
theorem ecs_at (es : List Ext) (j : Nat) (h : j < es.length) : (ecs es)[j * 3]? = some (.int .i64 es[j].a) ∧ (ecs es)[j * 3 + 1]? = some (.int .i64 es[j].s) ∧ (ecs es)[j * 3 + 2]? = some (.int .i64 es[j].c) := by
  induction es generalizing j with
  | nil => simp at h
  | cons e l ih =>
    cases j with
    | zero => exact ⟨rfl, rfl, rfl⟩
    | succ j =>
      have := ih j (by simpa using h)
      rw [show (j + 1) * 3 = j * 3 + 3 by omega]
      exact this
theorem ecs_oneCell (es : List Ext) : ∀ v ∈ ecs es, v.oneCell' = true := by
  intro v hv
  obtain ⟨e, _, h⟩ := List.mem_flatMap.1 hv
  simp [ec] at h
  rcases h with rfl | rfl | rfl <;> rfl

theorem ownsE_parts {w : World} {B n : Nat} {v : Value} {es : List Ext} (h : w.ownsRow B 46 3 v n (ecs es)) :
    ∃ a cap, v = .slice a n cap ∧ es.length = n ∧ n ≤ cap ∧ cap ≤ 9223372036854775807 ∧ RdE w a es ∧ (a = none → cap = 0) ∧ (∀ ad, a = some ad → B ≤ ad.block ∧ ad.block < w.heap.size) := by
  have hl : es.length = n := by have := h.1; rw [ecs_length] at this; omega
  rcases h.2 with ⟨rfl, rfl⟩ | ⟨g, cap, cur, rfl, hb, hg, hnc, hcm, hcs, htake⟩
  · have h0 : es = [] := List.eq_nil_of_length_eq_zero hl
    subst h0
    exact ⟨none, 0, rfl, rfl, Nat.le_refl _, by omega, RdE.nil _ _, fun _ => rfl, fun _ h => by simp at h⟩
  · refine ⟨some ⟨g, 0, none⟩, cap, rfl, hl, hnc, by unfold maxLen at hcm; omega, fun _ => ⟨g, 0, rfl, fun j hj => ?_⟩, fun h => by simp at h, fun ad h => ?_⟩
    · have hc := h.cells (g := g) rfl
      obtain ⟨h0, h1, h2⟩ := ecs_at es j hj
      replace h0 := hc _ _ h0
      replace h1 := hc _ _ h1
      replace h2 := hc _ _ h2
      rw [Addr.add_lit] at h0 h1 h2
      exact ⟨h0, h1, h2⟩
    · obtain rfl := Option.some.inj h
      exact ⟨hb, (Array.getElem?_eq_some_iff.1 hg).1⟩

/-- so many extents from a place on -/
def readE (xs : List UInt8) (p k : Nat) : List Ext := (List.range k).map fun j => ⟨(num xs ((p + 6 * j : Nat) : Int) 2 : Nat), (num xs ((p + 6 * j + 2 : Nat) : Int) 2 : Nat), (num xs ((p + 6 * j + 4 : Nat) : Int) 2 : Nat)⟩
theorem readE_length (xs : List UInt8) (p k : Nat) : (readE xs p k).length = k := by simp [readE]
theorem readE_succ (xs : List UInt8) (p k : Nat) : readE xs p (k + 1) = readE xs p k ++ [⟨(num xs ((p + 6 * k : Nat) : Int) 2 : Nat), (num xs ((p + 6 * k + 2 : Nat) : Int) 2 : Nat), (num xs ((p + 6 * k + 4 : Nat) : Int) 2 : Nat)⟩] := by simp [readE, List.range_succ]

theorem own_tag {w : World} {B e z n Q t : Nat} {v : Value} {xs : List Value} {cs : Array Value} {fr : Nat × Nat} (h : w.ownsRow B e z v n xs) (hq : w.heap[Q]? = some (.cells cs t fr)) (ht : e ≠ t) : some Q ≠ v.ownBlock := by
  intro hk
  rcases h.2 with ⟨rfl, _⟩ | ⟨g, cap, cur, rfl, hb, hg, _⟩
  · simp [Value.ownBlock] at hk
  · simp [Value.ownBlock] at hk
    subst hk
    rw [hg] at hq
    simp at hq
    exact ht hq.2.1

theorem Box.frozen {w : World} {g : Nat} {cs : Array Value} {t : TypeId} (h : Box w g cs t) (j : Nat) : w.frozen? ⟨g, j, none⟩ = false := frozen_of_row w g j cs t h

theorem Box.store {w : World} {g : Nat} {cs : Array Value} {t : TypeId} (h : Box w g cs t) (j : Nat) (v : Value) : Box (w.setCell ⟨g, j, none⟩ v) g (cs.setIfInBounds j v) t := heap_setCell_same w g j cs t v h

end Go.Proofs.Ytdkaacjeogifdaa.Su

/-
  GetNode: what a block of extents says.
-/
namespace Go.Proofs.Ytdkaacjeogifdaa.Su
open Go.RowKit

theorem readE_nat (xs : List UInt8) (p k : Nat) : ∀ e ∈ readE xs p k, natE e := by
  intro e he
  obtain ⟨j, _, rfl⟩ := List.mem_map.1 he
  have h1 := num_lt xs ((p + 6 * j : Nat) : Int) 2
  have h2 := num_lt xs ((p + 6 * j + 2 : Nat) : Int) 2
  have h3 := num_lt xs ((p + 6 * j + 4 : Nat) : Int) 2
  simp only [natE]
  omega
theorem natE_wf {es : List Ext} (h : ∀ e ∈ es, natE e) : ∀ e ∈ es, wfE e := by
  intro e he
  have := h e he
  simp only [natE, wfE] at this ⊢
  omega

def erG (b : Bool) : Int := if b then 0 else 30
def GetsN (w w' : World) (o : Option (List Ext)) (r : Ending) : Prop := ∃ v, r = .returned (.tuple #[v, .int .i64 (erG o.isSome)]) ∧ w'.ownsRow w.heap.size 46 3 v (o.getD []).length (ecs (o.getD [])) ∧ Below w.heap.size w w'

def listN (xs : List UInt8) : List Ext := readE xs 8 (num xs 0 2)
def getNode (xs : List UInt8) : Option (List Ext) :=
  if decide (xs.length = 4096) && (decide (num xs 0 2 ≤ 250) && (decide (num xs 2 2 = 0) && (rightFrom 0 (listN xs) && (isThen (xs.drop 8) (extsB (listN xs)) && decide (num xs 4 4 = crc 0 (xs.drop 8)))))) then some (listN xs) else none

end Go.Proofs.Ytdkaacjeogifdaa.Su

/-
  GetInode: what an inode's bytes say.
-/
namespace Go.Proofs.Ytdkaacjeogifdaa.Su
open Go.RowKit

structure Ino where
  k : Nat
  l : Int
  s : Int
  d : List Ext
  n : Int
def zeroI : Ino := ⟨0, 0, 0, [], 0⟩
def inoV (i : Ino) (v : Value) : Value := .agg #[.int .u8 (i.k : Int), .int .i64 i.l, .int .i64 i.s, v, .int .i64 i.n]
def GetsI (w w' : World) (o : Option Ino) (r : Ending) : Prop := ∃ v, r = .returned (.tuple #[inoV (o.getD zeroI) v, .int .i64 (erG o.isSome)]) ∧ w'.ownsRow w.heap.size 46 3 v (o.getD zeroI).d.length (ecs (o.getD zeroI).d) ∧ Below w.heap.size w w'
def listI (xs : List UInt8) : List Ext := readE xs 8 (num xs 1 1)
def readI (xs : List UInt8) : Ino := ⟨num xs 0 1, (num xs 2 2 : Nat), (num xs 4 4 : Nat), listI xs, (num xs 26 2 : Nat)⟩
def getInode (xs : List UInt8) : Option Ino :=
  if xs.length ≠ 64 then none else if xs.all (· == 0) then some zeroI else
  if usedI (num xs 0 1) (num xs 2 2 : Nat) (num xs 4 4 : Nat) (listI xs) (num xs 26 2 : Nat) && (isThen (xs.take 60) (headI (num xs 0 1) (num xs 2 2) (num xs 4 4) (listI xs) (num xs 26 2)) && decide (num xs 60 4 = crc 0 (xs.take 60))) then some (readI xs) else none

theorem isThen_nil (xs : List UInt8) : isThen xs [] = xs.all (· == 0) := by simp [isThen]

theorem tail_nil (w w' : World) (h : Below w.heap.size w w') (i : Int) (b : Bool) (hi : i = erG b) : ∃ v, Ending.returned (.tuple #[.agg #[.int .u8 0, .int .i64 0, .int .i64 0, .slice none 0 0, .int .i64 0], .int .i64 i]) = .returned (.tuple #[inoV zeroI v, .int .i64 (erG b)]) ∧ w'.ownsRow w.heap.size 46 3 v zeroI.d.length (ecs zeroI.d) ∧ Below w.heap.size w w' :=
  ⟨.slice none 0 0, by rw [hi]; rfl, World.ownsRow_nil _ _ _ _, h⟩

end Go.Proofs.Ytdkaacjeogifdaa.Su

/-
  A change within four bytes: what the walks ask of lists.
-/
namespace Go.Proofs.Ytdkaacjeogifdaa.Su
open Go.RowKit

/-- The first k bytes from a place on, taken xor the bytes of a number, the lowest first. -/
def chg (xs : List UInt8) (p ch : Nat) : Nat → List UInt8
  | 0 => xs
  | k + 1 => (chg xs p ch k).set (p + k) ((chg xs p ch k).getD (p + k) 0 ^^^ UInt8.ofNat (ch / 2 ^ (8 * k)))

theorem chg_length (xs : List UInt8) (p ch k : Nat) : (chg xs p ch k).length = xs.length := by
  induction k with
  | zero => rfl
  | succ k ih => rw [chg, List.length_set, ih]
theorem chg_take (xs : List UInt8) (p ch k : Nat) : (chg xs p ch k).take p = xs.take p := by
  induction k with
  | zero => rfl
  | succ k ih => rw [chg, List.take_set_of_le (by omega), ih]
theorem chg_drop (xs : List UInt8) (p ch k : Nat) : (chg xs p ch k).drop (p + k) = xs.drop (p + k) := by
  induction k with
  | zero => rfl
  | succ k ih =>
    rw [chg, List.drop_set_of_lt (by omega), show p + (k + 1) = (p + k) + 1 by omega, ← List.drop_drop, ih, List.drop_drop]

theorem parts (xs : List UInt8) (p k : Nat) : xs = xs.take p ++ ((xs.drop p).take k ++ xs.drop (p + k)) := by
  have h : xs.drop (p + k) = (xs.drop p).drop k := by rw [List.drop_drop]
  rw [h, List.take_append_drop, List.take_append_drop]

/-- If a change of up to four bytes next to each other is not seen, nothing has changed. -/
theorem chg_seen (xs : List UInt8) (p ch k : Nat) (hk : k ≤ 4) (h : crc 0 xs = crc 0 (chg xs p ch k)) : xs = chg xs p ch k := by
  have h1 := parts xs p k
  have h2 := parts (chg xs p ch k) p k
  rw [chg_take, chg_drop] at h2
  rw [h2] at h
  rw [h2]
  generalize hm : ((chg xs p ch k).drop p).take k = zs at h ⊢
  have hz : zs.length = ((xs.drop p).take k).length := by rw [← hm]; simp [chg_length]
  have e : (xs.drop p).take k = zs := by
    apply crc_burst (xs.take p) _ _ (xs.drop (p + k)) hz.symm (by simp; omega)
    rw [← h1]
    exact h
  rw [← e]
  exact h1

theorem chg_byte (c : UInt8) (ch k : Nat) : bits .xor .u8 (c.toNat : Int) ((ch : Int) / 2 ^ (8 * k) % 256) = ((c ^^^ UInt8.ofNat (ch / 2 ^ (8 * k))).toNat : Int) := by
  have e : (ch : Int) / 2 ^ (8 * k) % 256 = (((ch / 2 ^ (8 * k)) % 256 : Nat) : Int) := by simp
  rw [e, xor_u8 _ _ (u8_lt c) (by omega), UInt8.toNat_xor, ofNat_toNat]

theorem bcs_set (xs : List UInt8) (j : Nat) (c : UInt8) : (bcs xs).set j (.int .u8 (c.toNat : Int)) = bcs (xs.set j c) := by
  simp [bcs, bc, List.map_set]

theorem owns_rd_at {w : World} {B n g cap : Nat} {ys : List UInt8} (h : w.ownsRow B 5 1 (.slice (some ⟨g, 0, none⟩) n cap) n (bcs ys)) : Rd w (some ⟨g, 0, none⟩) ys := fun _ => ⟨g, 0, rfl, fun j hj => by
  have := h.cells (g := g) rfl j _ (bcs_getElem? ys j hj)
  rw [Addr.add_lit] at this
  exact this⟩

theorem same_tell (xs zs : List UInt8) (h : crc 0 xs = crc 0 zs → xs = zs) : (((crc 0 xs : Nat) : Int) == ((crc 0 zs : Nat) : Int)) = (xs == zs) := by
  by_cases e : xs = zs
  · subst e; simp
  · have hne : crc 0 xs ≠ crc 0 zs := fun h' => e (h h')
    have h1 : (xs == zs) = false := by simpa using e
    have h2 : (((crc 0 xs : Nat) : Int) == ((crc 0 zs : Nat) : Int)) = false := by simp; omega
    rw [h1, h2]

/-- A number from 0 to n - 1 out of any number. -/
theorem pick_at (x : Int) (n : Nat) (w : World) (h0 : 0 < n) (hn : n ≤ 20000) :
    Calls Try.prog 22 #[.int .i64 x, .int .i64 n] w fun e w' => ∃ p : Nat, p < n ∧ e = .returned (.int .i64 p) ∧ w = w' := by
  have h1 : x.tmod n < n := Int.tmod_lt_of_pos x (by omega)
  have h2 : -(n : Int) < x.tmod n := Int.lt_tmod_of_pos x (by omega)
  obtain ⟨y, hy⟩ : ∃ y, x.tmod n = y := ⟨_, rfl⟩
  rw [hy] at h1 h2
  go_enter Try.func22, Try.ntmps22
  go_wp2
  · go_ret
    exact ⟨(y + n).toNat, by omega, by
      have e : ((y + n).toNat : Int) = y + n := by omega
      rw [e]
      rfl, rfl⟩
  · go_ret
    exact ⟨y.toNat, by omega, by
      have e : (y.toNat : Int) = y := by omega
      rw [e]
      rfl, rfl⟩

end Go.Proofs.Ytdkaacjeogifdaa.Su

/-
  One form each: what is put is got back, what is got is put the same, and a change within four bytes is seen.
-/
namespace Go.Proofs.Ytdkaacjeogifdaa.Su
open Go.RowKit

theorem all_zero (xs : List UInt8) (h : xs.all (· == 0) = true) : xs = noughts xs.length := by
  apply List.ext_getElem
  · rw [noughts_length]
  · intro i h1 h2
    have := (List.all_eq_true.1 h) xs[i] (List.getElem_mem h1)
    simp only [beq_iff_eq] at this
    rw [this]
    simp [noughts]
theorem noughts_all (n : Nat) : (noughts n).all (· == 0) = true := by simp [noughts]

theorem isThen_true {xs ys : List UInt8} (h : isThen xs ys = true) : ys.length ≤ xs.length ∧ xs = ys ++ noughts (xs.length - ys.length) := by
  simp only [isThen, Bool.and_eq_true, decide_eq_true_eq, beq_iff_eq] at h
  obtain ⟨⟨h1, h2⟩, h3⟩ := h
  refine ⟨h1, ?_⟩
  have h4 := all_zero _ h3
  rw [List.length_drop] at h4
  rw [← h4]
  exact ((List.take_append_drop ys.length xs).symm.trans (by rw [h2]))
theorem isThen_self (ys : List UInt8) (k : Nat) : isThen (ys ++ noughts k) ys = true := by
  simp [isThen, noughts_all]

theorem num_put (pre post : List UInt8) (k v : Nat) (i : Int) (hi : i = (pre.length : Int)) (hv : v < 256 ^ k) : num (pre ++ (toBE k v ++ post)) i k = v := by
  unfold num
  rw [numAt_put pre post k v i hi, Option.getD_some, Nat.mod_eq_of_lt hv]

theorem i64_in (v : Nat) (h : v < 9223372036854775808) : i64 v = (v : Int) := by
  unfold i64 wrap64
  omega

theorem rightS_lt {b e q t : Int} (h : rightS b e q t = true) : ∃ b' e' q' t' : Nat, b = b' ∧ e = e' ∧ q = q' ∧ t = t' ∧ b' < 9223372036854775808 ∧ e' < 9223372036854775808 ∧ q' < 9223372036854775808 ∧ t' < 9223372036854775808 := by
  have := rightS_nat h
  exact ⟨b.toNat, e.toNat, q.toNat, t.toNat, by omega, by omega, by omega, by omega, by omega, by omega, by omega, by omega⟩

/-! ### node -/
theorem extsB_split (es : List Ext) (j : Nat) (h : j < es.length) : extsB es = extsB (es.take j) ++ (extB es[j] ++ extsB (es.drop (j + 1))) := by
  have e : es = es.take j ++ (es[j] :: es.drop (j + 1)) := by rw [← List.drop_eq_getElem_cons h, List.take_append_drop]
  have e2 : extsB es = extsB (es.take j ++ (es[j] :: es.drop (j + 1))) := by rw [← e]
  rw [e2]
  unfold extsB
  rw [List.flatMap_append, List.flatMap_cons]
theorem natE_get {e : Ext} (h : natE e) : ((e.a.toNat : Int) = e.a ∧ e.a.toNat < 256 ^ 2) ∧ ((e.s.toNat : Int) = e.s ∧ e.s.toNat < 256 ^ 2) ∧ ((e.c.toNat : Int) = e.c ∧ e.c.toNat < 256 ^ 2) := by
  obtain ⟨h1, h2, h3⟩ := h
  refine ⟨⟨?_, ?_⟩, ⟨?_, ?_⟩, ⟨?_, ?_⟩⟩ <;> omega
theorem readE_exts (pre post : List UInt8) (es : List Ext) (p : Nat) (hp : pre.length = p) (hn : ∀ e ∈ es, natE e) : readE (pre ++ (extsB es ++ post)) p es.length = es := by
  apply List.ext_getElem
  · rw [readE_length]
  · intro j h1 h2
    have hj : j < es.length := h2
    obtain ⟨⟨a1, a2⟩, ⟨s1, s2⟩, ⟨c1, c2⟩⟩ := natE_get (hn es[j] (List.getElem_mem hj))
    have hl : (extsB (es.take j)).length = j * 6 := by rw [extsB_length, List.length_take]; omega
    obtain ⟨X, hX⟩ : ∃ X, X = extsB (es.drop (j + 1)) ++ post := ⟨_, rfl⟩
    have e : pre ++ (extsB es ++ post) = (pre ++ extsB (es.take j)) ++ (toBE 2 es[j].a.toNat ++ (toBE 2 es[j].s.toNat ++ (toBE 2 es[j].c.toNat ++ X))) := by
      rw [extsB_split es j hj, extB, hX]
      simp only [List.append_assoc]
    have n0 : num (pre ++ (extsB es ++ post)) ((p + 6 * j : Nat) : Int) 2 = es[j].a.toNat := by
      rw [e]
      exact num_put _ _ 2 _ _ (by rw [List.length_append, hl, hp]; omega) a2
    have n1 : num (pre ++ (extsB es ++ post)) ((p + 6 * j + 2 : Nat) : Int) 2 = es[j].s.toNat := by
      rw [e, ← List.append_assoc]
      exact num_put _ _ 2 _ _ (by rw [List.length_append, List.length_append, hl, hp, toBE_length]; omega) s2
    have n2 : num (pre ++ (extsB es ++ post)) ((p + 6 * j + 4 : Nat) : Int) 2 = es[j].c.toNat := by
      rw [e, ← List.append_assoc, ← List.append_assoc]
      exact num_put _ _ 2 _ _ (by rw [List.length_append, List.length_append, List.length_append, hl, hp, toBE_length, toBE_length]; omega) c2
    simp only [readE, List.getElem_map, List.getElem_range]
    rw [n0, n1, n2, a1, s1, c1]

theorem nodeB_eq (es : List Ext) : nodeB es = ([] ++ (toBE 2 es.length ++ (noughts 2 ++ (toBE 4 (crc 0 (bodyN es)) ++ bodyN es)))) := by simp [nodeB]
theorem zero2 : toBE 2 0 = noughts 2 := by decide
theorem nodeB_drop (es : List Ext) : (nodeB es).drop 8 = bodyN es := by
  unfold nodeB
  rw [← List.append_assoc]
  exact List.drop_left' (by simp only [List.length_append, toBE_length, noughts_length])
theorem getNode_put (es : List Ext) (h1 : es.length ≤ 250) (h2 : rightFrom 0 es = true) : getNode (nodeB es) = some es := by
  have hn := natE_of_right es 0 (by omega) h2
  have c0 : num (nodeB es) 0 2 = es.length := by
    rw [nodeB_eq]; exact num_put _ _ 2 _ _ rfl (by omega)
  have c1 : num (nodeB es) 2 2 = 0 := by
    rw [nodeB_eq, ← zero2, List.nil_append]; exact num_put _ _ 2 0 _ (by rw [toBE_length]; rfl) (by decide)
  have c2 : num (nodeB es) 4 4 = crc 0 (bodyN es) := by
    rw [nodeB]; exact num_put _ _ 4 _ _ (by rw [List.length_append, toBE_length, noughts_length]; rfl) (by have := crc_lt 0 (bodyN es); omega)
  have hl : listN (nodeB es) = es := by
    unfold listN
    rw [c0]
    have e : nodeB es = ((toBE 2 es.length ++ noughts 2) ++ toBE 4 (crc 0 (bodyN es))) ++ (extsB es ++ noughts (4088 - es.length * 6)) := by simp only [nodeB, bodyN, List.append_assoc]
    rw [e]
    exact readE_exts _ _ es 8 (by simp only [List.length_append, toBE_length, noughts_length]) hn
  unfold getNode
  rw [hl, c0, c1, c2, nodeB_drop, nodeB_length es h1, h2, decide_eq_true h1]
  have ht : isThen (bodyN es) (extsB es) = true := isThen_self _ _
  rw [ht]
  simp

theorem if_some {α : Type} {c : Bool} {x y : α} (h : (if c then some x else none) = some y) : c = true ∧ x = y := by
  cases c with
  | false => simp at h
  | true => exact ⟨rfl, by simpa using h⟩

theorem head4 (xs : List UInt8) (k n : Nat) (h : k + n ≤ xs.length) : (xs.drop k).take n = toBE n (num xs (k : Int) n) := by
  unfold num
  rw [numAt_some (by omega), Option.getD_some]
  have hl : ((xs.drop k).take n).length = n := by simp; omega
  have := toBE_beNat ((xs.drop k).take n)
  rw [hl] at this
  exact this.symm

theorem getNode_some {xs : List UInt8} {es : List Ext} (h : getNode xs = some es) : (es.length ≤ 250 ∧ rightFrom 0 es = true) ∧ nodeB es = xs := by
  obtain ⟨hc, hx⟩ := if_some h
  simp only [Bool.and_eq_true, decide_eq_true_eq] at hc
  obtain ⟨hl, h250, hz, hr, ht, hs⟩ := hc
  subst hx
  have hle : (listN xs).length = num xs 0 2 := readE_length _ _ _
  refine ⟨⟨by omega, hr⟩, ?_⟩
  obtain ⟨t1, t2⟩ := isThen_true ht
  have hb : xs.drop 8 = bodyN (listN xs) := by
    rw [t2, bodyN]
    congr 2
    rw [List.length_drop, hl, extsB_length]
  have p0 := head4 xs 0 2 (by omega)
  have p1 := head4 xs 2 2 (by omega)
  have p2 := head4 xs 4 4 (by omega)
  have e : xs = (xs.drop 0).take 2 ++ ((xs.drop 2).take 2 ++ ((xs.drop 4).take 4 ++ xs.drop 8)) := by
    have e1 : (xs.drop 4).take 4 ++ xs.drop 8 = xs.drop 4 := by
      have : xs.drop 8 = (xs.drop 4).drop 4 := by rw [List.drop_drop]
      rw [this, List.take_append_drop]
    have e2 : (xs.drop 2).take 2 ++ xs.drop 4 = xs.drop 2 := by
      have : xs.drop 4 = (xs.drop 2).drop 2 := by rw [List.drop_drop]
      rw [this, List.take_append_drop]
    rw [e1, e2, List.drop_zero, List.take_append_drop]
  have hz' : toBE 2 (num xs ((2 : Nat) : Int) 2) = noughts 2 := by
    have : num xs ((2 : Nat) : Int) 2 = 0 := hz
    rw [this, zero2]
  have hs' : num xs ((4 : Nat) : Int) 4 = crc 0 (bodyN (listN xs)) := by rw [← hb]; exact hs
  rw [nodeB, hle]
  conv => rhs; rw [e]
  rw [p0, p1, p2, hz', hs', hb]
  simp only [List.append_assoc]
  rfl

/-! ### inode -/
theorem headI_eq (k l s : Nat) (es : List Ext) (d : Nat) (post : List UInt8) : headI k l s es d ++ post = [] ++ (toBE 1 k ++ (toBE 1 es.length ++ (toBE 2 l ++ (toBE 4 s ++ (extsB es ++ (noughts (26 - (8 + es.length * 6)) ++ (toBE 2 d ++ post))))))) := by
  simp only [headI, List.append_assoc, List.nil_append]
theorem headI_nums (k l s : Nat) (es : List Ext) (d : Nat) (post : List UInt8) (hk : k < 256) (hl : l < 65536) (hs : s < 4294967296) (hd : d < 65536) (h3 : es.length ≤ 3) (hn : ∀ e ∈ es, natE e) :
    num (headI k l s es d ++ post) 0 1 = k ∧ num (headI k l s es d ++ post) 1 1 = es.length ∧ num (headI k l s es d ++ post) 2 2 = l ∧ num (headI k l s es d ++ post) 4 4 = s ∧ num (headI k l s es d ++ post) 26 2 = d ∧ readE (headI k l s es d ++ post) 8 es.length = es := by
  rw [headI_eq]
  refine ⟨?_, ?_, ?_, ?_, ?_, ?_⟩
  · exact num_put _ _ 1 _ _ rfl (by omega)
  · rw [← List.append_assoc]
    exact num_put _ _ 1 _ _ (by simp only [List.length_append, List.length_nil, toBE_length]; rfl) (by omega)
  · rw [← List.append_assoc, ← List.append_assoc]
    exact num_put _ _ 2 _ _ (by simp only [List.length_append, List.length_nil, toBE_length]; rfl) (by omega)
  · rw [← List.append_assoc, ← List.append_assoc, ← List.append_assoc]
    exact num_put _ _ 4 _ _ (by simp only [List.length_append, List.length_nil, toBE_length]; rfl) (by omega)
  · rw [← List.append_assoc, ← List.append_assoc, ← List.append_assoc, ← List.append_assoc, ← List.append_assoc, ← List.append_assoc]
    exact num_put _ _ 2 _ _ (by simp only [List.length_append, List.length_nil, toBE_length, noughts_length, extsB_length]; omega) (by omega)
  · rw [← List.append_assoc, ← List.append_assoc, ← List.append_assoc, ← List.append_assoc]
    exact readE_exts _ _ es 8 (by simp only [List.length_append, List.length_nil, toBE_length]) hn

theorem inodeB_take (k l s : Nat) (es : List Ext) (d : Nat) (h : es.length ≤ 3) : (inodeB k l s es d).take 60 = headI k l s es d ++ noughts 32 := by
  unfold inodeB
  exact List.take_left' (by rw [List.length_append, headI_length k l s es d h, noughts_length])
theorem inodeB_some_zero (k l s : Nat) (es : List Ext) (d : Nat) (hk : k = 1 ∨ k = 2) : (inodeB k l s es d).all (· == 0) = false := by
  have e : inodeB k l s es d = UInt8.ofNat k :: (inodeB k l s es d).drop 1 := by
    unfold inodeB headI
    simp only [List.append_assoc]
    rfl
  rw [e]
  rcases hk with rfl | rfl <;> simp
theorem getInode_put (k : Nat) (l s : Int) (es : List Ext) (d : Int) (h : usedI k l s es d = true) : getInode (inodeB k l.toNat s.toNat es d.toNat) = some ⟨k, l, s, es, d⟩ := by
  obtain ⟨hk, h1, h2, h3, h4, h5⟩ := usedI_nat h
  have hn := natE_of_right es 0 (by omega) h4
  obtain ⟨l, rfl⟩ := Int.eq_ofNat_of_zero_le h1.1
  obtain ⟨s, rfl⟩ := Int.eq_ofNat_of_zero_le h2.1
  obtain ⟨d, rfl⟩ := Int.eq_ofNat_of_zero_le h5.1
  simp only [Int.toNat_natCast]
  have e : inodeB k l s es d = headI k l s es d ++ (noughts 32 ++ toBE 4 (crc 0 (headI k l s es d ++ noughts 32))) := by simp only [inodeB, List.append_assoc]
  obtain ⟨n0, n1, n2, n3, n4, n5⟩ := headI_nums k l s es d (noughts 32 ++ toBE 4 (crc 0 (headI k l s es d ++ noughts 32))) (by omega) (by omega) (by omega) (by omega) h3 hn
  rw [← e] at n0 n1 n2 n3 n4 n5
  have n6 : num (inodeB k l s es d) 60 4 = crc 0 (headI k l s es d ++ noughts 32) := by
    unfold inodeB
    have := num_put (headI k l s es d ++ noughts 32) [] 4 (crc 0 (headI k l s es d ++ noughts 32)) 60 (by rw [List.length_append, headI_length k l s es d h3, noughts_length]; rfl) (by have := crc_lt 0 (headI k l s es d ++ noughts 32); omega)
    rw [List.append_nil] at this
    exact this
  have hL : listI (inodeB k l s es d) = es := by unfold listI; rw [n1, n5]
  unfold getInode readI
  rw [hL, n0, n2, n3, n4, n6, inodeB_take k l s es d h3, inodeB_length k l s es d h3, inodeB_some_zero k l s es d hk, h, isThen_self]
  simp
theorem getInode_zero : getInode (noughts 64) = some zeroI := by
  unfold getInode
  rw [noughts_length, noughts_all]
  rfl
theorem getInode_some {xs : List UInt8} {i : Ino} (h : getInode xs = some i) : putInode i.k i.l i.s i.d i.n = some xs := by
  unfold getInode at h
  by_cases hl : xs.length = 64
  · rw [if_neg (by omega)] at h
    cases hz : xs.all (· == 0)
    · rw [hz] at h
      obtain ⟨hc, hx⟩ := if_some h
      simp only [Bool.and_eq_true, decide_eq_true_eq] at hc
      obtain ⟨hu, ht, hs⟩ := hc
      subst hx
      have hu' : usedI (readI xs).k (readI xs).l (readI xs).s (readI xs).d (readI xs).n = true := hu
      obtain ⟨hk, _⟩ := usedI_nat hu
      have hun : unusedI (readI xs).k (readI xs).l (readI xs).s (readI xs).d.length (readI xs).n = false := by
        have : ((((num xs 0 1 : Nat) : Int) == 0)) = false := by
          have : num xs 0 1 ≠ 0 := by omega
          simp; omega
        simp only [unusedI, readI, this, Bool.false_and]
      unfold putInode
      rw [hun, hu']
      show some _ = some _
      congr 1
      obtain ⟨t1, t2⟩ := isThen_true ht
      obtain ⟨_, _, _, h3, _, _⟩ := usedI_nat hu
      rw [headI_length _ _ _ _ _ h3, List.length_take, hl] at t2
      have p := head4 xs 60 4 (by omega)
      have p' : xs.drop 60 = toBE 4 (crc 0 (xs.take 60)) := by
        have e1 : (xs.drop 60).take 4 = xs.drop 60 := List.take_of_length_le (by simp; omega)
        rw [e1] at p
        rw [p, ← hs]
        rfl
      simp only [readI, Int.toNat_natCast]
      unfold inodeB
      have t3 : xs.take 60 = headI (num xs 0 1) (num xs 2 2) (num xs 4 4) (listI xs) (num xs 26 2) ++ noughts 32 := t2
      rw [← t3, ← p', List.take_append_drop]
    · rw [hz] at h
      have hx : zeroI = i := by simpa using h
      subst hx
      rw [all_zero xs hz, hl]
      rfl
  · rw [if_pos (by omega)] at h
    simp at h

/-! ### what four turned bytes are -/
theorem chg_getD (xs : List UInt8) (p ch : Nat) : ∀ k i, i < k → p + k ≤ xs.length → (chg xs p ch k).getD (p + i) 0 = xs.getD (p + i) 0 ^^^ UInt8.ofNat (ch / 2 ^ (8 * i))
  | 0, _, h, _ => by omega
  | k + 1, i, h, hl => by
    rw [chg]
    by_cases e : i = k
    · subst e
      have hd := chg_drop xs p ch i
      have h0 : (chg xs p ch i).getD (p + i) 0 = xs.getD (p + i) 0 := by
        have := congrArg (fun l => l.getD 0 0) hd
        simpa [List.getD] using this
      rw [h0]
      simp [List.getD, chg_length, show p + i < xs.length by omega]
    · have := chg_getD xs p ch k i (by omega) (by omega)
      rw [← this]
      simp [List.getD, show ¬ (k = i) by omega]
theorem chg_ne (xs : List UInt8) (p ch : Nat) (hl : p + 4 ≤ xs.length) (h0 : 0 < ch) (h4 : ch < 4294967296) : chg xs p ch 4 ≠ xs := by
  intro e
  have hz : ∀ i, i < 4 → ch / 2 ^ (8 * i) % 256 = 0 := by
    intro i hi
    have := chg_getD xs p ch 4 i hi hl
    rw [e] at this
    have h2 : (0 : UInt8) = UInt8.ofNat (ch / 2 ^ (8 * i)) := by
      have h3 := congrArg (fun c => xs.getD (p + i) 0 ^^^ c) this
      simp only [UInt8.xor_self, ← UInt8.xor_assoc] at h3
      simpa using h3
    have h4 := congrArg UInt8.toNat h2
    rw [ofNat_toNat] at h4
    exact h4.symm
  have z0 := hz 0 (by omega)
  have z1 := hz 1 (by omega)
  have z2 := hz 2 (by omega)
  have z3 := hz 3 (by omega)
  simp at z0 z1 z2 z3
  omega
theorem chg_left (A B : List UInt8) (p ch : Nat) : ∀ k, p + k ≤ A.length → chg (A ++ B) p ch k = chg A p ch k ++ B
  | 0, _ => rfl
  | k + 1, h => by
    rw [chg, chg, chg_left A B p ch k (by omega), List.set_append_left _ _ (by rw [chg_length]; omega)]
    congr 2
    simp [List.getD, List.getElem?_append_left (show p + k < (chg A p ch k).length by rw [chg_length]; omega)]
theorem chg_right (A B : List UInt8) (p ch n : Nat) (hn : A.length = n) : ∀ k, chg (A ++ B) (n + p) ch k = A ++ chg B p ch k
  | 0 => rfl
  | k + 1 => by
    rw [chg, chg, chg_right A B p ch n hn k]
    have e : n + p + k = A.length + (p + k) := by omega
    rw [e, List.set_append_right _ _ (by omega)]
    congr 2
    · congr 1
      omega
    · congr 1
      simp [List.getD, List.getElem?_append_right]

theorem toBE_inj {n a b : Nat} (ha : a < 256 ^ n) (hb : b < 256 ^ n) (h : toBE n a = toBE n b) : a = b := by
  have := congrArg beNat h
  rw [beNat_toBE, beNat_toBE, Nat.mod_eq_of_lt ha, Nat.mod_eq_of_lt hb] at this
  exact this

theorem getNode_turned (es : List Ext) (p ch : Nat) (h1 : es.length ≤ 250) (hp : p < 4085) (h0 : 0 < ch) (h4 : ch < 4294967296) : getNode (chg (nodeB es) (8 + p) ch 4) = none := by
  cases h : getNode (chg (nodeB es) (8 + p) ch 4) with
  | none => rfl
  | some fs =>
    exfalso
    obtain ⟨⟨g1, _⟩, g2⟩ := getNode_some h
    have e : nodeB es = ((toBE 2 es.length ++ noughts 2) ++ toBE 4 (crc 0 (bodyN es))) ++ bodyN es := by simp only [nodeB, List.append_assoc]
    have e' : nodeB fs = ((toBE 2 fs.length ++ noughts 2) ++ toBE 4 (crc 0 (bodyN fs))) ++ bodyN fs := by simp only [nodeB, List.append_assoc]
    rw [e, chg_right _ _ p ch 8 (by simp only [List.length_append, toBE_length, noughts_length]), e'] at g2
    have hin := List.append_inj g2 (by simp only [List.length_append, toBE_length, noughts_length])
    have hin2 := List.append_inj' hin.1 (by rw [toBE_length, toBE_length])
    have hc := toBE_inj (by have := crc_lt 0 (bodyN fs); omega) (by have := crc_lt 0 (bodyN es); omega) hin2.2
    rw [hin.2] at hc
    have := chg_seen (bodyN es) p ch 4 (by omega) hc.symm
    exact chg_ne (bodyN es) p ch (by rw [bodyN_length es h1]; omega) h0 h4 this.symm
end Go.Proofs.Ytdkaacjeogifdaa.Su

/-
  SameExtents, SameInode; turned.
-/
namespace Go.Proofs.Ytdkaacjeogifdaa.Su
open Go.RowKit

/-- SameInode -/
def sameI (i j : Ino) : Bool := ((i.k : Int) == (j.k : Int)) && ((i.l == j.l) && ((i.s == j.s) && ((i.n == j.n) && decide (i.d = j.d))))
theorem sameI_self (i : Ino) : sameI i i = true := by simp [sameI]

end Go.Proofs.Ytdkaacjeogifdaa.Su

/-
  A region that draws its order and holds loads beside calls that make memory: a load whose value is one in a whole class of frames and worlds may be taken first, if each step stays in the class.
-/
namespace Go.Proofs.Ytdkaacjeogifdaa.Su

section
variable {P : Program} {ops : Array Oper} {Q : Exit → Act → World → Prop} {md : Region.Mode} {C : Act → World → Prop}

/-- Whatever order the draw gives: it ends in Q, and every step stays in the class. -/
def wpAnyC (P : Program) (md : Region.Mode) (ops : Array Oper) (Q : Exit → Act → World → Prop) (C : Act → World → Prop) : Nat → Array Bool → Act → World → Prop
  | 0, listed, a, w => Region.ready md ops listed = [] ∧ Q .normal a w
  | fuel + 1, listed, a, w => (Region.ready md ops listed = [] → Q .normal a w) ∧
    ∀ i ∈ Region.ready md ops listed, wpOp P ops Q i (fun a' w' => C a' w' ∧ wpAnyC P md ops Q C fuel (listed.setIfInBounds i true) a' w') a w

theorem wpAny_of_class : ∀ (fuel : Nat) (listed : Array Bool) (a : Act) (w : World), wpAnyC P md ops Q C fuel listed a w → wpAny P md ops Q fuel listed a w
  | 0, _, _, _, h => h
  | fuel + 1, _, _, _, h => ⟨h.1, fun i hi => wpOp_mono (fun a' w' h' => wpAny_of_class fuel _ a' w' h'.2) (h.2 i hi)⟩

/-- In all of the class the operation yields this one value, and leaves the world. -/
def Gives (P : Program) (ops : Array Oper) (C : Act → World → Prop) (o : Oper) (v : Value) : Prop :=
  ∀ a w, C a w → Region.wanted o (yielded ops a.tmps) = true ∧ (execOp a.eval o).run P w = .ok (.value v) w

theorem Gives.wpOp {i : Nat} {o : Oper} {v : Value} {a : Act} {w : World} (hi : ops[i]? = some o) (hg : Gives P ops C o v) (hc : C a w) {K : Act → World → Prop} (h : K (a.put o.dst v) w) : wpOp P ops Q i K a w := by
  obtain ⟨h1, h2⟩ := hg a w hc
  unfold Go.wpOp
  simp only [hi, h1, if_true, Oper.wp, h2, Oper.upon]
  exact .inl h

/-- the stand-in: the same slot, a constant -/
def standIn (o : Oper) (v : Value) : Oper := { o with op := .move (.const v), guard := none }
theorem standIn_yields (o : Oper) (v : Value) (a : Act) : Yields P ops (standIn o v) v a := by
  refine .inl ⟨rfl, fun w => ?_⟩
  rfl
theorem standIn_apart {o y : Oper} {v : Value} (h : o.apart ops y = true) : (standIn o v).apart ops y = true := by
  unfold Oper.apart at h ⊢
  simp only [Bool.and_eq_true] at h ⊢
  refine ⟨h.1, ?_⟩
  have e : (standIn o v).looksAt ops = [] := rfl
  rw [e]
  cases y.dst <;> rfl

theorem wpAnyC_first {i : Nat} {oi : Oper} {v : Value} (hi : ops[i]? = some oi) (hs : Region.noSelect ops = true)
    (hQ : ∀ c a w, Q (.panic c) (a.put oi.dst v) w → Q (.panic c) a w) (hg : Gives P ops C oi v) (hdn : ∀ a w, C (a.put oi.dst v) w → C a w) (hup : ∀ a w, C a w → C (a.put oi.dst v) w) :
    ∀ (fuel : Nat) (listed : Array Bool) (a : Act) (w : World),
      (∀ j oj, ops[j]? = some oj → j ≠ i → listed.getD j true = false → (∀ e ∈ oj.after, Region.binds md e = true → e.on ≠ i) → oi.apart ops oj = true) →
      i ∈ Region.ready md ops listed → C a w →
      wpAnyC P md ops Q C fuel (listed.setIfInBounds i true) (a.put oi.dst v) w → wpAnyC P md ops Q C (fuel + 1) listed a w
  | fuel, listed, a, w, hfree, hr, hc, H => by
    refine ⟨fun h => (by rw [h] at hr; cases hr), fun j hj => ?_⟩
    by_cases hji : j = i
    · subst hji
      exact hg.wpOp hi hc ⟨hup a w hc, H⟩
    · have hm := ready_mono hj hji
      cases fuel with
      | zero =>
        rw [H.1] at hm
        cases hm
      | succ fuel =>
        obtain ⟨hjun, oj, hoj, hall⟩ := mem_ready.1 hj
        have hnot : ∀ e ∈ oj.after, Region.binds md e = true → e.on ≠ i := fun e he hb heq => by
          have h1 := hall e he hb
          have h0 := (mem_ready.1 hr).1
          rw [heq] at h1
          rcases Nat.lt_or_ge i listed.size with h' | h'
          · simp [h'] at h0 h1; rw [h0] at h1; cases h1
          · simp [Array.getElem?_eq_none h'] at h1
        have h2 := wpOp_put (oi := standIn oi v) (v := v) hoj (standIn_apart (hfree j oj hoj hji hjun hnot)) (fun cs b h => by cases h) (fun cs b => Region.noSelect_spec hs j oj cs b hoj) hQ (standIn_yields oi v a) (H.2 j hm)
        have hfree' : ∀ k ok, ops[k]? = some ok → k ≠ i → (listed.setIfInBounds j true).getD k true = false →
            (∀ e ∈ ok.after, Region.binds md e = true → e.on ≠ i) → oi.apart ops ok = true := fun k ok hk hki hun hno => by
          refine hfree k ok hk hki ?_ hno
          by_cases hjk : j = k
          · subst hjk; exact hjun
          · rw [getD_set_ne true hjk] at hun; exact hun
        refine wpOp_mono (fun a' w' h3 => ?_) h2
        have hc' := hdn a' w' h3.2.1
        refine ⟨hc', wpAnyC_first hi hs hQ hg hdn hup fuel (listed.setIfInBounds j true) a' w' hfree' (ready_mono hr (Ne.symm hji)) hc' ?_⟩
        rw [Array.setIfInBounds_comm _ _ hji]
        exact h3.2.2

/-- A load is taken first. -/
theorem wpAnyC_take {i : Nat} {oi : Oper} {v : Value} {fuel : Nat} {listed : Array Bool} {a : Act} {w : World} (hi : ops[i]? = some oi) (hs : Region.noSelect ops = true)
    (hf : Region.free md ops listed i = true) (hr : (Region.ready md ops listed).contains i = true)
    (hQ : ∀ c a w, Q (.panic c) (a.put oi.dst v) w → Q (.panic c) a w) (hg : Gives P ops C oi v) (hdn : ∀ a w, C (a.put oi.dst v) w → C a w) (hup : ∀ a w, C a w → C (a.put oi.dst v) w)
    (hc : C a w) (h : wpAnyC P md ops Q C fuel (listed.setIfInBounds i true) (a.put oi.dst v) w) : wpAnyC P md ops Q C (fuel + 1) listed a w :=
  wpAnyC_first hi hs hQ hg hdn hup fuel listed a w (Region.free_spec hi hf) (by simpa using hr) hc h

/-- One operation alone may come up. -/
theorem wpAnyC_one {i : Nat} {o : Oper} {fuel : Nat} {listed : Array Bool} {a : Act} {w : World} (hr : Region.ready md ops listed = [i]) (ho : ops[i]? = some o)
    (h : ∀ K' : Act → World → Prop, (∀ a w, (C a w ∧ wpAnyC P md ops Q C fuel (listed.setIfInBounds i true) a w) → K' a w) → if Region.wanted o (yielded ops a.tmps) = true then Oper.wp P o a w K' Q else K' (a.put o.dst undef) w) :
    wpAnyC P md ops Q C (fuel + 1) listed a w := by
  refine ⟨fun h0 => (by rw [hr] at h0; cases h0), fun j hj => ?_⟩
  rw [hr] at hj
  obtain rfl : j = i := by simpa using hj
  exact wpOp_step ho h

theorem wpAnyC_done {listed : Array Bool} {a : Act} {w : World} (hr : Region.ready md ops listed = []) (h : Q .normal a w) : ∀ fuel, wpAnyC P md ops Q C fuel listed a w
  | 0 => ⟨hr, h⟩
  | _ + 1 => ⟨fun _ => h, by rw [hr]; simp⟩
end
end Go.Proofs.Ytdkaacjeogifdaa.Su

/-
  The document's own Puts.
-/
namespace Go.Proofs.Ytdkaacjeogifdaa.Su
open Go.RowKit

/-- add: a number, in so many bytes -/
theorem refadd_at (cap n N : Nat) (a : Option Addr) (xs : List UInt8) (v : Nat) (V S : Int) (w : World) (hV : V = (v : Int)) (hS : S = (N : Int)) (hl : xs.length = n) (hv : v < 9223372036854775808) (hN0 : 0 < N) (hN : N ≤ 8) (hn : n ≤ 140737488355300) (hr : Rd w a xs) (hnil : a = none → cap = 0) :
    Calls Try.prog 55 #[.slice a n cap, .int .i64 V, .int .i64 S] w fun e w' => ∃ v', e = .returned v' ∧ w'.ownsRow w.heap.size 5 1 v' (n + N) (bcs (xs ++ toBE N v)) ∧ Below w.heap.size w w' := by
  subst hV hS
  have c := refAdd_at cap n N a xs v v N w rfl rfl hl (by omega) hN0 hN hn hr hnil
  clear hl
  go_enter Try.func55, Try.ntmps55
  go_wp2_with fail
  refine c.mono ?_
  rintro e w1 ⟨v', rfl, ho, hb⟩
  go_wp2
  go_ret
  exact ⟨_, rfl, ho, hb⟩

/-- The class: these slots hold these values, and the box is there. -/
def SlotsBox (ps : List (Nat × Value)) (G : Nat) (cs : Array Value) (t : TypeId) (a : Act) (u : World) : Prop := (∀ p ∈ ps, a.eval (.tmp p.1) = p.2) ∧ Box u G cs t
theorem SlotsBox.put {ps : List (Nat × Value)} {G : Nat} {cs : Array Value} {t : TypeId} {a : Act} {u : World} (s : Nat) (v : Value) (hs : (ps.all fun p => p.1 != s) = true) :
    SlotsBox ps G cs t (a.put (some s) v) u ↔ SlotsBox ps G cs t a u := by
  have e : ∀ p ∈ ps, (a.put (some s) v).eval (.tmp p.1) = a.eval (.tmp p.1) := fun p hp => Act.eval_put (fun d hd => by
    have h1 := (List.all_eq_true.1 hs) p hp
    simp at h1 hd
    subst hd
    intro h
    injection h with h
    exact h1 h)
  constructor
  · rintro ⟨h, hb⟩
    exact ⟨fun p hp => (e p hp).symm.trans (h p hp), hb⟩
  · rintro ⟨h, hb⟩
    exact ⟨fun p hp => (e p hp).trans (h p hp), hb⟩

set_option maxRecDepth 100000 in
set_option maxHeartbeats 4000000 in
theorem refPutSuper_ok (b e q t : Nat) (w : World) (hb : 64 ≤ b ∧ b ≤ 512) (he : 1 ≤ e ∧ e ≤ 8388608) (hq : 1 ≤ q ∧ q ≤ 549755813888) (ht : 0 ≤ t ∧ t ≤ 511) :
    Calls Try.prog 30 #[.agg #[.int .i64 b, .int .i64 e, .int .i64 q, .int .i64 t]] w fun r w' => Puts w w' (some (superB b e q t)) r := by
  have B0 := (Below.refl w.heap.size w).alloc (Nat.le_refl _) (.cells #[.int .i64 b, .int .i64 e, .int .i64 q, .int .i64 t] 23)
  have x0 := Box.new w #[.int .i64 b, .int .i64 e, .int .i64 q, .int .i64 t] 23
  go_enter Try.func30, Try.ntmps30
  go_wp2_with fail
  obtain ⟨W, hW⟩ : ∃ W, W = w.alloc (.cells #[.int .i64 (b : Int), .int .i64 e, .int .i64 q, .int .i64 t] 23) := ⟨_, rfl⟩
  rw [← hW] at x0 B0 ⊢
  clear hW
  refine wp_region_any (by kernel_rfl) ?_
  change wpAny _ _ _ _ _ _ _ (World.drew _)
  -- the addresses first
  refine wpAny_take (i := 2) (v := ?_) rfl (by kernel_rfl) (by kernel_rfl) (by kernel_rfl) (fun _ _ _ h => h) (Or.inl ⟨by rfl, ?_⟩) ?_
  rotate_left
  · intro w
    go_simp
    with_reducible rfl
  refine wpAny_take (i := 5) (v := ?_) rfl (by kernel_rfl) (by kernel_rfl) (by kernel_rfl) (fun _ _ _ h => h) (Or.inl ⟨by rfl, ?_⟩) ?_
  rotate_left
  · intro w
    go_simp
    with_reducible rfl
  refine wpAny_take (i := 8) (v := ?_) rfl (by kernel_rfl) (by kernel_rfl) (by kernel_rfl) (fun _ _ _ h => h) (Or.inl ⟨by rfl, ?_⟩) ?_
  rotate_left
  · intro w
    go_simp
    with_reducible rfl
  refine wpAny_take (i := 11) (v := ?_) rfl (by kernel_rfl) (by kernel_rfl) (by kernel_rfl) (fun _ _ _ h => h) (Or.inl ⟨by rfl, ?_⟩) ?_
  rotate_left
  · intro w
    go_simp
    with_reducible rfl
  refine wpAny_of_class (C := SlotsBox [(45, .pointer (some ⟨w.heap.size, 0, none⟩)), (48, .pointer (some ⟨w.heap.size, 1, none⟩)), (51, .pointer (some ⟨w.heap.size, 2, none⟩)), (54, .pointer (some ⟨w.heap.size, 3, none⟩))] w.heap.size #[.int .i64 b, .int .i64 e, .int .i64 q, .int .i64 t] 23) _ _ _ _ ?_
  have hC0 : Box W.drew w.heap.size #[.int .i64 (b : Int), .int .i64 e, .int .i64 q, .int .i64 t] 23 := x0
  refine wpAnyC_take (i := 3) (v := .int .i64 b) rfl (by kernel_rfl) (by kernel_rfl) (by kernel_rfl) (fun _ _ _ h => h) ?_ (fun a u h => (SlotsBox.put 46 _ (by rfl)).1 h) (fun a u h => (SlotsBox.put 46 _ (by rfl)).2 h) ?_ ?_
  · rintro a u ⟨hs, hx⟩
    have h1 : a.tmps[45]?.getD undef = .pointer (some ⟨w.heap.size, 0, none⟩) := by
      have := hs (45, .pointer (some ⟨w.heap.size, 0, none⟩)) (by simp)
      simpa [Act.eval] using this
    have c := hx.cell 0
    simp at c
    refine ⟨rfl, ?_⟩
    simp [execOp, h1, go_sem, c]
  · refine ⟨fun p hp => ?_, hC0⟩
    simp at hp
    rcases hp with rfl | rfl | rfl | rfl <;> rfl
  refine wpAnyC_take (i := 6) (v := .int .i64 e) rfl (by kernel_rfl) (by kernel_rfl) (by kernel_rfl) (fun _ _ _ h => h) ?_ (fun a u h => (SlotsBox.put 49 _ (by rfl)).1 h) (fun a u h => (SlotsBox.put 49 _ (by rfl)).2 h) ?_ ?_
  · rintro a u ⟨hs, hx⟩
    have h1 : a.tmps[48]?.getD undef = .pointer (some ⟨w.heap.size, 1, none⟩) := by
      have := hs (48, .pointer (some ⟨w.heap.size, 1, none⟩)) (by simp)
      simpa [Act.eval] using this
    have c := hx.cell 1
    simp at c
    refine ⟨rfl, ?_⟩
    simp [execOp, h1, go_sem, c]
  · refine (SlotsBox.put 46 _ (by rfl)).2 ?_
    refine ⟨fun p hp => ?_, hC0⟩
    simp at hp
    rcases hp with rfl | rfl | rfl | rfl <;> rfl
  refine wpAnyC_take (i := 9) (v := .int .i64 q) rfl (by kernel_rfl) (by kernel_rfl) (by kernel_rfl) (fun _ _ _ h => h) ?_ (fun a u h => (SlotsBox.put 52 _ (by rfl)).1 h) (fun a u h => (SlotsBox.put 52 _ (by rfl)).2 h) ?_ ?_
  · rintro a u ⟨hs, hx⟩
    have h1 : a.tmps[51]?.getD undef = .pointer (some ⟨w.heap.size, 2, none⟩) := by
      have := hs (51, .pointer (some ⟨w.heap.size, 2, none⟩)) (by simp)
      simpa [Act.eval] using this
    have c := hx.cell 2
    simp at c
    refine ⟨rfl, ?_⟩
    simp [execOp, h1, go_sem, c]
  · refine (SlotsBox.put 49 _ (by rfl)).2 ?_
    refine (SlotsBox.put 46 _ (by rfl)).2 ?_
    refine ⟨fun p hp => ?_, hC0⟩
    simp at hp
    rcases hp with rfl | rfl | rfl | rfl <;> rfl
  refine wpAnyC_take (i := 12) (v := .int .i64 t) rfl (by kernel_rfl) (by kernel_rfl) (by kernel_rfl) (fun _ _ _ h => h) ?_ (fun a u h => (SlotsBox.put 55 _ (by rfl)).1 h) (fun a u h => (SlotsBox.put 55 _ (by rfl)).2 h) ?_ ?_
  · rintro a u ⟨hs, hx⟩
    have h1 : a.tmps[54]?.getD undef = .pointer (some ⟨w.heap.size, 3, none⟩) := by
      have := hs (54, .pointer (some ⟨w.heap.size, 3, none⟩)) (by simp)
      simpa [Act.eval] using this
    have c := hx.cell 3
    simp at c
    refine ⟨rfl, ?_⟩
    simp [execOp, h1, go_sem, c]
  · refine (SlotsBox.put 52 _ (by rfl)).2 ?_
    refine (SlotsBox.put 49 _ (by rfl)).2 ?_
    refine (SlotsBox.put 46 _ (by rfl)).2 ?_
    refine ⟨fun p hp => ?_, hC0⟩
    simp at hp
    rcases hp with rfl | rfl | rfl | rfl <;> rfl
  have kc : (convert 26 26 (.slice (some ⟨W.heap.size, 0, none⟩) 8 8)).run Try.prog ((W.alloc (.cells #[.int .u8 76, .int .u8 69, .int .u8 68, .int .u8 71, .int .u8 69, .int .u8 82, .int .u8 48, .int .u8 49] 5)).drew) = .ok (.slice (some ⟨W.heap.size, 0, none⟩) 8 8) ((W.alloc (.cells #[.int .u8 76, .int .u8 69, .int .u8 68, .int .u8 71, .int .u8 69, .int .u8 82, .int .u8 48, .int .u8 49] 5 (8, 9))).drew) := Lib.run_convert_bytes_const (P := Try.prog) W.drew 26 5 #[.int .u8 76, .int .u8 69, .int .u8 68, .int .u8 71, .int .u8 69, .int .u8 82, .int .u8 48, .int .u8 49] 8 8 Try.underlying26 Try.underlying5
  refine wpAnyC_one (i := 0) (by kernel_rfl) rfl (fun K hK => ?_)
  go_simp
  refine hK _ _ ⟨?_, ?_⟩
  · refine ⟨fun p hp => ?_, ?_⟩
    · simp at hp
      rcases hp with rfl | rfl | rfl | rfl <;> rfl
    · exact (Below.heap_alloc W _ _ x0.lt).trans x0
  clear hK K
  refine wpAnyC_one (i := 1) (by kernel_rfl) rfl (fun K hK => ?_)
  go_simp
  refine hK _ _ ⟨?_, ?_⟩
  · refine ⟨fun p hp => ?_, ?_⟩
    · simp at hp
      rcases hp with rfl | rfl | rfl | rfl <;> rfl
    · exact (Below.heap_alloc W _ _ x0.lt).trans x0
  clear hK K
  obtain ⟨V, hV⟩ : ∃ V, V = (W.alloc (.cells #[.int .u8 76, .int .u8 69, .int .u8 68, .int .u8 71, .int .u8 69, .int .u8 82, .int .u8 48, .int .u8 49] 5 (8, 9))).drew := ⟨_, rfl⟩
  have rL : Rd V (some ⟨W.heap.size, 0, none⟩) letters := by rw [hV]; exact rd_marked W (8, 9) letters
  have BV : Below w.heap.size w V := by rw [hV]; exact (B0.alloc B0.size _).drew
  have xV : Box V w.heap.size #[.int .i64 (b : Int), .int .i64 e, .int .i64 q, .int .i64 t] 23 := by rw [hV]; exact (Below.heap_alloc W _ _ x0.lt).trans x0
  rw [← hV]
  clear hV kc
  obtain ⟨L0, hL0⟩ : ∃ L, L = letters := ⟨_, rfl⟩
  obtain ⟨L1, hL1⟩ : ∃ L, L = L0 ++ toBE 8 b := ⟨_, rfl⟩
  obtain ⟨L2, hL2⟩ : ∃ L, L = L1 ++ toBE 8 e := ⟨_, rfl⟩
  obtain ⟨L3, hL3⟩ : ∃ L, L = L2 ++ toBE 8 q := ⟨_, rfl⟩
  obtain ⟨L4, hL4⟩ : ∃ L, L = L3 ++ toBE 8 t := ⟨_, rfl⟩
  have N0 : Hid (L0.length = 8) := by rw [hL0]; exact rfl
  have N1 : Hid (L1.length = 16) := by rw [hL1, List.length_append, toBE_length, N0.out]; exact rfl
  have N2 : Hid (L2.length = 24) := by rw [hL2, List.length_append, toBE_length, N1.out]; exact rfl
  have N3 : Hid (L3.length = 32) := by rw [hL3, List.length_append, toBE_length, N2.out]; exact rfl
  have N4 : Hid (L4.length = 40) := by rw [hL4, List.length_append, toBE_length, N3.out]; exact rfl
  have E4 : Hid (lead [b, e, q, t] = L4) := by show _ = _; rw [hL4, hL3, hL2, hL1, hL0]; simp [lead]
  rw [← hL0] at rL
  have U1 : Hid _ := hL1
  have U2 : Hid _ := hL2
  have U3 : Hid _ := hL3
  have U4 : Hid _ := hL4
  have n0 : (some (⟨W.heap.size, 0, none⟩ : Addr)) = none → 8 = 0 := fun h => by simp at h
  clear hL0 hL1 hL2 hL3 hL4
  refine wpAnyC_one (i := 4) (by kernel_rfl) rfl (fun K hK => ?_)
  go_simp
  refine (refadd_at 8 8 8 (some ⟨W.heap.size, 0, none⟩) L0 b _ 8 V rfl rfl N0.out (by omega) (by omega) (by omega) (by omega) rL n0).mono ?_
  rintro r w1 ⟨v1, rfl, o1, b1⟩
  rw [← U1.out] at o1
  obtain ⟨a1, c1, rfl, _, _, _, r1, n1, _⟩ := owns_parts o1
  have B1 := BV.trans (b1.mono BV.size)
  have x1 := xV.below b1
  refine hK _ _ ⟨?_, ?_⟩
  · refine ⟨fun p hp => ?_, x1⟩
    simp at hp
    rcases hp with rfl | rfl | rfl | rfl <;> rfl
  clear hK K b1 BV xV rL n0
  clear o1
  refine wpAnyC_one (i := 7) (by kernel_rfl) rfl (fun K hK => ?_)
  go_simp
  refine (refadd_at c1 16 8 a1 L1 e _ 8 w1 rfl rfl N1.out (by omega) (by omega) (by omega) (by omega) r1 n1).mono ?_
  rintro r w2 ⟨v2, rfl, o2, b2⟩
  rw [← U2.out] at o2
  obtain ⟨a2, c2, rfl, _, _, _, r2, n2, _⟩ := owns_parts o2
  have B2 := B1.trans (b2.mono B1.size)
  have x2 := x1.below b2
  refine hK _ _ ⟨?_, ?_⟩
  · refine ⟨fun p hp => ?_, x2⟩
    simp at hp
    rcases hp with rfl | rfl | rfl | rfl <;> rfl
  clear hK K b2 B1 x1 r1 n1
  clear o2
  refine wpAnyC_one (i := 10) (by kernel_rfl) rfl (fun K hK => ?_)
  go_simp
  refine (refadd_at c2 24 8 a2 L2 q _ 8 w2 rfl rfl N2.out (by omega) (by omega) (by omega) (by omega) r2 n2).mono ?_
  rintro r w3 ⟨v3, rfl, o3, b3⟩
  rw [← U3.out] at o3
  obtain ⟨a3, c3, rfl, _, _, _, r3, n3, _⟩ := owns_parts o3
  have B3 := B2.trans (b3.mono B2.size)
  have x3 := x2.below b3
  refine hK _ _ ⟨?_, ?_⟩
  · refine ⟨fun p hp => ?_, x3⟩
    simp at hp
    rcases hp with rfl | rfl | rfl | rfl <;> rfl
  clear hK K b3 B2 x2 r2 n2
  clear o3
  refine wpAnyC_one (i := 13) (by kernel_rfl) rfl (fun K hK => ?_)
  go_simp
  refine (refadd_at c3 32 8 a3 L3 t _ 8 w3 rfl rfl N3.out (by omega) (by omega) (by omega) (by omega) r3 n3).mono ?_
  rintro r w4 ⟨v4, rfl, o4, b4⟩
  rw [← U4.out] at o4
  obtain ⟨a4, c4, rfl, _, _, _, r4, n4, _⟩ := owns_parts o4
  have B4 := B3.trans (b4.mono B3.size)
  have x4 := x3.below b4
  refine hK _ _ ⟨?_, ?_⟩
  · refine ⟨fun p hp => ?_, x4⟩
    simp at hp
    rcases hp with rfl | rfl | rfl | rfl <;> rfl
  clear hK K b4 B3 x3 r3 n3
  refine wpAnyC_one (i := 14) (by kernel_rfl) rfl (fun K hK => ?_)
  go_simp
  refine hK _ _ ⟨?_, ?_⟩
  · refine ⟨fun p hp => ?_, x4⟩
    simp at hp
    rcases hp with rfl | rfl | rfl | rfl <;> rfl
  clear hK K
  refine wpAnyC_done (by kernel_rfl) ?_ _
  clear x4
  have hcl := crc_lt 0 L4
  have k5 := ref_at c4 40 a4 L4 0 0 w4 rfl N4.out (by omega) (by omega) r4
  obtain ⟨X, hX⟩ : ∃ X, X = crc 0 L4 := ⟨_, rfl⟩
  rw [← hX] at hcl k5
  have HX : Hid _ := hX
  clear hX
  go_wp2_with fail
  refine k5.mono ?_
  rintro r w5 ⟨rfl, rfl⟩
  go_wp2_with fail
  refine (refadd_at c4 40 4 a4 L4 X _ 4 w4 rfl rfl N4.out (by omega) (by omega) (by omega) (by omega) r4 n4).mono ?_
  rintro r w6 ⟨v6, rfl, o6, b6⟩
  have B6 := B4.trans (b6.mono B4.size)
  have z4 := B4.size
  have p6 : w6.ownsRow w.heap.size 5 1 v6 44 (bcs (headS b e q t ++ noughts 0)) := by
    have h : headS b e q t ++ noughts 0 = L4 ++ toBE 4 X := by unfold headS; rw [E4.out, ← HX.out]; simp [noughts]
    rw [h]
    exact ⟨o6.1, by
      rcases o6.2 with h | ⟨g', cap', cur, h1, h2, h3⟩
      · exact .inl h
      · exact .inr ⟨g', cap', cur, h1, Nat.le_trans z4 h2, h3⟩⟩
  clear o6 b6 o4 r4 n4 B4 k5 z4
  obtain ⟨i0, hi, hz0, hz1, hz2⟩ := info_parts info5
  go_wp2_with fail
  go_loopw [4] (fun v wr => ∃ k : Nat, k ≤ 4052 ∧ wr.ownsRow w.heap.size 5 1 v (44 + k) (bcs (headS b e q t ++ noughts k)) ∧ Below w.heap.size w wr) (fun v _ => match v with | .slice _ n _ => 4096 - n | _ => 0)
  case atStart => exact ⟨0, Nat.zero_le _, p6, B6⟩
  case round =>
    obtain ⟨k, hk, hown, hbel⟩ := hrel
    clear p6 B6
    obtain ⟨ak, ck, rfl, _, _, _, _, _, _⟩ := owns_parts hown
    by_cases hlt : k < 4052
    · have z3 := hbel.size
      have hlt2 : ((44 + k : Nat) : Int) < 4096 := by omega
      go_wp2_with (at_builtin; refine wpList_append_own _ rfl _ _ 26 rfl w.heap.size 5 i0 (.int .u8 0) 1 1 Try.underlying26 hi hz0 hz1 hz2 rfl (by decide) _ (44 + k) (bcs (headS b e q t ++ noughts k)) rfl (hown.alloc _) ⟨wr.heap.size, 0, none⟩ 1 1 [.int .u8 0] rfl rfl ?c1 ?c2 ?c3 ?c4 ?c5 ?_)
      case c1 =>
        intro i u hi'
        match i, hi' with
        | 0, hi' => simp at hi'; subst hi'; simp [Addr.add]
      case c2 => intro u hu; simp at hu; subst hu; rfl
      case c3 => unfold maxLen; omega
      case c4 => omega
      case c5 => simp; omega
      · intro v' w7 hown7 hgrow _
        have B7 : Below w.heap.size w w7 := (hbel.alloc z3 _).grown hgrow (by simp; omega) (fun k hk => (hown.lt k hk).1)
        have p7 : w7.ownsRow w.heap.size 5 1 v' (44 + (k + 1)) (bcs (headS b e q t ++ noughts (k + 1))) := by
          have h : headS b e q t ++ noughts (k + 1) = (headS b e q t ++ noughts k) ++ [0] := by simp [noughts, List.replicate_succ']
          rw [h, bcs_append]
          exact hown7
        obtain ⟨a7, c7, rfl, _, _, _, _, _, _⟩ := owns_parts p7
        clear hown hbel hgrow hown7
        go_wp2
        go_roundw
        case rel => exact ⟨k + 1, by omega, p7, B7⟩
        case measure => simp; omega
    · obtain rfl : k = 4052 := by omega
      go_wp2
      go_ret2
      refine ⟨_, rfl, ?_, hbel⟩
      show World.ownsRow _ _ _ _ _ (superB b e q t).length (bcs (superB b e q t))
      rw [superB_length]
      exact hown
end Go.Proofs.Ytdkaacjeogifdaa.Su

/-
  The document's own PutSuper, whatever the super.
-/
namespace Go.Proofs.Ytdkaacjeogifdaa.Su
open Go.RowKit

theorem refPutSuper_none (b e q t : Int) (w : World) (h : rightS b e q t = false) :
    Calls Try.prog 30 #[.agg #[.int .i64 b, .int .i64 e, .int .i64 q, .int .i64 t]] w fun r w' => Puts w w' none r := by
  have B0 := (Below.refl w.heap.size w).alloc (Nat.le_refl _) (.cells #[.int .i64 b, .int .i64 e, .int .i64 q, .int .i64 t] 23)
  by_cases h0 : b < 64
  · clear h
    go_enter Try.func30, Try.ntmps30
    go_wp2
    go_ret2
    exact ⟨_, rfl, World.ownsRow_nil _ _ _ _, B0⟩
  · by_cases h1 : 512 < b
    · clear h
      go_enter Try.func30, Try.ntmps30
      go_wp2
      go_ret2
      exact ⟨_, rfl, World.ownsRow_nil _ _ _ _, B0⟩
    · by_cases h2 : e < 1
      · clear h
        go_enter Try.func30, Try.ntmps30
        go_wp2
        go_ret2
        exact ⟨_, rfl, World.ownsRow_nil _ _ _ _, B0⟩
      · by_cases h3 : 8388608 < e
        · clear h
          go_enter Try.func30, Try.ntmps30
          go_wp2
          go_ret2
          exact ⟨_, rfl, World.ownsRow_nil _ _ _ _, B0⟩
        · by_cases h4 : q < 1
          · clear h
            go_enter Try.func30, Try.ntmps30
            go_wp2
            go_ret2
            exact ⟨_, rfl, World.ownsRow_nil _ _ _ _, B0⟩
          · by_cases h5 : 549755813888 < q
            · clear h
              go_enter Try.func30, Try.ntmps30
              go_wp2
              go_ret2
              exact ⟨_, rfl, World.ownsRow_nil _ _ _ _, B0⟩
            · by_cases h6 : t < 0
              · clear h
                go_enter Try.func30, Try.ntmps30
                go_wp2
                go_ret2
                exact ⟨_, rfl, World.ownsRow_nil _ _ _ _, B0⟩
              · by_cases h7 : 511 < t
                · clear h
                  go_enter Try.func30, Try.ntmps30
                  go_wp2
                  go_ret2
                  exact ⟨_, rfl, World.ownsRow_nil _ _ _ _, B0⟩
                · exfalso
                  have hh : rightS b e q t = true := by
                    simp only [rightS, wi, Bool.and_eq_true, decide_eq_true_eq]
                    omega
                  rw [hh] at h
                  cases h

/-- the document's PutSuper is super's -/
theorem refPutSuper_at (b e q t : Int) (w : World) : Calls Try.prog 30 #[.agg #[.int .i64 b, .int .i64 e, .int .i64 q, .int .i64 t]] w fun r w' => Puts w w' (putSuper b e q t) r := by
  cases h : rightS b e q t
  · have e0 : putSuper b e q t = none := by unfold putSuper; rw [h]; rfl
    rw [e0]
    exact refPutSuper_none b e q t w h
  · have e0 : putSuper b e q t = some (superB b.toNat e.toNat q.toNat t.toNat) := by unfold putSuper; rw [h]; rfl
    rw [e0]
    have hh := rightS_nat h
    obtain ⟨b, rfl⟩ := Int.eq_ofNat_of_zero_le (show 0 ≤ b by omega)
    obtain ⟨e, rfl⟩ := Int.eq_ofNat_of_zero_le (show 0 ≤ e by omega)
    obtain ⟨q, rfl⟩ := Int.eq_ofNat_of_zero_le (show 0 ≤ q by omega)
    obtain ⟨t, rfl⟩ := Int.eq_ofNat_of_zero_le (show 0 ≤ t by omega)
    exact refPutSuper_ok b e q t w (by omega) (by omega) (by omega) (by omega)
end Go.Proofs.Ytdkaacjeogifdaa.Su

/-
  GetSuper: what a superblock says.
-/
namespace Go.Proofs.Ytdkaacjeogifdaa.Su
open Go.RowKit

structure Sup where
  b : Int
  e : Int
  q : Int
  t : Int
def zeroS : Sup := ⟨0, 0, 0, 0⟩
def supV (s : Sup) : Value := .agg #[.int .i64 s.b, .int .i64 s.e, .int .i64 s.q, .int .i64 s.t]
def GetsS (w w' : World) (o : Option Sup) (r : Ending) : Prop := r = .returned (.tuple #[supV (o.getD zeroS), .int .i64 (erG o.isSome)]) ∧ Below w.heap.size w w'
def readS (xs : List UInt8) : Sup := ⟨i64 (num xs 8 8), i64 (num xs 16 8), i64 (num xs 24 8), i64 (num xs 32 8)⟩
def getSuper (xs : List UInt8) : Option Sup :=
  if rightS (readS xs).b (readS xs).e (readS xs).q (readS xs).t && (decide (xs.length = 4096) && isThen xs (headS (readS xs).b.toNat (readS xs).e.toNat (readS xs).q.toNat (readS xs).t.toNat)) then some (readS xs) else none

def ansS (B E Q T : Int) (n : Nat) (xs : List UInt8) : Option Sup := if rightS B E Q T && (decide (n = 4096) && isThen xs (headS B.toNat E.toNat Q.toNat T.toNat)) then some ⟨B, E, Q, T⟩ else none

set_option maxRecDepth 100000 in
set_option maxHeartbeats 2000000 in
theorem getSuper_wrong (n cap : Nat) (a : Option Addr) (xs : List UInt8) (B E Q T : Int) (w : World) (Hn : Hid (xs.length = n)) (hm : n ≤ 9223372036854775807) (hr : Rd w a xs) (hB : Hid (i64 (num xs 8 8) = B)) (hE : Hid (i64 (num xs 16 8) = E)) (hQ : Hid (i64 (num xs 24 8) = Q)) (hT : Hid (i64 (num xs 32 8) = T)) (h : rightS B E Q T = false) :
    Calls Try.prog 28 #[.slice a n cap] w fun r w' => GetsS w w' (ansS B E Q T n xs) r := by
  have e : ansS B E Q T n xs = none := by unfold ansS; rw [h]; rfl
  rw [e]
  clear e
  have B1 := (Below.refl w.heap.size w).alloc (Nat.le_refl _) (.cells #[.slice a n cap] 26)
  have x1 := Box.new w #[.slice a n cap] 26
  obtain ⟨w1, hw1⟩ : ∃ w1, w1 = w.alloc (.cells #[.slice a n cap] 26) := ⟨_, rfl⟩
  have s1 : w1.heap.size = w.heap.size + 1 := by rw [hw1]; simp
  rw [← hw1] at B1 x1
  have b2 := (Below.refl w1.heap.size w1).alloc (Nat.le_refl _) (.cells #[.int .i64 0, .int .i64 0, .int .i64 0, .int .i64 0] 23)
  have x2 := Box.new w1 #[.int .i64 0, .int .i64 0, .int .i64 0, .int .i64 0] 23
  have y1 := x1.below b2
  have B2 := B1.trans (b2.mono B1.size)
  obtain ⟨w2, hw2⟩ : ∃ w2, w2 = w1.alloc (.cells #[.int .i64 0, .int .i64 0, .int .i64 0, .int .i64 0] 23) := ⟨_, rfl⟩
  have s2 : w2.heap.size = w.heap.size + 1 + 1 := by rw [hw2]; simp [s1]
  rw [← hw2] at b2 x2 y1 B2
  have b3 := (Below.refl w2.heap.size w2).alloc (Nat.le_refl _) (.cells #[.int .i64 8] 3)
  have o3 : OneI (w2.alloc (.cells #[.int .i64 8] 3)) w2.heap.size 8 := heap_alloc_new w2 _
  have y2 := x2.below b3
  have z1 := y1.below b3
  have B3 := B2.trans (b3.mono B2.size)
  rw [s1] at y2
  rw [s2] at o3
  clear b2 b3 x1 y1 x2 B1 B2
  go_enter Try.func28, Try.ntmps28
  go_wp2_with fail
  rw [← hw1, ← hw2]
  obtain ⟨W, hW⟩ : ∃ W, W = w2.alloc (.cells #[.int .i64 8] 3) := ⟨_, rfl⟩
  rw [← hW] at o3 y2 z1 B3 ⊢
  clear hW hw1 hw2 s1 s2
  refine (next8_at w.heap.size (w.heap.size + 1 + 1) n cap a xs 8 W Hn.out hm (hr.below B3 (Nat.le_refl _)) z1 o3 (by omega)).mono ?_
  rintro r v1 ⟨rfl, p1, g1⟩
  rw [hB.out]
  replace p1 : OneI v1 (w.heap.size + 1 + 1) 16 := p1
  have bs1 : Box v1 w.heap.size #[.slice a n cap] 26 := (g1.block _ z1.lt (fun e => by have := Option.some.inj e; omega)).trans z1
  have bz1 : Box v1 (w.heap.size + 1) #[.int .i64 0, .int .i64 0, .int .i64 0, .int .i64 0] 23 := (g1.block _ y2.lt (fun e => by have := Option.some.inj e; omega)).trans y2
  have D1 := B3.grown g1 B3.size (fun k hk => by simp at hk; omega)
  clear g1 o3 z1 y2 B3
  go_wp2_with fail
  refine (next8_at w.heap.size (w.heap.size + 1 + 1) n cap a xs 16 v1 Hn.out hm (hr.below D1 (Nat.le_refl _)) bs1 p1 (by omega)).mono ?_
  rintro r v2 ⟨rfl, p2, g2⟩
  rw [hE.out]
  replace p2 : OneI v2 (w.heap.size + 1 + 1) 24 := p2
  have bs2 : Box v2 w.heap.size #[.slice a n cap] 26 := (g2.block _ bs1.lt (fun e => by have := Option.some.inj e; omega)).trans bs1
  have bz2 : Box v2 (w.heap.size + 1) #[.int .i64 0, .int .i64 0, .int .i64 0, .int .i64 0] 23 := (g2.block _ bz1.lt (fun e => by have := Option.some.inj e; omega)).trans bz1
  have D2 := D1.grown g2 D1.size (fun k hk => by simp at hk; omega)
  clear g2 p1 bs1 bz1 D1
  go_wp2_with fail
  refine (next8_at w.heap.size (w.heap.size + 1 + 1) n cap a xs 24 v2 Hn.out hm (hr.below D2 (Nat.le_refl _)) bs2 p2 (by omega)).mono ?_
  rintro r v3 ⟨rfl, p3, g3⟩
  rw [hQ.out]
  replace p3 : OneI v3 (w.heap.size + 1 + 1) 32 := p3
  have bs3 : Box v3 w.heap.size #[.slice a n cap] 26 := (g3.block _ bs2.lt (fun e => by have := Option.some.inj e; omega)).trans bs2
  have bz3 : Box v3 (w.heap.size + 1) #[.int .i64 0, .int .i64 0, .int .i64 0, .int .i64 0] 23 := (g3.block _ bz2.lt (fun e => by have := Option.some.inj e; omega)).trans bz2
  have D3 := D2.grown g3 D2.size (fun k hk => by simp at hk; omega)
  clear g3 p2 bs2 bz2 D2
  go_wp2_with fail
  refine (next8_at w.heap.size (w.heap.size + 1 + 1) n cap a xs 32 v3 Hn.out hm (hr.below D3 (Nat.le_refl _)) bs3 p3 (by omega)).mono ?_
  rintro r v4 ⟨rfl, p4, g4⟩
  rw [hT.out]
  replace p4 : OneI v4 (w.heap.size + 1 + 1) 40 := p4
  have bs4 : Box v4 w.heap.size #[.slice a n cap] 26 := (g4.block _ bs3.lt (fun e => by have := Option.some.inj e; omega)).trans bs3
  have bz4 : Box v4 (w.heap.size + 1) #[.int .i64 0, .int .i64 0, .int .i64 0, .int .i64 0] 23 := (g4.block _ bz3.lt (fun e => by have := Option.some.inj e; omega)).trans bz3
  have D4 := D3.grown g4 D3.size (fun k hk => by simp at hk; omega)
  clear g4 p3 bs3 bz3 D3
  have bA := (Below.refl v4.heap.size v4).alloc (Nat.le_refl _) (.cells #[.int .i64 B, .int .i64 E, .int .i64 Q, .int .i64 T] 23)
  have bq := Box.new v4 #[.int .i64 B, .int .i64 E, .int .i64 Q, .int .i64 T] 23
  have bs := bs4.below bA
  have bz := bz4.below bA
  have D := D4.trans (bA.mono D4.size)
  go_wp2_with fail
  obtain ⟨U, hU⟩ : ∃ U, U = v4.alloc (.cells #[.int .i64 B, .int .i64 E, .int .i64 Q, .int .i64 T] 23) := ⟨_, rfl⟩
  rw [← hU] at bq bs bz D ⊢
  obtain ⟨G, hG⟩ : ∃ G, G = v4.heap.size := ⟨_, rfl⟩
  rw [← hG] at bq ⊢
  clear bs4 bz4 D4 p4 bA hU hG
  have hrU := hr.below D (Nat.le_refl _)
  have q0 := bq.cell 0
  have q1 := bq.cell 1
  have q2 := bq.cell 2
  have q3 := bq.cell 3
  have s0 := bs.cell 0
  simp only [List.getElem?_toArray, List.getElem?_cons_zero, List.getElem?_cons_succ] at q0 q1 q2 q3 s0
  go_region_with (go_at_call 52; refine (rightSuper_at B E Q T _).mono ?_; rintro r u1 ⟨rfl, b1⟩; rw [h]; have D1 : Below w.heap.size w u1 := (D.drew).trans (b1.mono D.size); have bz1 : Box u1 (w.heap.size + 1) #[.int .i64 0, .int .i64 0, .int .i64 0, .int .i64 0] 23 := Box.below (w := U.drew) bz b1)
  all_goals
    have m0 := bz1.cell 0
    have m1 := bz1.cell 1
    have m2 := bz1.cell 2
    have m3 := bz1.cell 3
    simp only [List.getElem?_toArray, List.getElem?_cons_zero, List.getElem?_cons_succ] at m0 m1 m2 m3
    have f0 := bz1.frozen 0
    have f1 := bz1.frozen 1
    have f2 := bz1.frozen 2
    have f3 := bz1.frozen 3
    go_wp2_with fail
    have Y := ((((bz1.store 0 (.int .i64 0)).store 1 (.int .i64 0)).store 2 (.int .i64 0)).store 3 (.int .i64 0))
    have C1 := ((((D1.setCell (p := ⟨w.heap.size + 1, 0, none⟩) (Nat.le_succ _) (.int .i64 0)).setCell (p := ⟨w.heap.size + 1, 1, none⟩) (Nat.le_succ _) (.int .i64 0)).setCell (p := ⟨w.heap.size + 1, 2, none⟩) (Nat.le_succ _) (.int .i64 0)).setCell (p := ⟨w.heap.size + 1, 3, none⟩) (Nat.le_succ _) (.int .i64 0))
    generalize ((((u1.setCell ⟨w.heap.size + 1, 0, none⟩ (.int .i64 0)).setCell ⟨w.heap.size + 1, 1, none⟩ (.int .i64 0)).setCell ⟨w.heap.size + 1, 2, none⟩ (.int .i64 0)).setCell ⟨w.heap.size + 1, 3, none⟩ (.int .i64 0)) = W9 at Y C1 ⊢
    clear m0 m1 m2 m3
    have m0 := Y.cell 0
    have m1 := Y.cell 1
    have m2 := Y.cell 2
    have m3 := Y.cell 3
    simp at m0 m1 m2 m3
    refine bodyPost_ret (v := .tuple #[.agg #[.int .i64 0, .int .i64 0, .int .i64 0, .int .i64 0], .int .i64 30]) (by simp [results, Try.results28, go_sem, m0, m1, m2, m3]) rfl ?_
    exact ⟨rfl, C1⟩

set_option maxRecDepth 100000 in
set_option maxHeartbeats 2000000 in
theorem getSuper_off (n cap : Nat) (a : Option Addr) (xs : List UInt8) (B E Q T : Int) (w : World) (Hn : Hid (xs.length = n)) (hm : n ≤ 9223372036854775807) (hr : Rd w a xs) (hB : Hid (i64 (num xs 8 8) = B)) (hE : Hid (i64 (num xs 16 8) = E)) (hQ : Hid (i64 (num xs 24 8) = Q)) (hT : Hid (i64 (num xs 32 8) = T)) (h : rightS B E Q T = true) (h4 : n ≠ 4096) :
    Calls Try.prog 28 #[.slice a n cap] w fun r w' => GetsS w w' (ansS B E Q T n xs) r := by
  have e : ansS B E Q T n xs = none := by unfold ansS; rw [decide_eq_false h4]; simp
  rw [e]
  clear e
  have h5 : ((n : Int) != 4096) = true := by simp; omega
  clear h4
  have B1 := (Below.refl w.heap.size w).alloc (Nat.le_refl _) (.cells #[.slice a n cap] 26)
  have x1 := Box.new w #[.slice a n cap] 26
  obtain ⟨w1, hw1⟩ : ∃ w1, w1 = w.alloc (.cells #[.slice a n cap] 26) := ⟨_, rfl⟩
  have s1 : w1.heap.size = w.heap.size + 1 := by rw [hw1]; simp
  rw [← hw1] at B1 x1
  have b2 := (Below.refl w1.heap.size w1).alloc (Nat.le_refl _) (.cells #[.int .i64 0, .int .i64 0, .int .i64 0, .int .i64 0] 23)
  have x2 := Box.new w1 #[.int .i64 0, .int .i64 0, .int .i64 0, .int .i64 0] 23
  have y1 := x1.below b2
  have B2 := B1.trans (b2.mono B1.size)
  obtain ⟨w2, hw2⟩ : ∃ w2, w2 = w1.alloc (.cells #[.int .i64 0, .int .i64 0, .int .i64 0, .int .i64 0] 23) := ⟨_, rfl⟩
  have s2 : w2.heap.size = w.heap.size + 1 + 1 := by rw [hw2]; simp [s1]
  rw [← hw2] at b2 x2 y1 B2
  have b3 := (Below.refl w2.heap.size w2).alloc (Nat.le_refl _) (.cells #[.int .i64 8] 3)
  have o3 : OneI (w2.alloc (.cells #[.int .i64 8] 3)) w2.heap.size 8 := heap_alloc_new w2 _
  have y2 := x2.below b3
  have z1 := y1.below b3
  have B3 := B2.trans (b3.mono B2.size)
  rw [s1] at y2
  rw [s2] at o3
  clear b2 b3 x1 y1 x2 B1 B2
  go_enter Try.func28, Try.ntmps28
  go_wp2_with fail
  rw [← hw1, ← hw2]
  obtain ⟨W, hW⟩ : ∃ W, W = w2.alloc (.cells #[.int .i64 8] 3) := ⟨_, rfl⟩
  rw [← hW] at o3 y2 z1 B3 ⊢
  clear hW hw1 hw2 s1 s2
  refine (next8_at w.heap.size (w.heap.size + 1 + 1) n cap a xs 8 W Hn.out hm (hr.below B3 (Nat.le_refl _)) z1 o3 (by omega)).mono ?_
  rintro r v1 ⟨rfl, p1, g1⟩
  rw [hB.out]
  replace p1 : OneI v1 (w.heap.size + 1 + 1) 16 := p1
  have bs1 : Box v1 w.heap.size #[.slice a n cap] 26 := (g1.block _ z1.lt (fun e => by have := Option.some.inj e; omega)).trans z1
  have bz1 : Box v1 (w.heap.size + 1) #[.int .i64 0, .int .i64 0, .int .i64 0, .int .i64 0] 23 := (g1.block _ y2.lt (fun e => by have := Option.some.inj e; omega)).trans y2
  have D1 := B3.grown g1 B3.size (fun k hk => by simp at hk; omega)
  clear g1 o3 z1 y2 B3
  go_wp2_with fail
  refine (next8_at w.heap.size (w.heap.size + 1 + 1) n cap a xs 16 v1 Hn.out hm (hr.below D1 (Nat.le_refl _)) bs1 p1 (by omega)).mono ?_
  rintro r v2 ⟨rfl, p2, g2⟩
  rw [hE.out]
  replace p2 : OneI v2 (w.heap.size + 1 + 1) 24 := p2
  have bs2 : Box v2 w.heap.size #[.slice a n cap] 26 := (g2.block _ bs1.lt (fun e => by have := Option.some.inj e; omega)).trans bs1
  have bz2 : Box v2 (w.heap.size + 1) #[.int .i64 0, .int .i64 0, .int .i64 0, .int .i64 0] 23 := (g2.block _ bz1.lt (fun e => by have := Option.some.inj e; omega)).trans bz1
  have D2 := D1.grown g2 D1.size (fun k hk => by simp at hk; omega)
  clear g2 p1 bs1 bz1 D1
  go_wp2_with fail
  refine (next8_at w.heap.size (w.heap.size + 1 + 1) n cap a xs 24 v2 Hn.out hm (hr.below D2 (Nat.le_refl _)) bs2 p2 (by omega)).mono ?_
  rintro r v3 ⟨rfl, p3, g3⟩
  rw [hQ.out]
  replace p3 : OneI v3 (w.heap.size + 1 + 1) 32 := p3
  have bs3 : Box v3 w.heap.size #[.slice a n cap] 26 := (g3.block _ bs2.lt (fun e => by have := Option.some.inj e; omega)).trans bs2
  have bz3 : Box v3 (w.heap.size + 1) #[.int .i64 0, .int .i64 0, .int .i64 0, .int .i64 0] 23 := (g3.block _ bz2.lt (fun e => by have := Option.some.inj e; omega)).trans bz2
  have D3 := D2.grown g3 D2.size (fun k hk => by simp at hk; omega)
  clear g3 p2 bs2 bz2 D2
  go_wp2_with fail
  refine (next8_at w.heap.size (w.heap.size + 1 + 1) n cap a xs 32 v3 Hn.out hm (hr.below D3 (Nat.le_refl _)) bs3 p3 (by omega)).mono ?_
  rintro r v4 ⟨rfl, p4, g4⟩
  rw [hT.out]
  replace p4 : OneI v4 (w.heap.size + 1 + 1) 40 := p4
  have bs4 : Box v4 w.heap.size #[.slice a n cap] 26 := (g4.block _ bs3.lt (fun e => by have := Option.some.inj e; omega)).trans bs3
  have bz4 : Box v4 (w.heap.size + 1) #[.int .i64 0, .int .i64 0, .int .i64 0, .int .i64 0] 23 := (g4.block _ bz3.lt (fun e => by have := Option.some.inj e; omega)).trans bz3
  have D4 := D3.grown g4 D3.size (fun k hk => by simp at hk; omega)
  clear g4 p3 bs3 bz3 D3
  have bA := (Below.refl v4.heap.size v4).alloc (Nat.le_refl _) (.cells #[.int .i64 B, .int .i64 E, .int .i64 Q, .int .i64 T] 23)
  have bq := Box.new v4 #[.int .i64 B, .int .i64 E, .int .i64 Q, .int .i64 T] 23
  have bs := bs4.below bA
  have bz := bz4.below bA
  have D := D4.trans (bA.mono D4.size)
  go_wp2_with fail
  obtain ⟨U, hU⟩ : ∃ U, U = v4.alloc (.cells #[.int .i64 B, .int .i64 E, .int .i64 Q, .int .i64 T] 23) := ⟨_, rfl⟩
  rw [← hU] at bq bs bz D ⊢
  obtain ⟨G, hG⟩ : ∃ G, G = v4.heap.size := ⟨_, rfl⟩
  rw [← hG] at bq ⊢
  clear bs4 bz4 D4 p4 bA hU hG
  have hrU := hr.below D (Nat.le_refl _)
  have q0 := bq.cell 0
  have q1 := bq.cell 1
  have q2 := bq.cell 2
  have q3 := bq.cell 3
  have s0 := bs.cell 0
  simp only [List.getElem?_toArray, List.getElem?_cons_zero, List.getElem?_cons_succ] at q0 q1 q2 q3 s0
  clear s0
  go_region_with (go_at_call 52; refine (rightSuper_at B E Q T _).mono ?_; rintro r u1 ⟨rfl, b1⟩; rw [h]; have D1 : Below w.heap.size w u1 := (D.drew).trans (b1.mono D.size); have bz1 : Box u1 (w.heap.size + 1) #[.int .i64 0, .int .i64 0, .int .i64 0, .int .i64 0] 23 := Box.below (w := U.drew) bz b1; have bs1 : Box u1 w.heap.size #[.slice a n cap] 26 := Box.below (w := U.drew) bs b1; have bq1 : Box u1 G #[.int .i64 B, .int .i64 E, .int .i64 Q, .int .i64 T] 23 := Box.below (w := U.drew) bq b1; have s0 := bs1.cell 0; have q0 := bq1.cell 0; have q1 := bq1.cell 1; have q2 := bq1.cell 2; have q3 := bq1.cell 3; simp only [List.getElem?_toArray, List.getElem?_cons_zero, List.getElem?_cons_succ] at q0 q1 q2 q3 s0)
  all_goals
    have m0 := bz1.cell 0
    have m1 := bz1.cell 1
    have m2 := bz1.cell 2
    have m3 := bz1.cell 3
    simp only [List.getElem?_toArray, List.getElem?_cons_zero, List.getElem?_cons_succ] at m0 m1 m2 m3
    have f0 := bz1.frozen 0
    have f1 := bz1.frozen 1
    have f2 := bz1.frozen 2
    have f3 := bz1.frozen 3
    go_wp2_with fail
    have Y := ((((bz1.store 0 (.int .i64 0)).store 1 (.int .i64 0)).store 2 (.int .i64 0)).store 3 (.int .i64 0))
    have C1 := ((((D1.setCell (p := ⟨w.heap.size + 1, 0, none⟩) (Nat.le_succ _) (.int .i64 0)).setCell (p := ⟨w.heap.size + 1, 1, none⟩) (Nat.le_succ _) (.int .i64 0)).setCell (p := ⟨w.heap.size + 1, 2, none⟩) (Nat.le_succ _) (.int .i64 0)).setCell (p := ⟨w.heap.size + 1, 3, none⟩) (Nat.le_succ _) (.int .i64 0))
    generalize ((((u1.setCell ⟨w.heap.size + 1, 0, none⟩ (.int .i64 0)).setCell ⟨w.heap.size + 1, 1, none⟩ (.int .i64 0)).setCell ⟨w.heap.size + 1, 2, none⟩ (.int .i64 0)).setCell ⟨w.heap.size + 1, 3, none⟩ (.int .i64 0)) = W9 at Y C1 ⊢
    clear m0 m1 m2 m3
    have m0 := Y.cell 0
    have m1 := Y.cell 1
    have m2 := Y.cell 2
    have m3 := Y.cell 3
    simp at m0 m1 m2 m3
    refine bodyPost_ret (v := .tuple #[.agg #[.int .i64 0, .int .i64 0, .int .i64 0, .int .i64 0], .int .i64 30]) (by simp [results, Try.results28, go_sem, m0, m1, m2, m3]) rfl ?_
    exact ⟨rfl, C1⟩

set_option maxRecDepth 100000 in
set_option maxHeartbeats 4000000 in
theorem getSuper_bad (bb oo cap b e q t : Nat) (xs : List UInt8) (w : World) (Hn : Hid (xs.length = 4096)) (hcap : 4096 ≤ cap) (hcm : cap ≤ 9223372036854775807) (hm : 4096 ≤ 9223372036854775807) (hr : Rd w (some ⟨bb, oo, none⟩) xs) (hB : Hid (i64 (num xs 8 8) = (b : Int))) (hE : Hid (i64 (num xs 16 8) = (e : Int))) (hQ : Hid (i64 (num xs 24 8) = (q : Int))) (hT : Hid (i64 (num xs 32 8) = (t : Int))) (h : rightS b e q t = true) (hH : isThen xs (headS b e q t) = false) :
    Calls Try.prog 28 #[.slice (some ⟨bb, oo, none⟩) 4096 cap] w fun r w' => GetsS w w' none r := by
  obtain ⟨hb9, he9, hq9, ht9⟩ : b < 9223372036854775808 ∧ e < 9223372036854775808 ∧ q < 9223372036854775808 ∧ t < 9223372036854775808 := by
    have := rightS_nat h
    omega
  have B1 := (Below.refl w.heap.size w).alloc (Nat.le_refl _) (.cells #[.slice (some ⟨bb, oo, none⟩) 4096 cap] 26)
  have x1 := Box.new w #[.slice (some ⟨bb, oo, none⟩) 4096 cap] 26
  obtain ⟨w1, hw1⟩ : ∃ w1, w1 = w.alloc (.cells #[.slice (some ⟨bb, oo, none⟩) 4096 cap] 26) := ⟨_, rfl⟩
  have s1 : w1.heap.size = w.heap.size + 1 := by rw [hw1]; simp
  rw [← hw1] at B1 x1
  have b2 := (Below.refl w1.heap.size w1).alloc (Nat.le_refl _) (.cells #[.int .i64 0, .int .i64 0, .int .i64 0, .int .i64 0] 23)
  have x2 := Box.new w1 #[.int .i64 0, .int .i64 0, .int .i64 0, .int .i64 0] 23
  have y1 := x1.below b2
  have B2 := B1.trans (b2.mono B1.size)
  obtain ⟨w2, hw2⟩ : ∃ w2, w2 = w1.alloc (.cells #[.int .i64 0, .int .i64 0, .int .i64 0, .int .i64 0] 23) := ⟨_, rfl⟩
  have s2 : w2.heap.size = w.heap.size + 1 + 1 := by rw [hw2]; simp [s1]
  rw [← hw2] at b2 x2 y1 B2
  have b3 := (Below.refl w2.heap.size w2).alloc (Nat.le_refl _) (.cells #[.int .i64 8] 3)
  have o3 : OneI (w2.alloc (.cells #[.int .i64 8] 3)) w2.heap.size 8 := heap_alloc_new w2 _
  have y2 := x2.below b3
  have z1 := y1.below b3
  have B3 := B2.trans (b3.mono B2.size)
  rw [s1] at y2
  rw [s2] at o3
  clear b2 b3 x1 y1 x2 B1 B2
  go_enter Try.func28, Try.ntmps28
  go_wp2_with fail
  rw [← hw1, ← hw2]
  obtain ⟨W, hW⟩ : ∃ W, W = w2.alloc (.cells #[.int .i64 8] 3) := ⟨_, rfl⟩
  rw [← hW] at o3 y2 z1 B3 ⊢
  clear hW hw1 hw2 s1 s2
  refine (next8_at w.heap.size (w.heap.size + 1 + 1) 4096 cap (some ⟨bb, oo, none⟩) xs 8 W Hn.out hm (hr.below B3 (Nat.le_refl _)) z1 o3 (by omega)).mono ?_
  rintro r v1 ⟨rfl, p1, g1⟩
  rw [hB.out]
  replace p1 : OneI v1 (w.heap.size + 1 + 1) 16 := p1
  have bs1 : Box v1 w.heap.size #[.slice (some ⟨bb, oo, none⟩) 4096 cap] 26 := (g1.block _ z1.lt (fun e => by have := Option.some.inj e; omega)).trans z1
  have bz1 : Box v1 (w.heap.size + 1) #[.int .i64 0, .int .i64 0, .int .i64 0, .int .i64 0] 23 := (g1.block _ y2.lt (fun e => by have := Option.some.inj e; omega)).trans y2
  have D1 := B3.grown g1 B3.size (fun k hk => by simp at hk; omega)
  clear g1 o3 z1 y2 B3
  go_wp2_with fail
  refine (next8_at w.heap.size (w.heap.size + 1 + 1) 4096 cap (some ⟨bb, oo, none⟩) xs 16 v1 Hn.out hm (hr.below D1 (Nat.le_refl _)) bs1 p1 (by omega)).mono ?_
  rintro r v2 ⟨rfl, p2, g2⟩
  rw [hE.out]
  replace p2 : OneI v2 (w.heap.size + 1 + 1) 24 := p2
  have bs2 : Box v2 w.heap.size #[.slice (some ⟨bb, oo, none⟩) 4096 cap] 26 := (g2.block _ bs1.lt (fun e => by have := Option.some.inj e; omega)).trans bs1
  have bz2 : Box v2 (w.heap.size + 1) #[.int .i64 0, .int .i64 0, .int .i64 0, .int .i64 0] 23 := (g2.block _ bz1.lt (fun e => by have := Option.some.inj e; omega)).trans bz1
  have D2 := D1.grown g2 D1.size (fun k hk => by simp at hk; omega)
  clear g2 p1 bs1 bz1 D1
  go_wp2_with fail
  refine (next8_at w.heap.size (w.heap.size + 1 + 1) 4096 cap (some ⟨bb, oo, none⟩) xs 24 v2 Hn.out hm (hr.below D2 (Nat.le_refl _)) bs2 p2 (by omega)).mono ?_
  rintro r v3 ⟨rfl, p3, g3⟩
  rw [hQ.out]
  replace p3 : OneI v3 (w.heap.size + 1 + 1) 32 := p3
  have bs3 : Box v3 w.heap.size #[.slice (some ⟨bb, oo, none⟩) 4096 cap] 26 := (g3.block _ bs2.lt (fun e => by have := Option.some.inj e; omega)).trans bs2
  have bz3 : Box v3 (w.heap.size + 1) #[.int .i64 0, .int .i64 0, .int .i64 0, .int .i64 0] 23 := (g3.block _ bz2.lt (fun e => by have := Option.some.inj e; omega)).trans bz2
  have D3 := D2.grown g3 D2.size (fun k hk => by simp at hk; omega)
  clear g3 p2 bs2 bz2 D2
  go_wp2_with fail
  refine (next8_at w.heap.size (w.heap.size + 1 + 1) 4096 cap (some ⟨bb, oo, none⟩) xs 32 v3 Hn.out hm (hr.below D3 (Nat.le_refl _)) bs3 p3 (by omega)).mono ?_
  rintro r v4 ⟨rfl, p4, g4⟩
  rw [hT.out]
  replace p4 : OneI v4 (w.heap.size + 1 + 1) 40 := p4
  have bs4 : Box v4 w.heap.size #[.slice (some ⟨bb, oo, none⟩) 4096 cap] 26 := (g4.block _ bs3.lt (fun e => by have := Option.some.inj e; omega)).trans bs3
  have bz4 : Box v4 (w.heap.size + 1) #[.int .i64 0, .int .i64 0, .int .i64 0, .int .i64 0] 23 := (g4.block _ bz3.lt (fun e => by have := Option.some.inj e; omega)).trans bz3
  have D4 := D3.grown g4 D3.size (fun k hk => by simp at hk; omega)
  clear g4 p3 bs3 bz3 D3
  have bA := (Below.refl v4.heap.size v4).alloc (Nat.le_refl _) (.cells #[.int .i64 (b : Int), .int .i64 (e : Int), .int .i64 (q : Int), .int .i64 (t : Int)] 23)
  have bq := Box.new v4 #[.int .i64 (b : Int), .int .i64 (e : Int), .int .i64 (q : Int), .int .i64 (t : Int)] 23
  have bs := bs4.below bA
  have bz := bz4.below bA
  have D := D4.trans (bA.mono D4.size)
  go_wp2_with fail
  obtain ⟨U, hU⟩ : ∃ U, U = v4.alloc (.cells #[.int .i64 (b : Int), .int .i64 (e : Int), .int .i64 (q : Int), .int .i64 (t : Int)] 23) := ⟨_, rfl⟩
  rw [← hU] at bq bs bz D ⊢
  obtain ⟨G, hG⟩ : ∃ G, G = v4.heap.size := ⟨_, rfl⟩
  rw [← hG] at bq ⊢
  clear bs4 bz4 D4 p4 bA hU hG
  have hrU := hr.below D (Nat.le_refl _)
  have q0 := bq.cell 0
  have q1 := bq.cell 1
  have q2 := bq.cell 2
  have q3 := bq.cell 3
  have s0 := bs.cell 0
  simp only [List.getElem?_toArray, List.getElem?_cons_zero, List.getElem?_cons_succ] at q0 q1 q2 q3 s0
  clear s0
  go_region_with (first | (go_at_call 52; refine (rightSuper_at (b : Int) e q t _).mono ?_; rintro r u1 ⟨rfl, b1⟩; rw [h]; have D1 : Below w.heap.size w u1 := (D.drew).trans (b1.mono D.size); have bz1 : Box u1 (w.heap.size + 1) #[.int .i64 0, .int .i64 0, .int .i64 0, .int .i64 0] 23 := Box.below (w := U.drew) bz b1; have bs1 : Box u1 w.heap.size #[.slice (some ⟨bb, oo, none⟩) 4096 cap] 26 := Box.below (w := U.drew) bs b1; have bq1 : Box u1 G #[.int .i64 (b : Int), .int .i64 (e : Int), .int .i64 (q : Int), .int .i64 (t : Int)] 23 := Box.below (w := U.drew) bq b1; have s0 := bs1.cell 0; have q0 := bq1.cell 0; have q1 := bq1.cell 1; have q2 := bq1.cell 2; have q3 := bq1.cell 3; simp only [List.getElem?_toArray, List.getElem?_cons_zero, List.getElem?_cons_succ] at q0 q1 q2 q3 s0) | (go_at_call 54; refine (superHead_at b e q t u1 hb9 he9 hq9 ht9).mono ?_; rintro r u2 ⟨g, rfl, hg, oh, b2⟩; have D2 : Below w.heap.size w u2 := D1.trans (b2.mono D1.size); have bz2 := bz1.below b2; have bq2 := bq1.below b2; have bs2 := bs1.below b2; have hr2 := hr.below D2 (Nat.le_refl _); have t0 := bs2.cell 0; simp only [List.getElem?_toArray, List.getElem?_cons_zero] at t0) | (go_at_call 53; refine (isThen_at cap 44 4096 44 (some ⟨bb, oo, none⟩) (some ⟨g, 0, none⟩) xs (headS b e q t) u2 Hn.out (headS_length _ _ _ _) hcap hcm (by omega) (by simp) hr2 oh.rd).mono ?_; rintro r u3 ⟨rfl, rfl⟩; rw [hH]))
  all_goals
    have m0 := bz2.cell 0
    have m1 := bz2.cell 1
    have m2 := bz2.cell 2
    have m3 := bz2.cell 3
    simp only [List.getElem?_toArray, List.getElem?_cons_zero, List.getElem?_cons_succ] at m0 m1 m2 m3
    have f0 := bz2.frozen 0
    have f1 := bz2.frozen 1
    have f2 := bz2.frozen 2
    have f3 := bz2.frozen 3
    go_wp2_with fail
    have Y := ((((bz2.store 0 (.int .i64 0)).store 1 (.int .i64 0)).store 2 (.int .i64 0)).store 3 (.int .i64 0))
    have C1 := ((((D2.setCell (p := ⟨w.heap.size + 1, 0, none⟩) (Nat.le_succ _) (.int .i64 0)).setCell (p := ⟨w.heap.size + 1, 1, none⟩) (Nat.le_succ _) (.int .i64 0)).setCell (p := ⟨w.heap.size + 1, 2, none⟩) (Nat.le_succ _) (.int .i64 0)).setCell (p := ⟨w.heap.size + 1, 3, none⟩) (Nat.le_succ _) (.int .i64 0))
    generalize ((((u2.setCell ⟨w.heap.size + 1, 0, none⟩ (.int .i64 0)).setCell ⟨w.heap.size + 1, 1, none⟩ (.int .i64 0)).setCell ⟨w.heap.size + 1, 2, none⟩ (.int .i64 0)).setCell ⟨w.heap.size + 1, 3, none⟩ (.int .i64 0)) = W9 at Y C1 ⊢
    clear m0 m1 m2 m3
    have m0 := Y.cell 0
    have m1 := Y.cell 1
    have m2 := Y.cell 2
    have m3 := Y.cell 3
    simp at m0 m1 m2 m3
    refine bodyPost_ret (v := .tuple #[.agg #[.int .i64 0, .int .i64 0, .int .i64 0, .int .i64 0], .int .i64 30]) (by simp [results, Try.results28, go_sem, m0, m1, m2, m3]) rfl ?_
    exact ⟨rfl, C1⟩

set_option maxRecDepth 100000 in
set_option maxHeartbeats 4000000 in
theorem getSuper_ok (bb oo cap b e q t : Nat) (xs : List UInt8) (w : World) (Hn : Hid (xs.length = 4096)) (hcap : 4096 ≤ cap) (hcm : cap ≤ 9223372036854775807) (hm : 4096 ≤ 9223372036854775807) (hr : Rd w (some ⟨bb, oo, none⟩) xs) (hB : Hid (i64 (num xs 8 8) = (b : Int))) (hE : Hid (i64 (num xs 16 8) = (e : Int))) (hQ : Hid (i64 (num xs 24 8) = (q : Int))) (hT : Hid (i64 (num xs 32 8) = (t : Int))) (h : rightS b e q t = true) (hH : isThen xs (headS b e q t) = true) :
    Calls Try.prog 28 #[.slice (some ⟨bb, oo, none⟩) 4096 cap] w fun r w' => GetsS w w' (some ⟨b, e, q, t⟩) r := by
  obtain ⟨hb9, he9, hq9, ht9⟩ : b < 9223372036854775808 ∧ e < 9223372036854775808 ∧ q < 9223372036854775808 ∧ t < 9223372036854775808 := by
    have := rightS_nat h
    omega
  have B1 := (Below.refl w.heap.size w).alloc (Nat.le_refl _) (.cells #[.slice (some ⟨bb, oo, none⟩) 4096 cap] 26)
  have x1 := Box.new w #[.slice (some ⟨bb, oo, none⟩) 4096 cap] 26
  obtain ⟨w1, hw1⟩ : ∃ w1, w1 = w.alloc (.cells #[.slice (some ⟨bb, oo, none⟩) 4096 cap] 26) := ⟨_, rfl⟩
  have s1 : w1.heap.size = w.heap.size + 1 := by rw [hw1]; simp
  rw [← hw1] at B1 x1
  have b2 := (Below.refl w1.heap.size w1).alloc (Nat.le_refl _) (.cells #[.int .i64 0, .int .i64 0, .int .i64 0, .int .i64 0] 23)
  have x2 := Box.new w1 #[.int .i64 0, .int .i64 0, .int .i64 0, .int .i64 0] 23
  have y1 := x1.below b2
  have B2 := B1.trans (b2.mono B1.size)
  obtain ⟨w2, hw2⟩ : ∃ w2, w2 = w1.alloc (.cells #[.int .i64 0, .int .i64 0, .int .i64 0, .int .i64 0] 23) := ⟨_, rfl⟩
  have s2 : w2.heap.size = w.heap.size + 1 + 1 := by rw [hw2]; simp [s1]
  rw [← hw2] at b2 x2 y1 B2
  have b3 := (Below.refl w2.heap.size w2).alloc (Nat.le_refl _) (.cells #[.int .i64 8] 3)
  have o3 : OneI (w2.alloc (.cells #[.int .i64 8] 3)) w2.heap.size 8 := heap_alloc_new w2 _
  have y2 := x2.below b3
  have z1 := y1.below b3
  have B3 := B2.trans (b3.mono B2.size)
  rw [s1] at y2
  rw [s2] at o3
  clear b2 b3 x1 y1 x2 B1 B2
  go_enter Try.func28, Try.ntmps28
  go_wp2_with fail
  rw [← hw1, ← hw2]
  obtain ⟨W, hW⟩ : ∃ W, W = w2.alloc (.cells #[.int .i64 8] 3) := ⟨_, rfl⟩
  rw [← hW] at o3 y2 z1 B3 ⊢
  clear hW hw1 hw2 s1 s2
  refine (next8_at w.heap.size (w.heap.size + 1 + 1) 4096 cap (some ⟨bb, oo, none⟩) xs 8 W Hn.out hm (hr.below B3 (Nat.le_refl _)) z1 o3 (by omega)).mono ?_
  rintro r v1 ⟨rfl, p1, g1⟩
  rw [hB.out]
  replace p1 : OneI v1 (w.heap.size + 1 + 1) 16 := p1
  have bs1 : Box v1 w.heap.size #[.slice (some ⟨bb, oo, none⟩) 4096 cap] 26 := (g1.block _ z1.lt (fun e => by have := Option.some.inj e; omega)).trans z1
  have bz1 : Box v1 (w.heap.size + 1) #[.int .i64 0, .int .i64 0, .int .i64 0, .int .i64 0] 23 := (g1.block _ y2.lt (fun e => by have := Option.some.inj e; omega)).trans y2
  have D1 := B3.grown g1 B3.size (fun k hk => by simp at hk; omega)
  clear g1 o3 z1 y2 B3
  go_wp2_with fail
  refine (next8_at w.heap.size (w.heap.size + 1 + 1) 4096 cap (some ⟨bb, oo, none⟩) xs 16 v1 Hn.out hm (hr.below D1 (Nat.le_refl _)) bs1 p1 (by omega)).mono ?_
  rintro r v2 ⟨rfl, p2, g2⟩
  rw [hE.out]
  replace p2 : OneI v2 (w.heap.size + 1 + 1) 24 := p2
  have bs2 : Box v2 w.heap.size #[.slice (some ⟨bb, oo, none⟩) 4096 cap] 26 := (g2.block _ bs1.lt (fun e => by have := Option.some.inj e; omega)).trans bs1
  have bz2 : Box v2 (w.heap.size + 1) #[.int .i64 0, .int .i64 0, .int .i64 0, .int .i64 0] 23 := (g2.block _ bz1.lt (fun e => by have := Option.some.inj e; omega)).trans bz1
  have D2 := D1.grown g2 D1.size (fun k hk => by simp at hk; omega)
  clear g2 p1 bs1 bz1 D1
  go_wp2_with fail
  refine (next8_at w.heap.size (w.heap.size + 1 + 1) 4096 cap (some ⟨bb, oo, none⟩) xs 24 v2 Hn.out hm (hr.below D2 (Nat.le_refl _)) bs2 p2 (by omega)).mono ?_
  rintro r v3 ⟨rfl, p3, g3⟩
  rw [hQ.out]
  replace p3 : OneI v3 (w.heap.size + 1 + 1) 32 := p3
  have bs3 : Box v3 w.heap.size #[.slice (some ⟨bb, oo, none⟩) 4096 cap] 26 := (g3.block _ bs2.lt (fun e => by have := Option.some.inj e; omega)).trans bs2
  have bz3 : Box v3 (w.heap.size + 1) #[.int .i64 0, .int .i64 0, .int .i64 0, .int .i64 0] 23 := (g3.block _ bz2.lt (fun e => by have := Option.some.inj e; omega)).trans bz2
  have D3 := D2.grown g3 D2.size (fun k hk => by simp at hk; omega)
  clear g3 p2 bs2 bz2 D2
  go_wp2_with fail
  refine (next8_at w.heap.size (w.heap.size + 1 + 1) 4096 cap (some ⟨bb, oo, none⟩) xs 32 v3 Hn.out hm (hr.below D3 (Nat.le_refl _)) bs3 p3 (by omega)).mono ?_
  rintro r v4 ⟨rfl, p4, g4⟩
  rw [hT.out]
  replace p4 : OneI v4 (w.heap.size + 1 + 1) 40 := p4
  have bs4 : Box v4 w.heap.size #[.slice (some ⟨bb, oo, none⟩) 4096 cap] 26 := (g4.block _ bs3.lt (fun e => by have := Option.some.inj e; omega)).trans bs3
  have bz4 : Box v4 (w.heap.size + 1) #[.int .i64 0, .int .i64 0, .int .i64 0, .int .i64 0] 23 := (g4.block _ bz3.lt (fun e => by have := Option.some.inj e; omega)).trans bz3
  have D4 := D3.grown g4 D3.size (fun k hk => by simp at hk; omega)
  clear g4 p3 bs3 bz3 D3
  have bA := (Below.refl v4.heap.size v4).alloc (Nat.le_refl _) (.cells #[.int .i64 (b : Int), .int .i64 (e : Int), .int .i64 (q : Int), .int .i64 (t : Int)] 23)
  have bq := Box.new v4 #[.int .i64 (b : Int), .int .i64 (e : Int), .int .i64 (q : Int), .int .i64 (t : Int)] 23
  have bs := bs4.below bA
  have bz := bz4.below bA
  have D := D4.trans (bA.mono D4.size)
  go_wp2_with fail
  obtain ⟨U, hU⟩ : ∃ U, U = v4.alloc (.cells #[.int .i64 (b : Int), .int .i64 (e : Int), .int .i64 (q : Int), .int .i64 (t : Int)] 23) := ⟨_, rfl⟩
  rw [← hU] at bq bs bz D ⊢
  obtain ⟨G, hG⟩ : ∃ G, G = v4.heap.size := ⟨_, rfl⟩
  rw [← hG] at bq ⊢
  clear bs4 bz4 D4 p4 bA hU hG
  have hrU := hr.below D (Nat.le_refl _)
  have q0 := bq.cell 0
  have q1 := bq.cell 1
  have q2 := bq.cell 2
  have q3 := bq.cell 3
  have s0 := bs.cell 0
  simp only [List.getElem?_toArray, List.getElem?_cons_zero, List.getElem?_cons_succ] at q0 q1 q2 q3 s0
  clear s0
  go_region_with (first | (go_at_call 52; refine (rightSuper_at (b : Int) e q t _).mono ?_; rintro r u1 ⟨rfl, b1⟩; rw [h]; have D1 : Below w.heap.size w u1 := (D.drew).trans (b1.mono D.size); have bz1 : Box u1 (w.heap.size + 1) #[.int .i64 0, .int .i64 0, .int .i64 0, .int .i64 0] 23 := Box.below (w := U.drew) bz b1; have bs1 : Box u1 w.heap.size #[.slice (some ⟨bb, oo, none⟩) 4096 cap] 26 := Box.below (w := U.drew) bs b1; have bq1 : Box u1 G #[.int .i64 (b : Int), .int .i64 (e : Int), .int .i64 (q : Int), .int .i64 (t : Int)] 23 := Box.below (w := U.drew) bq b1; have s0 := bs1.cell 0; have q0 := bq1.cell 0; have q1 := bq1.cell 1; have q2 := bq1.cell 2; have q3 := bq1.cell 3; simp only [List.getElem?_toArray, List.getElem?_cons_zero, List.getElem?_cons_succ] at q0 q1 q2 q3 s0) | (go_at_call 54; refine (superHead_at b e q t u1 hb9 he9 hq9 ht9).mono ?_; rintro r u2 ⟨g, rfl, hg, oh, b2⟩; have D2 : Below w.heap.size w u2 := D1.trans (b2.mono D1.size); have bz2 := bz1.below b2; have bq2 := bq1.below b2; have bs2 := bs1.below b2; have hr2 := hr.below D2 (Nat.le_refl _); have t0 := bs2.cell 0; simp only [List.getElem?_toArray, List.getElem?_cons_zero] at t0) | (go_at_call 53; refine (isThen_at cap 44 4096 44 (some ⟨bb, oo, none⟩) (some ⟨g, 0, none⟩) xs (headS b e q t) u2 Hn.out (headS_length _ _ _ _) hcap hcm (by omega) (by simp) hr2 oh.rd).mono ?_; rintro r u3 ⟨rfl, rfl⟩; rw [hH]))
  all_goals
    have m0 := bz2.cell 0
    have m1 := bz2.cell 1
    have m2 := bz2.cell 2
    have m3 := bz2.cell 3
    simp only [List.getElem?_toArray, List.getElem?_cons_zero, List.getElem?_cons_succ] at m0 m1 m2 m3
    have f0 := bz2.frozen 0
    have f1 := bz2.frozen 1
    have f2 := bz2.frozen 2
    have f3 := bz2.frozen 3
    have k0 := bq2.cell 0
    have k1 := bq2.cell 1
    have k2 := bq2.cell 2
    have k3 := bq2.cell 3
    simp only [List.getElem?_toArray, List.getElem?_cons_zero, List.getElem?_cons_succ] at k0 k1 k2 k3
    go_wp2_with fail
    have Y := ((((bz2.store 0 (.int .i64 (b : Int))).store 1 (.int .i64 (e : Int))).store 2 (.int .i64 (q : Int))).store 3 (.int .i64 (t : Int)))
    have C1 := ((((D2.setCell (p := ⟨w.heap.size + 1, 0, none⟩) (Nat.le_succ _) (.int .i64 (b : Int))).setCell (p := ⟨w.heap.size + 1, 1, none⟩) (Nat.le_succ _) (.int .i64 (e : Int))).setCell (p := ⟨w.heap.size + 1, 2, none⟩) (Nat.le_succ _) (.int .i64 (q : Int))).setCell (p := ⟨w.heap.size + 1, 3, none⟩) (Nat.le_succ _) (.int .i64 (t : Int)))
    generalize ((((u2.setCell ⟨w.heap.size + 1, 0, none⟩ (.int .i64 (b : Int))).setCell ⟨w.heap.size + 1, 1, none⟩ (.int .i64 (e : Int))).setCell ⟨w.heap.size + 1, 2, none⟩ (.int .i64 (q : Int))).setCell ⟨w.heap.size + 1, 3, none⟩ (.int .i64 (t : Int))) = W9 at Y C1 ⊢
    clear m0 m1 m2 m3
    have m0 := Y.cell 0
    have m1 := Y.cell 1
    have m2 := Y.cell 2
    have m3 := Y.cell 3
    simp at m0 m1 m2 m3
    refine bodyPost_ret (v := .tuple #[.agg #[.int .i64 (b : Int), .int .i64 (e : Int), .int .i64 (q : Int), .int .i64 (t : Int)], .int .i64 0]) (by simp [results, Try.results28, go_sem, m0, m1, m2, m3]) rfl ?_
    exact ⟨rfl, C1⟩

end Go.Proofs.Ytdkaacjeogifdaa.Su

/-
  GetSuper's contract, and a superblock's one form.
-/
namespace Go.Proofs.Ytdkaacjeogifdaa.Su
open Go.RowKit

theorem getSuper_at (n cap : Nat) (a : Option Addr) (xs : List UInt8) (w : World) (hn : xs.length = n) (hcap : n ≤ cap) (hm : cap ≤ 9223372036854775807) (hr : Rd w a xs) :
    Calls Try.prog 28 #[.slice a n cap] w fun r w' => GetsS w w' (getSuper xs) r := by
  have e : getSuper xs = ansS (i64 (num xs 8 8)) (i64 (num xs 16 8)) (i64 (num xs 24 8)) (i64 (num xs 32 8)) n xs := by rw [← hn]; rfl
  rw [e]
  cases h : rightS (i64 (num xs 8 8)) (i64 (num xs 16 8)) (i64 (num xs 24 8)) (i64 (num xs 32 8))
  · exact getSuper_wrong n cap a xs _ _ _ _ w hn (by omega) hr rfl rfl rfl rfl h
  · by_cases h4 : n = 4096
    · subst h4
      obtain ⟨bb, oo, rfl, _⟩ := hr (by omega)
      have hh := rightS_nat h
      obtain ⟨b, hb⟩ := Int.eq_ofNat_of_zero_le (show 0 ≤ i64 (num xs 8 8) by omega)
      obtain ⟨e, he⟩ := Int.eq_ofNat_of_zero_le (show 0 ≤ i64 (num xs 16 8) by omega)
      obtain ⟨q, hq⟩ := Int.eq_ofNat_of_zero_le (show 0 ≤ i64 (num xs 24 8) by omega)
      obtain ⟨t, ht⟩ := Int.eq_ofNat_of_zero_le (show 0 ≤ i64 (num xs 32 8) by omega)
      rw [hb, he, hq, ht] at h ⊢
      rcases Bool.eq_false_or_eq_true (isThen xs (headS b e q t)) with hH | hH
      · have e9 : ansS b e q t 4096 xs = some ⟨b, e, q, t⟩ := by
          have hH' : isThen xs (headS (b : Int).toNat (e : Int).toNat (q : Int).toNat (t : Int).toNat) = true := hH
          unfold ansS
          rw [h, decide_eq_true (rfl : (4096 : Nat) = 4096), hH']
          rfl
        rw [e9]
        exact getSuper_ok bb oo cap b e q t xs w hn hcap hm (by omega) hr hb he hq ht h hH
      · have e9 : ansS b e q t 4096 xs = none := by
          have hH' : isThen xs (headS (b : Int).toNat (e : Int).toNat (q : Int).toNat (t : Int).toNat) = false := hH
          unfold ansS
          rw [h, decide_eq_true (rfl : (4096 : Nat) = 4096), hH']
          rfl
        rw [e9]
        exact getSuper_bad bb oo cap b e q t xs w hn hcap hm (by omega) hr hb he hq ht h hH
    · exact getSuper_off n cap a xs _ _ _ _ w hn (by omega) hr rfl rfl rfl rfl h h4

theorem superB_eq (b e q t : Nat) : superB b e q t = letters ++ (toBE 8 b ++ (toBE 8 e ++ (toBE 8 q ++ (toBE 8 t ++ (toBE 4 (crc 0 (lead [b, e, q, t])) ++ noughts 4052))))) := by
  simp [superB, headS, lead]
theorem readS_put (b e q t : Nat) (hb : b < 9223372036854775808) (he : e < 9223372036854775808) (hq : q < 9223372036854775808) (ht : t < 9223372036854775808) : readS (superB b e q t) = ⟨b, e, q, t⟩ := by
  have n0 : num (superB b e q t) 8 8 = b := by rw [superB_eq]; exact num_put _ _ 8 _ _ rfl (by omega)
  have n1 : num (superB b e q t) 16 8 = e := by
    rw [superB_eq, ← List.append_assoc]
    exact num_put _ _ 8 _ _ (by simp only [List.length_append, toBE_length]; rfl) (by omega)
  have n2 : num (superB b e q t) 24 8 = q := by
    rw [superB_eq, ← List.append_assoc, ← List.append_assoc]
    exact num_put _ _ 8 _ _ (by simp only [List.length_append, toBE_length]; rfl) (by omega)
  have n3 : num (superB b e q t) 32 8 = t := by
    rw [superB_eq, ← List.append_assoc, ← List.append_assoc, ← List.append_assoc]
    exact num_put _ _ 8 _ _ (by simp only [List.length_append, toBE_length]; rfl) (by omega)
  unfold readS
  rw [n0, n1, n2, n3, i64_in b hb, i64_in e he, i64_in q hq, i64_in t ht]
theorem getSuper_put (b e q t : Int) (h : rightS b e q t = true) : getSuper (superB b.toNat e.toNat q.toNat t.toNat) = some ⟨b, e, q, t⟩ := by
  obtain ⟨b, e, q, t, rfl, rfl, rfl, rfl, hb, he, hq, ht⟩ := rightS_lt h
  simp only [Int.toNat_natCast]
  unfold getSuper
  rw [readS_put b e q t hb he hq ht]
  have hi : isThen (superB b e q t) (headS (b : Int).toNat (e : Int).toNat (q : Int).toNat (t : Int).toNat) = true := isThen_self (headS b e q t) 4052
  show (if rightS b e q t && (decide ((superB b e q t).length = 4096) && isThen (superB b e q t) (headS (b : Int).toNat (e : Int).toNat (q : Int).toNat (t : Int).toNat)) then some (⟨b, e, q, t⟩ : Sup) else none) = _
  rw [h, hi, decide_eq_true (superB_length b e q t)]
  rfl
theorem getSuper_some {xs : List UInt8} {s : Sup} (h : getSuper xs = some s) : rightS s.b s.e s.q s.t = true ∧ superB s.b.toNat s.e.toNat s.q.toNat s.t.toNat = xs := by
  obtain ⟨hc, hx⟩ := if_some h
  simp only [Bool.and_eq_true, decide_eq_true_eq] at hc
  obtain ⟨hr, hl, ht⟩ := hc
  subst hx
  refine ⟨hr, ?_⟩
  obtain ⟨_, t2⟩ := isThen_true ht
  rw [hl, headS_length] at t2
  exact t2.symm
theorem getSuper_turned (b e q t p ch : Nat) (hp : p < 37) (h0 : 0 < ch) (h4 : ch < 4294967296) : getSuper (chg (superB b e q t) p ch 4) = none := by
  cases h : getSuper (chg (superB b e q t) p ch 4) with
  | none => rfl
  | some s =>
    exfalso
    obtain ⟨_, g2⟩ := getSuper_some h
    obtain ⟨b', hb⟩ : ∃ x, x = s.b.toNat := ⟨_, rfl⟩
    obtain ⟨e', he⟩ : ∃ x, x = s.e.toNat := ⟨_, rfl⟩
    obtain ⟨q', hq⟩ : ∃ x, x = s.q.toNat := ⟨_, rfl⟩
    obtain ⟨t', ht⟩ : ∃ x, x = s.t.toNat := ⟨_, rfl⟩
    rw [← hb, ← he, ← hq, ← ht] at g2
    have e1 : ∀ b e q t, superB b e q t = lead [b, e, q, t] ++ (toBE 4 (crc 0 (lead [b, e, q, t])) ++ noughts 4052) := fun b e q t => by simp only [superB, headS, List.append_assoc]
    rw [e1 b e q t, e1 b' e' q' t', chg_left _ _ p ch 4 (by rw [lead_length]; simp; omega)] at g2
    have hin := List.append_inj g2 (by rw [chg_length, lead_length, lead_length]; rfl)
    have hin2 := List.append_inj hin.2 (by rw [toBE_length, toBE_length])
    have hc := toBE_inj (by have := crc_lt 0 (lead [b', e', q', t']); omega) (by have := crc_lt 0 (lead [b, e, q, t]); omega) hin2.1
    rw [hin.1] at hc
    have := chg_seen (lead [b, e, q, t]) p ch 4 (by omega) hc.symm
    exact chg_ne (lead [b, e, q, t]) p ch (by rw [lead_length]; simp; omega) h0 h4 this.symm
end Go.Proofs.Ytdkaacjeogifdaa.Su

/-
  Bytes in memory, whatever the program: rows that are read, rows of one's own, copies; told over this seat's tables.
-/
namespace Go.Proofs.Ytdkaacjeogifdaa.Dk
open Go.RowKit

theorem u8_lt (c : UInt8) : c.toNat < 256 := c.toNat_lt
theorem ofNat_toNat (v : Nat) : (UInt8.ofNat v).toNat = v % 256 := by simp
def bc (c : UInt8) : Value := .int .u8 (c.toNat : Int)
def bcs (l : List UInt8) : List Value := l.map bc
theorem bcs_length (l : List UInt8) : (bcs l).length = l.length := by simp [bcs]
theorem bcs_append (l r : List UInt8) : bcs (l ++ r) = bcs l ++ bcs r := by simp [bcs]
theorem bcs_getElem? (l : List UInt8) (j : Nat) (h : j < l.length) : (bcs l)[j]? = some (.int .u8 (l[j].toNat : Int)) := by simp [bcs, bc, List.getElem?_eq_getElem h]
theorem bcs_oneCell (l : List UInt8) : ∀ v ∈ bcs l, v.oneCell' = true := by
  intro v hv
  obtain ⟨_, _, rfl⟩ := List.mem_map.1 hv
  rfl

/-- Block g holds just these bytes, and may be written. -/
def Own (w : World) (g : Nat) (ys : List UInt8) : Prop := w.heap[g]? = some (.cells (bcs ys).toArray 5 (0, 0))

theorem Own.cell {w : World} {g : Nat} {ys : List UInt8} (h : Own w g ys) (j : Nat) (hj : j < ys.length) : w.cell? ⟨g, j, none⟩ = some (.int .u8 (ys[j].toNat : Int)) := by
  rw [cell_of_row w g j _ 5 (0, 0) h]
  simpa using bcs_getElem? ys j hj
theorem Own.frozen {w : World} {g : Nat} {ys : List UInt8} (h : Own w g ys) (j : Nat) : w.frozen? ⟨g, j, none⟩ = false := frozen_of_row w g j _ 5 h
theorem Own.lt {w : World} {g : Nat} {ys : List UInt8} (h : Own w g ys) : g < w.heap.size := (Array.getElem?_eq_some_iff.1 h).1
theorem Own.store {w : World} {g : Nat} {ys : List UInt8} (h : Own w g ys) (j : Nat) (c : UInt8) : Own (w.setCell ⟨g, j, none⟩ (.int .u8 (c.toNat : Int))) g (ys.set j c) := by
  unfold Own
  rw [heap_setCell_same w g j _ 5 _ h]
  congr 2
  apply Array.toList_inj.1
  simp [bcs, bc]
/-- What lies below a mark stays. -/
theorem Own.below {B : Nat} {w w' : World} {g : Nat} {ys : List UInt8} (h : Own w g ys) (hb : Below B w w') (hg : g < B) : Own w' g ys := (hb.block g hg).trans h

theorem grown_trans {a b c : World} {row : Option Nat} (h : a.grownBy b row) (k : b.grownBy c row) : a.grownBy c row :=
  ⟨k.os.trans h.os, k.tape.trans h.tape, k.output.trans h.output, Nat.le_trans h.size k.size, fun i hi hr => (k.block i (Nat.lt_of_lt_of_le hi h.size) hr).trans (h.block i hi hr)⟩
theorem grown_store (w : World) (g j : Nat) (u : Value) : w.grownBy (w.setCell ⟨g, j, none⟩ u) (some g) :=
  ⟨rfl, rfl, rfl, by simp, fun k _ hk => heap_setCell_other w ⟨g, j, none⟩ k u (fun e => hk (by simp [e]))⟩
theorem grown_setRow (w : World) (g : Nat) (cs : Array Value) : w.grownBy (w.setRow g cs) (some g) :=
  ⟨rfl, rfl, rfl, by simp [World.setRow], fun k _ hk => setRow_other w g k cs (fun e => hk (by simp [e]))⟩

/-- The bytes xs lie where a says (of no bytes nothing is asked). -/
def Rd (w : World) (a : Option Addr) (xs : List UInt8) : Prop :=
  0 < xs.length → ∃ b o, a = some ⟨b, o, none⟩ ∧ ∀ j (h : j < xs.length), w.cell? ⟨b, o + j, none⟩ = some (.int .u8 (xs[j].toNat : Int))
theorem Rd.nil (w : World) (a : Option Addr) : Rd w a [] := fun h => absurd h (by simp)
theorem Own.rd {w : World} {g : Nat} {ys : List UInt8} (h : Own w g ys) : Rd w (some ⟨g, 0, none⟩) ys := fun _ => ⟨g, 0, rfl, fun j hj => by rw [Nat.zero_add]; exact h.cell j hj⟩
/-- What is read stays as long as old blocks stay. -/
theorem Rd.below {B : Nat} {w w' : World} {a : Option Addr} {xs : List UInt8} (h : Rd w a xs) (hb : Below B w w') (hB : w.heap.size ≤ B) : Rd w' a xs := fun hp => by
  obtain ⟨b, o, ha, hc⟩ := h hp
  refine ⟨b, o, ha, fun j hj => ?_⟩
  have hlt : b < w.heap.size := block_lt_of_cell (hc j hj)
  rw [hb.cell (p := ⟨b, o + j, none⟩) (Nat.lt_of_lt_of_le hlt hB)]
  exact hc j hj

theorem info5 : (Try.prog.info? 5).map (fun i => (i.zero, i.size, i.bytes)) = some (some (.int .u8 0), 1, 1) := by kernel_rfl
theorem size5 : (Try.prog.info? 5).map (·.size) = some 1 := by kernel_rfl

theorem below_of_grown {w u : World} {g : Nat} (h : w.grownBy u (some g)) (hg : w.heap.size ≤ g) : Below w.heap.size w u := (Below.refl _ _).grown h (Nat.le_refl _) (fun k hk => by simp at hk; omega)

theorem made_zero (n : Nat) : (madeCells #[Value.int .u8 0] n) = (bcs (List.replicate n 0)).toArray := by
  apply Array.toList_inj.1
  apply List.ext_getElem
  · simp [madeCells, bcs]
  · intro i h1 h2
    simp [madeCells, bcs, bc, Nat.mod_one]

/-- string(bytes). -/
theorem conv_run (u : World) (a : Option Addr) (cap : Nat) (xs : List UInt8) (hr : Rd u a xs) : (convert 26 9 (.slice a xs.length cap)).run Try.prog u = .ok (.string ⟨xs.toArray⟩) u := by
  cases a with
  | none =>
    by_cases h0 : 0 < xs.length
    · obtain ⟨b, o, h, _⟩ := hr h0
      simp at h
    · obtain rfl : xs = [] := List.eq_nil_of_length_eq_zero (by omega)
      exact run_convert_bytes_nil u 26 5 Try.underlying26 Try.underlying5 0 cap 9 Try.underlying9
  | some a =>
    exact run_convert_bytes_back u 26 9 5 a cap xs Try.underlying26 Try.underlying5 Try.underlying9 (fun j hj => by
      obtain ⟨b, o, h, hc⟩ := hr (by omega)
      obtain rfl := Option.some.inj h
      rw [Addr.add_lit]
      exact hc j hj)

theorem same_any (a b : Option Addr) (ca cb : Nat) (xs ys : List UInt8) (w : World) (ha : Rd w a xs) (hb : Rd w b ys) :
    Calls Try.prog 15 #[.slice a xs.length ca, .slice b ys.length cb] w fun e w' => e = .returned (.bool (xs == ys)) ∧ w = w' := by
  have h1 := conv_run w a ca xs ha
  have h2 := conv_run w b cb ys hb
  go_enter Try.func15, Try.ntmps15
  go_wp2
  go_ret
  exact ⟨rfl, rfl⟩

theorem own_lit (w : World) (xs : List UInt8) : Own (w.alloc (.cells (bcs xs).toArray 5)) w.heap.size xs := heap_alloc_new w _

theorem same_at (ca cb n m : Nat) (a b : Option Addr) (xs ys : List UInt8) (w : World) (hn : xs.length = n) (hm : ys.length = m) (ha : Rd w a xs) (hb : Rd w b ys) :
    Calls Try.prog 15 #[.slice a n ca, .slice b m cb] w fun e w' => e = .returned (.bool (xs == ys)) ∧ w = w' := by
  subst hn hm; exact same_any a b ca cb xs ys w ha hb

theorem bytes5 : Try.prog.bytesOf 5 = 1 := by kernel_rfl

theorem u8_bounds {n : Int} (h : (Lit.int .u8 n).wf = true) : 0 ≤ n ∧ n ≤ 255 := by
  simpa [Lit.wf, IntKind.min, IntKind.max, IntKind.signed, IntKind.bits] using h
theorem u64_bounds {n : Int} (h : (Lit.int .u64 n).wf = true) : 0 ≤ n ∧ n ≤ 18446744073709551615 := by
  simpa [Lit.wf, IntKind.min, IntKind.max, IntKind.signed, IntKind.bits] using h
theorem u32_bounds {n : Int} (h : (Lit.int .u32 n).wf = true) : 0 ≤ n ∧ n ≤ 4294967295 := by
  simpa [Lit.wf, IntKind.min, IntKind.max, IntKind.signed, IntKind.bits] using h
theorem i64_bounds {n : Int} (h : (Lit.int .i64 n).wf = true) : -9223372036854775808 ≤ n ∧ n ≤ 9223372036854775807 := by
  simpa [Lit.wf, IntKind.min, IntKind.max, IntKind.signed, IntKind.bits] using h

theorem bytes_of_ints {w : World} {a : Addr} {len cap : Nat} {zs : List Int} (hl : len ≤ cap) (hz : zs.length = cap)
    (hcell : ∀ i, i < zs.length → w.cell? (a.add i) = some (.int .u8 (zs.getD i 0))) (hwz : ∀ n ∈ zs, (Lit.int .u8 n).wf = true) :
    ∃ xs : List UInt8, xs.length = len ∧ Rd w (some a) xs := by
  refine ⟨(zs.take len).map fun n => UInt8.ofNat n.toNat, by simp; omega, fun hp => ?_⟩
  have hlen : 0 < len := by simp at hp; omega
  have h0 := hcell 0 (by omega)
  obtain ⟨b, o, sp⟩ := a
  have hsp : sp = none := by simpa [Addr.add] using World.cell?_spot h0
  subst hsp
  refine ⟨b, o, rfl, fun j hj => ?_⟩
  have hj' : j < len := by simp at hj; omega
  have hjz : j < zs.length := by omega
  have h := hcell j hjz
  rw [Addr.add_lit] at h
  rw [h]
  have hb := u8_bounds (hwz zs[j] (List.getElem_mem hjz))
  have e : zs.getD j 0 = zs[j] := by simp [List.getD, List.getElem?_eq_getElem hjz]
  rw [e]
  simp only [List.getElem_map, List.getElem_take]
  congr 2
  rw [ofNat_toNat]
  omega

/-! ### rows that grow -/
theorem owns_rd {w : World} {B n : Nat} {v : Value} {ys : List UInt8} (h : w.ownsRow B 5 1 v n (bcs ys)) :
    ∃ a cap, v = .slice a n cap ∧ ys.length = n ∧ n ≤ cap ∧ cap ≤ maxLen ∧ Rd w a ys ∧ (0 < n → ∃ g, a = some ⟨g, 0, none⟩ ∧ B ≤ g ∧ g < w.heap.size) := by
  have hl : ys.length = n := by have := h.1; rw [bcs_length] at this; omega
  rcases h.2 with ⟨rfl, rfl⟩ | ⟨g, cap, cur, rfl, hb, hg, hnc, hcm, hcs, htake⟩
  · have h0 : ys = [] := List.eq_nil_of_length_eq_zero hl
    subst h0
    exact ⟨none, 0, rfl, rfl, Nat.le_refl _, by simp [maxLen], Rd.nil _ _, fun h => by omega⟩
  · refine ⟨some ⟨g, 0, none⟩, cap, rfl, hl, hnc, hcm, fun _ => ⟨g, 0, rfl, fun j hj => ?_⟩, fun _ => ⟨g, rfl, hb, (Array.getElem?_eq_some_iff.1 hg).1⟩⟩
    have := h.cells (g := g) rfl j _ (bcs_getElem? ys j hj)
    rw [Addr.add_lit] at this
    exact this

theorem append_bcs (xs : List UInt8) (c : UInt8) : bcs xs ++ [.int .u8 (c.toNat : Int)] = bcs (xs ++ [c]) := by simp [bcs, bc]

/-- bytes from anywhere (none, too) behind a row of one's own -/
theorem wpList_append_bytes {w : World} {ops : Array Oper} {rest : List Oper} {o : Oper} {a : Act} {Q : Exit → Act → World → Prop} (hgd : o.guard = none) (s x : Operand)
    (ho : o.op = .call { callee := .builtin .append, args := #[s, x], argTypes := #[26, 26] })
    (base : Nat) (v : Value) (n : Nat) (xs : List Value) (hs : a.eval s = v) (hown : w.ownsRow base 5 1 v n xs)
    (ao : Option Addr) (m c : Nat) (ys : List UInt8) (hx : a.eval x = .slice ao m c) (hl : ys.length = m) (hr : Rd w ao ys) (hnil : ao = none → c = 0) (hb : n + m ≤ 140737488355328) (hbase : base ≤ w.heap.size)
    (h : ∀ v' w', w'.ownsRow base 5 1 v' (n + m) (xs ++ bcs ys) → w.grownBy w' v.ownBlock → wpList Try.prog ops Q rest (a.put o.dst v') w') : wpList Try.prog ops Q (o :: rest) a w := by
  obtain ⟨i0, hi, hz0, hz1, hz2⟩ := info_parts info5
  cases ao with
  | none =>
    obtain rfl := hnil rfl
    have h0 : ys.length = 0 := by
      apply Decidable.byContradiction
      intro h'
      obtain ⟨_, _, h', _⟩ := hr (by omega)
      simp at h'
    obtain rfl : ys = [] := List.eq_nil_of_length_eq_zero h0
    obtain rfl : m = 0 := hl.symm
    exact wpList_append_own_none hgd s x 26 ho base 5 i0 1 Try.underlying26 hi v n xs hs hown hx (h v w (by simpa [bcs] using hown) (World.grownBy.refl _ _))
  | some ad =>
    refine wpList_append_own w hgd s x 26 ho base 5 i0 (.int .u8 0) 1 1 Try.underlying26 hi hz0 hz1 hz2 rfl (by decide) v n xs hs hown ad m c (bcs ys) hx (by rw [bcs_length]; omega) ?_ (bcs_oneCell ys) (by unfold maxLen; omega) (by omega) hbase (fun v' w' h1 h2 _ => h v' w' h1 h2)
    intro j u hj
    have hj' : j < ys.length := by have := (List.getElem?_eq_some_iff.1 hj).1; simpa [bcs_length] using this
    rw [bcs_getElem? ys j hj'] at hj
    obtain ⟨b, o', he, hc⟩ := hr (by omega)
    obtain rfl := Option.some.inj he
    rw [Addr.add_lit, hc j hj']
    exact hj

theorem Rd.head {w : World} {a : Option Addr} {xs ys : List UInt8} (h : Rd w a (xs ++ ys)) : Rd w a xs := fun hp => by
  obtain ⟨b, o, ha, hc⟩ := h (by simp; omega)
  refine ⟨b, o, ha, fun j hj => ?_⟩
  rw [hc j (by simp; omega), List.getElem_append_left hj]

end Go.Proofs.Ytdkaacjeogifdaa.Dk
