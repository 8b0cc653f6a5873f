/-
  What the Gets read: numbers, extents, an inode.
-/
import Derived.Test.YtmhplpiglbamcaaPutInode
namespace Go.Proofs.Ytmhplpiglbamcaa
open Go.RowKit

/-- The number of so many bytes from a place on; 0 where they are not all there. -/
def num (xs : List UInt8) (i : Int) (size : Nat) : Nat := (numAt xs i size).getD 0
theorem num_lt (xs : List UInt8) (i : Int) (size : Nat) : num xs i size < 256 ^ size := numAt_lt xs i size
theorem u8_o (cap n : Nat) (a : Option Addr) (xs : List UInt8) (i : Int) (w : World) (hn : xs.length = n) (hm : n ≤ 9223372036854775807) (hr : Rd w a xs) :
    Calls Try.prog 72 #[.slice a n cap, .int .i64 i] w fun e w' => ∃ ok, e = .returned (.tuple #[.int .u8 (num xs i 1 : Nat), .bool ok]) ∧ w = w' := by
  subst hn; refine (u8_any a cap xs i w hm hr).mono ?_; rintro e w' ⟨rfl, rfl⟩; exact ⟨_, rfl, rfl⟩
theorem u16_o (cap n : Nat) (a : Option Addr) (xs : List UInt8) (i : Int) (w : World) (hn : xs.length = n) (hm : n ≤ 9223372036854775807) (hr : Rd w a xs) :
    Calls Try.prog 52 #[.slice a n cap, .int .i64 i] w fun e w' => ∃ ok, e = .returned (.tuple #[.int .u16 (num xs i 2 : Nat), .bool ok]) ∧ w = w' := by
  subst hn; refine (u16_any a cap xs i w hm hr).mono ?_; rintro e w' ⟨rfl, rfl⟩; exact ⟨_, rfl, rfl⟩
theorem u32_o (cap n : Nat) (a : Option Addr) (xs : List UInt8) (i : Int) (w : World) (hn : xs.length = n) (hm : n ≤ 9223372036854775807) (hr : Rd w a xs) :
    Calls Try.prog 47 #[.slice a n cap, .int .i64 i] w fun e w' => ∃ ok, e = .returned (.tuple #[.int .u32 (num xs i 4 : Nat), .bool ok]) ∧ w = w' := by
  subst hn; refine (u32_any a cap xs i w hm hr).mono ?_; rintro e w' ⟨rfl, rfl⟩; exact ⟨_, rfl, rfl⟩
theorem u64_o (cap n : Nat) (a : Option Addr) (xs : List UInt8) (i : Int) (w : World) (hn : xs.length = n) (hm : n ≤ 9223372036854775807) (hr : Rd w a xs) :
    Calls Try.prog 49 #[.slice a n cap, .int .i64 i] w fun e w' => ∃ ok, e = .returned (.tuple #[.int .u64 (num xs i 8 : Nat), .bool ok]) ∧ w = w' := by
  subst hn; refine (u64_any a cap xs i w hm hr).mono ?_; rintro e w' ⟨rfl, rfl⟩; exact ⟨_, rfl, rfl⟩

/-- the next two bytes -/
theorem next2_at (gb ga n cap : Nat) (a : Option Addr) (xs : List UInt8) (p : Int) (w : World) (hn : xs.length = n) (hm : n ≤ 9223372036854775807) (hr : Rd w a xs) (hbx : Box w gb #[.slice a n cap] 22) (h1 : OneI w ga p) (hp : 0 ≤ p ∧ p ≤ 1000000) :
    Calls Try.prog 74 #[.pointer (some ⟨gb, 0, none⟩), .pointer (some ⟨ga, 0, none⟩)] w fun e w' => e = .returned (.int .i64 (num xs p 2 : Nat)) ∧ OneI w' ga (p + 2) ∧ w.grownBy w' (some ga) := by
  have c0 := hbx.cell 0
  simp only [List.getElem?_toArray, List.getElem?_cons_zero] at c0
  have c1 := h1.cell
  have f1 := h1.frozen
  have hlt := num_lt xs p 2
  obtain ⟨V, hV⟩ : ∃ V, V = num xs p 2 := ⟨_, rfl⟩
  have cc := u16_o cap n a xs p w hn hm hr
  rw [← hV] at hlt cc ⊢
  clear hn hV
  go_enter Try.func74, Try.ntmps74
  go_wp2_with fail
  refine cc.mono ?_
  rintro e w' ⟨ok, rfl, rfl⟩
  go_wp2
  go_ret
  exact ⟨rfl, h1.store _, grown_store _ _ _ _⟩

/-- a number of 64 bits as a whole number -/
def i64 (v : Nat) : Int := wrap64 (v : Int)

theorem next8_at (gb ga n cap : Nat) (a : Option Addr) (xs : List UInt8) (p : Int) (w : World) (hn : xs.length = n) (hm : n ≤ 9223372036854775807) (hr : Rd w a xs) (hbx : Box w gb #[.slice a n cap] 22) (h1 : OneI w ga p) (hp : 0 ≤ p ∧ p ≤ 1000000) :
    Calls Try.prog 48 #[.pointer (some ⟨gb, 0, none⟩), .pointer (some ⟨ga, 0, none⟩)] w fun e w' => e = .returned (.int .i64 (i64 (num xs p 8))) ∧ OneI w' ga (p + 8) ∧ w.grownBy w' (some ga) := by
  have c0 := hbx.cell 0
  simp only [List.getElem?_toArray, List.getElem?_cons_zero] at c0
  have c1 := h1.cell
  have f1 := h1.frozen
  have hlt := num_lt xs p 8
  obtain ⟨V, hV⟩ : ∃ V, V = num xs p 8 := ⟨_, rfl⟩
  have cc := u64_o cap n a xs p w hn hm hr
  rw [← hV] at hlt cc ⊢
  clear hn hV
  go_enter Try.func48, Try.ntmps48
  go_wp2_with fail
  refine cc.mono ?_
  rintro e w' ⟨ok, rfl, rfl⟩
  go_wp2
  go_ret
  refine ⟨?_, h1.store _, grown_store _ _ _ _⟩
  rfl

theorem info46 : (Try.prog.info? 46).map (fun i => (i.zero, i.size, i.bytes)) = some (some (.agg #[.int .i64 0, .int .i64 0, .int .i64 0]), 3, 24) := by kernel_rfl

def ec (e : Ext) : List Value := [.int .i64 e.a, .int .i64 e.s, .int .i64 e.c]
def ecs (es : List Ext) : List Value := es.flatMap ec
theorem ecs_length (es : List Ext) : (ecs es).length = es.length * 3 := by
  induction es with
  | nil => rfl
  | cons e l ih => simp [ecs, ec] at ih ⊢; omega
theorem ecs_at (es : List Ext) (j : Nat) (h : j < es.length) : (ecs es)[j * 3]? = some (.int .i64 es[j].a) ∧ (ecs es)[j * 3 + 1]? = some (.int .i64 es[j].s) ∧ (ecs es)[j * 3 + 2]? = some (.int .i64 es[j].c) := by
  induction es generalizing j with
  | nil => simp at h
  | cons e l ih =>
    cases j with
    | zero => exact ⟨rfl, rfl, rfl⟩
    | succ j =>
      have := ih j (by simpa using h)
      rw [show (j + 1) * 3 = j * 3 + 3 by omega]
      exact this
theorem ecs_oneCell (es : List Ext) : ∀ v ∈ ecs es, v.oneCell' = true := by
  intro v hv
  obtain ⟨e, _, h⟩ := List.mem_flatMap.1 hv
  simp [ec] at h
  rcases h with rfl | rfl | rfl <;> rfl

theorem ownsE_parts {w : World} {B n : Nat} {v : Value} {es : List Ext} (h : w.ownsRow B 46 3 v n (ecs es)) :
    ∃ a cap, v = .slice a n cap ∧ es.length = n ∧ n ≤ cap ∧ cap ≤ 9223372036854775807 ∧ RdE w a es ∧ (a = none → cap = 0) ∧ (∀ ad, a = some ad → B ≤ ad.block ∧ ad.block < w.heap.size) := by
  have hl : es.length = n := by have := h.1; rw [ecs_length] at this; omega
  rcases h.2 with ⟨rfl, rfl⟩ | ⟨g, cap, cur, rfl, hb, hg, hnc, hcm, hcs, htake⟩
  · have h0 : es = [] := List.eq_nil_of_length_eq_zero hl
    subst h0
    exact ⟨none, 0, rfl, rfl, Nat.le_refl _, by omega, RdE.nil _ _, fun _ => rfl, fun _ h => by simp at h⟩
  · refine ⟨some ⟨g, 0, none⟩, cap, rfl, hl, hnc, by unfold maxLen at hcm; omega, fun _ => ⟨g, 0, rfl, fun j hj => ?_⟩, fun h => by simp at h, fun ad h => ?_⟩
    · have hc := h.cells (g := g) rfl
      obtain ⟨h0, h1, h2⟩ := ecs_at es j hj
      replace h0 := hc _ _ h0
      replace h1 := hc _ _ h1
      replace h2 := hc _ _ h2
      rw [Addr.add_lit] at h0 h1 h2
      exact ⟨h0, h1, h2⟩
    · obtain rfl := Option.some.inj h
      exact ⟨hb, (Array.getElem?_eq_some_iff.1 hg).1⟩

/-- so many extents from a place on -/
def readE (xs : List UInt8) (p k : Nat) : List Ext := (List.range k).map fun j => ⟨(num xs ((p + 6 * j : Nat) : Int) 2 : Nat), (num xs ((p + 6 * j + 2 : Nat) : Int) 2 : Nat), (num xs ((p + 6 * j + 4 : Nat) : Int) 2 : Nat)⟩
theorem readE_length (xs : List UInt8) (p k : Nat) : (readE xs p k).length = k := by simp [readE]
theorem readE_succ (xs : List UInt8) (p k : Nat) : readE xs p (k + 1) = readE xs p k ++ [⟨(num xs ((p + 6 * k : Nat) : Int) 2 : Nat), (num xs ((p + 6 * k + 2 : Nat) : Int) 2 : Nat), (num xs ((p + 6 * k + 4 : Nat) : Int) 2 : Nat)⟩] := by simp [readE, List.range_succ]

theorem own_tag {w : World} {B e z n Q t : Nat} {v : Value} {xs : List Value} {cs : Array Value} {fr : Nat × Nat} (h : w.ownsRow B e z v n xs) (hq : w.heap[Q]? = some (.cells cs t fr)) (ht : e ≠ t) : some Q ≠ v.ownBlock := by
  intro hk
  rcases h.2 with ⟨rfl, _⟩ | ⟨g, cap, cur, rfl, hb, hg, _⟩
  · simp [Value.ownBlock] at hk
  · simp [Value.ownBlock] at hk
    subst hk
    rw [hg] at hq
    simp at hq
    exact ht hq.2.1

theorem readExtents_at (n cap p c : Nat) (a : Option Addr) (xs : List UInt8) (w : World) (hn : xs.length = n) (hm : n ≤ 9223372036854775807) (hp : p ≤ 100) (hc : c ≤ 100000) (hr : Rd w a xs) :
    Calls Try.prog 53 #[.slice a n cap, .int .i64 p, .int .i64 c] w fun r w' => ∃ v, r = .returned v ∧ w'.ownsRow w.heap.size 46 3 v c (ecs (readE xs p c)) ∧ Below w.heap.size w w' := by
  obtain ⟨i0, hi, hz0, hz1, hz2⟩ := info_parts info46
  have b1 := (Below.refl w.heap.size w).alloc (Nat.le_refl _) (.cells #[.slice a n cap] 22)
  have x1 := Box.new w #[.slice a n cap] 22
  obtain ⟨w1, hw1⟩ : ∃ w1, w1 = w.alloc (.cells #[.slice a n cap] 22) := ⟨_, rfl⟩
  have s1 : w1.heap.size = w.heap.size + 1 := by rw [hw1]; simp
  rw [← hw1] at b1 x1
  have b2 := (Below.refl w1.heap.size w1).alloc (Nat.le_refl _) (.cells #[.int .i64 (p : Int)] 3)
  have y2 : OneI (w1.alloc (.cells #[.int .i64 (p : Int)] 3)) w1.heap.size p := heap_alloc_new w1 _
  have x2 := x1.below b2
  have b12 := b1.trans (b2.mono b1.size)
  rw [s1] at y2
  rw [hw1] at x2 y2 b12
  clear b1 b2 x1 hw1 s1
  have Hn : Hid _ := hn
  clear hn
  go_enter Try.func53, Try.ntmps53
  go_wp2_with fail
  go_loopw [8, 11] (fun v i wr => ∃ k : Nat, k ≤ c ∧ i = .int .i64 k ∧ wr.ownsRow w.heap.size 46 3 v k (ecs (readE xs p k)) ∧ Below w.heap.size w wr ∧ Box wr w.heap.size #[.slice a n cap] 22 ∧ OneI wr (w.heap.size + 1) ((p + 6 * k : Nat) : Int)) (fun _ i _ => c - (intOf i).toNat)
  case atStart => exact ⟨0, Nat.zero_le _, rfl, World.ownsRow_nil _ _ _ _, b12, x2, by simpa using y2⟩
  case round =>
    obtain ⟨k, hk, rfl, hown, hbel, hbx, hone⟩ := hrel
    clear b12 x2 y2
    by_cases hlt : k < c
    · have hz := hbel.size
      have ne1 := own_tag hown hbx (by decide)
      have ne2 := own_tag hown hone (by decide)
      obtain ⟨P0, hP0⟩ : ∃ P : Int, P = ((p + 6 * k : Nat) : Int) := ⟨_, rfl⟩
      have hP1 : 0 ≤ P0 ∧ P0 ≤ 700000 := by omega
      rw [← hP0] at hone
      have HP : Hid _ := hP0
      clear hP0 hz
      go_wp2_with fail
      refine (next2_at w.heap.size (w.heap.size + 1) n cap a xs P0 wr Hn.out hm (hr.below hbel (Nat.le_refl _)) hbx hone (by omega)).mono ?_
      rintro r w1 ⟨rfl, one1, g1⟩
      have bx1 : Box w1 w.heap.size #[.slice a n cap] 22 := (g1.block _ hbx.lt (by simp)).trans hbx
      have own1 := hown.kept g1 (.inr ne2.symm)
      have B1 := hbel.grown g1 hbel.size (fun k hk => by simp at hk; omega)
      generalize hN1 : num xs P0 2 = N1
      have HN1 : Hid _ := hN1
      clear hN1 g1 hone hbx hown hbel
      go_wp2_with fail
      refine (next2_at w.heap.size (w.heap.size + 1) n cap a xs (P0 + 2) w1 Hn.out hm (hr.below B1 (Nat.le_refl _)) bx1 one1 (by omega)).mono ?_
      rintro r w2 ⟨rfl, one2, g2⟩
      have bx2 : Box w2 w.heap.size #[.slice a n cap] 22 := (g2.block _ bx1.lt (by simp)).trans bx1
      have own2 := own1.kept g2 (.inr ne2.symm)
      have B2 := B1.grown g2 B1.size (fun k hk => by simp at hk; omega)
      generalize hN2 : num xs (P0 + 2) 2 = N2
      have HN2 : Hid _ := hN2
      clear hN2 g2 one1 bx1 own1 B1
      go_wp2_with fail
      refine (next2_at w.heap.size (w.heap.size + 1) n cap a xs (P0 + 2 + 2) w2 Hn.out hm (hr.below B2 (Nat.le_refl _)) bx2 one2 (by omega)).mono ?_
      rintro r w3 ⟨rfl, one3, g3⟩
      have bx3 : Box w3 w.heap.size #[.slice a n cap] 22 := (g3.block _ bx2.lt (by simp)).trans bx2
      have own3 := own2.kept g3 (.inr ne2.symm)
      have B3 := B2.grown g3 B2.size (fun k hk => by simp at hk; omega)
      generalize hN3 : num xs (P0 + 2 + 2) 2 = N3
      have HN3 : Hid _ := hN3
      clear hN3 g3 one2 bx2 own2 B2
      have z3 := B3.size
      go_wp2_with (at_builtin; refine wpList_append_own _ rfl _ _ 30 rfl w.heap.size 46 i0 (.agg #[.int .i64 0, .int .i64 0, .int .i64 0]) 3 24 Try.underlying30 hi hz0 hz1 hz2 rfl (by decide) u8 k (ecs (readE xs p k)) rfl (own3.alloc _) ⟨w3.heap.size, 0, none⟩ 1 1 [.int .i64 (N1 : Int), .int .i64 (N2 : Int), .int .i64 (N3 : Int)] rfl rfl ?c1 ?c2 ?c3 ?c4 ?c5 ?_)
      case c1 =>
        intro i u hi'
        match i, hi' with
        | 0, hi' => simp at hi'; subst hi'; simp [Addr.add]
        | 1, hi' => simp at hi'; subst hi'; simp [Addr.add]
        | 2, hi' => simp at hi'; subst hi'; simp [Addr.add]
      case c2 => intro u hu; simp at hu; rcases hu with rfl | rfl | rfl <;> rfl
      case c3 => unfold maxLen; omega
      case c4 => omega
      case c5 => simp; omega
      · intro v' w4 hown4 hgrow _
        have bA := (Below.refl w3.heap.size w3).alloc (Nat.le_refl _) (.cells #[.int .i64 (N1 : Int), .int .i64 (N2 : Int), .int .i64 (N3 : Int)] 46)
        have bx4 : Box w4 w.heap.size #[.slice a n cap] 22 := (hgrow.block _ (bx3.below bA).lt ne1).trans (bx3.below bA)
        have one4 : OneI w4 (w.heap.size + 1) (P0 + 2 + 2 + 2) := (hgrow.block _ (one3.below bA one3.lt).lt ne2).trans (one3.below bA one3.lt)
        have B4 : Below w.heap.size w w4 := (B3.alloc z3 _).grown hgrow (by simp; omega) (fun k hk => (own3.lt k hk).1)
        have hfin : Hid (ecs (readE xs p (k + 1)) = ecs (readE xs p k) ++ [.int .i64 (N1 : Int), .int .i64 (N2 : Int), .int .i64 (N3 : Int)]) := by
          show _ = _
          have q1 := HP.out
          have q2 : ((p + 6 * k + 2 : Nat) : Int) = P0 + 2 := by omega
          have q3 : ((p + 6 * k + 4 : Nat) : Int) = P0 + 2 + 2 := by omega
          rw [readE_succ, q2, q3, ← q1, HN1.out, HN2.out, HN3.out]
          simp [ecs, ec]
        have hP4 : Hid (((p + 6 * (k + 1) : Nat) : Int) = P0 + 2 + 2 + 2) := by have := HP.out; show _ = _; omega
        clear own3 bx3 one3 B3 bA hgrow
        go_wp2
        go_roundw
        case rel =>
          refine ⟨k + 1, by omega, by go_num, ?_, B4, bx4, ?_⟩
          · rw [hfin.out]; exact hown4
          · rw [hP4.out]; exact one4
        case measure => simp [intOf]; omega
    · obtain rfl : k = c := by omega
      go_wp2
      go_ret
      exact ⟨_, rfl, hown, hbel⟩

theorem Box.frozen {w : World} {g : Nat} {cs : Array Value} {t : TypeId} (h : Box w g cs t) (j : Nat) : w.frozen? ⟨g, j, none⟩ = false := frozen_of_row w g j cs t h

theorem Box.store {w : World} {g : Nat} {cs : Array Value} {t : TypeId} (h : Box w g cs t) (j : Nat) (v : Value) : Box (w.setCell ⟨g, j, none⟩ v) g (cs.setIfInBounds j v) t := heap_setCell_same w g j cs t v h

set_option maxRecDepth 100000 in
set_option maxHeartbeats 1000000 in
/-- what an inode's bytes say, right or not -/
theorem readInode_at (n cap : Nat) (a : Option Addr) (xs : List UInt8) (w : World) (hn : xs.length = n) (hm : n ≤ 9223372036854775807) (hr : Rd w a xs) :
    Calls Try.prog 46 #[.slice a n cap] w fun r w' => ∃ v, r = .returned (.agg #[.int .u8 (num xs 0 1 : Nat), .int .i64 (num xs 2 2 : Nat), .int .i64 (num xs 4 4 : Nat), v, .int .i64 (num xs 26 2 : Nat)]) ∧ w'.ownsRow w.heap.size 46 3 v (num xs 1 1) (ecs (readE xs 8 (num xs 1 1))) ∧ Below w.heap.size w w' := by
  have k0 := num_lt xs 0 1
  have k1 := num_lt xs 1 1
  have k2 := num_lt xs 2 2
  have k3 := num_lt xs 4 4
  have k4 := num_lt xs 26 2
  have Hn : Hid _ := hn
  clear hn
  have b1 := (Below.refl w.heap.size w).alloc (Nat.le_refl _) (.cells #[.int .u8 0, .int .i64 0, .int .i64 0, .slice none 0 0, .int .i64 0] 32)
  have bx := Box.new w #[.int .u8 0, .int .i64 0, .int .i64 0, .slice none 0 0, .int .i64 0] 32
  go_enter Try.func46, Try.ntmps46
  go_wp2_with fail
  obtain ⟨W, hW⟩ : ∃ W, W = w.alloc (.cells #[.int .u8 0, .int .i64 0, .int .i64 0, .slice none 0 0, .int .i64 0] 32) := ⟨_, rfl⟩
  rw [← hW] at b1 bx ⊢
  clear hW
  have hr1 := hr.below b1 (Nat.le_refl _)
  refine (u8_o cap n a xs _ W Hn.out hm hr1).mono ?_
  rintro r w' ⟨ok0, rfl, rfl⟩
  go_wp2_with fail
  refine (u8_o cap n a xs _ W Hn.out hm hr1).mono ?_
  rintro r w' ⟨ok1, rfl, rfl⟩
  go_wp2_with fail
  refine (u16_o cap n a xs _ W Hn.out hm hr1).mono ?_
  rintro r w' ⟨ok2, rfl, rfl⟩
  go_wp2_with fail
  refine (u32_o cap n a xs _ W Hn.out hm hr1).mono ?_
  rintro r w' ⟨ok3, rfl, rfl⟩
  go_wp2_with fail
  refine (u16_o cap n a xs _ W Hn.out hm hr1).mono ?_
  rintro r w' ⟨ok4, rfl, rfl⟩
  obtain ⟨C, hC⟩ : ∃ C, C = num xs 1 1 := ⟨_, rfl⟩
  rw [← hC] at k1 ⊢
  have HC : Hid _ := hC
  clear hC
  go_wp2_with fail
  refine (readExtents_at n cap 8 C a xs W Hn.out hm (by omega) (by omega) hr1).mono ?_
  rintro r w2 ⟨v, rfl, o2, b2⟩
  have x2 := bx.below b2
  have q0 := x2.cell 0
  have q1 := x2.cell 1
  have q2 := x2.cell 2
  have q3 := x2.cell 3
  have q4 := x2.cell 4
  simp only [List.getElem?_toArray, List.getElem?_cons_zero, List.getElem?_cons_succ] at q0 q1 q2 q3 q4
  have f0 := x2.frozen 0
  have f1 := x2.frozen 1
  have f2 := x2.frozen 2
  have f3 := x2.frozen 3
  have f4 := x2.frozen 4
  have B2 := b1.trans (b2.mono b1.size)
  obtain ⟨a2, cap2, rfl, _, _, _, r2, _, h2⟩ := ownsE_parts o2
  have z1 := b1.size
  have hB := B2.size
  clear b1 b2 bx hr1
  go_wp2_with fail
  have x3 := ((((x2.store 0 (.int .u8 (num xs 0 1 : Nat))).store 1 (.int .i64 (num xs 2 2 : Nat))).store 2 (.int .i64 (num xs 4 4 : Nat))).store 3 (.slice a2 C cap2)).store 4 (.int .i64 (num xs 26 2 : Nat))
  have B3 := ((((B2.setCell (p := ⟨w.heap.size, 0, none⟩) (Nat.le_refl _) (.int .u8 (num xs 0 1 : Nat))).setCell (p := ⟨w.heap.size, 1, none⟩) (Nat.le_refl _) (.int .i64 (num xs 2 2 : Nat))).setCell (p := ⟨w.heap.size, 2, none⟩) (Nat.le_refl _) (.int .i64 (num xs 4 4 : Nat))).setCell (p := ⟨w.heap.size, 3, none⟩) (Nat.le_refl _) (.slice a2 C cap2)).setCell (p := ⟨w.heap.size, 4, none⟩) (Nat.le_refl _) (.int .i64 (num xs 26 2 : Nat))
  have tg : ∀ (u : World) (j : Nat) (v : Value) (cs : Array Value), Box u w.heap.size cs 32 → u.ownsRow W.heap.size 46 3 (.slice a2 C cap2) C (ecs (readE xs 8 C)) → (u.setCell ⟨w.heap.size, j, none⟩ v).ownsRow W.heap.size 46 3 (.slice a2 C cap2) C (ecs (readE xs 8 C)) := fun u j v cs hb ho => ho.kept (grown_store u w.heap.size j v) (.inr (own_tag ho hb (by decide)).symm)
  have o3 := tg _ 4 (.int .i64 (num xs 26 2 : Nat)) _ ((((x2.store 0 (.int .u8 (num xs 0 1 : Nat))).store 1 (.int .i64 (num xs 2 2 : Nat))).store 2 (.int .i64 (num xs 4 4 : Nat))).store 3 (.slice a2 C cap2)) (tg _ 3 (.slice a2 C cap2) _ (((x2.store 0 (.int .u8 (num xs 0 1 : Nat))).store 1 (.int .i64 (num xs 2 2 : Nat))).store 2 (.int .i64 (num xs 4 4 : Nat))) (tg _ 2 (.int .i64 (num xs 4 4 : Nat)) _ ((x2.store 0 (.int .u8 (num xs 0 1 : Nat))).store 1 (.int .i64 (num xs 2 2 : Nat))) (tg _ 1 (.int .i64 (num xs 2 2 : Nat)) _ (x2.store 0 (.int .u8 (num xs 0 1 : Nat))) (tg _ 0 (.int .u8 (num xs 0 1 : Nat)) _ x2 o2))))
  generalize (((((w2.setCell ⟨w.heap.size, 0, none⟩ (.int .u8 (num xs 0 1 : Nat))).setCell ⟨w.heap.size, 1, none⟩ (.int .i64 (num xs 2 2 : Nat))).setCell ⟨w.heap.size, 2, none⟩ (.int .i64 (num xs 4 4 : Nat))).setCell ⟨w.heap.size, 3, none⟩ (.slice a2 C cap2)).setCell ⟨w.heap.size, 4, none⟩ (.int .i64 (num xs 26 2 : Nat))) = W3 at x3 B3 o3 ⊢
  clear tg q0 q1 q2 q3 q4 f0 f1 f2 f3 f4 x2
  have q0 := x3.cell 0
  have q1 := x3.cell 1
  have q2 := x3.cell 2
  have q3 := x3.cell 3
  have q4 := x3.cell 4
  simp at q0 q1 q2 q3 q4
  refine bodyPost_ret (v := .agg #[.int .u8 (num xs 0 1 : Nat), .int .i64 (num xs 2 2 : Nat), .int .i64 (num xs 4 4 : Nat), .slice a2 C cap2, .int .i64 (num xs 26 2 : Nat)]) (by simp [results, Try.results46, go_sem, q0, q1, q2, q3, q4]) rfl ⟨_, rfl, ?_, B3⟩
  rw [← HC.out]
  exact ⟨o3.1, by
    rcases o3.2 with h | ⟨g', cap', cur, h1, h2, h3⟩
    · exact .inl h
    · exact .inr ⟨g', cap', cur, h1, Nat.le_trans z1 h2, h3⟩⟩
end Go.Proofs.Ytmhplpiglbamcaa
