/-
  SuGetSuper, SuFormS, DkBytes, DkPure, DkMem, DkSmall, HSmall, RcLoads, RcLate, RcBytes, RcMem, RcDraw, RcSect, RcPlain, RcOctets, RcLittle, RcStamped, RcHideM, RcZeros, RcCrc: put together.
-/
import Derived.Test.YtdkaacjeogifdaaGreatG1
import Derived.BigQuiet
import Derived.Deep.RegionWith
import Derived.Test.YtdkaacjeogifdaaGreatRows
import Derived.WalkKit
import Derived.WalkSpells
import Derived.WalkLawsBesides
import Derived.Laws.BytesArg
import Derived.Laws.AppendOwnNone
import Derived.ProofKit
import Derived.Laws.CopyOwn
import Derived.Deep.QuietTactic
import Derived.LaidEqlPtr
import Derived.Orders
import Derived.RegionTactic
import Derived.RangeFuncNested
import Derived.RangeFuncBound
import Derived.RangeFuncCalls
import Derived.RangeFuncLeaves
import Derived.Shelf.Abstract
import Derived.Shelf.RegionOpen
import Derived.OwnWalkIn
import Derived.TacticsInMore
import Derived.LoopNIn
import Derived.LoopIn
import Derived.Lib.AppendZerosOnto
/-
  GetSuper: what a superblock says.
-/
namespace Go.Proofs.YtdkaacjeogifdaaGreat.Su
open Go.RowKit

structure Sup where
  b : Int
  e : Int
  q : Int
  t : Int
def zeroS : Sup := ⟨0, 0, 0, 0⟩
def supV (s : Sup) : Value := .agg #[.int .i64 s.b, .int .i64 s.e, .int .i64 s.q, .int .i64 s.t]
def GetsS (w w' : World) (o : Option Sup) (r : Ending) : Prop := r = .returned (.tuple #[supV (o.getD zeroS), .int .i64 (erG o.isSome)]) ∧ Below w.heap.size w w'
def readS (xs : List UInt8) : Sup := ⟨i64 (num xs 8 8), i64 (num xs 16 8), i64 (num xs 24 8), i64 (num xs 32 8)⟩
def getSuper (xs : List UInt8) : Option Sup :=
  if rightS (readS xs).b (readS xs).e (readS xs).q (readS xs).t && (decide (xs.length = 4096) && isThen xs (headS (readS xs).b.toNat (readS xs).e.toNat (readS xs).q.toNat (readS xs).t.toNat)) then some (readS xs) else none

def ansS (B E Q T : Int) (n : Nat) (xs : List UInt8) : Option Sup := if rightS B E Q T && (decide (n = 4096) && isThen xs (headS B.toNat E.toNat Q.toNat T.toNat)) then some ⟨B, E, Q, T⟩ else none

set_option maxRecDepth 100000 in
set_option maxHeartbeats 2000000 in
theorem getSuper_wrong (n cap : Nat) (a : Option Addr) (xs : List UInt8) (B E Q T : Int) (w : World) (Hn : Hid (xs.length = n)) (hm : n ≤ 9223372036854775807) (hr : Rd w a xs) (hB : Hid (i64 (num xs 8 8) = B)) (hE : Hid (i64 (num xs 16 8) = E)) (hQ : Hid (i64 (num xs 24 8) = Q)) (hT : Hid (i64 (num xs 32 8) = T)) (h : rightS B E Q T = false) :
    Calls Tryz.prog 26 #[.slice a n cap] w fun r w' => GetsS w w' (ansS B E Q T n xs) r := by
  have e : ansS B E Q T n xs = none := by unfold ansS; rw [h]; rfl
  rw [e]
  clear e
  have B1 := (Below.refl w.heap.size w).alloc (Nat.le_refl _) (.cells #[.slice a n cap] 22)
  have x1 := Box.new w #[.slice a n cap] 22
  obtain ⟨w1, hw1⟩ : ∃ w1, w1 = w.alloc (.cells #[.slice a n cap] 22) := ⟨_, rfl⟩
  have s1 : w1.heap.size = w.heap.size + 1 := by rw [hw1]; simp
  rw [← hw1] at B1 x1
  have b2 := (Below.refl w1.heap.size w1).alloc (Nat.le_refl _) (.cells #[.int .i64 0, .int .i64 0, .int .i64 0, .int .i64 0] 28)
  have x2 := Box.new w1 #[.int .i64 0, .int .i64 0, .int .i64 0, .int .i64 0] 28
  have y1 := x1.below b2
  have B2 := B1.trans (b2.mono B1.size)
  obtain ⟨w2, hw2⟩ : ∃ w2, w2 = w1.alloc (.cells #[.int .i64 0, .int .i64 0, .int .i64 0, .int .i64 0] 28) := ⟨_, rfl⟩
  have s2 : w2.heap.size = w.heap.size + 1 + 1 := by rw [hw2]; simp [s1]
  rw [← hw2] at b2 x2 y1 B2
  have b3 := (Below.refl w2.heap.size w2).alloc (Nat.le_refl _) (.cells #[.int .i64 8] 3)
  have o3 : OneI (w2.alloc (.cells #[.int .i64 8] 3)) w2.heap.size 8 := heap_alloc_new w2 _
  have y2 := x2.below b3
  have z1 := y1.below b3
  have B3 := B2.trans (b3.mono B2.size)
  rw [s1] at y2
  rw [s2] at o3
  clear b2 b3 x1 y1 x2 B1 B2
  go_enter Tryz.func26, Tryz.ntmps26
  go_wp2_with fail
  rw [← hw1, ← hw2]
  obtain ⟨W, hW⟩ : ∃ W, W = w2.alloc (.cells #[.int .i64 8] 3) := ⟨_, rfl⟩
  rw [← hW] at o3 y2 z1 B3 ⊢
  clear hW hw1 hw2 s1 s2
  refine (next8_at w.heap.size (w.heap.size + 1 + 1) n cap a xs 8 W Hn.out hm (hr.below B3 (Nat.le_refl _)) z1 o3 (by omega)).mono ?_
  rintro r v1 ⟨rfl, p1, g1⟩
  rw [hB.out]
  replace p1 : OneI v1 (w.heap.size + 1 + 1) 16 := p1
  have bs1 : Box v1 w.heap.size #[.slice a n cap] 22 := (g1.block _ z1.lt (fun e => by have := Option.some.inj e; omega)).trans z1
  have bz1 : Box v1 (w.heap.size + 1) #[.int .i64 0, .int .i64 0, .int .i64 0, .int .i64 0] 28 := (g1.block _ y2.lt (fun e => by have := Option.some.inj e; omega)).trans y2
  have D1 := B3.grown g1 B3.size (fun k hk => by simp at hk; omega)
  clear g1 o3 z1 y2 B3
  go_wp2_with fail
  refine (next8_at w.heap.size (w.heap.size + 1 + 1) n cap a xs 16 v1 Hn.out hm (hr.below D1 (Nat.le_refl _)) bs1 p1 (by omega)).mono ?_
  rintro r v2 ⟨rfl, p2, g2⟩
  rw [hE.out]
  replace p2 : OneI v2 (w.heap.size + 1 + 1) 24 := p2
  have bs2 : Box v2 w.heap.size #[.slice a n cap] 22 := (g2.block _ bs1.lt (fun e => by have := Option.some.inj e; omega)).trans bs1
  have bz2 : Box v2 (w.heap.size + 1) #[.int .i64 0, .int .i64 0, .int .i64 0, .int .i64 0] 28 := (g2.block _ bz1.lt (fun e => by have := Option.some.inj e; omega)).trans bz1
  have D2 := D1.grown g2 D1.size (fun k hk => by simp at hk; omega)
  clear g2 p1 bs1 bz1 D1
  go_wp2_with fail
  refine (next8_at w.heap.size (w.heap.size + 1 + 1) n cap a xs 24 v2 Hn.out hm (hr.below D2 (Nat.le_refl _)) bs2 p2 (by omega)).mono ?_
  rintro r v3 ⟨rfl, p3, g3⟩
  rw [hQ.out]
  replace p3 : OneI v3 (w.heap.size + 1 + 1) 32 := p3
  have bs3 : Box v3 w.heap.size #[.slice a n cap] 22 := (g3.block _ bs2.lt (fun e => by have := Option.some.inj e; omega)).trans bs2
  have bz3 : Box v3 (w.heap.size + 1) #[.int .i64 0, .int .i64 0, .int .i64 0, .int .i64 0] 28 := (g3.block _ bz2.lt (fun e => by have := Option.some.inj e; omega)).trans bz2
  have D3 := D2.grown g3 D2.size (fun k hk => by simp at hk; omega)
  clear g3 p2 bs2 bz2 D2
  go_wp2_with fail
  refine (next8_at w.heap.size (w.heap.size + 1 + 1) n cap a xs 32 v3 Hn.out hm (hr.below D3 (Nat.le_refl _)) bs3 p3 (by omega)).mono ?_
  rintro r v4 ⟨rfl, p4, g4⟩
  rw [hT.out]
  replace p4 : OneI v4 (w.heap.size + 1 + 1) 40 := p4
  have bs4 : Box v4 w.heap.size #[.slice a n cap] 22 := (g4.block _ bs3.lt (fun e => by have := Option.some.inj e; omega)).trans bs3
  have bz4 : Box v4 (w.heap.size + 1) #[.int .i64 0, .int .i64 0, .int .i64 0, .int .i64 0] 28 := (g4.block _ bz3.lt (fun e => by have := Option.some.inj e; omega)).trans bz3
  have D4 := D3.grown g4 D3.size (fun k hk => by simp at hk; omega)
  clear g4 p3 bs3 bz3 D3
  have bA := (Below.refl v4.heap.size v4).alloc (Nat.le_refl _) (.cells #[.int .i64 B, .int .i64 E, .int .i64 Q, .int .i64 T] 28)
  have bq := Box.new v4 #[.int .i64 B, .int .i64 E, .int .i64 Q, .int .i64 T] 28
  have bs := bs4.below bA
  have bz := bz4.below bA
  have D := D4.trans (bA.mono D4.size)
  go_wp2_with fail
  obtain ⟨U, hU⟩ : ∃ U, U = v4.alloc (.cells #[.int .i64 B, .int .i64 E, .int .i64 Q, .int .i64 T] 28) := ⟨_, rfl⟩
  rw [← hU] at bq bs bz D ⊢
  obtain ⟨G, hG⟩ : ∃ G, G = v4.heap.size := ⟨_, rfl⟩
  rw [← hG] at bq ⊢
  clear bs4 bz4 D4 p4 bA hU hG
  have hrU := hr.below D (Nat.le_refl _)
  have q0 := bq.cell 0
  have q1 := bq.cell 1
  have q2 := bq.cell 2
  have q3 := bq.cell 3
  have s0 := bs.cell 0
  simp only [List.getElem?_toArray, List.getElem?_cons_zero, List.getElem?_cons_succ] at q0 q1 q2 q3 s0
  go_region_with (go_at_call 53; refine (rightSuper_at B E Q T _).mono ?_; rintro r u1 ⟨rfl, b1⟩; rw [h]; have D1 : Below w.heap.size w u1 := (D.drew).trans (b1.mono D.size); have bz1 : Box u1 (w.heap.size + 1) #[.int .i64 0, .int .i64 0, .int .i64 0, .int .i64 0] 28 := Box.below (w := U.drew) bz b1)
  all_goals
    have m0 := bz1.cell 0
    have m1 := bz1.cell 1
    have m2 := bz1.cell 2
    have m3 := bz1.cell 3
    simp only [List.getElem?_toArray, List.getElem?_cons_zero, List.getElem?_cons_succ] at m0 m1 m2 m3
    have f0 := bz1.frozen 0
    have f1 := bz1.frozen 1
    have f2 := bz1.frozen 2
    have f3 := bz1.frozen 3
    go_wp2_with fail
    have Y := ((((bz1.store 0 (.int .i64 0)).store 1 (.int .i64 0)).store 2 (.int .i64 0)).store 3 (.int .i64 0))
    have C1 := ((((D1.setCell (p := ⟨w.heap.size + 1, 0, none⟩) (Nat.le_succ _) (.int .i64 0)).setCell (p := ⟨w.heap.size + 1, 1, none⟩) (Nat.le_succ _) (.int .i64 0)).setCell (p := ⟨w.heap.size + 1, 2, none⟩) (Nat.le_succ _) (.int .i64 0)).setCell (p := ⟨w.heap.size + 1, 3, none⟩) (Nat.le_succ _) (.int .i64 0))
    generalize ((((u1.setCell ⟨w.heap.size + 1, 0, none⟩ (.int .i64 0)).setCell ⟨w.heap.size + 1, 1, none⟩ (.int .i64 0)).setCell ⟨w.heap.size + 1, 2, none⟩ (.int .i64 0)).setCell ⟨w.heap.size + 1, 3, none⟩ (.int .i64 0)) = W9 at Y C1 ⊢
    clear m0 m1 m2 m3
    have m0 := Y.cell 0
    have m1 := Y.cell 1
    have m2 := Y.cell 2
    have m3 := Y.cell 3
    simp at m0 m1 m2 m3
    refine bodyPost_ret (v := .tuple #[.agg #[.int .i64 0, .int .i64 0, .int .i64 0, .int .i64 0], .int .i64 30]) (by simp [results, Tryz.results26, go_sem, m0, m1, m2, m3]) rfl ?_
    exact ⟨rfl, C1⟩

set_option maxRecDepth 100000 in
set_option maxHeartbeats 2000000 in
theorem getSuper_off (n cap : Nat) (a : Option Addr) (xs : List UInt8) (B E Q T : Int) (w : World) (Hn : Hid (xs.length = n)) (hm : n ≤ 9223372036854775807) (hr : Rd w a xs) (hB : Hid (i64 (num xs 8 8) = B)) (hE : Hid (i64 (num xs 16 8) = E)) (hQ : Hid (i64 (num xs 24 8) = Q)) (hT : Hid (i64 (num xs 32 8) = T)) (h : rightS B E Q T = true) (h4 : n ≠ 4096) :
    Calls Tryz.prog 26 #[.slice a n cap] w fun r w' => GetsS w w' (ansS B E Q T n xs) r := by
  have e : ansS B E Q T n xs = none := by unfold ansS; rw [decide_eq_false h4]; simp
  rw [e]
  clear e
  have h5 : ((n : Int) != 4096) = true := by simp; omega
  clear h4
  have B1 := (Below.refl w.heap.size w).alloc (Nat.le_refl _) (.cells #[.slice a n cap] 22)
  have x1 := Box.new w #[.slice a n cap] 22
  obtain ⟨w1, hw1⟩ : ∃ w1, w1 = w.alloc (.cells #[.slice a n cap] 22) := ⟨_, rfl⟩
  have s1 : w1.heap.size = w.heap.size + 1 := by rw [hw1]; simp
  rw [← hw1] at B1 x1
  have b2 := (Below.refl w1.heap.size w1).alloc (Nat.le_refl _) (.cells #[.int .i64 0, .int .i64 0, .int .i64 0, .int .i64 0] 28)
  have x2 := Box.new w1 #[.int .i64 0, .int .i64 0, .int .i64 0, .int .i64 0] 28
  have y1 := x1.below b2
  have B2 := B1.trans (b2.mono B1.size)
  obtain ⟨w2, hw2⟩ : ∃ w2, w2 = w1.alloc (.cells #[.int .i64 0, .int .i64 0, .int .i64 0, .int .i64 0] 28) := ⟨_, rfl⟩
  have s2 : w2.heap.size = w.heap.size + 1 + 1 := by rw [hw2]; simp [s1]
  rw [← hw2] at b2 x2 y1 B2
  have b3 := (Below.refl w2.heap.size w2).alloc (Nat.le_refl _) (.cells #[.int .i64 8] 3)
  have o3 : OneI (w2.alloc (.cells #[.int .i64 8] 3)) w2.heap.size 8 := heap_alloc_new w2 _
  have y2 := x2.below b3
  have z1 := y1.below b3
  have B3 := B2.trans (b3.mono B2.size)
  rw [s1] at y2
  rw [s2] at o3
  clear b2 b3 x1 y1 x2 B1 B2
  go_enter Tryz.func26, Tryz.ntmps26
  go_wp2_with fail
  rw [← hw1, ← hw2]
  obtain ⟨W, hW⟩ : ∃ W, W = w2.alloc (.cells #[.int .i64 8] 3) := ⟨_, rfl⟩
  rw [← hW] at o3 y2 z1 B3 ⊢
  clear hW hw1 hw2 s1 s2
  refine (next8_at w.heap.size (w.heap.size + 1 + 1) n cap a xs 8 W Hn.out hm (hr.below B3 (Nat.le_refl _)) z1 o3 (by omega)).mono ?_
  rintro r v1 ⟨rfl, p1, g1⟩
  rw [hB.out]
  replace p1 : OneI v1 (w.heap.size + 1 + 1) 16 := p1
  have bs1 : Box v1 w.heap.size #[.slice a n cap] 22 := (g1.block _ z1.lt (fun e => by have := Option.some.inj e; omega)).trans z1
  have bz1 : Box v1 (w.heap.size + 1) #[.int .i64 0, .int .i64 0, .int .i64 0, .int .i64 0] 28 := (g1.block _ y2.lt (fun e => by have := Option.some.inj e; omega)).trans y2
  have D1 := B3.grown g1 B3.size (fun k hk => by simp at hk; omega)
  clear g1 o3 z1 y2 B3
  go_wp2_with fail
  refine (next8_at w.heap.size (w.heap.size + 1 + 1) n cap a xs 16 v1 Hn.out hm (hr.below D1 (Nat.le_refl _)) bs1 p1 (by omega)).mono ?_
  rintro r v2 ⟨rfl, p2, g2⟩
  rw [hE.out]
  replace p2 : OneI v2 (w.heap.size + 1 + 1) 24 := p2
  have bs2 : Box v2 w.heap.size #[.slice a n cap] 22 := (g2.block _ bs1.lt (fun e => by have := Option.some.inj e; omega)).trans bs1
  have bz2 : Box v2 (w.heap.size + 1) #[.int .i64 0, .int .i64 0, .int .i64 0, .int .i64 0] 28 := (g2.block _ bz1.lt (fun e => by have := Option.some.inj e; omega)).trans bz1
  have D2 := D1.grown g2 D1.size (fun k hk => by simp at hk; omega)
  clear g2 p1 bs1 bz1 D1
  go_wp2_with fail
  refine (next8_at w.heap.size (w.heap.size + 1 + 1) n cap a xs 24 v2 Hn.out hm (hr.below D2 (Nat.le_refl _)) bs2 p2 (by omega)).mono ?_
  rintro r v3 ⟨rfl, p3, g3⟩
  rw [hQ.out]
  replace p3 : OneI v3 (w.heap.size + 1 + 1) 32 := p3
  have bs3 : Box v3 w.heap.size #[.slice a n cap] 22 := (g3.block _ bs2.lt (fun e => by have := Option.some.inj e; omega)).trans bs2
  have bz3 : Box v3 (w.heap.size + 1) #[.int .i64 0, .int .i64 0, .int .i64 0, .int .i64 0] 28 := (g3.block _ bz2.lt (fun e => by have := Option.some.inj e; omega)).trans bz2
  have D3 := D2.grown g3 D2.size (fun k hk => by simp at hk; omega)
  clear g3 p2 bs2 bz2 D2
  go_wp2_with fail
  refine (next8_at w.heap.size (w.heap.size + 1 + 1) n cap a xs 32 v3 Hn.out hm (hr.below D3 (Nat.le_refl _)) bs3 p3 (by omega)).mono ?_
  rintro r v4 ⟨rfl, p4, g4⟩
  rw [hT.out]
  replace p4 : OneI v4 (w.heap.size + 1 + 1) 40 := p4
  have bs4 : Box v4 w.heap.size #[.slice a n cap] 22 := (g4.block _ bs3.lt (fun e => by have := Option.some.inj e; omega)).trans bs3
  have bz4 : Box v4 (w.heap.size + 1) #[.int .i64 0, .int .i64 0, .int .i64 0, .int .i64 0] 28 := (g4.block _ bz3.lt (fun e => by have := Option.some.inj e; omega)).trans bz3
  have D4 := D3.grown g4 D3.size (fun k hk => by simp at hk; omega)
  clear g4 p3 bs3 bz3 D3
  have bA := (Below.refl v4.heap.size v4).alloc (Nat.le_refl _) (.cells #[.int .i64 B, .int .i64 E, .int .i64 Q, .int .i64 T] 28)
  have bq := Box.new v4 #[.int .i64 B, .int .i64 E, .int .i64 Q, .int .i64 T] 28
  have bs := bs4.below bA
  have bz := bz4.below bA
  have D := D4.trans (bA.mono D4.size)
  go_wp2_with fail
  obtain ⟨U, hU⟩ : ∃ U, U = v4.alloc (.cells #[.int .i64 B, .int .i64 E, .int .i64 Q, .int .i64 T] 28) := ⟨_, rfl⟩
  rw [← hU] at bq bs bz D ⊢
  obtain ⟨G, hG⟩ : ∃ G, G = v4.heap.size := ⟨_, rfl⟩
  rw [← hG] at bq ⊢
  clear bs4 bz4 D4 p4 bA hU hG
  have hrU := hr.below D (Nat.le_refl _)
  have q0 := bq.cell 0
  have q1 := bq.cell 1
  have q2 := bq.cell 2
  have q3 := bq.cell 3
  have s0 := bs.cell 0
  simp only [List.getElem?_toArray, List.getElem?_cons_zero, List.getElem?_cons_succ] at q0 q1 q2 q3 s0
  clear s0
  go_region_with (go_at_call 53; refine (rightSuper_at B E Q T _).mono ?_; rintro r u1 ⟨rfl, b1⟩; rw [h]; have D1 : Below w.heap.size w u1 := (D.drew).trans (b1.mono D.size); have bz1 : Box u1 (w.heap.size + 1) #[.int .i64 0, .int .i64 0, .int .i64 0, .int .i64 0] 28 := Box.below (w := U.drew) bz b1; have bs1 : Box u1 w.heap.size #[.slice a n cap] 22 := Box.below (w := U.drew) bs b1; have bq1 : Box u1 G #[.int .i64 B, .int .i64 E, .int .i64 Q, .int .i64 T] 28 := Box.below (w := U.drew) bq b1; have s0 := bs1.cell 0; have q0 := bq1.cell 0; have q1 := bq1.cell 1; have q2 := bq1.cell 2; have q3 := bq1.cell 3; simp only [List.getElem?_toArray, List.getElem?_cons_zero, List.getElem?_cons_succ] at q0 q1 q2 q3 s0)
  all_goals
    have m0 := bz1.cell 0
    have m1 := bz1.cell 1
    have m2 := bz1.cell 2
    have m3 := bz1.cell 3
    simp only [List.getElem?_toArray, List.getElem?_cons_zero, List.getElem?_cons_succ] at m0 m1 m2 m3
    have f0 := bz1.frozen 0
    have f1 := bz1.frozen 1
    have f2 := bz1.frozen 2
    have f3 := bz1.frozen 3
    go_wp2_with fail
    have Y := ((((bz1.store 0 (.int .i64 0)).store 1 (.int .i64 0)).store 2 (.int .i64 0)).store 3 (.int .i64 0))
    have C1 := ((((D1.setCell (p := ⟨w.heap.size + 1, 0, none⟩) (Nat.le_succ _) (.int .i64 0)).setCell (p := ⟨w.heap.size + 1, 1, none⟩) (Nat.le_succ _) (.int .i64 0)).setCell (p := ⟨w.heap.size + 1, 2, none⟩) (Nat.le_succ _) (.int .i64 0)).setCell (p := ⟨w.heap.size + 1, 3, none⟩) (Nat.le_succ _) (.int .i64 0))
    generalize ((((u1.setCell ⟨w.heap.size + 1, 0, none⟩ (.int .i64 0)).setCell ⟨w.heap.size + 1, 1, none⟩ (.int .i64 0)).setCell ⟨w.heap.size + 1, 2, none⟩ (.int .i64 0)).setCell ⟨w.heap.size + 1, 3, none⟩ (.int .i64 0)) = W9 at Y C1 ⊢
    clear m0 m1 m2 m3
    have m0 := Y.cell 0
    have m1 := Y.cell 1
    have m2 := Y.cell 2
    have m3 := Y.cell 3
    simp at m0 m1 m2 m3
    refine bodyPost_ret (v := .tuple #[.agg #[.int .i64 0, .int .i64 0, .int .i64 0, .int .i64 0], .int .i64 30]) (by simp [results, Tryz.results26, go_sem, m0, m1, m2, m3]) rfl ?_
    exact ⟨rfl, C1⟩

set_option maxRecDepth 100000 in
set_option maxHeartbeats 4000000 in
theorem getSuper_bad (bb oo cap b e q t : Nat) (xs : List UInt8) (w : World) (Hn : Hid (xs.length = 4096)) (hcap : 4096 ≤ cap) (hcm : cap ≤ 9223372036854775807) (hm : 4096 ≤ 9223372036854775807) (hr : Rd w (some ⟨bb, oo, none⟩) xs) (hB : Hid (i64 (num xs 8 8) = (b : Int))) (hE : Hid (i64 (num xs 16 8) = (e : Int))) (hQ : Hid (i64 (num xs 24 8) = (q : Int))) (hT : Hid (i64 (num xs 32 8) = (t : Int))) (h : rightS b e q t = true) (hH : isThen xs (headS b e q t) = false) :
    Calls Tryz.prog 26 #[.slice (some ⟨bb, oo, none⟩) 4096 cap] w fun r w' => GetsS w w' none r := by
  obtain ⟨hb9, he9, hq9, ht9⟩ : b < 9223372036854775808 ∧ e < 9223372036854775808 ∧ q < 9223372036854775808 ∧ t < 9223372036854775808 := by
    have := rightS_nat h
    omega
  have B1 := (Below.refl w.heap.size w).alloc (Nat.le_refl _) (.cells #[.slice (some ⟨bb, oo, none⟩) 4096 cap] 22)
  have x1 := Box.new w #[.slice (some ⟨bb, oo, none⟩) 4096 cap] 22
  obtain ⟨w1, hw1⟩ : ∃ w1, w1 = w.alloc (.cells #[.slice (some ⟨bb, oo, none⟩) 4096 cap] 22) := ⟨_, rfl⟩
  have s1 : w1.heap.size = w.heap.size + 1 := by rw [hw1]; simp
  rw [← hw1] at B1 x1
  have b2 := (Below.refl w1.heap.size w1).alloc (Nat.le_refl _) (.cells #[.int .i64 0, .int .i64 0, .int .i64 0, .int .i64 0] 28)
  have x2 := Box.new w1 #[.int .i64 0, .int .i64 0, .int .i64 0, .int .i64 0] 28
  have y1 := x1.below b2
  have B2 := B1.trans (b2.mono B1.size)
  obtain ⟨w2, hw2⟩ : ∃ w2, w2 = w1.alloc (.cells #[.int .i64 0, .int .i64 0, .int .i64 0, .int .i64 0] 28) := ⟨_, rfl⟩
  have s2 : w2.heap.size = w.heap.size + 1 + 1 := by rw [hw2]; simp [s1]
  rw [← hw2] at b2 x2 y1 B2
  have b3 := (Below.refl w2.heap.size w2).alloc (Nat.le_refl _) (.cells #[.int .i64 8] 3)
  have o3 : OneI (w2.alloc (.cells #[.int .i64 8] 3)) w2.heap.size 8 := heap_alloc_new w2 _
  have y2 := x2.below b3
  have z1 := y1.below b3
  have B3 := B2.trans (b3.mono B2.size)
  rw [s1] at y2
  rw [s2] at o3
  clear b2 b3 x1 y1 x2 B1 B2
  go_enter Tryz.func26, Tryz.ntmps26
  go_wp2_with fail
  rw [← hw1, ← hw2]
  obtain ⟨W, hW⟩ : ∃ W, W = w2.alloc (.cells #[.int .i64 8] 3) := ⟨_, rfl⟩
  rw [← hW] at o3 y2 z1 B3 ⊢
  clear hW hw1 hw2 s1 s2
  refine (next8_at w.heap.size (w.heap.size + 1 + 1) 4096 cap (some ⟨bb, oo, none⟩) xs 8 W Hn.out hm (hr.below B3 (Nat.le_refl _)) z1 o3 (by omega)).mono ?_
  rintro r v1 ⟨rfl, p1, g1⟩
  rw [hB.out]
  replace p1 : OneI v1 (w.heap.size + 1 + 1) 16 := p1
  have bs1 : Box v1 w.heap.size #[.slice (some ⟨bb, oo, none⟩) 4096 cap] 22 := (g1.block _ z1.lt (fun e => by have := Option.some.inj e; omega)).trans z1
  have bz1 : Box v1 (w.heap.size + 1) #[.int .i64 0, .int .i64 0, .int .i64 0, .int .i64 0] 28 := (g1.block _ y2.lt (fun e => by have := Option.some.inj e; omega)).trans y2
  have D1 := B3.grown g1 B3.size (fun k hk => by simp at hk; omega)
  clear g1 o3 z1 y2 B3
  go_wp2_with fail
  refine (next8_at w.heap.size (w.heap.size + 1 + 1) 4096 cap (some ⟨bb, oo, none⟩) xs 16 v1 Hn.out hm (hr.below D1 (Nat.le_refl _)) bs1 p1 (by omega)).mono ?_
  rintro r v2 ⟨rfl, p2, g2⟩
  rw [hE.out]
  replace p2 : OneI v2 (w.heap.size + 1 + 1) 24 := p2
  have bs2 : Box v2 w.heap.size #[.slice (some ⟨bb, oo, none⟩) 4096 cap] 22 := (g2.block _ bs1.lt (fun e => by have := Option.some.inj e; omega)).trans bs1
  have bz2 : Box v2 (w.heap.size + 1) #[.int .i64 0, .int .i64 0, .int .i64 0, .int .i64 0] 28 := (g2.block _ bz1.lt (fun e => by have := Option.some.inj e; omega)).trans bz1
  have D2 := D1.grown g2 D1.size (fun k hk => by simp at hk; omega)
  clear g2 p1 bs1 bz1 D1
  go_wp2_with fail
  refine (next8_at w.heap.size (w.heap.size + 1 + 1) 4096 cap (some ⟨bb, oo, none⟩) xs 24 v2 Hn.out hm (hr.below D2 (Nat.le_refl _)) bs2 p2 (by omega)).mono ?_
  rintro r v3 ⟨rfl, p3, g3⟩
  rw [hQ.out]
  replace p3 : OneI v3 (w.heap.size + 1 + 1) 32 := p3
  have bs3 : Box v3 w.heap.size #[.slice (some ⟨bb, oo, none⟩) 4096 cap] 22 := (g3.block _ bs2.lt (fun e => by have := Option.some.inj e; omega)).trans bs2
  have bz3 : Box v3 (w.heap.size + 1) #[.int .i64 0, .int .i64 0, .int .i64 0, .int .i64 0] 28 := (g3.block _ bz2.lt (fun e => by have := Option.some.inj e; omega)).trans bz2
  have D3 := D2.grown g3 D2.size (fun k hk => by simp at hk; omega)
  clear g3 p2 bs2 bz2 D2
  go_wp2_with fail
  refine (next8_at w.heap.size (w.heap.size + 1 + 1) 4096 cap (some ⟨bb, oo, none⟩) xs 32 v3 Hn.out hm (hr.below D3 (Nat.le_refl _)) bs3 p3 (by omega)).mono ?_
  rintro r v4 ⟨rfl, p4, g4⟩
  rw [hT.out]
  replace p4 : OneI v4 (w.heap.size + 1 + 1) 40 := p4
  have bs4 : Box v4 w.heap.size #[.slice (some ⟨bb, oo, none⟩) 4096 cap] 22 := (g4.block _ bs3.lt (fun e => by have := Option.some.inj e; omega)).trans bs3
  have bz4 : Box v4 (w.heap.size + 1) #[.int .i64 0, .int .i64 0, .int .i64 0, .int .i64 0] 28 := (g4.block _ bz3.lt (fun e => by have := Option.some.inj e; omega)).trans bz3
  have D4 := D3.grown g4 D3.size (fun k hk => by simp at hk; omega)
  clear g4 p3 bs3 bz3 D3
  have bA := (Below.refl v4.heap.size v4).alloc (Nat.le_refl _) (.cells #[.int .i64 (b : Int), .int .i64 (e : Int), .int .i64 (q : Int), .int .i64 (t : Int)] 28)
  have bq := Box.new v4 #[.int .i64 (b : Int), .int .i64 (e : Int), .int .i64 (q : Int), .int .i64 (t : Int)] 28
  have bs := bs4.below bA
  have bz := bz4.below bA
  have D := D4.trans (bA.mono D4.size)
  go_wp2_with fail
  obtain ⟨U, hU⟩ : ∃ U, U = v4.alloc (.cells #[.int .i64 (b : Int), .int .i64 (e : Int), .int .i64 (q : Int), .int .i64 (t : Int)] 28) := ⟨_, rfl⟩
  rw [← hU] at bq bs bz D ⊢
  obtain ⟨G, hG⟩ : ∃ G, G = v4.heap.size := ⟨_, rfl⟩
  rw [← hG] at bq ⊢
  clear bs4 bz4 D4 p4 bA hU hG
  have hrU := hr.below D (Nat.le_refl _)
  have q0 := bq.cell 0
  have q1 := bq.cell 1
  have q2 := bq.cell 2
  have q3 := bq.cell 3
  have s0 := bs.cell 0
  simp only [List.getElem?_toArray, List.getElem?_cons_zero, List.getElem?_cons_succ] at q0 q1 q2 q3 s0
  clear s0
  go_region_with (first | (go_at_call 53; refine (rightSuper_at (b : Int) e q t _).mono ?_; rintro r u1 ⟨rfl, b1⟩; rw [h]; have D1 : Below w.heap.size w u1 := (D.drew).trans (b1.mono D.size); have bz1 : Box u1 (w.heap.size + 1) #[.int .i64 0, .int .i64 0, .int .i64 0, .int .i64 0] 28 := Box.below (w := U.drew) bz b1; have bs1 : Box u1 w.heap.size #[.slice (some ⟨bb, oo, none⟩) 4096 cap] 22 := Box.below (w := U.drew) bs b1; have bq1 : Box u1 G #[.int .i64 (b : Int), .int .i64 (e : Int), .int .i64 (q : Int), .int .i64 (t : Int)] 28 := Box.below (w := U.drew) bq b1; have s0 := bs1.cell 0; have q0 := bq1.cell 0; have q1 := bq1.cell 1; have q2 := bq1.cell 2; have q3 := bq1.cell 3; simp only [List.getElem?_toArray, List.getElem?_cons_zero, List.getElem?_cons_succ] at q0 q1 q2 q3 s0) | (go_at_call 55; refine (superHead_at b e q t u1 hb9 he9 hq9 ht9).mono ?_; rintro r u2 ⟨g, rfl, hg, oh, b2⟩; have D2 : Below w.heap.size w u2 := D1.trans (b2.mono D1.size); have bz2 := bz1.below b2; have bq2 := bq1.below b2; have bs2 := bs1.below b2; have hr2 := hr.below D2 (Nat.le_refl _); have t0 := bs2.cell 0; simp only [List.getElem?_toArray, List.getElem?_cons_zero] at t0) | (go_at_call 54; refine (isThen_at cap 44 4096 44 (some ⟨bb, oo, none⟩) (some ⟨g, 0, none⟩) xs (headS b e q t) u2 Hn.out (headS_length _ _ _ _) hcap hcm (by omega) (by simp) hr2 oh.rd).mono ?_; rintro r u3 ⟨rfl, rfl⟩; rw [hH]))
  all_goals
    have m0 := bz2.cell 0
    have m1 := bz2.cell 1
    have m2 := bz2.cell 2
    have m3 := bz2.cell 3
    simp only [List.getElem?_toArray, List.getElem?_cons_zero, List.getElem?_cons_succ] at m0 m1 m2 m3
    have f0 := bz2.frozen 0
    have f1 := bz2.frozen 1
    have f2 := bz2.frozen 2
    have f3 := bz2.frozen 3
    go_wp2_with fail
    have Y := ((((bz2.store 0 (.int .i64 0)).store 1 (.int .i64 0)).store 2 (.int .i64 0)).store 3 (.int .i64 0))
    have C1 := ((((D2.setCell (p := ⟨w.heap.size + 1, 0, none⟩) (Nat.le_succ _) (.int .i64 0)).setCell (p := ⟨w.heap.size + 1, 1, none⟩) (Nat.le_succ _) (.int .i64 0)).setCell (p := ⟨w.heap.size + 1, 2, none⟩) (Nat.le_succ _) (.int .i64 0)).setCell (p := ⟨w.heap.size + 1, 3, none⟩) (Nat.le_succ _) (.int .i64 0))
    generalize ((((u2.setCell ⟨w.heap.size + 1, 0, none⟩ (.int .i64 0)).setCell ⟨w.heap.size + 1, 1, none⟩ (.int .i64 0)).setCell ⟨w.heap.size + 1, 2, none⟩ (.int .i64 0)).setCell ⟨w.heap.size + 1, 3, none⟩ (.int .i64 0)) = W9 at Y C1 ⊢
    clear m0 m1 m2 m3
    have m0 := Y.cell 0
    have m1 := Y.cell 1
    have m2 := Y.cell 2
    have m3 := Y.cell 3
    simp at m0 m1 m2 m3
    refine bodyPost_ret (v := .tuple #[.agg #[.int .i64 0, .int .i64 0, .int .i64 0, .int .i64 0], .int .i64 30]) (by simp [results, Tryz.results26, go_sem, m0, m1, m2, m3]) rfl ?_
    exact ⟨rfl, C1⟩

set_option maxRecDepth 100000 in
set_option maxHeartbeats 4000000 in
theorem getSuper_ok (bb oo cap b e q t : Nat) (xs : List UInt8) (w : World) (Hn : Hid (xs.length = 4096)) (hcap : 4096 ≤ cap) (hcm : cap ≤ 9223372036854775807) (hm : 4096 ≤ 9223372036854775807) (hr : Rd w (some ⟨bb, oo, none⟩) xs) (hB : Hid (i64 (num xs 8 8) = (b : Int))) (hE : Hid (i64 (num xs 16 8) = (e : Int))) (hQ : Hid (i64 (num xs 24 8) = (q : Int))) (hT : Hid (i64 (num xs 32 8) = (t : Int))) (h : rightS b e q t = true) (hH : isThen xs (headS b e q t) = true) :
    Calls Tryz.prog 26 #[.slice (some ⟨bb, oo, none⟩) 4096 cap] w fun r w' => GetsS w w' (some ⟨b, e, q, t⟩) r := by
  obtain ⟨hb9, he9, hq9, ht9⟩ : b < 9223372036854775808 ∧ e < 9223372036854775808 ∧ q < 9223372036854775808 ∧ t < 9223372036854775808 := by
    have := rightS_nat h
    omega
  have B1 := (Below.refl w.heap.size w).alloc (Nat.le_refl _) (.cells #[.slice (some ⟨bb, oo, none⟩) 4096 cap] 22)
  have x1 := Box.new w #[.slice (some ⟨bb, oo, none⟩) 4096 cap] 22
  obtain ⟨w1, hw1⟩ : ∃ w1, w1 = w.alloc (.cells #[.slice (some ⟨bb, oo, none⟩) 4096 cap] 22) := ⟨_, rfl⟩
  have s1 : w1.heap.size = w.heap.size + 1 := by rw [hw1]; simp
  rw [← hw1] at B1 x1
  have b2 := (Below.refl w1.heap.size w1).alloc (Nat.le_refl _) (.cells #[.int .i64 0, .int .i64 0, .int .i64 0, .int .i64 0] 28)
  have x2 := Box.new w1 #[.int .i64 0, .int .i64 0, .int .i64 0, .int .i64 0] 28
  have y1 := x1.below b2
  have B2 := B1.trans (b2.mono B1.size)
  obtain ⟨w2, hw2⟩ : ∃ w2, w2 = w1.alloc (.cells #[.int .i64 0, .int .i64 0, .int .i64 0, .int .i64 0] 28) := ⟨_, rfl⟩
  have s2 : w2.heap.size = w.heap.size + 1 + 1 := by rw [hw2]; simp [s1]
  rw [← hw2] at b2 x2 y1 B2
  have b3 := (Below.refl w2.heap.size w2).alloc (Nat.le_refl _) (.cells #[.int .i64 8] 3)
  have o3 : OneI (w2.alloc (.cells #[.int .i64 8] 3)) w2.heap.size 8 := heap_alloc_new w2 _
  have y2 := x2.below b3
  have z1 := y1.below b3
  have B3 := B2.trans (b3.mono B2.size)
  rw [s1] at y2
  rw [s2] at o3
  clear b2 b3 x1 y1 x2 B1 B2
  go_enter Tryz.func26, Tryz.ntmps26
  go_wp2_with fail
  rw [← hw1, ← hw2]
  obtain ⟨W, hW⟩ : ∃ W, W = w2.alloc (.cells #[.int .i64 8] 3) := ⟨_, rfl⟩
  rw [← hW] at o3 y2 z1 B3 ⊢
  clear hW hw1 hw2 s1 s2
  refine (next8_at w.heap.size (w.heap.size + 1 + 1) 4096 cap (some ⟨bb, oo, none⟩) xs 8 W Hn.out hm (hr.below B3 (Nat.le_refl _)) z1 o3 (by omega)).mono ?_
  rintro r v1 ⟨rfl, p1, g1⟩
  rw [hB.out]
  replace p1 : OneI v1 (w.heap.size + 1 + 1) 16 := p1
  have bs1 : Box v1 w.heap.size #[.slice (some ⟨bb, oo, none⟩) 4096 cap] 22 := (g1.block _ z1.lt (fun e => by have := Option.some.inj e; omega)).trans z1
  have bz1 : Box v1 (w.heap.size + 1) #[.int .i64 0, .int .i64 0, .int .i64 0, .int .i64 0] 28 := (g1.block _ y2.lt (fun e => by have := Option.some.inj e; omega)).trans y2
  have D1 := B3.grown g1 B3.size (fun k hk => by simp at hk; omega)
  clear g1 o3 z1 y2 B3
  go_wp2_with fail
  refine (next8_at w.heap.size (w.heap.size + 1 + 1) 4096 cap (some ⟨bb, oo, none⟩) xs 16 v1 Hn.out hm (hr.below D1 (Nat.le_refl _)) bs1 p1 (by omega)).mono ?_
  rintro r v2 ⟨rfl, p2, g2⟩
  rw [hE.out]
  replace p2 : OneI v2 (w.heap.size + 1 + 1) 24 := p2
  have bs2 : Box v2 w.heap.size #[.slice (some ⟨bb, oo, none⟩) 4096 cap] 22 := (g2.block _ bs1.lt (fun e => by have := Option.some.inj e; omega)).trans bs1
  have bz2 : Box v2 (w.heap.size + 1) #[.int .i64 0, .int .i64 0, .int .i64 0, .int .i64 0] 28 := (g2.block _ bz1.lt (fun e => by have := Option.some.inj e; omega)).trans bz1
  have D2 := D1.grown g2 D1.size (fun k hk => by simp at hk; omega)
  clear g2 p1 bs1 bz1 D1
  go_wp2_with fail
  refine (next8_at w.heap.size (w.heap.size + 1 + 1) 4096 cap (some ⟨bb, oo, none⟩) xs 24 v2 Hn.out hm (hr.below D2 (Nat.le_refl _)) bs2 p2 (by omega)).mono ?_
  rintro r v3 ⟨rfl, p3, g3⟩
  rw [hQ.out]
  replace p3 : OneI v3 (w.heap.size + 1 + 1) 32 := p3
  have bs3 : Box v3 w.heap.size #[.slice (some ⟨bb, oo, none⟩) 4096 cap] 22 := (g3.block _ bs2.lt (fun e => by have := Option.some.inj e; omega)).trans bs2
  have bz3 : Box v3 (w.heap.size + 1) #[.int .i64 0, .int .i64 0, .int .i64 0, .int .i64 0] 28 := (g3.block _ bz2.lt (fun e => by have := Option.some.inj e; omega)).trans bz2
  have D3 := D2.grown g3 D2.size (fun k hk => by simp at hk; omega)
  clear g3 p2 bs2 bz2 D2
  go_wp2_with fail
  refine (next8_at w.heap.size (w.heap.size + 1 + 1) 4096 cap (some ⟨bb, oo, none⟩) xs 32 v3 Hn.out hm (hr.below D3 (Nat.le_refl _)) bs3 p3 (by omega)).mono ?_
  rintro r v4 ⟨rfl, p4, g4⟩
  rw [hT.out]
  replace p4 : OneI v4 (w.heap.size + 1 + 1) 40 := p4
  have bs4 : Box v4 w.heap.size #[.slice (some ⟨bb, oo, none⟩) 4096 cap] 22 := (g4.block _ bs3.lt (fun e => by have := Option.some.inj e; omega)).trans bs3
  have bz4 : Box v4 (w.heap.size + 1) #[.int .i64 0, .int .i64 0, .int .i64 0, .int .i64 0] 28 := (g4.block _ bz3.lt (fun e => by have := Option.some.inj e; omega)).trans bz3
  have D4 := D3.grown g4 D3.size (fun k hk => by simp at hk; omega)
  clear g4 p3 bs3 bz3 D3
  have bA := (Below.refl v4.heap.size v4).alloc (Nat.le_refl _) (.cells #[.int .i64 (b : Int), .int .i64 (e : Int), .int .i64 (q : Int), .int .i64 (t : Int)] 28)
  have bq := Box.new v4 #[.int .i64 (b : Int), .int .i64 (e : Int), .int .i64 (q : Int), .int .i64 (t : Int)] 28
  have bs := bs4.below bA
  have bz := bz4.below bA
  have D := D4.trans (bA.mono D4.size)
  go_wp2_with fail
  obtain ⟨U, hU⟩ : ∃ U, U = v4.alloc (.cells #[.int .i64 (b : Int), .int .i64 (e : Int), .int .i64 (q : Int), .int .i64 (t : Int)] 28) := ⟨_, rfl⟩
  rw [← hU] at bq bs bz D ⊢
  obtain ⟨G, hG⟩ : ∃ G, G = v4.heap.size := ⟨_, rfl⟩
  rw [← hG] at bq ⊢
  clear bs4 bz4 D4 p4 bA hU hG
  have hrU := hr.below D (Nat.le_refl _)
  have q0 := bq.cell 0
  have q1 := bq.cell 1
  have q2 := bq.cell 2
  have q3 := bq.cell 3
  have s0 := bs.cell 0
  simp only [List.getElem?_toArray, List.getElem?_cons_zero, List.getElem?_cons_succ] at q0 q1 q2 q3 s0
  clear s0
  go_region_with (first | (go_at_call 53; refine (rightSuper_at (b : Int) e q t _).mono ?_; rintro r u1 ⟨rfl, b1⟩; rw [h]; have D1 : Below w.heap.size w u1 := (D.drew).trans (b1.mono D.size); have bz1 : Box u1 (w.heap.size + 1) #[.int .i64 0, .int .i64 0, .int .i64 0, .int .i64 0] 28 := Box.below (w := U.drew) bz b1; have bs1 : Box u1 w.heap.size #[.slice (some ⟨bb, oo, none⟩) 4096 cap] 22 := Box.below (w := U.drew) bs b1; have bq1 : Box u1 G #[.int .i64 (b : Int), .int .i64 (e : Int), .int .i64 (q : Int), .int .i64 (t : Int)] 28 := Box.below (w := U.drew) bq b1; have s0 := bs1.cell 0; have q0 := bq1.cell 0; have q1 := bq1.cell 1; have q2 := bq1.cell 2; have q3 := bq1.cell 3; simp only [List.getElem?_toArray, List.getElem?_cons_zero, List.getElem?_cons_succ] at q0 q1 q2 q3 s0) | (go_at_call 55; refine (superHead_at b e q t u1 hb9 he9 hq9 ht9).mono ?_; rintro r u2 ⟨g, rfl, hg, oh, b2⟩; have D2 : Below w.heap.size w u2 := D1.trans (b2.mono D1.size); have bz2 := bz1.below b2; have bq2 := bq1.below b2; have bs2 := bs1.below b2; have hr2 := hr.below D2 (Nat.le_refl _); have t0 := bs2.cell 0; simp only [List.getElem?_toArray, List.getElem?_cons_zero] at t0) | (go_at_call 54; refine (isThen_at cap 44 4096 44 (some ⟨bb, oo, none⟩) (some ⟨g, 0, none⟩) xs (headS b e q t) u2 Hn.out (headS_length _ _ _ _) hcap hcm (by omega) (by simp) hr2 oh.rd).mono ?_; rintro r u3 ⟨rfl, rfl⟩; rw [hH]))
  all_goals
    have m0 := bz2.cell 0
    have m1 := bz2.cell 1
    have m2 := bz2.cell 2
    have m3 := bz2.cell 3
    simp only [List.getElem?_toArray, List.getElem?_cons_zero, List.getElem?_cons_succ] at m0 m1 m2 m3
    have f0 := bz2.frozen 0
    have f1 := bz2.frozen 1
    have f2 := bz2.frozen 2
    have f3 := bz2.frozen 3
    have k0 := bq2.cell 0
    have k1 := bq2.cell 1
    have k2 := bq2.cell 2
    have k3 := bq2.cell 3
    simp only [List.getElem?_toArray, List.getElem?_cons_zero, List.getElem?_cons_succ] at k0 k1 k2 k3
    go_wp2_with fail
    have Y := ((((bz2.store 0 (.int .i64 (b : Int))).store 1 (.int .i64 (e : Int))).store 2 (.int .i64 (q : Int))).store 3 (.int .i64 (t : Int)))
    have C1 := ((((D2.setCell (p := ⟨w.heap.size + 1, 0, none⟩) (Nat.le_succ _) (.int .i64 (b : Int))).setCell (p := ⟨w.heap.size + 1, 1, none⟩) (Nat.le_succ _) (.int .i64 (e : Int))).setCell (p := ⟨w.heap.size + 1, 2, none⟩) (Nat.le_succ _) (.int .i64 (q : Int))).setCell (p := ⟨w.heap.size + 1, 3, none⟩) (Nat.le_succ _) (.int .i64 (t : Int)))
    generalize ((((u2.setCell ⟨w.heap.size + 1, 0, none⟩ (.int .i64 (b : Int))).setCell ⟨w.heap.size + 1, 1, none⟩ (.int .i64 (e : Int))).setCell ⟨w.heap.size + 1, 2, none⟩ (.int .i64 (q : Int))).setCell ⟨w.heap.size + 1, 3, none⟩ (.int .i64 (t : Int))) = W9 at Y C1 ⊢
    clear m0 m1 m2 m3
    have m0 := Y.cell 0
    have m1 := Y.cell 1
    have m2 := Y.cell 2
    have m3 := Y.cell 3
    simp at m0 m1 m2 m3
    refine bodyPost_ret (v := .tuple #[.agg #[.int .i64 (b : Int), .int .i64 (e : Int), .int .i64 (q : Int), .int .i64 (t : Int)], .int .i64 0]) (by simp [results, Tryz.results26, go_sem, m0, m1, m2, m3]) rfl ?_
    exact ⟨rfl, C1⟩

end Go.Proofs.YtdkaacjeogifdaaGreat.Su

/-
  GetSuper's contract, and a superblock's one form.
-/
namespace Go.Proofs.YtdkaacjeogifdaaGreat.Su
open Go.RowKit

theorem getSuper_at (n cap : Nat) (a : Option Addr) (xs : List UInt8) (w : World) (hn : xs.length = n) (hcap : n ≤ cap) (hm : cap ≤ 9223372036854775807) (hr : Rd w a xs) :
    Calls Tryz.prog 26 #[.slice a n cap] w fun r w' => GetsS w w' (getSuper xs) r := by
  have e : getSuper xs = ansS (i64 (num xs 8 8)) (i64 (num xs 16 8)) (i64 (num xs 24 8)) (i64 (num xs 32 8)) n xs := by rw [← hn]; rfl
  rw [e]
  cases h : rightS (i64 (num xs 8 8)) (i64 (num xs 16 8)) (i64 (num xs 24 8)) (i64 (num xs 32 8))
  · exact getSuper_wrong n cap a xs _ _ _ _ w hn (by omega) hr rfl rfl rfl rfl h
  · by_cases h4 : n = 4096
    · subst h4
      obtain ⟨bb, oo, rfl, _⟩ := hr (by omega)
      have hh := rightS_nat h
      obtain ⟨b, hb⟩ := Int.eq_ofNat_of_zero_le (show 0 ≤ i64 (num xs 8 8) by omega)
      obtain ⟨e, he⟩ := Int.eq_ofNat_of_zero_le (show 0 ≤ i64 (num xs 16 8) by omega)
      obtain ⟨q, hq⟩ := Int.eq_ofNat_of_zero_le (show 0 ≤ i64 (num xs 24 8) by omega)
      obtain ⟨t, ht⟩ := Int.eq_ofNat_of_zero_le (show 0 ≤ i64 (num xs 32 8) by omega)
      rw [hb, he, hq, ht] at h ⊢
      rcases Bool.eq_false_or_eq_true (isThen xs (headS b e q t)) with hH | hH
      · have e9 : ansS b e q t 4096 xs = some ⟨b, e, q, t⟩ := by
          have hH' : isThen xs (headS (b : Int).toNat (e : Int).toNat (q : Int).toNat (t : Int).toNat) = true := hH
          unfold ansS
          rw [h, decide_eq_true (rfl : (4096 : Nat) = 4096), hH']
          rfl
        rw [e9]
        exact getSuper_ok bb oo cap b e q t xs w hn hcap hm (by omega) hr hb he hq ht h hH
      · have e9 : ansS b e q t 4096 xs = none := by
          have hH' : isThen xs (headS (b : Int).toNat (e : Int).toNat (q : Int).toNat (t : Int).toNat) = false := hH
          unfold ansS
          rw [h, decide_eq_true (rfl : (4096 : Nat) = 4096), hH']
          rfl
        rw [e9]
        exact getSuper_bad bb oo cap b e q t xs w hn hcap hm (by omega) hr hb he hq ht h hH
    · exact getSuper_off n cap a xs _ _ _ _ w hn (by omega) hr rfl rfl rfl rfl h h4

theorem superB_eq (b e q t : Nat) : superB b e q t = letters ++ (toBE 8 b ++ (toBE 8 e ++ (toBE 8 q ++ (toBE 8 t ++ (toBE 4 (crc 0 (lead [b, e, q, t])) ++ noughts 4052))))) := by
  simp [superB, headS, lead]
theorem readS_put (b e q t : Nat) (hb : b < 9223372036854775808) (he : e < 9223372036854775808) (hq : q < 9223372036854775808) (ht : t < 9223372036854775808) : readS (superB b e q t) = ⟨b, e, q, t⟩ := by
  have n0 : num (superB b e q t) 8 8 = b := by rw [superB_eq]; exact num_put _ _ 8 _ _ rfl (by omega)
  have n1 : num (superB b e q t) 16 8 = e := by
    rw [superB_eq, ← List.append_assoc]
    exact num_put _ _ 8 _ _ (by simp only [List.length_append, toBE_length]; rfl) (by omega)
  have n2 : num (superB b e q t) 24 8 = q := by
    rw [superB_eq, ← List.append_assoc, ← List.append_assoc]
    exact num_put _ _ 8 _ _ (by simp only [List.length_append, toBE_length]; rfl) (by omega)
  have n3 : num (superB b e q t) 32 8 = t := by
    rw [superB_eq, ← List.append_assoc, ← List.append_assoc, ← List.append_assoc]
    exact num_put _ _ 8 _ _ (by simp only [List.length_append, toBE_length]; rfl) (by omega)
  unfold readS
  rw [n0, n1, n2, n3, i64_in b hb, i64_in e he, i64_in q hq, i64_in t ht]
theorem getSuper_put (b e q t : Int) (h : rightS b e q t = true) : getSuper (superB b.toNat e.toNat q.toNat t.toNat) = some ⟨b, e, q, t⟩ := by
  obtain ⟨b, e, q, t, rfl, rfl, rfl, rfl, hb, he, hq, ht⟩ := rightS_lt h
  simp only [Int.toNat_natCast]
  unfold getSuper
  rw [readS_put b e q t hb he hq ht]
  have hi : isThen (superB b e q t) (headS (b : Int).toNat (e : Int).toNat (q : Int).toNat (t : Int).toNat) = true := isThen_self (headS b e q t) 4052
  show (if rightS b e q t && (decide ((superB b e q t).length = 4096) && isThen (superB b e q t) (headS (b : Int).toNat (e : Int).toNat (q : Int).toNat (t : Int).toNat)) then some (⟨b, e, q, t⟩ : Sup) else none) = _
  rw [h, hi, decide_eq_true (superB_length b e q t)]
  rfl
theorem getSuper_some {xs : List UInt8} {s : Sup} (h : getSuper xs = some s) : rightS s.b s.e s.q s.t = true ∧ superB s.b.toNat s.e.toNat s.q.toNat s.t.toNat = xs := by
  obtain ⟨hc, hx⟩ := if_some h
  simp only [Bool.and_eq_true, decide_eq_true_eq] at hc
  obtain ⟨hr, hl, ht⟩ := hc
  subst hx
  refine ⟨hr, ?_⟩
  obtain ⟨_, t2⟩ := isThen_true ht
  rw [hl, headS_length] at t2
  exact t2.symm
theorem getSuper_turned (b e q t p ch : Nat) (hp : p < 37) (h0 : 0 < ch) (h4 : ch < 4294967296) : getSuper (chg (superB b e q t) p ch 4) = none := by
  cases h : getSuper (chg (superB b e q t) p ch 4) with
  | none => rfl
  | some s =>
    exfalso
    obtain ⟨_, g2⟩ := getSuper_some h
    obtain ⟨b', hb⟩ : ∃ x, x = s.b.toNat := ⟨_, rfl⟩
    obtain ⟨e', he⟩ : ∃ x, x = s.e.toNat := ⟨_, rfl⟩
    obtain ⟨q', hq⟩ : ∃ x, x = s.q.toNat := ⟨_, rfl⟩
    obtain ⟨t', ht⟩ : ∃ x, x = s.t.toNat := ⟨_, rfl⟩
    rw [← hb, ← he, ← hq, ← ht] at g2
    have e1 : ∀ b e q t, superB b e q t = lead [b, e, q, t] ++ (toBE 4 (crc 0 (lead [b, e, q, t])) ++ noughts 4052) := fun b e q t => by simp only [superB, headS, List.append_assoc]
    rw [e1 b e q t, e1 b' e' q' t', chg_left _ _ p ch 4 (by rw [lead_length]; simp; omega)] at g2
    have hin := List.append_inj g2 (by rw [chg_length, lead_length, lead_length]; rfl)
    have hin2 := List.append_inj hin.2 (by rw [toBE_length, toBE_length])
    have hc := toBE_inj (by have := crc_lt 0 (lead [b', e', q', t']); omega) (by have := crc_lt 0 (lead [b, e, q, t]); omega) hin2.1
    rw [hin.1] at hc
    have := chg_seen (lead [b, e, q, t]) p ch 4 (by omega) hc.symm
    exact chg_ne (lead [b, e, q, t]) p ch (by rw [lead_length]; simp; omega) h0 h4 this.symm
end Go.Proofs.YtdkaacjeogifdaaGreat.Su

/-
  Bytes in memory, whatever the program: rows that are read, rows of one's own, copies; told over this seat's tables.
-/
namespace Go.Proofs.YtdkaacjeogifdaaGreat.Dk
open Go.RowKit

theorem u8_lt (c : UInt8) : c.toNat < 256 := c.toNat_lt
theorem ofNat_toNat (v : Nat) : (UInt8.ofNat v).toNat = v % 256 := by simp
def bc (c : UInt8) : Value := .int .u8 (c.toNat : Int)
def bcs (l : List UInt8) : List Value := l.map bc
theorem bcs_length (l : List UInt8) : (bcs l).length = l.length := by simp [bcs]
theorem bcs_append (l r : List UInt8) : bcs (l ++ r) = bcs l ++ bcs r := by simp [bcs]
theorem bcs_getElem? (l : List UInt8) (j : Nat) (h : j < l.length) : (bcs l)[j]? = some (.int .u8 (l[j].toNat : Int)) := by simp [bcs, bc, List.getElem?_eq_getElem h]
theorem bcs_oneCell (l : List UInt8) : ∀ v ∈ bcs l, v.oneCell' = true := by
  intro v hv
  obtain ⟨_, _, rfl⟩ := List.mem_map.1 hv
  rfl

/-- Block g holds just these bytes, and may be written. -/
def Own (w : World) (g : Nat) (ys : List UInt8) : Prop := w.heap[g]? = some (.cells (bcs ys).toArray 5 (0, 0))

theorem Own.cell {w : World} {g : Nat} {ys : List UInt8} (h : Own w g ys) (j : Nat) (hj : j < ys.length) : w.cell? ⟨g, j, none⟩ = some (.int .u8 (ys[j].toNat : Int)) := by
  rw [cell_of_row w g j _ 5 (0, 0) h]
  simpa using bcs_getElem? ys j hj
theorem Own.frozen {w : World} {g : Nat} {ys : List UInt8} (h : Own w g ys) (j : Nat) : w.frozen? ⟨g, j, none⟩ = false := frozen_of_row w g j _ 5 h
theorem Own.lt {w : World} {g : Nat} {ys : List UInt8} (h : Own w g ys) : g < w.heap.size := (Array.getElem?_eq_some_iff.1 h).1
theorem Own.store {w : World} {g : Nat} {ys : List UInt8} (h : Own w g ys) (j : Nat) (c : UInt8) : Own (w.setCell ⟨g, j, none⟩ (.int .u8 (c.toNat : Int))) g (ys.set j c) := by
  unfold Own
  rw [heap_setCell_same w g j _ 5 _ h]
  congr 2
  apply Array.toList_inj.1
  simp [bcs, bc]
/-- What lies below a mark stays. -/
theorem Own.below {B : Nat} {w w' : World} {g : Nat} {ys : List UInt8} (h : Own w g ys) (hb : Below B w w') (hg : g < B) : Own w' g ys := (hb.block g hg).trans h

theorem grown_trans {a b c : World} {row : Option Nat} (h : a.grownBy b row) (k : b.grownBy c row) : a.grownBy c row :=
  ⟨k.os.trans h.os, k.tape.trans h.tape, k.output.trans h.output, Nat.le_trans h.size k.size, fun i hi hr => (k.block i (Nat.lt_of_lt_of_le hi h.size) hr).trans (h.block i hi hr)⟩
theorem grown_store (w : World) (g j : Nat) (u : Value) : w.grownBy (w.setCell ⟨g, j, none⟩ u) (some g) :=
  ⟨rfl, rfl, rfl, by simp, fun k _ hk => heap_setCell_other w ⟨g, j, none⟩ k u (fun e => hk (by simp [e]))⟩
theorem grown_setRow (w : World) (g : Nat) (cs : Array Value) : w.grownBy (w.setRow g cs) (some g) :=
  ⟨rfl, rfl, rfl, by simp [World.setRow], fun k _ hk => setRow_other w g k cs (fun e => hk (by simp [e]))⟩

/-- The bytes xs lie where a says (of no bytes nothing is asked). -/
def Rd (w : World) (a : Option Addr) (xs : List UInt8) : Prop :=
  0 < xs.length → ∃ b o, a = some ⟨b, o, none⟩ ∧ ∀ j (h : j < xs.length), w.cell? ⟨b, o + j, none⟩ = some (.int .u8 (xs[j].toNat : Int))
theorem Rd.nil (w : World) (a : Option Addr) : Rd w a [] := fun h => absurd h (by simp)
theorem Own.rd {w : World} {g : Nat} {ys : List UInt8} (h : Own w g ys) : Rd w (some ⟨g, 0, none⟩) ys := fun _ => ⟨g, 0, rfl, fun j hj => by rw [Nat.zero_add]; exact h.cell j hj⟩
/-- What is read stays as long as old blocks stay. -/
theorem Rd.below {B : Nat} {w w' : World} {a : Option Addr} {xs : List UInt8} (h : Rd w a xs) (hb : Below B w w') (hB : w.heap.size ≤ B) : Rd w' a xs := fun hp => by
  obtain ⟨b, o, ha, hc⟩ := h hp
  refine ⟨b, o, ha, fun j hj => ?_⟩
  have hlt : b < w.heap.size := block_lt_of_cell (hc j hj)
  rw [hb.cell (p := ⟨b, o + j, none⟩) (Nat.lt_of_lt_of_le hlt hB)]
  exact hc j hj

theorem info5 : (Tryz.prog.info? 5).map (fun i => (i.zero, i.size, i.bytes)) = some (some (.int .u8 0), 1, 1) := by kernel_rfl
theorem size5 : (Tryz.prog.info? 5).map (·.size) = some 1 := by kernel_rfl

theorem below_of_grown {w u : World} {g : Nat} (h : w.grownBy u (some g)) (hg : w.heap.size ≤ g) : Below w.heap.size w u := (Below.refl _ _).grown h (Nat.le_refl _) (fun k hk => by simp at hk; omega)

theorem made_zero (n : Nat) : (madeCells #[Value.int .u8 0] n) = (bcs (List.replicate n 0)).toArray := by
  apply Array.toList_inj.1
  apply List.ext_getElem
  · simp [madeCells, bcs]
  · intro i h1 h2
    simp [madeCells, bcs, bc, Nat.mod_one]

/-- string(bytes). -/
theorem conv_run (u : World) (a : Option Addr) (cap : Nat) (xs : List UInt8) (hr : Rd u a xs) : (convert 22 9 (.slice a xs.length cap)).run Tryz.prog u = .ok (.string ⟨xs.toArray⟩) u := by
  cases a with
  | none =>
    by_cases h0 : 0 < xs.length
    · obtain ⟨b, o, h, _⟩ := hr h0
      simp at h
    · obtain rfl : xs = [] := List.eq_nil_of_length_eq_zero (by omega)
      exact run_convert_bytes_nil u 22 5 Tryz.underlying22 Tryz.underlying5 0 cap 9 Tryz.underlying9
  | some a =>
    exact run_convert_bytes_back u 22 9 5 a cap xs Tryz.underlying22 Tryz.underlying5 Tryz.underlying9 (fun j hj => by
      obtain ⟨b, o, h, hc⟩ := hr (by omega)
      obtain rfl := Option.some.inj h
      rw [Addr.add_lit]
      exact hc j hj)

theorem same_any (a b : Option Addr) (ca cb : Nat) (xs ys : List UInt8) (w : World) (ha : Rd w a xs) (hb : Rd w b ys) :
    Calls Tryz.prog 19 #[.slice a xs.length ca, .slice b ys.length cb] w fun e w' => e = .returned (.bool (xs == ys)) ∧ w = w' := by
  have h1 := conv_run w a ca xs ha
  have h2 := conv_run w b cb ys hb
  go_enter Tryz.func19, Tryz.ntmps19
  go_wp2
  go_ret
  exact ⟨rfl, rfl⟩

theorem own_lit (w : World) (xs : List UInt8) : Own (w.alloc (.cells (bcs xs).toArray 5)) w.heap.size xs := heap_alloc_new w _

theorem same_at (ca cb n m : Nat) (a b : Option Addr) (xs ys : List UInt8) (w : World) (hn : xs.length = n) (hm : ys.length = m) (ha : Rd w a xs) (hb : Rd w b ys) :
    Calls Tryz.prog 19 #[.slice a n ca, .slice b m cb] w fun e w' => e = .returned (.bool (xs == ys)) ∧ w = w' := by
  subst hn hm; exact same_any a b ca cb xs ys w ha hb

theorem bytes5 : Tryz.prog.bytesOf 5 = 1 := by kernel_rfl

theorem u8_bounds {n : Int} (h : (Lit.int .u8 n).wf = true) : 0 ≤ n ∧ n ≤ 255 := by
  simpa [Lit.wf, IntKind.min, IntKind.max, IntKind.signed, IntKind.bits] using h
theorem u64_bounds {n : Int} (h : (Lit.int .u64 n).wf = true) : 0 ≤ n ∧ n ≤ 18446744073709551615 := by
  simpa [Lit.wf, IntKind.min, IntKind.max, IntKind.signed, IntKind.bits] using h
theorem u32_bounds {n : Int} (h : (Lit.int .u32 n).wf = true) : 0 ≤ n ∧ n ≤ 4294967295 := by
  simpa [Lit.wf, IntKind.min, IntKind.max, IntKind.signed, IntKind.bits] using h
theorem i64_bounds {n : Int} (h : (Lit.int .i64 n).wf = true) : -9223372036854775808 ≤ n ∧ n ≤ 9223372036854775807 := by
  simpa [Lit.wf, IntKind.min, IntKind.max, IntKind.signed, IntKind.bits] using h

theorem bytes_of_ints {w : World} {a : Addr} {len cap : Nat} {zs : List Int} (hl : len ≤ cap) (hz : zs.length = cap)
    (hcell : ∀ i, i < zs.length → w.cell? (a.add i) = some (.int .u8 (zs.getD i 0))) (hwz : ∀ n ∈ zs, (Lit.int .u8 n).wf = true) :
    ∃ xs : List UInt8, xs.length = len ∧ Rd w (some a) xs := by
  refine ⟨(zs.take len).map fun n => UInt8.ofNat n.toNat, by simp; omega, fun hp => ?_⟩
  have hlen : 0 < len := by simp at hp; omega
  have h0 := hcell 0 (by omega)
  obtain ⟨b, o, sp⟩ := a
  have hsp : sp = none := by simpa [Addr.add] using World.cell?_spot h0
  subst hsp
  refine ⟨b, o, rfl, fun j hj => ?_⟩
  have hj' : j < len := by simp at hj; omega
  have hjz : j < zs.length := by omega
  have h := hcell j hjz
  rw [Addr.add_lit] at h
  rw [h]
  have hb := u8_bounds (hwz zs[j] (List.getElem_mem hjz))
  have e : zs.getD j 0 = zs[j] := by simp [List.getD, List.getElem?_eq_getElem hjz]
  rw [e]
  simp only [List.getElem_map, List.getElem_take]
  congr 2
  rw [ofNat_toNat]
  omega

/-! ### rows that grow -/
theorem owns_rd {w : World} {B n : Nat} {v : Value} {ys : List UInt8} (h : w.ownsRow B 5 1 v n (bcs ys)) :
    ∃ a cap, v = .slice a n cap ∧ ys.length = n ∧ n ≤ cap ∧ cap ≤ maxLen ∧ Rd w a ys ∧ (0 < n → ∃ g, a = some ⟨g, 0, none⟩ ∧ B ≤ g ∧ g < w.heap.size) := by
  have hl : ys.length = n := by have := h.1; rw [bcs_length] at this; omega
  rcases h.2 with ⟨rfl, rfl⟩ | ⟨g, cap, cur, rfl, hb, hg, hnc, hcm, hcs, htake⟩
  · have h0 : ys = [] := List.eq_nil_of_length_eq_zero hl
    subst h0
    exact ⟨none, 0, rfl, rfl, Nat.le_refl _, by simp [maxLen], Rd.nil _ _, fun h => by omega⟩
  · refine ⟨some ⟨g, 0, none⟩, cap, rfl, hl, hnc, hcm, fun _ => ⟨g, 0, rfl, fun j hj => ?_⟩, fun _ => ⟨g, rfl, hb, (Array.getElem?_eq_some_iff.1 hg).1⟩⟩
    have := h.cells (g := g) rfl j _ (bcs_getElem? ys j hj)
    rw [Addr.add_lit] at this
    exact this

/-- copy of bytes in memory of their own -/
theorem copyBytes_at (cap n : Nat) (a : Option Addr) (xs : List UInt8) (w : World) (hl : xs.length = n) (hn : n ≤ 140737488355328) (hr : Rd w a xs) (hnil : a = none → cap = 0) :
    Calls Tryz.prog 33 #[.slice a n cap] w fun e w' => ∃ v, e = .returned v ∧ w'.ownsRow w.heap.size 5 1 v n (bcs xs) ∧ Below w.heap.size w w' := by
  obtain ⟨i0, hi, hz0, hz1, hz2⟩ := info_parts info5
  cases a with
  | none =>
    obtain rfl := hnil rfl
    have h0 : xs.length = 0 := by
      apply Decidable.byContradiction
      intro h
      obtain ⟨_, _, h', _⟩ := hr (by omega)
      simp at h'
    obtain rfl : xs = [] := List.eq_nil_of_length_eq_zero h0
    obtain rfl : n = 0 := hl.symm
    go_enter Tryz.func33, Tryz.ntmps33
    go_wp2_with (at_builtin; refine wpList_append_own_none rfl _ _ 22 rfl w.heap.size 5 i0 1 Tryz.underlying22 hi (.slice none 0 0) 0 [] rfl (World.ownsRow_nil _ _ _ _) rfl ?_)
    go_ret
    exact ⟨_, rfl, World.ownsRow_nil _ _ _ _, Below.refl _ _⟩
  | some ad =>
    have hm : n ≤ maxLen := by unfold maxLen; omega
    go_enter Tryz.func33, Tryz.ntmps33
    go_wp2_with (at_builtin; refine wpList_append_own _ rfl _ _ 22 rfl w.heap.size 5 i0 (.int .u8 0) 1 1 Tryz.underlying22 hi hz0 hz1 hz2 rfl (by decide) (.slice none 0 0) 0 [] rfl (World.ownsRow_nil _ _ _ _) ad n cap (bcs xs) rfl ?c0 ?c1 (bcs_oneCell xs) ?c2 ?c3 (Nat.le_refl _) ?_)
    case c0 => rw [bcs_length]; omega
    case c1 =>
      intro j u hj
      have hj' : j < xs.length := by have := (List.getElem?_eq_some_iff.1 hj).1; simpa [bcs_length] using this
      rw [bcs_getElem? xs j hj'] at hj
      obtain ⟨b, o, he, hc⟩ := hr (by omega)
      obtain rfl := Option.some.inj he
      rw [Addr.add_lit, hc j hj']
      exact hj
    case c2 => omega
    case c3 => omega
    · intro v' w1 hown hgrow _
      have hown1 : w1.ownsRow w.heap.size 5 1 v' n (bcs xs) := by simpa using hown
      have hb : Below w.heap.size w w1 := (Below.refl _ _).grown hgrow (Nat.le_refl _) (fun k hk => by simp [Value.ownBlock] at hk)
      clear hgrow hown
      go_wp2
      go_ret
      exact ⟨_, rfl, hown1, hb⟩

theorem append_bcs (xs : List UInt8) (c : UInt8) : bcs xs ++ [.int .u8 (c.toNat : Int)] = bcs (xs ++ [c]) := by simp [bcs, bc]

/-- bytes from anywhere (none, too) behind a row of one's own -/
theorem wpList_append_bytes {w : World} {ops : Array Oper} {rest : List Oper} {o : Oper} {a : Act} {Q : Exit → Act → World → Prop} (hgd : o.guard = none) (s x : Operand)
    (ho : o.op = .call { callee := .builtin .append, args := #[s, x], argTypes := #[22, 22] })
    (base : Nat) (v : Value) (n : Nat) (xs : List Value) (hs : a.eval s = v) (hown : w.ownsRow base 5 1 v n xs)
    (ao : Option Addr) (m c : Nat) (ys : List UInt8) (hx : a.eval x = .slice ao m c) (hl : ys.length = m) (hr : Rd w ao ys) (hnil : ao = none → c = 0) (hb : n + m ≤ 140737488355328) (hbase : base ≤ w.heap.size)
    (h : ∀ v' w', w'.ownsRow base 5 1 v' (n + m) (xs ++ bcs ys) → w.grownBy w' v.ownBlock → wpList Tryz.prog ops Q rest (a.put o.dst v') w') : wpList Tryz.prog ops Q (o :: rest) a w := by
  obtain ⟨i0, hi, hz0, hz1, hz2⟩ := info_parts info5
  cases ao with
  | none =>
    obtain rfl := hnil rfl
    have h0 : ys.length = 0 := by
      apply Decidable.byContradiction
      intro h'
      obtain ⟨_, _, h', _⟩ := hr (by omega)
      simp at h'
    obtain rfl : ys = [] := List.eq_nil_of_length_eq_zero h0
    obtain rfl : m = 0 := hl.symm
    exact wpList_append_own_none hgd s x 22 ho base 5 i0 1 Tryz.underlying22 hi v n xs hs hown hx (h v w (by simpa [bcs] using hown) (World.grownBy.refl _ _))
  | some ad =>
    refine wpList_append_own w hgd s x 22 ho base 5 i0 (.int .u8 0) 1 1 Tryz.underlying22 hi hz0 hz1 hz2 rfl (by decide) v n xs hs hown ad m c (bcs ys) hx (by rw [bcs_length]; omega) ?_ (bcs_oneCell ys) (by unfold maxLen; omega) (by omega) hbase (fun v' w' h1 h2 _ => h v' w' h1 h2)
    intro j u hj
    have hj' : j < ys.length := by have := (List.getElem?_eq_some_iff.1 hj).1; simpa [bcs_length] using this
    rw [bcs_getElem? ys j hj'] at hj
    obtain ⟨b, o', he, hc⟩ := hr (by omega)
    obtain rfl := Option.some.inj he
    rw [Addr.add_lit, hc j hj']
    exact hj

theorem Rd.head {w : World} {a : Option Addr} {xs ys : List UInt8} (h : Rd w a (xs ++ ys)) : Rd w a xs := fun hp => by
  obtain ⟨b, o, ha, hc⟩ := h (by simp; omega)
  refine ⟨b, o, ha, fun j hj => ?_⟩
  rw [hc j (by simp; omega), List.getElem_append_left hj]

end Go.Proofs.YtdkaacjeogifdaaGreat.Dk


/-
  A disk in plain lists: what its calls do. No program is named here.
-/
namespace Go.Proofs.YtdkaacjeogifdaaGreat.Dk

/-- xs upon l, from off on -/
def putAt {α : Type} (l : List α) (off : Nat) (xs : List α) : List α := l.take off ++ (xs ++ l.drop (off + xs.length))
theorem putAt_length {α : Type} (l : List α) (off : Nat) (xs : List α) (h : off + xs.length ≤ l.length) : (putAt l off xs).length = l.length := by
  simp [putAt]; omega
theorem putAt_get {α : Type} (l : List α) (off : Nat) (xs : List α) (h : off + xs.length ≤ l.length) (i : Nat) : (putAt l off xs)[i]? = if off ≤ i ∧ i < off + xs.length then xs[i - off]? else l[i]? := by
  unfold putAt
  have hlo : (l.take off).length = off := by simp; omega
  by_cases h1 : i < off
  · rw [List.getElem?_append_left (by omega), if_neg (by omega), List.getElem?_take, if_pos h1]
  · rw [List.getElem?_append_right (by omega), hlo]
    by_cases h2 : i < off + xs.length
    · rw [if_pos ⟨by omega, h2⟩, List.getElem?_append_left (by omega)]
    · rw [if_neg (by omega), List.getElem?_append_right (by omega), List.getElem?_drop]
      congr 1
      omega

def bit (m s : Nat) : Bool := m / 2 ^ s % 2 == 1
/-- sector s of a block's bytes -/
def sec (data : List UInt8) (s : Nat) : List UInt8 := (data.drop (s * 512)).take 512
theorem sec_length (data : List UInt8) (s : Nat) (hd : data.length = 4096) (hs : s < 8) : (sec data s).length = 512 := by simp [sec]; omega
/-- the first k sectors of data upon block b, those of which the bit is set -/
def carryN (d : List UInt8) (b : Nat) (data : List UInt8) (m : Nat) : Nat → List UInt8
  | 0 => d
  | k + 1 => if bit m k then putAt (carryN d b data m k) (b * 4096 + k * 512) (sec data k) else carryN d b data m k
def carry (d : List UInt8) (b : Nat) (data : List UInt8) (m : Nat) : List UInt8 := carryN d b data m 8

theorem carryN_length (d : List UInt8) (b : Nat) (data : List UInt8) (m : Nat) (hb : b * 4096 + 4096 ≤ d.length) (hd : data.length = 4096) : ∀ k, k ≤ 8 → (carryN d b data m k).length = d.length
  | 0, _ => rfl
  | k + 1, hk => by
    have ih := carryN_length d b data m hb hd k (by omega)
    unfold carryN
    split
    · rw [putAt_length _ _ _ (by rw [ih, sec_length data k hd (by omega)]; omega), ih]
    · exact ih
theorem carry_length (d : List UInt8) (b : Nat) (data : List UInt8) (m : Nat) (hb : b * 4096 + 4096 ≤ d.length) (hd : data.length = 4096) : (carry d b data m).length = d.length := carryN_length d b data m hb hd 8 (by omega)

theorem carryN_get (d : List UInt8) (b : Nat) (data : List UInt8) (m : Nat) (hb : b * 4096 + 4096 ≤ d.length) (hd : data.length = 4096) (i : Nat) : ∀ k, k ≤ 8 →
    (carryN d b data m k)[i]? = if b * 4096 ≤ i ∧ i < b * 4096 + k * 512 ∧ bit m ((i - b * 4096) / 512) = true then data[i - b * 4096]? else d[i]?
  | 0, _ => by
    unfold carryN
    rw [if_neg (by omega)]
  | k + 1, hk => by
    have ih := carryN_get d b data m hb hd i k (by omega)
    have hl := carryN_length d b data m hb hd k (by omega)
    have hs := sec_length data k hd (by omega)
    unfold carryN
    by_cases hin : b * 4096 + k * 512 ≤ i ∧ i < b * 4096 + k * 512 + 512
    · have c1 : b * 4096 ≤ i := Nat.le_trans (Nat.le_add_right (b * 4096) (k * 512)) hin.1
      have hq : (i - b * 4096) / 512 = k := by omega
      have c2 : i < b * 4096 + (k + 1) * 512 := by omega
      have c4 : b * 4096 + k * 512 + 512 ≤ d.length := by clear hq c2 ih hl hs hd hin c1; omega
      have c5 : i - (b * 4096 + k * 512) < 512 := by omega
      have c6 : k * 512 + (i - (b * 4096 + k * 512)) = i - b * 4096 := by omega
      have c7 : ¬ i < b * 4096 + k * 512 := by omega
      split
      · rename_i hbit
        have c3 : bit m ((i - b * 4096) / 512) = true := by rw [hq]; exact hbit
        have hcond : b * 4096 ≤ i ∧ i < b * 4096 + (k + 1) * 512 ∧ bit m ((i - b * 4096) / 512) = true := ⟨c1, c2, c3⟩
        rw [putAt_get _ _ _ (by rw [hl, hs]; exact c4), hs, if_pos hin, if_pos hcond]
        unfold sec
        rw [List.getElem?_take, if_pos c5, List.getElem?_drop, c6]
      · rename_i hbit
        rw [ih, if_neg (fun h => c7 h.2.1), if_neg (by rw [hq]; rintro ⟨_, _, h⟩; exact hbit h)]
    · have e : (if b * 4096 ≤ i ∧ i < b * 4096 + k * 512 ∧ bit m ((i - b * 4096) / 512) = true then data[i - b * 4096]? else d[i]?) = (if b * 4096 ≤ i ∧ i < b * 4096 + (k + 1) * 512 ∧ bit m ((i - b * 4096) / 512) = true then data[i - b * 4096]? else d[i]?) := by
        by_cases h1 : b * 4096 ≤ i ∧ i < b * 4096 + k * 512
        · by_cases hbt : bit m ((i - b * 4096) / 512) = true
          · rw [if_pos ⟨h1.1, h1.2, hbt⟩, if_pos ⟨h1.1, by omega, hbt⟩]
          · rw [if_neg (fun h => hbt h.2.2), if_neg (fun h => hbt h.2.2)]
        · rw [if_neg (fun h => h1 ⟨h.1, h.2.1⟩), if_neg (fun h => by have h2 := h.1; have h3 := h.2.1; omega)]
      split
      · rw [putAt_get _ _ _ (by rw [hl, hs]; omega), hs, if_neg (by omega), ih, e]
      · rw [ih, e]
theorem carry_get (d : List UInt8) (b : Nat) (data : List UInt8) (m : Nat) (hb : b * 4096 + 4096 ≤ d.length) (hd : data.length = 4096) (i : Nat) :
    (carry d b data m)[i]? = if b * 4096 ≤ i ∧ i < b * 4096 + 4096 ∧ bit m ((i - b * 4096) / 512) = true then data[i - b * 4096]? else d[i]? := carryN_get d b data m hb hd i 8 (by omega)

/-- block n of an image -/
def blk (d : List UInt8) (n : Nat) : List UInt8 := (d.drop (n * 4096)).take 4096
theorem blk_get (d : List UInt8) (n i : Nat) : (blk d n)[i]? = if i < 4096 then d[n * 4096 + i]? else none := by
  unfold blk
  rw [List.getElem?_take]
  split
  · rw [List.getElem?_drop]
  · rfl
theorem blk_length (d : List UInt8) (n : Nat) (h : n * 4096 + 4096 ≤ d.length) : (blk d n).length = 4096 := by simp [blk]; omega

theorem bit_all (s : Nat) (h : s < 8) : bit 255 s = true := by
  match s, h with
  | 0, _ => rfl
  | 1, _ => rfl
  | 2, _ => rfl
  | 3, _ => rfl
  | 4, _ => rfl
  | 5, _ => rfl
  | 6, _ => rfl
  | 7, _ => rfl

structure Fuse where
  set : Bool
  left : Nat
deriving DecidableEq, Inhabited
def Fuse.then (f : Fuse) : Fuse := if f.set then (if 0 < f.left then ⟨true, f.left - 1⟩ else ⟨false, 0⟩) else f
def Fuse.stops (f : Fuse) : Bool := f.set && decide (f.left = 0)

structure DS where
  nb : Nat
  dur : List UInt8
  uf : List (Nat × List UInt8)
  n : Nat
  gone : Bool
  arm : Fuse
  fail : Fuse

/-- an operation goes by: the disk then -/
def DS.oper (D : DS) : DS := if D.gone then D else { D with gone := D.arm.stops, arm := D.arm.then, fail := D.fail.then }
/-- why it may not be done -/
def DS.operE (D : DS) : Nat := if D.gone then 6 else if D.arm.stops then 6 else if D.fail.stops then 4 else 0

/-- the first k unflushed writes, carried out -/
def carryTo (uf : List (Nat × List UInt8)) (d : List UInt8) : Nat → List UInt8
  | 0 => d
  | k + 1 => match uf[k]? with
    | some w => carry (carryTo uf d k) w.1 w.2 255
    | none => carryTo uf d k
def keeps (keep : List Bool) (k : Nat) : Bool := keep[k]?.getD false
def crashTo (keep : List Bool) (torn : Int) (m : Nat) (uf : List (Nat × List UInt8)) (d : List UInt8) : Nat → List UInt8
  | 0 => d
  | k + 1 => match uf[k]? with
    | some w => if (k : Int) = torn then carry (crashTo keep torn m uf d k) w.1 w.2 m else if keeps keep k then carry (crashTo keep torn m uf d k) w.1 w.2 255 else crashTo keep torn m uf d k
    | none => crashTo keep torn m uf d k
/-- of the first k writes the last one of block n -/
def lastOf (uf : List (Nat × List UInt8)) (n : Nat) : Nat → Option (List UInt8)
  | 0 => none
  | k + 1 => match uf[k]? with
    | some w => if w.1 = n then some w.2 else lastOf uf n k
    | none => lastOf uf n k
def DS.stand (D : DS) (n : Nat) : List UInt8 := (lastOf D.uf n D.uf.length).getD (blk D.dur n)
def DS.image (D : DS) : List UInt8 := carryTo D.uf D.dur D.uf.length
def DS.crash (D : DS) (keep : List Bool) (torn : Int) (m : Nat) : DS := { D with dur := crashTo keep torn m D.uf D.dur D.uf.length, uf := [], gone := false, arm := ⟨false, 0⟩, fail := ⟨false, 0⟩ }
def DS.flush (D : DS) : DS := if D.operE = 0 then { D.oper with dur := D.image, uf := [] } else D.oper
def DS.has (D : DS) (n : Int) : Bool := decide (0 ≤ n) && decide (n < D.nb)
def DS.write (D : DS) (n : Int) (b : List UInt8) : DS := if D.has n && decide (b.length = 4096) then (if D.operE = 0 then { D.oper with uf := D.uf ++ [(n.toNat, b)], n := D.n + 1 } else D.oper) else D
def DS.writeE (D : DS) (n : Int) (b : List UInt8) : Nat := if D.has n then (if b.length = 4096 then D.operE else 2) else 70
def DS.readE (D : DS) (n : Int) : Nat := if D.has n then (if D.gone then 6 else 0) else 70
def DS.new (nb : Nat) (d : List UInt8) : DS := ⟨nb, d, [], 0, false, ⟨false, 0⟩, ⟨false, 0⟩⟩
def DS.copy (D : DS) : DS := { D with n := 0 }

/-- what holds of every disk -/
structure DS.Ok (D : DS) : Prop where
  len : D.dur.length = D.nb * 4096
  lo : 1 ≤ D.nb
  hi : D.nb ≤ 512
  each : ∀ p ∈ D.uf, p.1 < D.nb ∧ p.2.length = 4096
  arm : D.arm.left < 9223372036854775808
  fail : D.fail.left < 9223372036854775808

theorem DS.Ok.at {D : DS} (h : D.Ok) (k : Nat) (hk : k < D.uf.length) : D.uf[k].1 < D.nb ∧ D.uf[k].2.length = 4096 := h.each _ (List.getElem_mem hk)
theorem DS.Ok.room {D : DS} (h : D.Ok) {n : Nat} (hn : n < D.nb) : n * 4096 + 4096 ≤ D.dur.length := by rw [h.len]; omega

theorem carryTo_length (D : DS) (h : D.Ok) (d : List UInt8) (hd : d.length = D.dur.length) : ∀ k, (carryTo D.uf d k).length = d.length
  | 0 => rfl
  | k + 1 => by
    have ih := carryTo_length D h d hd k
    unfold carryTo
    cases e : D.uf[k]? with
    | none => exact ih
    | some w =>
      obtain ⟨hk, rfl⟩ := List.getElem?_eq_some_iff.1 e
      obtain ⟨h1, h2⟩ := h.at k hk
      show (carry _ _ _ _).length = _
      rw [carry_length _ _ _ _ (by rw [ih, hd]; exact h.room h1) h2, ih]
theorem crashTo_length (D : DS) (h : D.Ok) (keep : List Bool) (torn : Int) (m : Nat) : ∀ k, (crashTo keep torn m D.uf D.dur k).length = D.dur.length
  | 0 => rfl
  | k + 1 => by
    have ih := crashTo_length D h keep torn m k
    unfold crashTo
    cases e : D.uf[k]? with
    | none => exact ih
    | some w =>
      obtain ⟨hk, rfl⟩ := List.getElem?_eq_some_iff.1 e
      obtain ⟨h1, h2⟩ := h.at k hk
      show (if _ then carry _ _ _ _ else if _ then carry _ _ _ _ else _).length = _
      split
      · rw [carry_length _ _ _ _ (by rw [ih]; exact h.room h1) h2, ih]
      · split
        · rw [carry_length _ _ _ _ (by rw [ih]; exact h.room h1) h2, ih]
        · exact ih
theorem carryTo_succ (uf : List (Nat × List UInt8)) (d : List UInt8) (k : Nat) (hk : k < uf.length) : carryTo uf d (k + 1) = carry (carryTo uf d k) uf[k].1 uf[k].2 255 := by
  rw [carryTo, List.getElem?_eq_getElem hk]
theorem crashTo_succ (keep : List Bool) (torn : Int) (m : Nat) (uf : List (Nat × List UInt8)) (d : List UInt8) (k : Nat) (hk : k < uf.length) : crashTo keep torn m uf d (k + 1) = if (k : Int) = torn then carry (crashTo keep torn m uf d k) uf[k].1 uf[k].2 m else if keeps keep k then carry (crashTo keep torn m uf d k) uf[k].1 uf[k].2 255 else crashTo keep torn m uf d k := by
  rw [crashTo, List.getElem?_eq_getElem hk]
theorem lastOf_succ (uf : List (Nat × List UInt8)) (n k : Nat) (hk : k < uf.length) : lastOf uf n (k + 1) = if uf[k].1 = n then some uf[k].2 else lastOf uf n k := by
  rw [lastOf, List.getElem?_eq_getElem hk]

theorem Fuse.then_lt (f : Fuse) (h : f.left < 9223372036854775808) : f.then.left < 9223372036854775808 := by
  unfold Fuse.then
  split
  · split
    · show f.left - 1 < _; omega
    · show 0 < _; omega
  · exact h
theorem DS.Ok.oper {D : DS} (h : D.Ok) : D.oper.Ok := by
  unfold DS.oper
  split
  · exact h
  · exact ⟨h.len, h.lo, h.hi, h.each, Fuse.then_lt _ h.arm, Fuse.then_lt _ h.fail⟩
theorem DS.oper_nb (D : DS) : D.oper.nb = D.nb := by unfold DS.oper; split <;> rfl
theorem DS.oper_dur (D : DS) : D.oper.dur = D.dur := by unfold DS.oper; split <;> rfl
theorem DS.oper_uf (D : DS) : D.oper.uf = D.uf := by unfold DS.oper; split <;> rfl
theorem DS.oper_n (D : DS) : D.oper.n = D.n := by unfold DS.oper; split <;> rfl
theorem DS.Ok.flush {D : DS} (h : D.Ok) : D.flush.Ok := by
  unfold DS.flush
  split
  · have ho := h.oper
    refine ⟨?_, ho.lo, ho.hi, by simp, ho.arm, ho.fail⟩
    show (carryTo _ _ _).length = _
    rw [carryTo_length D h D.dur rfl, h.len, DS.oper_nb]
  · exact h.oper
theorem DS.Ok.crash {D : DS} (h : D.Ok) (keep : List Bool) (torn : Int) (m : Nat) : (D.crash keep torn m).Ok :=
  ⟨by show (crashTo _ _ _ _ _ _).length = _; rw [crashTo_length D h, h.len]; rfl, h.lo, h.hi, by simp [DS.crash], by simp [DS.crash], by simp [DS.crash]⟩
theorem DS.Ok.write {D : DS} (h : D.Ok) (n : Int) (b : List UInt8) : (D.write n b).Ok := by
  unfold DS.write
  split
  · rename_i hc
    simp only [DS.has, Bool.and_eq_true, decide_eq_true_eq] at hc
    split
    · have ho := h.oper
      refine ⟨ho.len, ho.lo, ho.hi, ?_, ho.arm, ho.fail⟩
      intro p hp
      show p.1 < D.oper.nb ∧ _
      rw [DS.oper_nb]
      rcases List.mem_append.1 hp with hp | hp
      · exact h.each p hp
      · simp at hp
        subst hp
        exact ⟨by omega, hc.2⟩
    · exact h.oper
  · exact h
theorem DS.Ok.new {nb : Nat} {d : List UInt8} (h : d.length = nb * 4096) (h1 : 1 ≤ nb) (h2 : nb ≤ 512) : (DS.new nb d).Ok := ⟨h, h1, h2, by simp [DS.new], by simp [DS.new], by simp [DS.new]⟩
theorem DS.Ok.copy {D : DS} (h : D.Ok) : D.copy.Ok := ⟨h.len, h.lo, h.hi, h.each, h.arm, h.fail⟩
end Go.Proofs.YtdkaacjeogifdaaGreat.Dk

/-
  A disk in memory: which blocks are its own, what they hold, and what of the world a call on it may turn.
-/
namespace Go.Proofs.YtdkaacjeogifdaaGreat.Dk
open Go.RowKit

/-! ### one block -/
/-- a block that was made for one value -/
def Box (w : World) (g : Nat) (cs : Array Value) (t : TypeId) : Prop := w.heap[g]? = some (.cells cs t (0, 0))
theorem Box.cell {w : World} {g : Nat} {cs : Array Value} {t : TypeId} (h : Box w g cs t) (j : Nat) : w.cell? ⟨g, j, none⟩ = cs[j]? := cell_of_row w g j cs t (0, 0) h
theorem Box.frozen {w : World} {g : Nat} {cs : Array Value} {t : TypeId} (h : Box w g cs t) (j : Nat) : w.frozen? ⟨g, j, none⟩ = false := frozen_of_row w g j cs t h
theorem Box.lt {w : World} {g : Nat} {cs : Array Value} {t : TypeId} (h : Box w g cs t) : g < w.heap.size := (Array.getElem?_eq_some_iff.1 h).1
theorem Box.below {w w' : World} {g : Nat} {cs : Array Value} {t : TypeId} (h : Box w g cs t) (hb : Below w.heap.size w w') : Box w' g cs t := (hb.block g h.lt).trans h
theorem Box.new (w : World) (cs : Array Value) (t : TypeId) : Box (w.alloc (.cells cs t)) w.heap.size cs t := heap_alloc_new w _
theorem Box.alloc {w : World} {g : Nat} {cs : Array Value} {t : TypeId} (h : Box w g cs t) (o : Obj) : Box (w.alloc o) g cs t := (Below.heap_alloc w o g h.lt).trans h
theorem Box.store {w : World} {g : Nat} {cs : Array Value} {t : TypeId} (h : Box w g cs t) (j : Nat) (v : Value) : Box (w.setCell ⟨g, j, none⟩ v) g (cs.setIfInBounds j v) t := heap_setCell_same w g j cs t v h
theorem Box.ne {w : World} {g g' : Nat} {cs cs' : Array Value} {t t' : TypeId} (h : Box w g cs t) (h' : Box w g' cs' t') (ht : t ≠ t') : g ≠ g' := by
  intro e
  subst e
  unfold Box at h h'
  rw [h] at h'
  simp at h'
  exact ht h'.2

/-- Bytes, with room behind them of which nothing is said. -/
def RowB (w : World) (g cap : Nat) (ys : List UInt8) : Prop := ∃ cur : Array Value, Box w g cur 5 ∧ ys.length ≤ cap ∧ cap ≤ maxLen ∧ cur.size = cap ∧ cur.toList.take ys.length = bcs ys
theorem RowB.lt {w : World} {g cap : Nat} {ys : List UInt8} (h : RowB w g cap ys) : g < w.heap.size := by obtain ⟨cur, h, _⟩ := h; exact h.lt
theorem RowB.rd {w : World} {g cap : Nat} {ys : List UInt8} (h : RowB w g cap ys) : Rd w (some ⟨g, 0, none⟩) ys := by
  obtain ⟨cur, h, _, _, _, ht⟩ := h
  intro _
  refine ⟨g, 0, rfl, fun j hj => ?_⟩
  rw [Nat.zero_add, h.cell j]
  have h1 := bcs_getElem? ys j hj
  rw [← ht, List.getElem?_take] at h1
  rw [if_pos hj] at h1
  simpa using h1
theorem RowB.same {w w' : World} {g cap : Nat} {ys : List UInt8} (h : RowB w g cap ys) (hb : w'.heap[g]? = w.heap[g]?) : RowB w' g cap ys := by
  obtain ⟨cur, h, r⟩ := h
  exact ⟨cur, hb.trans h, r⟩
theorem RowB.own {w : World} {g : Nat} {ys : List UInt8} (h : Own w g ys) (hm : ys.length ≤ maxLen) : RowB w g ys.length ys :=
  ⟨(bcs ys).toArray, h, Nat.le_refl _, hm, by simp [bcs_length], by rw [List.take_of_length_le (by simp [bcs_length])]⟩
theorem RowB.owns {w : World} {B n : Nat} {v : Value} {ys : List UInt8} (h : w.ownsRow B 5 1 v n (bcs ys)) (h0 : 0 < n) : ∃ g cap, v = .slice (some ⟨g, 0, none⟩) n cap ∧ B ≤ g ∧ RowB w g cap ys := by
  have hl : ys.length = n := by have := h.1; rw [bcs_length] at this; omega
  rcases h.2 with ⟨rfl, rfl⟩ | ⟨g, cap, cur, rfl, hb, hg, hnc, hcm, hcs, ht⟩
  · omega
  · exact ⟨g, cap, rfl, hb, cur, hg, by omega, hcm, by omega, by rw [hl]; simpa using ht⟩

/-- copy of bytes onto a part of such a row -/
theorem copy_row (g cap off dLen dCap : Nat) (a : Option Addr) (sCap : Nat) (xs ys : List UInt8) (u : World) (hg : RowB u g cap ys) (hr : Rd u a xs) (hl : xs.length ≤ dLen) (hfit : off + xs.length ≤ ys.length) (h0 : 0 < xs.length) :
    ∃ W, (∀ ty, (Builtin.copy_ #[22, 22] ty #[.slice (some ⟨g, off, none⟩) dLen dCap, .slice a xs.length sCap]).run Tryz.prog u = .ok (goInt xs.length) W) ∧ RowB W g cap (putAt ys off xs) ∧ u.grownBy W (some g) := by
  obtain ⟨b, o, rfl, hc⟩ := hr h0
  obtain ⟨cur, hb, hlc, hm, hs, ht⟩ := hg
  refine ⟨u.setRow g (cur.toList.take off ++ bcs xs ++ cur.toList.drop (off + (bcs xs).length)).toArray, fun ty => ?_, ?_, grown_setRow _ _ _⟩
  · have h := run_copy_row (P := Tryz.prog) u 22 22 ty 5 g off dLen dCap ⟨b, o, none⟩ xs.length sCap cur 5 (bcs xs) Tryz.underlying22 size5 hb (by rw [bcs_length]; exact (Nat.min_eq_left hl).symm) (fun j v hj => by
        have hj' : j < xs.length := by have := (List.getElem?_eq_some_iff.1 hj).1; simpa [bcs_length] using this
        rw [bcs_getElem? xs j hj'] at hj
        rw [Addr.add_lit, hc j hj']
        exact hj) (by rw [bcs_length]; omega) (bcs_oneCell xs)
    rw [h, bcs_length]
  · have hpl := putAt_length ys off xs hfit
    refine ⟨_, setRow_heap u g _ _ 5 _ hb, by omega, hm, ?_, ?_⟩
    · simp [bcs_length]; omega
    · rw [hpl]
      have e1 : cur.toList.take off = bcs (ys.take off) := by
        have := congrArg (List.take off) ht
        rw [List.take_take, Nat.min_eq_left (by omega)] at this
        rw [this]; simp [bcs]
      have e2 : (cur.toList.drop (off + xs.length)).take (ys.length - (off + xs.length)) = bcs (ys.drop (off + xs.length)) := by
        have := congrArg (List.drop (off + xs.length)) ht
        rw [List.drop_take] at this
        rw [this]; simp [bcs]
      have hlt : (cur.toList.take off).length = off := by simp; omega
      have e3 : bcs (putAt ys off xs) = bcs (ys.take off) ++ (bcs xs ++ bcs (ys.drop (off + xs.length))) := by simp [putAt, bcs]
      show (cur.toList.take off ++ bcs xs ++ cur.toList.drop (off + (bcs xs).length)).take ys.length = _
      have e4 : (bcs xs).take (ys.length - off) = bcs xs := List.take_of_length_le (by rw [bcs_length]; omega)
      rw [e3, ← e1, ← e2]
      generalize hA : cur.toList.take off = A at hlt
      have e5 : A.take ys.length = A := List.take_of_length_le (by omega)
      rw [List.append_assoc, List.take_append, List.take_append, e5, hlt, e4, bcs_length, Nat.sub_sub]

/-! ### what a call may turn -/
/-- Of what was there, only blocks of F have turned. -/
structure Upd (F : Nat → Prop) (w w' : World) : Prop where
  os : w'.os = w.os
  tape : w'.tape = w.tape
  output : w'.output = w.output
  size : w.heap.size ≤ w'.heap.size
  block : ∀ k, k < w.heap.size → ¬ F k → w'.heap[k]? = w.heap[k]?
theorem Upd.refl (F : Nat → Prop) (w : World) : Upd F w w := ⟨rfl, rfl, rfl, Nat.le_refl _, fun _ _ _ => rfl⟩
theorem Upd.trans {F F' : Nat → Prop} {a b c : World} (h : Upd F a b) (k : Upd F' b c) (hF : ∀ i, F' i → F i ∨ a.heap.size ≤ i) : Upd F a c :=
  ⟨k.os.trans h.os, k.tape.trans h.tape, k.output.trans h.output, Nat.le_trans h.size k.size, fun i hi hn => (k.block i (Nat.lt_of_lt_of_le hi h.size) (fun hf => by rcases hF i hf with h1 | h1; exact hn h1; omega)).trans (h.block i hi hn)⟩
theorem Upd.of_below {F : Nat → Prop} {w w' : World} (h : Below w.heap.size w w') : Upd F w w' := ⟨h.os, h.tape, h.output, h.size, fun k hk _ => h.block k hk⟩
theorem Upd.grown {F : Nat → Prop} {a w w' : World} {row : Option Nat} (h : Upd F a w) (hg : w.grownBy w' row) (hr : ∀ k, row = some k → F k ∨ a.heap.size ≤ k) : Upd F a w' :=
  ⟨hg.os.trans h.os, hg.tape.trans h.tape, hg.output.trans h.output, Nat.le_trans h.size hg.size, fun i hi hn => (hg.block i (Nat.lt_of_lt_of_le hi h.size) (fun e => by rcases hr i e.symm with h1 | h1; exact hn h1; omega)).trans (h.block i hi hn)⟩
theorem Upd.below {F : Nat → Prop} {w w' : World} {B : Nat} (h : Upd F w w') (hF : ∀ i, F i → B ≤ i) (hB : B ≤ w.heap.size) : Below B w w' :=
  ⟨h.os, h.tape, h.output, h.size, fun k hk => h.block k (by omega) (fun hf => by have := hF k hf; omega)⟩
theorem Upd.alloc {F : Nat → Prop} {a w : World} (h : Upd F a w) (o : Obj) : Upd F a (w.alloc o) := h.grown (World.grownBy_alloc w o none) (fun k e => by cases e)
theorem Upd.setCell {F : Nat → Prop} {a w : World} (h : Upd F a w) {g j : Nat} (hg : F g ∨ a.heap.size ≤ g) (u : Value) : Upd F a (w.setCell ⟨g, j, none⟩ u) := h.grown (grown_store w g j u) (fun k e => by cases e; exact hg)
theorem Upd.drew {F : Nat → Prop} {a w : World} (h : Upd F a w) : Upd F a w.drew := ⟨h.os, h.tape, h.output, h.size, h.block⟩
theorem Upd.thenB {F : Nat → Prop} {a w w' : World} (h : Upd F a w) (k : Below w.heap.size w w') : Upd F a w' := ⟨k.os.trans h.os, k.tape.trans h.tape, k.output.trans h.output, Nat.le_trans h.size k.size, fun i hi hn => (k.block i (Nat.lt_of_lt_of_le hi h.size)).trans (h.block i hi hn)⟩
theorem Rd.upd {F : Nat → Prop} {w w' : World} {g o : Nat} {xs : List UInt8} (h : Rd w (some ⟨g, o, none⟩) xs) (hu : Upd F w w') (hg : ¬ F g) : Rd w' (some ⟨g, o, none⟩) xs := fun hp => by
  obtain ⟨b, o', ha, hc⟩ := h hp
  simp only [Option.some.injEq, Addr.mk.injEq, and_true] at ha
  obtain ⟨rfl, rfl⟩ := ha
  refine ⟨g, o, rfl, fun j hj => ?_⟩
  have hlt : g < w.heap.size := block_lt_of_cell (hc j hj)
  rw [World.cell?_of_block (a := ⟨g, o + j, none⟩) (hu.block g hlt hg)]
  exact hc j hj

/-! ### the disk -/
def wcs (ps : List (Nat × Nat × Nat)) : List Value := ps.flatMap fun p => [.int .i64 (p.1 : Int), .slice (some ⟨p.2.1, 0, none⟩) 4096 p.2.2]
theorem wcs_length (ps : List (Nat × Nat × Nat)) : (wcs ps).length = ps.length * 2 := by
  induction ps with
  | nil => rfl
  | cons p l ih => simp [wcs] at ih ⊢; omega
theorem wcs_snoc (ps : List (Nat × Nat × Nat)) (p : Nat × Nat × Nat) : wcs (ps ++ [p]) = wcs ps ++ [.int .i64 (p.1 : Int), .slice (some ⟨p.2.1, 0, none⟩) 4096 p.2.2] := by simp [wcs]
theorem wcs_at (ps : List (Nat × Nat × Nat)) (j : Nat) (h : j < ps.length) : (wcs ps)[j * 2]? = some (.int .i64 (ps[j].1 : Int)) ∧ (wcs ps)[j * 2 + 1]? = some (.slice (some ⟨ps[j].2.1, 0, none⟩) 4096 ps[j].2.2) := by
  induction ps generalizing j with
  | nil => simp at h
  | cons p l ih =>
    cases j with
    | zero => simp [wcs]
    | succ j =>
      have hj : j < l.length := by simpa using h
      obtain ⟨h0, h1⟩ := ih j hj
      have e : wcs (p :: l) = [.int .i64 (p.1 : Int), .slice (some ⟨p.2.1, 0, none⟩) 4096 p.2.2] ++ wcs l := by simp [wcs]
      rw [e]
      constructor
      · rw [List.getElem?_append_right (by simp; omega)]
        have : (j + 1) * 2 - 2 = j * 2 := by omega
        simpa [this] using h0
      · rw [List.getElem?_append_right (by simp; omega)]
        have : (j + 1) * 2 + 1 - 2 = j * 2 + 1 := by omega
        simpa [this] using h1

/-- The cells of a disk. -/
def diskC (g : Nat) (vd vu : Value) (D : DS) : Array Value :=
  #[.pointer (some ⟨g, 0, none⟩), vd, vu, .int .i64 (D.n : Int), .bool D.gone, .bool D.arm.set, .int .i64 (D.arm.left : Int), .bool D.fail.set, .int .i64 (D.fail.left : Int)]

/-- Where a disk lies: its own blocks are in F. -/
structure Lies (w : World) (g : Nat) (D : DS) (F : Nat → Prop) (gd cd : Nat) (vu : Value) (ps : List (Nat × Nat × Nat)) : Prop where
  box : Box w g (diskC g (.slice (some ⟨gd, 0, none⟩) (D.nb * 4096) cd) vu D) 81
  dur : RowB w gd cd D.dur
  row : w.ownsRow 0 89 2 vu D.uf.length (wcs ps)
  len : ps.length = D.uf.length
  each : ∀ k (h : k < ps.length) (h' : k < D.uf.length), ps[k].1 = D.uf[k].1 ∧ RowB w ps[k].2.1 ps[k].2.2 D.uf[k].2 ∧ ps[k].2.1 ≠ gd ∧ F ps[k].2.1
  fg : F g
  fd : F gd
  fu : ∀ k, vu.ownBlock = some k → F k
  flt : ∀ i, F i → i < w.heap.size
  ok : D.Ok
def IsDisk (w : World) (g : Nat) (D : DS) (F : Nat → Prop) : Prop := ∃ gd cd vu ps, Lies w g D F gd cd vu ps

theorem Lies.kept {w w' : World} {g : Nat} {D : DS} {F : Nat → Prop} {gd cd : Nat} {vu : Value} {ps : List (Nat × Nat × Nat)} (h : Lies w g D F gd cd vu ps) (hk : ∀ i, F i → w'.heap[i]? = w.heap[i]?) (hs : w.heap.size ≤ w'.heap.size) : Lies w' g D F gd cd vu ps where
  box := (hk g h.fg).trans h.box
  dur := h.dur.same (hk gd h.fd)
  row := ⟨h.row.1, by
    rcases h.row.2 with h1 | ⟨g', cap, cur, rfl, hb, hg, r⟩
    · exact .inl h1
    · exact .inr ⟨g', cap, cur, rfl, hb, (hk g' (h.fu g' rfl)).trans hg, r⟩⟩
  len := h.len
  each := fun k h1 h2 => by
    obtain ⟨a, b, c, d⟩ := h.each k h1 h2
    exact ⟨a, b.same (hk _ d), c, d⟩
  fg := h.fg
  fd := h.fd
  fu := h.fu
  flt := fun i hi => Nat.lt_of_lt_of_le (h.flt i hi) hs
  ok := h.ok
theorem IsDisk.kept {w w' : World} {g : Nat} {D : DS} {F : Nat → Prop} (h : IsDisk w g D F) (hk : ∀ i, F i → w'.heap[i]? = w.heap[i]?) (hs : w.heap.size ≤ w'.heap.size) : IsDisk w' g D F := by
  obtain ⟨gd, cd, vu, ps, h⟩ := h
  exact ⟨gd, cd, vu, ps, h.kept hk hs⟩
theorem IsDisk.flt {w : World} {g : Nat} {D : DS} {F : Nat → Prop} (h : IsDisk w g D F) : ∀ i, F i → i < w.heap.size := by obtain ⟨gd, cd, vu, ps, h⟩ := h; exact h.flt
theorem IsDisk.ok {w : World} {g : Nat} {D : DS} {F : Nat → Prop} (h : IsDisk w g D F) : D.Ok := by obtain ⟨gd, cd, vu, ps, h⟩ := h; exact h.ok
theorem IsDisk.below {w w' : World} {g : Nat} {D : DS} {F : Nat → Prop} (h : IsDisk w g D F) (hb : Below w.heap.size w w') : IsDisk w' g D F := h.kept (fun i hi => hb.block i (h.flt i hi)) hb.size
theorem Lies.below {w w' : World} {g : Nat} {D : DS} {F : Nat → Prop} {gd cd : Nat} {vu : Value} {ps : List (Nat × Nat × Nat)} (h : Lies w g D F gd cd vu ps) (hb : Below w.heap.size w w') : Lies w' g D F gd cd vu ps := h.kept (fun i hi => hb.block i (h.flt i hi)) hb.size
theorem IsDisk.upd {w w' : World} {g : Nat} {D : DS} {F G : Nat → Prop} (h : IsDisk w g D F) (hb : Upd G w w') (hd : ∀ i, F i → ¬ G i) : IsDisk w' g D F := h.kept (fun i hi => hb.block i (h.flt i hi) (hd i hi)) hb.size
end Go.Proofs.YtdkaacjeogifdaaGreat.Dk

/-
  The small functions of disk.
-/
namespace Go.Proofs.YtdkaacjeogifdaaGreat.Dk
open Go.RowKit

theorem box_cells {w : World} {g : Nat} {vd vu : Value} {D : DS} (h : Box w g (diskC g vd vu D) 81) :
    w.cell? ⟨g, 0, none⟩ = some (.pointer (some ⟨g, 0, none⟩)) ∧ w.cell? ⟨g, 1, none⟩ = some vd ∧ w.cell? ⟨g, 2, none⟩ = some vu ∧ w.cell? ⟨g, 3, none⟩ = some (.int .i64 (D.n : Int)) ∧ w.cell? ⟨g, 4, none⟩ = some (.bool D.gone) ∧ w.cell? ⟨g, 5, none⟩ = some (.bool D.arm.set) ∧ w.cell? ⟨g, 6, none⟩ = some (.int .i64 (D.arm.left : Int)) ∧ w.cell? ⟨g, 7, none⟩ = some (.bool D.fail.set) ∧ w.cell? ⟨g, 8, none⟩ = some (.int .i64 (D.fail.left : Int)) :=
  ⟨h.cell 0, h.cell 1, h.cell 2, h.cell 3, h.cell 4, h.cell 5, h.cell 6, h.cell 7, h.cell 8⟩

theorem info69 : (Tryz.prog.info? 81).map (fun i => (i.zero.isSome, i.size)) = some (true, 9) := by kernel_rfl
theorem point22 : Tryz.prog.underlying 36 = some (.pointer 81) := by kernel_rfl
theorem eqlSelf (g : Nat) (w : World) : (binOp .eql 36 (.pointer (some ⟨g, 0, none⟩)) (.pointer (some ⟨g, 0, none⟩))).run Tryz.prog w = .ok (.bool true) w := by
  cases h : Tryz.prog.info? 81 with
  | none => have := info69; rw [h] at this; cases this
  | some i => exact run_eql_ptr_same w ⟨g, 0, none⟩ point22 h
theorem eqlNone (g : Nat) (w : World) : (binOp .eql 36 (.pointer none) (.pointer (some ⟨g, 0, none⟩))).run Tryz.prog w = .ok (.bool false) w := by
  have h : ∀ d : Nat, (Op.equalIn (d + 1) 36 (.pointer none) (.pointer (some ⟨g, 0, none⟩))).run Tryz.prog w = .ok false w := fun d => by
    simp [Op.equalIn, run_underlying point22]
  simp only [binOp]
  simp [Op.equal, Op.maxDepth, h 9999]

theorem isMade_cell (g : Nat) (w : World) (h : w.cell? ⟨g, 0, none⟩ = some (.pointer (some ⟨g, 0, none⟩))) :
    Calls Tryz.prog 45 #[.pointer (some ⟨g, 0, none⟩)] w fun e w' => e = .returned (.bool true) ∧ w = w' := by
  have he := eqlSelf g
  go_enter Tryz.func45, Tryz.ntmps45
  go_wp2
  go_ret
  exact ⟨rfl, rfl⟩
theorem isMade_at {g : Nat} {w : World} {D : DS} {F : Nat → Prop} {gd cd : Nat} {vu : Value} {ps : List (Nat × Nat × Nat)} (h : Lies w g D F gd cd vu ps) :
    Calls Tryz.prog 45 #[.pointer (some ⟨g, 0, none⟩)] w fun e w' => e = .returned (.bool true) ∧ w = w' := isMade_cell g w (box_cells h.box).1
theorem isMade_none (w : World) : Calls Tryz.prog 45 #[.pointer none] w fun e w' => e = .returned (.bool false) ∧ w = w' := by
  go_enter Tryz.func45, Tryz.ntmps45
  go_wp2
  go_ret
  exact ⟨rfl, rfl⟩
theorem isMade_zero (g : Nat) (w : World) (h : w.cell? ⟨g, 0, none⟩ = some (.pointer none)) :
    Calls Tryz.prog 45 #[.pointer (some ⟨g, 0, none⟩)] w fun e w' => e = .returned (.bool false) ∧ w = w' := by
  have he := eqlNone g
  go_enter Tryz.func45, Tryz.ntmps45
  go_wp2
  go_ret
  exact ⟨rfl, rfl⟩

theorem rightSize_at (n : Int) (w : World) : Calls Tryz.prog 34 #[.int .i64 n] w fun e w' => e = .returned (.bool (decide (1 ≤ n) && decide (n ≤ 512))) ∧ w = w' := by
  by_cases h : 1 ≤ n
  · go_enter Tryz.func34, Tryz.ntmps34
    go_wp2
    go_ret
    simp [h]
  · go_enter Tryz.func34, Tryz.ntmps34
    go_wp2
    go_ret
    simp
    omega

theorem size_at {g : Nat} {w : World} {D : DS} {F : Nat → Prop} {gd cd : Nat} {vu : Value} {ps : List (Nat × Nat × Nat)} (h : Lies w g D F gd cd vu ps) :
    Calls Tryz.prog 38 #[.pointer (some ⟨g, 0, none⟩)] w fun e w' => e = .returned (.int .i64 (D.nb : Int)) ∧ w = w' := by
  obtain ⟨_, h1, _⟩ := box_cells h.box
  have hi := h.ok.hi
  have c := isMade_at h
  go_enter Tryz.func38, Tryz.ntmps38
  go_wp2_with fail
  refine c.mono ?_
  rintro e w' ⟨rfl, rfl⟩
  have e2 : ((D.nb : Int) * 4096) / 4096 = D.nb := by omega
  go_wp2
  go_ret
  exact ⟨by simp, rfl⟩

theorem has_at {g : Nat} {w : World} {D : DS} {F : Nat → Prop} {gd cd : Nat} {vu : Value} {ps : List (Nat × Nat × Nat)} (h : Lies w g D F gd cd vu ps) (n : Int) :
    Calls Tryz.prog 80 #[.pointer (some ⟨g, 0, none⟩), .int .i64 n] w fun e w' => e = .returned (.bool (D.has n)) ∧ w = w' := by
  have c := size_at h
  unfold DS.has
  by_cases h0 : 0 ≤ n
  · go_enter Tryz.func80, Tryz.ntmps80
    go_wp2_with fail
    refine c.mono ?_
    rintro e w' ⟨rfl, rfl⟩
    go_wp2
    go_ret
    simp [h0]
  · go_enter Tryz.func80, Tryz.ntmps80
    go_wp2
    go_ret
    simp
    omega

/-- number n of the parts of so many bytes -/
theorem part_at (g o len cap n size : Nat) (w : World) (hf : n * size + size ≤ cap) (hc : cap ≤ 9223372036854775807) (hs : 0 < size) :
    Calls Tryz.prog 83 #[.slice (some ⟨g, o, none⟩) len cap, .int .i64 n, .int .i64 size] w fun e w' => e = .returned (.slice (some ⟨g, o + n * size, none⟩) size size) ∧ w = w' := by
  obtain ⟨M, hM⟩ : ∃ M, M = n * size := ⟨_, rfl⟩
  have e1 : (n : Int) * (size : Int) = (M : Int) := by rw [hM]; push_cast; rfl
  rw [← hM] at hf ⊢
  clear hM
  have h1 : (M : Int) + size ≤ cap := by omega
  have e2 : M + size - M = size := by omega
  go_enter Tryz.func83, Tryz.ntmps83
  go_wp2
  go_ret
  rw [e2]
  exact ⟨rfl, rfl⟩
end Go.Proofs.YtdkaacjeogifdaaGreat.Dk

/-
  replay's small calls: within, later; the law's of.
-/
namespace Go.Proofs.YtdkaacjeogifdaaGreat.H
open Go.RowKit
open Go.Proofs.YtdkaacjeogifdaaGreat.Su (wi Sup zeroS supV)
open Go.Proofs.YtdkaacjeogifdaaGreat.Dk (Box)

theorem within_at (v l h : Int) (w : World) : Calls Tryz.prog 30 #[.int .i64 v, .int .i64 l, .int .i64 h] w fun e w' => e = .returned (.bool (wi v l h)) ∧ w = w' := by
  unfold wi
  by_cases h1 : l ≤ v
  · go_enter Tryz.func30, Tryz.ntmps30
    go_wp2
    go_ret
    simp [h1]
  · go_enter Tryz.func30, Tryz.ntmps30
    go_wp2
    go_ret
    simp
    omega

/-- a counts though b is there -/
def later (a b : Sup) : Bool := decide (b.e < a.e) || (a.e == b.e) && decide (b.q < a.q)
theorem later_at (a b : Sup) (w : World) : Calls Tryz.prog 27 #[supV a, supV b] w fun e w' => e = .returned (.bool (later a b)) ∧ Below w.heap.size w w' := by
  obtain ⟨a1, a2, a3, a4⟩ := a
  obtain ⟨b1, b2, b3, b4⟩ := b
  unfold later supV
  dsimp only
  have B2 := ((Below.refl w.heap.size w).alloc (Nat.le_refl _) (.cells #[.int .i64 a1, .int .i64 a2, .int .i64 a3, .int .i64 a4] 28)).alloc (by simp) (.cells #[.int .i64 b1, .int .i64 b2, .int .i64 b3, .int .i64 b4] 28)
  have x := (Box.new w #[.int .i64 a1, .int .i64 a2, .int .i64 a3, .int .i64 a4] 28).alloc (.cells #[.int .i64 b1, .int .i64 b2, .int .i64 b3, .int .i64 b4] 28)
  have y := Box.new (w.alloc (.cells #[.int .i64 a1, .int .i64 a2, .int .i64 a3, .int .i64 a4] 28)) #[.int .i64 b1, .int .i64 b2, .int .i64 b3, .int .i64 b4] 28
  have z : (w.alloc (.cells #[.int .i64 a1, .int .i64 a2, .int .i64 a3, .int .i64 a4] 28)).heap.size = w.heap.size + 1 := by simp
  rw [z] at y
  have c1 := x.cell 1
  have c2 := x.cell 2
  have d1 := y.cell 1
  have d2 := y.cell 2
  simp only [List.getElem?_toArray, List.getElem?_cons_succ, List.getElem?_cons_zero] at c1 c2 d1 d2
  clear x y z
  by_cases h1 : b2 < a2
  · go_enter Tryz.func27, Tryz.ntmps27
    go_wp2
    go_ret
    exact ⟨by simp [h1], B2⟩
  · by_cases h2 : a2 = b2
    · subst h2
      go_enter Tryz.func27, Tryz.ntmps27
      go_wp2
      go_ret
      exact ⟨by simp, B2⟩
    · go_enter Tryz.func27, Tryz.ntmps27
      go_wp2
      go_ret
      exact ⟨by simp [h1, h2], B2⟩

theorem of_at (e q : Int) (w : World) : Calls Tryz.prog 25 #[.int .i64 e, .int .i64 q] w fun r w' => r = .returned (supV ⟨64, e, q, 0⟩) ∧ Below w.heap.size w w' := by
  unfold supV
  dsimp only
  have al := (Below.refl w.heap.size w).alloc (Nat.le_refl _) (.cells #[.int .i64 64, .int .i64 e, .int .i64 q, .int .i64 0] 28)
  go_enter Tryz.func25, Tryz.ntmps25
  go_wp2
  have x := Box.new w #[.int .i64 64, .int .i64 e, .int .i64 q, .int .i64 0] 28
  have m0 := x.cell 0
  have m1 := x.cell 1
  have m2 := x.cell 2
  have m3 := x.cell 3
  simp only [List.getElem?_toArray, List.getElem?_cons_zero, List.getElem?_cons_succ] at m0 m1 m2 m3
  refine bodyPost_ret (v := .agg #[.int .i64 64, .int .i64 e, .int .i64 q, .int .i64 0]) (by simp [results, Tryz.results25, go_sem, m0, m1, m2, m3]) rfl ?_
  exact ⟨rfl, al⟩

theorem owns_le {w : World} {B B' e z n : Nat} {v : Value} {xs : List Value} (h : w.ownsRow B e z v n xs) (hb : B' ≤ B) : w.ownsRow B' e z v n xs :=
  ⟨h.1, h.2.imp id fun ⟨g, cap, cur, a, b, r⟩ => ⟨g, cap, cur, a, Nat.le_trans hb b, r⟩⟩
/-- what the law's bytes are -/
theorem bytes_at (e q : Int) (w : World) : Calls Tryz.prog 22 #[.int .i64 e, .int .i64 q] w fun r w' => ∃ v, r = .returned v ∧ w'.ownsRow w.heap.size 5 1 v ((Su.putSuper 64 e q 0).getD []).length (Su.bcs ((Su.putSuper 64 e q 0).getD [])) ∧ Below w.heap.size w w' := by
  have cO := of_at e q w
  have HP : Hid (∀ u, Calls Tryz.prog 42 #[.agg #[.int .i64 64, .int .i64 e, .int .i64 q, .int .i64 0]] u fun r w' => Su.Puts u w' (Su.putSuper 64 e q 0) r) := fun u => Su.refPutSuper_at 64 e q 0 u
  generalize Su.putSuper 64 e q 0 = o at HP ⊢
  go_enter Tryz.func22, Tryz.ntmps22
  go_wp2_with fail
  refine Calls.mono cO ?_
  rintro r u1 ⟨rfl, b1⟩
  have cP := HP.out u1
  clear cO
  unfold supV
  dsimp only
  go_wp2_with fail
  refine Calls.mono cP ?_
  rintro r u2 ⟨v, rfl, hrow, b2⟩
  go_wp2_with fail
  go_ret
  exact ⟨v, rfl, owns_le hrow b1.size, b1.trans (b2.mono b1.size)⟩
end Go.Proofs.YtdkaacjeogifdaaGreat.H

/-
  A region that draws its order and holds loads beside calls that make memory: a load whose value is one in a whole class of frames and worlds may be taken first, if each step stays in the class.
-/
namespace Go.Proofs.YtdkaacjeogifdaaGreat.Rc

section
variable {P : Program} {ops : Array Oper} {Q : Exit → Act → World → Prop} {md : Region.Mode} {C : Act → World → Prop}

/-- Whatever order the draw gives: it ends in Q, and every step stays in the class. -/
def wpAnyC (P : Program) (md : Region.Mode) (ops : Array Oper) (Q : Exit → Act → World → Prop) (C : Act → World → Prop) : Nat → Array Bool → Act → World → Prop
  | 0, listed, a, w => Region.ready md ops listed = [] ∧ Q .normal a w
  | fuel + 1, listed, a, w => (Region.ready md ops listed = [] → Q .normal a w) ∧
    ∀ i ∈ Region.ready md ops listed, wpOp P ops Q i (fun a' w' => C a' w' ∧ wpAnyC P md ops Q C fuel (listed.setIfInBounds i true) a' w') a w

theorem wpAny_of_class : ∀ (fuel : Nat) (listed : Array Bool) (a : Act) (w : World), wpAnyC P md ops Q C fuel listed a w → wpAny P md ops Q fuel listed a w
  | 0, _, _, _, h => h
  | fuel + 1, _, _, _, h => ⟨h.1, fun i hi => wpOp_mono (fun a' w' h' => wpAny_of_class fuel _ a' w' h'.2) (h.2 i hi)⟩

/-- In all of the class the operation yields this one value, and leaves the world. -/
def Gives (P : Program) (ops : Array Oper) (C : Act → World → Prop) (o : Oper) (v : Value) : Prop :=
  ∀ a w, C a w → Region.wanted o (yielded ops a.tmps) = true ∧ (execOp a.eval o).run P w = .ok (.value v) w

theorem Gives.wpOp {i : Nat} {o : Oper} {v : Value} {a : Act} {w : World} (hi : ops[i]? = some o) (hg : Gives P ops C o v) (hc : C a w) {K : Act → World → Prop} (h : K (a.put o.dst v) w) : wpOp P ops Q i K a w := by
  obtain ⟨h1, h2⟩ := hg a w hc
  unfold Go.wpOp
  simp only [hi, h1, if_true, Oper.wp, h2, Oper.upon]
  exact .inl h

/-- the stand-in: the same slot, a constant -/
def standIn (o : Oper) (v : Value) : Oper := { o with op := .move (.const v), guard := none }
theorem standIn_yields (o : Oper) (v : Value) (a : Act) : Yields P ops (standIn o v) v a := by
  refine .inl ⟨rfl, fun w => ?_⟩
  rfl
theorem standIn_apart {o y : Oper} {v : Value} (h : o.apart ops y = true) : (standIn o v).apart ops y = true := by
  unfold Oper.apart at h ⊢
  simp only [Bool.and_eq_true] at h ⊢
  refine ⟨h.1, ?_⟩
  have e : (standIn o v).looksAt ops = [] := rfl
  rw [e]
  cases y.dst <;> rfl

theorem wpAnyC_first {i : Nat} {oi : Oper} {v : Value} (hi : ops[i]? = some oi) (hs : Region.noSelect ops = true)
    (hQ : ∀ c a w, Q (.panic c) (a.put oi.dst v) w → Q (.panic c) a w) (hg : Gives P ops C oi v) (hdn : ∀ a w, C (a.put oi.dst v) w → C a w) (hup : ∀ a w, C a w → C (a.put oi.dst v) w) :
    ∀ (fuel : Nat) (listed : Array Bool) (a : Act) (w : World),
      (∀ j oj, ops[j]? = some oj → j ≠ i → listed.getD j true = false → (∀ e ∈ oj.after, Region.binds md e = true → e.on ≠ i) → oi.apart ops oj = true) →
      i ∈ Region.ready md ops listed → C a w →
      wpAnyC P md ops Q C fuel (listed.setIfInBounds i true) (a.put oi.dst v) w → wpAnyC P md ops Q C (fuel + 1) listed a w
  | fuel, listed, a, w, hfree, hr, hc, H => by
    refine ⟨fun h => (by rw [h] at hr; cases hr), fun j hj => ?_⟩
    by_cases hji : j = i
    · subst hji
      exact hg.wpOp hi hc ⟨hup a w hc, H⟩
    · have hm := ready_mono hj hji
      cases fuel with
      | zero =>
        rw [H.1] at hm
        cases hm
      | succ fuel =>
        obtain ⟨hjun, oj, hoj, hall⟩ := mem_ready.1 hj
        have hnot : ∀ e ∈ oj.after, Region.binds md e = true → e.on ≠ i := fun e he hb heq => by
          have h1 := hall e he hb
          have h0 := (mem_ready.1 hr).1
          rw [heq] at h1
          rcases Nat.lt_or_ge i listed.size with h' | h'
          · simp [h'] at h0 h1; rw [h0] at h1; cases h1
          · simp [Array.getElem?_eq_none h'] at h1
        have h2 := wpOp_put (oi := standIn oi v) (v := v) hoj (standIn_apart (hfree j oj hoj hji hjun hnot)) (fun cs b h => by cases h) (fun cs b => Region.noSelect_spec hs j oj cs b hoj) hQ (standIn_yields oi v a) (H.2 j hm)
        have hfree' : ∀ k ok, ops[k]? = some ok → k ≠ i → (listed.setIfInBounds j true).getD k true = false →
            (∀ e ∈ ok.after, Region.binds md e = true → e.on ≠ i) → oi.apart ops ok = true := fun k ok hk hki hun hno => by
          refine hfree k ok hk hki ?_ hno
          by_cases hjk : j = k
          · subst hjk; exact hjun
          · rw [getD_set_ne true hjk] at hun; exact hun
        refine wpOp_mono (fun a' w' h3 => ?_) h2
        have hc' := hdn a' w' h3.2.1
        refine ⟨hc', wpAnyC_first hi hs hQ hg hdn hup fuel (listed.setIfInBounds j true) a' w' hfree' (ready_mono hr (Ne.symm hji)) hc' ?_⟩
        rw [Array.setIfInBounds_comm _ _ hji]
        exact h3.2.2

/-- A load is taken first. -/
theorem wpAnyC_take {i : Nat} {oi : Oper} {v : Value} {fuel : Nat} {listed : Array Bool} {a : Act} {w : World} (hi : ops[i]? = some oi) (hs : Region.noSelect ops = true)
    (hf : Region.free md ops listed i = true) (hr : (Region.ready md ops listed).contains i = true)
    (hQ : ∀ c a w, Q (.panic c) (a.put oi.dst v) w → Q (.panic c) a w) (hg : Gives P ops C oi v) (hdn : ∀ a w, C (a.put oi.dst v) w → C a w) (hup : ∀ a w, C a w → C (a.put oi.dst v) w)
    (hc : C a w) (h : wpAnyC P md ops Q C fuel (listed.setIfInBounds i true) (a.put oi.dst v) w) : wpAnyC P md ops Q C (fuel + 1) listed a w :=
  wpAnyC_first hi hs hQ hg hdn hup fuel listed a w (Region.free_spec hi hf) (by simpa using hr) hc h

/-- One operation alone may come up. -/
theorem wpAnyC_one {i : Nat} {o : Oper} {fuel : Nat} {listed : Array Bool} {a : Act} {w : World} (hr : Region.ready md ops listed = [i]) (ho : ops[i]? = some o)
    (h : ∀ K' : Act → World → Prop, (∀ a w, (C a w ∧ wpAnyC P md ops Q C fuel (listed.setIfInBounds i true) a w) → K' a w) → if Region.wanted o (yielded ops a.tmps) = true then Oper.wp P o a w K' Q else K' (a.put o.dst undef) w) :
    wpAnyC P md ops Q C (fuel + 1) listed a w := by
  refine ⟨fun h0 => (by rw [hr] at h0; cases h0), fun j hj => ?_⟩
  rw [hr] at hj
  obtain rfl : j = i := by simpa using hj
  exact wpOp_step ho h

theorem wpAnyC_done {listed : Array Bool} {a : Act} {w : World} (hr : Region.ready md ops listed = []) (h : Q .normal a w) : ∀ fuel, wpAnyC P md ops Q C fuel listed a w
  | 0 => ⟨hr, h⟩
  | _ + 1 => ⟨fun _ => h, by rw [hr]; simp⟩
/-- Two operations may come up. -/
theorem wpAnyC_two {i j : Nat} {oi oj : Oper} {fuel : Nat} {listed : Array Bool} {a : Act} {w : World} (hr : Region.ready md ops listed = [i, j]) (hi : ops[i]? = some oi) (hj : ops[j]? = some oj)
    (h1 : ∀ K' : Act → World → Prop, (∀ a w, (C a w ∧ wpAnyC P md ops Q C fuel (listed.setIfInBounds i true) a w) → K' a w) → if Region.wanted oi (yielded ops a.tmps) = true then Oper.wp P oi a w K' Q else K' (a.put oi.dst undef) w)
    (h2 : ∀ K' : Act → World → Prop, (∀ a w, (C a w ∧ wpAnyC P md ops Q C fuel (listed.setIfInBounds j true) a w) → K' a w) → if Region.wanted oj (yielded ops a.tmps) = true then Oper.wp P oj a w K' Q else K' (a.put oj.dst undef) w) :
    wpAnyC P md ops Q C (fuel + 1) listed a w := by
  refine ⟨fun h0 => (by rw [hr] at h0; cases h0), fun k hk => ?_⟩
  rw [hr] at hk
  rcases List.mem_cons.1 hk with rfl | hk
  · exact wpOp_step hi h1
  · obtain rfl : k = j := by simpa using hk
    exact wpOp_step hj h2
end

section
variable {P : Program} {ops : Array Oper} {Q : Exit → Act → World → Prop} {md : Region.Mode}
theorem wpAnyC_mono {C C' : Act → World → Prop} (hC : ∀ a w, C' a w → C a w) : ∀ (fuel : Nat) (listed : Array Bool) (a : Act) (w : World), wpAnyC P md ops Q C' fuel listed a w → wpAnyC P md ops Q C fuel listed a w
  | 0, _, _, _, h => h
  | fuel + 1, _, _, _, h => ⟨h.1, fun i hi => wpOp_mono (fun a' w' h' => ⟨hC _ _ h'.1, wpAnyC_mono hC fuel _ a' w' h'.2⟩) (h.2 i hi)⟩
end

/-- The class: these slots hold these values, these cells hold these. -/
def SlotsCells (ps : List (Nat × Value)) (qs : List (Addr × Value)) (a : Act) (u : World) : Prop := (∀ p ∈ ps, a.eval (.tmp p.1) = p.2) ∧ ∀ q ∈ qs, u.cell? q.1 = some q.2
theorem SlotsCells.put {ps : List (Nat × Value)} {qs : List (Addr × Value)} {a : Act} {u : World} (s : Nat) (v : Value) (hs : (ps.all fun p => p.1 != s) = true) :
    SlotsCells ps qs (a.put (some s) v) u ↔ SlotsCells ps qs a u := by
  have e : ∀ p ∈ ps, (a.put (some s) v).eval (.tmp p.1) = a.eval (.tmp p.1) := fun p hp => Act.eval_put (fun d hd => by
    have h1 := (List.all_eq_true.1 hs) p hp
    simp at h1 hd
    subst hd
    intro h
    injection h with h
    exact h1 h)
  constructor
  · rintro ⟨h, hb⟩
    exact ⟨fun p hp => (e p hp).symm.trans (h p hp), hb⟩
  · rintro ⟨h, hb⟩
    exact ⟨fun p hp => (e p hp).trans (h p hp), hb⟩
theorem SlotsCells.load {ps : List (Nat × Value)} {qs : List (Addr × Value)} {a : Act} {u : World} (h : SlotsCells ps qs a u) {s : Nat} {p : Addr} {v : Value} (hp : (s, Value.pointer (some p)) ∈ ps) (hq : (p, v) ∈ qs) :
    a.tmps[s]?.getD undef = .pointer (some p) ∧ u.cell? p = some v := ⟨by have := h.1 _ hp; simpa [Act.eval] using this, h.2 _ hq⟩

/-- a value of the class -/
theorem SlotsCells.val {ps : List (Nat × Value)} {qs : List (Addr × Value)} {a : Act} {u : World} (h : SlotsCells ps qs a u) {s : Nat} {v : Value} (hp : (s, v) ∈ ps) : a.tmps[s]?.getD undef = v := by have := h.1 _ hp; simpa [Act.eval] using this
end Go.Proofs.YtdkaacjeogifdaaGreat.Rc

/-
  As Loads: but operations that wait for the taken one (late) may leave the class.
-/
namespace Go.Proofs.YtdkaacjeogifdaaGreat.Rc

section
variable {P : Program} {ops : Array Oper} {Q : Exit → Act → World → Prop} {md : Region.Mode} {C : Act → World → Prop} {late : List Nat}

/-- Whatever order the draw gives: it ends in Q, and every step stays in the class, but for the late ones. -/
def wpAnyD (P : Program) (md : Region.Mode) (ops : Array Oper) (Q : Exit → Act → World → Prop) (C : Act → World → Prop) (late : List Nat) : Nat → Array Bool → Act → World → Prop
  | 0, listed, a, w => Region.ready md ops listed = [] ∧ Q .normal a w
  | fuel + 1, listed, a, w => (Region.ready md ops listed = [] → Q .normal a w) ∧
    ∀ i ∈ Region.ready md ops listed, wpOp P ops Q i (fun a' w' => (late.contains i = true ∨ C a' w') ∧ wpAnyD P md ops Q C late fuel (listed.setIfInBounds i true) a' w') a w

theorem wpAny_of_late : ∀ (fuel : Nat) (listed : Array Bool) (a : Act) (w : World), wpAnyD P md ops Q C late fuel listed a w → wpAny P md ops Q fuel listed a w
  | 0, _, _, _, h => h
  | fuel + 1, _, _, _, h => ⟨h.1, fun i hi => wpOp_mono (fun a' w' h' => wpAny_of_late fuel _ a' w' h'.2) (h.2 i hi)⟩

/-- Each late operation waits for operation i. -/
def waits (md : Region.Mode) (ops : Array Oper) (late : List Nat) (i : Nat) : Bool := late.all fun j => match ops[j]? with | some o => o.after.any fun e => Region.binds md e && e.on == i | none => true

theorem wpAnyD_first {i : Nat} {oi : Oper} {v : Value} (hi : ops[i]? = some oi) (hs : Region.noSelect ops = true) (hl : waits md ops late i = true)
    (hQ : ∀ c a w, Q (.panic c) (a.put oi.dst v) w → Q (.panic c) a w) (hg : Gives P ops C oi v) (hdn : ∀ a w, C (a.put oi.dst v) w → C a w) (hup : ∀ a w, C a w → C (a.put oi.dst v) w) :
    ∀ (fuel : Nat) (listed : Array Bool) (a : Act) (w : World),
      (∀ j oj, ops[j]? = some oj → j ≠ i → listed.getD j true = false → (∀ e ∈ oj.after, Region.binds md e = true → e.on ≠ i) → oi.apart ops oj = true) →
      i ∈ Region.ready md ops listed → C a w →
      wpAnyD P md ops Q C late fuel (listed.setIfInBounds i true) (a.put oi.dst v) w → wpAnyD P md ops Q C late (fuel + 1) listed a w
  | fuel, listed, a, w, hfree, hr, hc, H => by
    refine ⟨fun h => (by rw [h] at hr; cases hr), fun j hj => ?_⟩
    by_cases hji : j = i
    · subst hji
      exact hg.wpOp hi hc ⟨.inr (hup a w hc), H⟩
    · have hm := ready_mono hj hji
      cases fuel with
      | zero =>
        rw [H.1] at hm
        cases hm
      | succ fuel =>
        obtain ⟨hjun, oj, hoj, hall⟩ := mem_ready.1 hj
        have hnot : ∀ e ∈ oj.after, Region.binds md e = true → e.on ≠ i := fun e he hb heq => by
          have h1 := hall e he hb
          have h0 := (mem_ready.1 hr).1
          rw [heq] at h1
          rcases Nat.lt_or_ge i listed.size with h' | h'
          · simp [h'] at h0 h1; rw [h0] at h1; cases h1
          · simp [Array.getElem?_eq_none h'] at h1
        have hnl : ¬ late.contains j = true := fun hc => by
          have h1 := (List.all_eq_true.1 hl) j (by simpa using hc)
          rw [hoj] at h1
          simp only [Array.any_eq_true, Bool.and_eq_true, beq_iff_eq] at h1
          obtain ⟨k, hk, hb, he⟩ := h1
          exact hnot _ (Array.getElem_mem hk) hb he
        have h2 := wpOp_put (oi := standIn oi v) (v := v) hoj (standIn_apart (hfree j oj hoj hji hjun hnot)) (fun cs b h => by cases h) (fun cs b => Region.noSelect_spec hs j oj cs b hoj) hQ (standIn_yields oi v a) (H.2 j hm)
        have hfree' : ∀ k ok, ops[k]? = some ok → k ≠ i → (listed.setIfInBounds j true).getD k true = false →
            (∀ e ∈ ok.after, Region.binds md e = true → e.on ≠ i) → oi.apart ops ok = true := fun k ok hk hki hun hno => by
          refine hfree k ok hk hki ?_ hno
          by_cases hjk : j = k
          · subst hjk; exact hjun
          · rw [getD_set_ne true hjk] at hun; exact hun
        refine wpOp_mono (fun a' w' h3 => ?_) h2
        have hc' := hdn a' w' (h3.2.1.resolve_left hnl)
        refine ⟨.inr hc', wpAnyD_first hi hs hl hQ hg hdn hup fuel (listed.setIfInBounds j true) a' w' hfree' (ready_mono hr (Ne.symm hji)) hc' ?_⟩
        rw [Array.setIfInBounds_comm _ _ hji]
        exact h3.2.2

/-- A load is taken first. -/
theorem wpAnyD_take {i : Nat} {oi : Oper} {v : Value} {fuel : Nat} {listed : Array Bool} {a : Act} {w : World} (hi : ops[i]? = some oi) (hs : Region.noSelect ops = true) (hl : waits md ops late i = true)
    (hf : Region.free md ops listed i = true) (hr : (Region.ready md ops listed).contains i = true)
    (hQ : ∀ c a w, Q (.panic c) (a.put oi.dst v) w → Q (.panic c) a w) (hg : Gives P ops C oi v) (hdn : ∀ a w, C (a.put oi.dst v) w → C a w) (hup : ∀ a w, C a w → C (a.put oi.dst v) w)
    (hc : C a w) (h : wpAnyD P md ops Q C late fuel (listed.setIfInBounds i true) (a.put oi.dst v) w) : wpAnyD P md ops Q C late (fuel + 1) listed a w :=
  wpAnyD_first hi hs hl hQ hg hdn hup fuel listed a w (Region.free_spec hi hf) (by simpa using hr) hc h

/-- One operation alone may come up. -/
theorem wpAnyD_one {i : Nat} {o : Oper} {fuel : Nat} {listed : Array Bool} {a : Act} {w : World} (hr : Region.ready md ops listed = [i]) (ho : ops[i]? = some o)
    (h : ∀ K' : Act → World → Prop, (∀ a w, ((late.contains i = true ∨ C a w) ∧ wpAnyD P md ops Q C late fuel (listed.setIfInBounds i true) a w) → K' a w) → if Region.wanted o (yielded ops a.tmps) = true then Oper.wp P o a w K' Q else K' (a.put o.dst undef) w) :
    wpAnyD P md ops Q C late (fuel + 1) listed a w := by
  refine ⟨fun h0 => (by rw [hr] at h0; cases h0), fun j hj => ?_⟩
  rw [hr] at hj
  obtain rfl : j = i := by simpa using hj
  exact wpOp_step ho h

theorem wpAnyD_done {listed : Array Bool} {a : Act} {w : World} (hr : Region.ready md ops listed = []) (h : Q .normal a w) : ∀ fuel, wpAnyD P md ops Q C late fuel listed a w
  | 0 => ⟨hr, h⟩
  | _ + 1 => ⟨fun _ => h, by rw [hr]; simp⟩
end
end Go.Proofs.YtdkaacjeogifdaaGreat.Rc

/-
  Bytes in memory, whatever the program: rows that are read, rows of one's own, copies; told over this seat's tables.
-/
namespace Go.Proofs.YtdkaacjeogifdaaGreat.Rc
open Go.RowKit

theorem u8_lt (c : UInt8) : c.toNat < 256 := c.toNat_lt
theorem ofNat_toNat (v : Nat) : (UInt8.ofNat v).toNat = v % 256 := by simp
def bc (c : UInt8) : Value := .int .u8 (c.toNat : Int)
def bcs (l : List UInt8) : List Value := l.map bc
theorem bcs_length (l : List UInt8) : (bcs l).length = l.length := by simp [bcs]
theorem bcs_append (l r : List UInt8) : bcs (l ++ r) = bcs l ++ bcs r := by simp [bcs]
theorem bcs_getElem? (l : List UInt8) (j : Nat) (h : j < l.length) : (bcs l)[j]? = some (.int .u8 (l[j].toNat : Int)) := by simp [bcs, bc, List.getElem?_eq_getElem h]
theorem bcs_oneCell (l : List UInt8) : ∀ v ∈ bcs l, v.oneCell' = true := by
  intro v hv
  obtain ⟨_, _, rfl⟩ := List.mem_map.1 hv
  rfl

/-- Block g holds just these bytes, and may be written. -/
def Own (w : World) (g : Nat) (ys : List UInt8) : Prop := w.heap[g]? = some (.cells (bcs ys).toArray 5 (0, 0))

theorem Own.cell {w : World} {g : Nat} {ys : List UInt8} (h : Own w g ys) (j : Nat) (hj : j < ys.length) : w.cell? ⟨g, j, none⟩ = some (.int .u8 (ys[j].toNat : Int)) := by
  rw [cell_of_row w g j _ 5 (0, 0) h]
  simpa using bcs_getElem? ys j hj
theorem Own.frozen {w : World} {g : Nat} {ys : List UInt8} (h : Own w g ys) (j : Nat) : w.frozen? ⟨g, j, none⟩ = false := frozen_of_row w g j _ 5 h
theorem Own.lt {w : World} {g : Nat} {ys : List UInt8} (h : Own w g ys) : g < w.heap.size := (Array.getElem?_eq_some_iff.1 h).1
theorem Own.store {w : World} {g : Nat} {ys : List UInt8} (h : Own w g ys) (j : Nat) (c : UInt8) : Own (w.setCell ⟨g, j, none⟩ (.int .u8 (c.toNat : Int))) g (ys.set j c) := by
  unfold Own
  rw [heap_setCell_same w g j _ 5 _ h]
  congr 2
  apply Array.toList_inj.1
  simp [bcs, bc]
/-- What lies below a mark stays. -/
theorem Own.below {B : Nat} {w w' : World} {g : Nat} {ys : List UInt8} (h : Own w g ys) (hb : Below B w w') (hg : g < B) : Own w' g ys := (hb.block g hg).trans h

theorem grown_trans {a b c : World} {row : Option Nat} (h : a.grownBy b row) (k : b.grownBy c row) : a.grownBy c row :=
  ⟨k.os.trans h.os, k.tape.trans h.tape, k.output.trans h.output, Nat.le_trans h.size k.size, fun i hi hr => (k.block i (Nat.lt_of_lt_of_le hi h.size) hr).trans (h.block i hi hr)⟩
theorem grown_store (w : World) (g j : Nat) (u : Value) : w.grownBy (w.setCell ⟨g, j, none⟩ u) (some g) :=
  ⟨rfl, rfl, rfl, by simp, fun k _ hk => heap_setCell_other w ⟨g, j, none⟩ k u (fun e => hk (by simp [e]))⟩
theorem grown_setRow (w : World) (g : Nat) (cs : Array Value) : w.grownBy (w.setRow g cs) (some g) :=
  ⟨rfl, rfl, rfl, by simp [World.setRow], fun k _ hk => setRow_other w g k cs (fun e => hk (by simp [e]))⟩

/-- The bytes xs lie where a says (of no bytes nothing is asked). -/
def Rd (w : World) (a : Option Addr) (xs : List UInt8) : Prop :=
  0 < xs.length → ∃ b o, a = some ⟨b, o, none⟩ ∧ ∀ j (h : j < xs.length), w.cell? ⟨b, o + j, none⟩ = some (.int .u8 (xs[j].toNat : Int))
theorem Rd.nil (w : World) (a : Option Addr) : Rd w a [] := fun h => absurd h (by simp)
theorem Own.rd {w : World} {g : Nat} {ys : List UInt8} (h : Own w g ys) : Rd w (some ⟨g, 0, none⟩) ys := fun _ => ⟨g, 0, rfl, fun j hj => by rw [Nat.zero_add]; exact h.cell j hj⟩
/-- What is read stays as long as old blocks stay. -/
theorem Rd.below {B : Nat} {w w' : World} {a : Option Addr} {xs : List UInt8} (h : Rd w a xs) (hb : Below B w w') (hB : w.heap.size ≤ B) : Rd w' a xs := fun hp => by
  obtain ⟨b, o, ha, hc⟩ := h hp
  refine ⟨b, o, ha, fun j hj => ?_⟩
  have hlt : b < w.heap.size := block_lt_of_cell (hc j hj)
  rw [hb.cell (p := ⟨b, o + j, none⟩) (Nat.lt_of_lt_of_le hlt hB)]
  exact hc j hj

theorem info5 : (Tryz.prog.info? 5).map (fun i => (i.zero, i.size, i.bytes)) = some (some (.int .u8 0), 1, 1) := by kernel_rfl
theorem size5 : (Tryz.prog.info? 5).map (·.size) = some 1 := by kernel_rfl

theorem below_of_grown {w u : World} {g : Nat} (h : w.grownBy u (some g)) (hg : w.heap.size ≤ g) : Below w.heap.size w u := (Below.refl _ _).grown h (Nat.le_refl _) (fun k hk => by simp at hk; omega)

theorem made_zero (n : Nat) : (madeCells #[Value.int .u8 0] n) = (bcs (List.replicate n 0)).toArray := by
  apply Array.toList_inj.1
  apply List.ext_getElem
  · simp [madeCells, bcs]
  · intro i h1 h2
    simp [madeCells, bcs, bc, Nat.mod_one]

/-- string(bytes). -/
theorem conv_run (u : World) (a : Option Addr) (cap : Nat) (xs : List UInt8) (hr : Rd u a xs) : (convert 22 9 (.slice a xs.length cap)).run Tryz.prog u = .ok (.string ⟨xs.toArray⟩) u := by
  cases a with
  | none =>
    by_cases h0 : 0 < xs.length
    · obtain ⟨b, o, h, _⟩ := hr h0
      simp at h
    · obtain rfl : xs = [] := List.eq_nil_of_length_eq_zero (by omega)
      exact run_convert_bytes_nil u 22 5 Tryz.underlying22 Tryz.underlying5 0 cap 9 Tryz.underlying9
  | some a =>
    exact run_convert_bytes_back u 22 9 5 a cap xs Tryz.underlying22 Tryz.underlying5 Tryz.underlying9 (fun j hj => by
      obtain ⟨b, o, h, hc⟩ := hr (by omega)
      obtain rfl := Option.some.inj h
      rw [Addr.add_lit]
      exact hc j hj)

theorem same_any (a b : Option Addr) (ca cb : Nat) (xs ys : List UInt8) (w : World) (ha : Rd w a xs) (hb : Rd w b ys) :
    Calls Tryz.prog 19 #[.slice a xs.length ca, .slice b ys.length cb] w fun e w' => e = .returned (.bool (xs == ys)) ∧ w = w' := by
  have h1 := conv_run w a ca xs ha
  have h2 := conv_run w b cb ys hb
  go_enter Tryz.func19, Tryz.ntmps19
  go_wp2
  go_ret
  exact ⟨rfl, rfl⟩

theorem own_lit (w : World) (xs : List UInt8) : Own (w.alloc (.cells (bcs xs).toArray 5)) w.heap.size xs := heap_alloc_new w _

theorem same_at (ca cb n m : Nat) (a b : Option Addr) (xs ys : List UInt8) (w : World) (hn : xs.length = n) (hm : ys.length = m) (ha : Rd w a xs) (hb : Rd w b ys) :
    Calls Tryz.prog 19 #[.slice a n ca, .slice b m cb] w fun e w' => e = .returned (.bool (xs == ys)) ∧ w = w' := by
  subst hn hm; exact same_any a b ca cb xs ys w ha hb

theorem bytes5 : Tryz.prog.bytesOf 5 = 1 := by kernel_rfl

theorem u8_bounds {n : Int} (h : (Lit.int .u8 n).wf = true) : 0 ≤ n ∧ n ≤ 255 := by
  simpa [Lit.wf, IntKind.min, IntKind.max, IntKind.signed, IntKind.bits] using h
theorem u64_bounds {n : Int} (h : (Lit.int .u64 n).wf = true) : 0 ≤ n ∧ n ≤ 18446744073709551615 := by
  simpa [Lit.wf, IntKind.min, IntKind.max, IntKind.signed, IntKind.bits] using h
theorem u32_bounds {n : Int} (h : (Lit.int .u32 n).wf = true) : 0 ≤ n ∧ n ≤ 4294967295 := by
  simpa [Lit.wf, IntKind.min, IntKind.max, IntKind.signed, IntKind.bits] using h
theorem i64_bounds {n : Int} (h : (Lit.int .i64 n).wf = true) : -9223372036854775808 ≤ n ∧ n ≤ 9223372036854775807 := by
  simpa [Lit.wf, IntKind.min, IntKind.max, IntKind.signed, IntKind.bits] using h

theorem bytes_of_ints {w : World} {a : Addr} {len cap : Nat} {zs : List Int} (hl : len ≤ cap) (hz : zs.length = cap)
    (hcell : ∀ i, i < zs.length → w.cell? (a.add i) = some (.int .u8 (zs.getD i 0))) (hwz : ∀ n ∈ zs, (Lit.int .u8 n).wf = true) :
    ∃ xs : List UInt8, xs.length = len ∧ Rd w (some a) xs := by
  refine ⟨(zs.take len).map fun n => UInt8.ofNat n.toNat, by simp; omega, fun hp => ?_⟩
  have hlen : 0 < len := by simp at hp; omega
  have h0 := hcell 0 (by omega)
  obtain ⟨b, o, sp⟩ := a
  have hsp : sp = none := by simpa [Addr.add] using World.cell?_spot h0
  subst hsp
  refine ⟨b, o, rfl, fun j hj => ?_⟩
  have hj' : j < len := by simp at hj; omega
  have hjz : j < zs.length := by omega
  have h := hcell j hjz
  rw [Addr.add_lit] at h
  rw [h]
  have hb := u8_bounds (hwz zs[j] (List.getElem_mem hjz))
  have e : zs.getD j 0 = zs[j] := by simp [List.getD, List.getElem?_eq_getElem hjz]
  rw [e]
  simp only [List.getElem_map, List.getElem_take]
  congr 2
  rw [ofNat_toNat]
  omega

/-! ### rows that grow -/
theorem owns_rd {w : World} {B n : Nat} {v : Value} {ys : List UInt8} (h : w.ownsRow B 5 1 v n (bcs ys)) :
    ∃ a cap, v = .slice a n cap ∧ ys.length = n ∧ n ≤ cap ∧ cap ≤ maxLen ∧ Rd w a ys ∧ (0 < n → ∃ g, a = some ⟨g, 0, none⟩ ∧ B ≤ g ∧ g < w.heap.size) := by
  have hl : ys.length = n := by have := h.1; rw [bcs_length] at this; omega
  rcases h.2 with ⟨rfl, rfl⟩ | ⟨g, cap, cur, rfl, hb, hg, hnc, hcm, hcs, htake⟩
  · have h0 : ys = [] := List.eq_nil_of_length_eq_zero hl
    subst h0
    exact ⟨none, 0, rfl, rfl, Nat.le_refl _, by simp [maxLen], Rd.nil _ _, fun h => by omega⟩
  · refine ⟨some ⟨g, 0, none⟩, cap, rfl, hl, hnc, hcm, fun _ => ⟨g, 0, rfl, fun j hj => ?_⟩, fun _ => ⟨g, rfl, hb, (Array.getElem?_eq_some_iff.1 hg).1⟩⟩
    have := h.cells (g := g) rfl j _ (bcs_getElem? ys j hj)
    rw [Addr.add_lit] at this
    exact this

/-- copy of bytes in memory of their own -/
theorem copyBytes_at (cap n : Nat) (a : Option Addr) (xs : List UInt8) (w : World) (hl : xs.length = n) (hn : n ≤ 140737488355328) (hr : Rd w a xs) (hnil : a = none → cap = 0) :
    Calls Tryz.prog 33 #[.slice a n cap] w fun e w' => ∃ v, e = .returned v ∧ w'.ownsRow w.heap.size 5 1 v n (bcs xs) ∧ Below w.heap.size w w' := by
  obtain ⟨i0, hi, hz0, hz1, hz2⟩ := info_parts info5
  cases a with
  | none =>
    obtain rfl := hnil rfl
    have h0 : xs.length = 0 := by
      apply Decidable.byContradiction
      intro h
      obtain ⟨_, _, h', _⟩ := hr (by omega)
      simp at h'
    obtain rfl : xs = [] := List.eq_nil_of_length_eq_zero h0
    obtain rfl : n = 0 := hl.symm
    go_enter Tryz.func33, Tryz.ntmps33
    go_wp2_with (at_builtin; refine wpList_append_own_none rfl _ _ 22 rfl w.heap.size 5 i0 1 Tryz.underlying22 hi (.slice none 0 0) 0 [] rfl (World.ownsRow_nil _ _ _ _) rfl ?_)
    go_ret
    exact ⟨_, rfl, World.ownsRow_nil _ _ _ _, Below.refl _ _⟩
  | some ad =>
    have hm : n ≤ maxLen := by unfold maxLen; omega
    go_enter Tryz.func33, Tryz.ntmps33
    go_wp2_with (at_builtin; refine wpList_append_own _ rfl _ _ 22 rfl w.heap.size 5 i0 (.int .u8 0) 1 1 Tryz.underlying22 hi hz0 hz1 hz2 rfl (by decide) (.slice none 0 0) 0 [] rfl (World.ownsRow_nil _ _ _ _) ad n cap (bcs xs) rfl ?c0 ?c1 (bcs_oneCell xs) ?c2 ?c3 (Nat.le_refl _) ?_)
    case c0 => rw [bcs_length]; omega
    case c1 =>
      intro j u hj
      have hj' : j < xs.length := by have := (List.getElem?_eq_some_iff.1 hj).1; simpa [bcs_length] using this
      rw [bcs_getElem? xs j hj'] at hj
      obtain ⟨b, o, he, hc⟩ := hr (by omega)
      obtain rfl := Option.some.inj he
      rw [Addr.add_lit, hc j hj']
      exact hj
    case c2 => omega
    case c3 => omega
    · intro v' w1 hown hgrow _
      have hown1 : w1.ownsRow w.heap.size 5 1 v' n (bcs xs) := by simpa using hown
      have hb : Below w.heap.size w w1 := (Below.refl _ _).grown hgrow (Nat.le_refl _) (fun k hk => by simp [Value.ownBlock] at hk)
      clear hgrow hown
      go_wp2
      go_ret
      exact ⟨_, rfl, hown1, hb⟩

theorem append_bcs (xs : List UInt8) (c : UInt8) : bcs xs ++ [.int .u8 (c.toNat : Int)] = bcs (xs ++ [c]) := by simp [bcs, bc]

/-- bytes from anywhere (none, too) behind a row of one's own -/
theorem wpList_append_bytes {w : World} {ops : Array Oper} {rest : List Oper} {o : Oper} {a : Act} {Q : Exit → Act → World → Prop} (hgd : o.guard = none) (s x : Operand)
    (ho : o.op = .call { callee := .builtin .append, args := #[s, x], argTypes := #[22, 22] })
    (base : Nat) (v : Value) (n : Nat) (xs : List Value) (hs : a.eval s = v) (hown : w.ownsRow base 5 1 v n xs)
    (ao : Option Addr) (m c : Nat) (ys : List UInt8) (hx : a.eval x = .slice ao m c) (hl : ys.length = m) (hr : Rd w ao ys) (hnil : ao = none → c = 0) (hb : n + m ≤ 140737488355328) (hbase : base ≤ w.heap.size)
    (h : ∀ v' w', w'.ownsRow base 5 1 v' (n + m) (xs ++ bcs ys) → w.grownBy w' v.ownBlock → wpList Tryz.prog ops Q rest (a.put o.dst v') w') : wpList Tryz.prog ops Q (o :: rest) a w := by
  obtain ⟨i0, hi, hz0, hz1, hz2⟩ := info_parts info5
  cases ao with
  | none =>
    obtain rfl := hnil rfl
    have h0 : ys.length = 0 := by
      apply Decidable.byContradiction
      intro h'
      obtain ⟨_, _, h', _⟩ := hr (by omega)
      simp at h'
    obtain rfl : ys = [] := List.eq_nil_of_length_eq_zero h0
    obtain rfl : m = 0 := hl.symm
    exact wpList_append_own_none hgd s x 22 ho base 5 i0 1 Tryz.underlying22 hi v n xs hs hown hx (h v w (by simpa [bcs] using hown) (World.grownBy.refl _ _))
  | some ad =>
    refine wpList_append_own w hgd s x 22 ho base 5 i0 (.int .u8 0) 1 1 Tryz.underlying22 hi hz0 hz1 hz2 rfl (by decide) v n xs hs hown ad m c (bcs ys) hx (by rw [bcs_length]; omega) ?_ (bcs_oneCell ys) (by unfold maxLen; omega) (by omega) hbase (fun v' w' h1 h2 _ => h v' w' h1 h2)
    intro j u hj
    have hj' : j < ys.length := by have := (List.getElem?_eq_some_iff.1 hj).1; simpa [bcs_length] using this
    rw [bcs_getElem? ys j hj'] at hj
    obtain ⟨b, o', he, hc⟩ := hr (by omega)
    obtain rfl := Option.some.inj he
    rw [Addr.add_lit, hc j hj']
    exact hj

theorem Rd.head {w : World} {a : Option Addr} {xs ys : List UInt8} (h : Rd w a (xs ++ ys)) : Rd w a xs := fun hp => by
  obtain ⟨b, o, ha, hc⟩ := h (by simp; omega)
  refine ⟨b, o, ha, fun j hj => ?_⟩
  rw [hc j (by simp; omega), List.getElem_append_left hj]

end Go.Proofs.YtdkaacjeogifdaaGreat.Rc

/-
  Blocks of memory: boxes, rows of bytes with room behind them, what a call may turn; sectors of a block's bytes.
-/
namespace Go.Proofs.YtdkaacjeogifdaaGreat.Rc
open Go.RowKit

/-- xs upon l, from off on -/
def over {α : Type} (l : List α) (off : Nat) (xs : List α) : List α := l.take off ++ (xs ++ l.drop (off + xs.length))
theorem over_length {α : Type} (l : List α) (off : Nat) (xs : List α) (h : off + xs.length ≤ l.length) : (over l off xs).length = l.length := by
  simp [over]; omega
theorem over_get {α : Type} (l : List α) (off : Nat) (xs : List α) (h : off + xs.length ≤ l.length) (i : Nat) : (over l off xs)[i]? = if off ≤ i ∧ i < off + xs.length then xs[i - off]? else l[i]? := by
  unfold over
  have hlo : (l.take off).length = off := by simp; omega
  by_cases h1 : i < off
  · rw [List.getElem?_append_left (by omega), if_neg (by omega), List.getElem?_take, if_pos h1]
  · rw [List.getElem?_append_right (by omega), hlo]
    by_cases h2 : i < off + xs.length
    · rw [if_pos ⟨by omega, h2⟩, List.getElem?_append_left (by omega)]
    · rw [if_neg (by omega), List.getElem?_append_right (by omega), List.getElem?_drop]
      congr 1
      omega

/-- sector s of a block's bytes -/
def sec (data : List UInt8) (s : Nat) : List UInt8 := (data.drop (s * 512)).take 512
theorem sec_length (data : List UInt8) (s : Nat) (hd : data.length = 4096) (hs : s < 8) : (sec data s).length = 512 := by simp [sec]; omega

/-! ### one block -/
/-- a block that was made for one value -/
def Box (w : World) (g : Nat) (cs : Array Value) (t : TypeId) : Prop := w.heap[g]? = some (.cells cs t (0, 0))
theorem Box.cell {w : World} {g : Nat} {cs : Array Value} {t : TypeId} (h : Box w g cs t) (j : Nat) : w.cell? ⟨g, j, none⟩ = cs[j]? := cell_of_row w g j cs t (0, 0) h
theorem Box.frozen {w : World} {g : Nat} {cs : Array Value} {t : TypeId} (h : Box w g cs t) (j : Nat) : w.frozen? ⟨g, j, none⟩ = false := frozen_of_row w g j cs t h
theorem Box.lt {w : World} {g : Nat} {cs : Array Value} {t : TypeId} (h : Box w g cs t) : g < w.heap.size := (Array.getElem?_eq_some_iff.1 h).1
theorem Box.below {w w' : World} {g : Nat} {cs : Array Value} {t : TypeId} (h : Box w g cs t) (hb : Below w.heap.size w w') : Box w' g cs t := (hb.block g h.lt).trans h
theorem Box.new (w : World) (cs : Array Value) (t : TypeId) : Box (w.alloc (.cells cs t)) w.heap.size cs t := heap_alloc_new w _
theorem Box.alloc {w : World} {g : Nat} {cs : Array Value} {t : TypeId} (h : Box w g cs t) (o : Obj) : Box (w.alloc o) g cs t := (Below.heap_alloc w o g h.lt).trans h
theorem Box.store {w : World} {g : Nat} {cs : Array Value} {t : TypeId} (h : Box w g cs t) (j : Nat) (v : Value) : Box (w.setCell ⟨g, j, none⟩ v) g (cs.setIfInBounds j v) t := heap_setCell_same w g j cs t v h
theorem Box.ne {w : World} {g g' : Nat} {cs cs' : Array Value} {t t' : TypeId} (h : Box w g cs t) (h' : Box w g' cs' t') (ht : t ≠ t') : g ≠ g' := by
  intro e
  subst e
  unfold Box at h h'
  rw [h] at h'
  simp at h'
  exact ht h'.2

/-- Bytes, with room behind them of which nothing is said. -/
def RowB (w : World) (g cap : Nat) (ys : List UInt8) : Prop := ∃ cur : Array Value, Box w g cur 5 ∧ ys.length ≤ cap ∧ cap ≤ maxLen ∧ cur.size = cap ∧ cur.toList.take ys.length = bcs ys
theorem RowB.lt {w : World} {g cap : Nat} {ys : List UInt8} (h : RowB w g cap ys) : g < w.heap.size := by obtain ⟨cur, h, _⟩ := h; exact h.lt
theorem RowB.rd {w : World} {g cap : Nat} {ys : List UInt8} (h : RowB w g cap ys) : Rd w (some ⟨g, 0, none⟩) ys := by
  obtain ⟨cur, h, _, _, _, ht⟩ := h
  intro _
  refine ⟨g, 0, rfl, fun j hj => ?_⟩
  rw [Nat.zero_add, h.cell j]
  have h1 := bcs_getElem? ys j hj
  rw [← ht, List.getElem?_take] at h1
  rw [if_pos hj] at h1
  simpa using h1
theorem RowB.same {w w' : World} {g cap : Nat} {ys : List UInt8} (h : RowB w g cap ys) (hb : w'.heap[g]? = w.heap[g]?) : RowB w' g cap ys := by
  obtain ⟨cur, h, r⟩ := h
  exact ⟨cur, hb.trans h, r⟩
theorem RowB.own {w : World} {g : Nat} {ys : List UInt8} (h : Own w g ys) (hm : ys.length ≤ maxLen) : RowB w g ys.length ys :=
  ⟨(bcs ys).toArray, h, Nat.le_refl _, hm, by simp [bcs_length], by rw [List.take_of_length_le (by simp [bcs_length])]⟩
theorem RowB.owns {w : World} {B n : Nat} {v : Value} {ys : List UInt8} (h : w.ownsRow B 5 1 v n (bcs ys)) (h0 : 0 < n) : ∃ g cap, v = .slice (some ⟨g, 0, none⟩) n cap ∧ B ≤ g ∧ RowB w g cap ys := by
  have hl : ys.length = n := by have := h.1; rw [bcs_length] at this; omega
  rcases h.2 with ⟨rfl, rfl⟩ | ⟨g, cap, cur, rfl, hb, hg, hnc, hcm, hcs, ht⟩
  · omega
  · exact ⟨g, cap, rfl, hb, cur, hg, by omega, hcm, by omega, by rw [hl]; simpa using ht⟩

/-- copy of bytes onto a part of such a row -/
theorem copy_row (g cap off dLen dCap : Nat) (a : Option Addr) (sCap : Nat) (xs ys : List UInt8) (u : World) (hg : RowB u g cap ys) (hr : Rd u a xs) (hl : xs.length ≤ dLen) (hfit : off + xs.length ≤ ys.length) (h0 : 0 < xs.length) :
    ∃ W, (∀ ty, (Builtin.copy_ #[22, 22] ty #[.slice (some ⟨g, off, none⟩) dLen dCap, .slice a xs.length sCap]).run Tryz.prog u = .ok (goInt xs.length) W) ∧ RowB W g cap (over ys off xs) ∧ u.grownBy W (some g) := by
  obtain ⟨b, o, rfl, hc⟩ := hr h0
  obtain ⟨cur, hb, hlc, hm, hs, ht⟩ := hg
  refine ⟨u.setRow g (cur.toList.take off ++ bcs xs ++ cur.toList.drop (off + (bcs xs).length)).toArray, fun ty => ?_, ?_, grown_setRow _ _ _⟩
  · have h := run_copy_row (P := Tryz.prog) u 22 22 ty 5 g off dLen dCap ⟨b, o, none⟩ xs.length sCap cur 5 (bcs xs) Tryz.underlying22 size5 hb (by rw [bcs_length]; exact (Nat.min_eq_left hl).symm) (fun j v hj => by
        have hj' : j < xs.length := by have := (List.getElem?_eq_some_iff.1 hj).1; simpa [bcs_length] using this
        rw [bcs_getElem? xs j hj'] at hj
        rw [Addr.add_lit, hc j hj']
        exact hj) (by rw [bcs_length]; omega) (bcs_oneCell xs)
    rw [h, bcs_length]
  · have hpl := over_length ys off xs hfit
    refine ⟨_, setRow_heap u g _ _ 5 _ hb, by omega, hm, ?_, ?_⟩
    · simp [bcs_length]; omega
    · rw [hpl]
      have e1 : cur.toList.take off = bcs (ys.take off) := by
        have := congrArg (List.take off) ht
        rw [List.take_take, Nat.min_eq_left (by omega)] at this
        rw [this]; simp [bcs]
      have e2 : (cur.toList.drop (off + xs.length)).take (ys.length - (off + xs.length)) = bcs (ys.drop (off + xs.length)) := by
        have := congrArg (List.drop (off + xs.length)) ht
        rw [List.drop_take] at this
        rw [this]; simp [bcs]
      have hlt : (cur.toList.take off).length = off := by simp; omega
      have e3 : bcs (over ys off xs) = bcs (ys.take off) ++ (bcs xs ++ bcs (ys.drop (off + xs.length))) := by simp [over, bcs]
      show (cur.toList.take off ++ bcs xs ++ cur.toList.drop (off + (bcs xs).length)).take ys.length = _
      have e4 : (bcs xs).take (ys.length - off) = bcs xs := List.take_of_length_le (by rw [bcs_length]; omega)
      rw [e3, ← e1, ← e2]
      generalize hA : cur.toList.take off = A at hlt
      have e5 : A.take ys.length = A := List.take_of_length_le (by omega)
      rw [List.append_assoc, List.take_append, List.take_append, e5, hlt, e4, bcs_length, Nat.sub_sub]

/-! ### what a call may turn -/
/-- Of what was there, only blocks of F have turned. -/
structure Upd (F : Nat → Prop) (w w' : World) : Prop where
  os : w'.os = w.os
  tape : w'.tape = w.tape
  output : w'.output = w.output
  size : w.heap.size ≤ w'.heap.size
  block : ∀ k, k < w.heap.size → ¬ F k → w'.heap[k]? = w.heap[k]?
theorem Upd.refl (F : Nat → Prop) (w : World) : Upd F w w := ⟨rfl, rfl, rfl, Nat.le_refl _, fun _ _ _ => rfl⟩
theorem Upd.trans {F F' : Nat → Prop} {a b c : World} (h : Upd F a b) (k : Upd F' b c) (hF : ∀ i, F' i → F i ∨ a.heap.size ≤ i) : Upd F a c :=
  ⟨k.os.trans h.os, k.tape.trans h.tape, k.output.trans h.output, Nat.le_trans h.size k.size, fun i hi hn => (k.block i (Nat.lt_of_lt_of_le hi h.size) (fun hf => by rcases hF i hf with h1 | h1; exact hn h1; omega)).trans (h.block i hi hn)⟩
theorem Upd.of_below {F : Nat → Prop} {w w' : World} (h : Below w.heap.size w w') : Upd F w w' := ⟨h.os, h.tape, h.output, h.size, fun k hk _ => h.block k hk⟩
theorem Upd.grown {F : Nat → Prop} {a w w' : World} {row : Option Nat} (h : Upd F a w) (hg : w.grownBy w' row) (hr : ∀ k, row = some k → F k ∨ a.heap.size ≤ k) : Upd F a w' :=
  ⟨hg.os.trans h.os, hg.tape.trans h.tape, hg.output.trans h.output, Nat.le_trans h.size hg.size, fun i hi hn => (hg.block i (Nat.lt_of_lt_of_le hi h.size) (fun e => by rcases hr i e.symm with h1 | h1; exact hn h1; omega)).trans (h.block i hi hn)⟩
theorem Upd.below {F : Nat → Prop} {w w' : World} {B : Nat} (h : Upd F w w') (hF : ∀ i, F i → B ≤ i) (hB : B ≤ w.heap.size) : Below B w w' :=
  ⟨h.os, h.tape, h.output, h.size, fun k hk => h.block k (by omega) (fun hf => by have := hF k hf; omega)⟩
theorem Upd.alloc {F : Nat → Prop} {a w : World} (h : Upd F a w) (o : Obj) : Upd F a (w.alloc o) := h.grown (World.grownBy_alloc w o none) (fun k e => by cases e)
theorem Upd.setCell {F : Nat → Prop} {a w : World} (h : Upd F a w) {g j : Nat} (hg : F g ∨ a.heap.size ≤ g) (u : Value) : Upd F a (w.setCell ⟨g, j, none⟩ u) := h.grown (grown_store w g j u) (fun k e => by cases e; exact hg)
theorem Upd.drew {F : Nat → Prop} {a w : World} (h : Upd F a w) : Upd F a w.drew := ⟨h.os, h.tape, h.output, h.size, h.block⟩
theorem Upd.thenB {F : Nat → Prop} {a w w' : World} (h : Upd F a w) (k : Below w.heap.size w w') : Upd F a w' := ⟨k.os.trans h.os, k.tape.trans h.tape, k.output.trans h.output, Nat.le_trans h.size k.size, fun i hi hn => (k.block i (Nat.lt_of_lt_of_le hi h.size)).trans (h.block i hi hn)⟩
theorem Rd.upd {F : Nat → Prop} {w w' : World} {g o : Nat} {xs : List UInt8} (h : Rd w (some ⟨g, o, none⟩) xs) (hu : Upd F w w') (hg : ¬ F g) : Rd w' (some ⟨g, o, none⟩) xs := fun hp => by
  obtain ⟨b, o', ha, hc⟩ := h hp
  simp only [Option.some.injEq, Addr.mk.injEq, and_true] at ha
  obtain ⟨rfl, rfl⟩ := ha
  refine ⟨g, o, rfl, fun j hj => ?_⟩
  have hlt : g < w.heap.size := block_lt_of_cell (hc j hj)
  rw [World.cell?_of_block (a := ⟨g, o + j, none⟩) (hu.block g hlt hg)]
  exact hc j hj

theorem Upd.box {F : Nat → Prop} {w w' : World} {g : Nat} {cs : Array Value} {t : TypeId} (h : Upd F w w') (hb : Box w g cs t) (hg : ¬ F g) : Box w' g cs t := (h.block g hb.lt hg).trans hb
theorem Upd.rowB {F : Nat → Prop} {w w' : World} {g cap : Nat} {ys : List UInt8} (h : Upd F w w') (hb : RowB w g cap ys) (hg : ¬ F g) : RowB w' g cap ys := hb.same (h.block g hb.lt hg)
theorem Rd.part {w : World} {g o : Nat} {xs : List UInt8} (h : Rd w (some ⟨g, o, none⟩) xs) (k n : Nat) : Rd w (some ⟨g, o + k, none⟩) ((xs.drop k).take n) := fun hp => by
  have hk : k < xs.length := by simp at hp; omega
  obtain ⟨b', o', he, hc⟩ := h (by omega)
  simp only [Option.some.injEq, Addr.mk.injEq, and_true] at he
  obtain ⟨rfl, rfl⟩ := he
  refine ⟨g, o + k, rfl, fun j hj => ?_⟩
  have hj' : k + j < xs.length := by simp at hj; omega
  rw [Nat.add_assoc, hc (k + j) hj']
  simp

end Go.Proofs.YtdkaacjeogifdaaGreat.Rc

/-
  Regions that draw: loads first, then every order of what is left.
-/
namespace Go.Proofs.YtdkaacjeogifdaaGreat.Rc
open Go.RowKit

section
variable {P : Program} {ops : Array Oper} {Q : Exit → Act → World → Prop} {md : Region.Mode} {C : Act → World → Prop} {late : List Nat}
def AllD (P : Program) (md : Region.Mode) (ops : Array Oper) (Q : Exit → Act → World → Prop) (C : Act → World → Prop) (late : List Nat) (fuel : Nat) (listed : Array Bool) (a : Act) (w : World) (rs : List Nat) : Prop :=
  ∀ i ∈ rs, wpOp P ops Q i (fun a' w' => (late.contains i = true ∨ C a' w') ∧ wpAnyD P md ops Q C late fuel (listed.setIfInBounds i true) a' w') a w
theorem AllD.nil {fuel : Nat} {listed : Array Bool} {a : Act} {w : World} : AllD P md ops Q C late fuel listed a w [] := fun _ h => by cases h
theorem AllD.cons {fuel : Nat} {listed : Array Bool} {a : Act} {w : World} {i : Nat} {o : Oper} {rs : List Nat} (ho : ops[i]? = some o)
    (h : ∀ K' : Act → World → Prop, (∀ a w, ((late.contains i = true ∨ C a w) ∧ wpAnyD P md ops Q C late fuel (listed.setIfInBounds i true) a w) → K' a w) → if Region.wanted o (yielded ops a.tmps) = true then Oper.wp P o a w K' Q else K' (a.put o.dst undef) w)
    (hs : AllD P md ops Q C late fuel listed a w rs) : AllD P md ops Q C late fuel listed a w (i :: rs) := fun j hj => by
  rcases List.mem_cons.1 hj with rfl | hj
  · exact wpOp_step ho h
  · exact hs j hj
theorem wpAnyD_ready {rs : List Nat} {fuel : Nat} {listed : Array Bool} {a : Act} {w : World} (hr : Region.ready md ops listed = rs) (hne : rs ≠ [])
    (h : AllD P md ops Q C late fuel listed a w rs) : wpAnyD P md ops Q C late (fuel + 1) listed a w := by
  refine ⟨fun h0 => absurd (hr ▸ h0) hne, fun j hj => ?_⟩
  rw [hr] at hj
  exact h j hj
end

/-- The class: these slots hold these values, these blocks hold these. -/
def SB (ps : List (Nat × Value)) (bs : List (Nat × Array Value × TypeId)) (a : Act) (u : World) : Prop := (∀ p ∈ ps, a.eval (.tmp p.1) = p.2) ∧ ∀ q ∈ bs, Box u q.1 q.2.1 q.2.2
theorem SB.put {ps : List (Nat × Value)} {bs : List (Nat × Array Value × TypeId)} {a : Act} {u : World} (s : Nat) (v : Value) (hs : (ps.all fun p => p.1 != s) = true) : SB ps bs (a.put (some s) v) u ↔ SB ps bs a u := by
  have e : ∀ p ∈ ps, (a.put (some s) v).eval (.tmp p.1) = a.eval (.tmp p.1) := fun p hp => Act.eval_put (fun d hd => by
    have h1 := (List.all_eq_true.1 hs) p hp
    simp at h1 hd
    subst hd
    intro h
    injection h with h
    exact h1 h)
  constructor
  · rintro ⟨h, hb⟩
    exact ⟨fun p hp => (e p hp).symm.trans (h p hp), hb⟩
  · rintro ⟨h, hb⟩
    exact ⟨fun p hp => (e p hp).trans (h p hp), hb⟩
theorem SB.load {ps : List (Nat × Value)} {bs : List (Nat × Array Value × TypeId)} {a : Act} {u : World} (h : SB ps bs a u) {s b j : Nat} {cs : Array Value} {t : TypeId} {v : Value} (hp : (s, Value.pointer (some ⟨b, j, none⟩)) ∈ ps) (hq : (b, cs, t) ∈ bs) (hv : cs[j]? = some v) :
    a.tmps[s]?.getD undef = .pointer (some ⟨b, j, none⟩) ∧ u.cell? ⟨b, j, none⟩ = some v := ⟨by have := h.1 _ hp; simpa [Act.eval] using this, ((h.2 _ hq).cell j).trans hv⟩
end Go.Proofs.YtdkaacjeogifdaaGreat.Rc

/-
  The sectors of a block, handed on one by one.
-/
namespace Go.Proofs.YtdkaacjeogifdaaGreat.Rc
open Go.RowKit Go.Shelf
attribute [local go_sem] Oper.semAt_some

/-- what comes in round x: a sector with no room behind it -/
def encS (g o : Nat) (x : Fin 8) : Array Value := #[.slice (some ⟨g, o + x.val * 512, none⟩) 512 512]
/-- the first k sectors -/
def firsts (k : Nat) : List (Fin 8) := (List.finRange 8).take k
theorem firsts_succ (k : Nat) (h : k < 8) : firsts (k + 1) = firsts k ++ [⟨k, h⟩] := by
  unfold firsts
  rw [List.take_add_one, List.getElem?_eq_getElem (by simpa using h)]
  simp
theorem firsts_length (k : Nat) (h : k ≤ 8) : (firsts k).length = k := by simp [firsts]; omega
theorem firsts_all : firsts 8 = List.finRange 8 := by unfold firsts; exact List.take_of_length_le (by simp)

/-- one cell is as it was -/
def CellK (B : Nat) (A C : World) : Prop := C.cell? ⟨B, 0, none⟩ = A.cell? ⟨B, 0, none⟩
theorem cellK_t {B : Nat} {X Y Z : World} (h : CellK B X Y) (k : CellK B Y Z) : CellK B X Z := k.trans h
theorem cellK_b {B : Nat} {w : World} (hB : B < w.heap.size) (W : World) (l : Nat) (o o' : Obj) (hl : w.heap.size ≤ l) (_ : W.heap[l]? = some o) (_ : o.isCells = false) (_ : o.isWalk = false) : CellK B W (W.putObj l o') :=
  World.cell?_of_block (a := ⟨B, 0, none⟩) (World.putObj_heap_other (by show B ≠ l; omega))

end Go.Proofs.YtdkaacjeogifdaaGreat.Rc

/-
  Plain facts on bytes: a number in bytes, the highest first, and back; nothing of the program is named here.
-/
namespace Go.Proofs.YtdkaacjeogifdaaGreat.Rc
open Go.RowKit

/-- The number that bytes say, the highest first. -/
def beNat (l : List UInt8) : Nat := l.foldl (fun v c => v * 256 + c.toNat) 0

/-- The lowest n bytes of v, the highest first. -/
def toBE : Nat → Nat → List UInt8
  | 0, _ => []
  | n + 1, v => toBE n (v / 256) ++ [UInt8.ofNat v]

theorem beNat_nil : beNat [] = 0 := rfl
theorem beNat_snoc (l : List UInt8) (c : UInt8) : beNat (l ++ [c]) = beNat l * 256 + c.toNat := by
  simp [beNat, List.foldl_append]

theorem beNat_lt_aux : ∀ (n : Nat) (l : List UInt8), l.length = n → beNat l < 256 ^ n
  | 0, l, h => by
    obtain rfl : l = [] := List.eq_nil_of_length_eq_zero h
    simp [beNat]
  | n + 1, l, h => by
    have hne : l ≠ [] := by intro e; simp [e] at h
    obtain ⟨l', c, rfl⟩ : ∃ l' c, l = l' ++ [c] := ⟨l.dropLast, l.getLast hne, (List.dropLast_concat_getLast hne).symm⟩
    have hl : l'.length = n := by simpa using h
    have ih := beNat_lt_aux n l' hl
    have hc := u8_lt c
    rw [beNat_snoc, Nat.pow_succ]
    omega

theorem beNat_lt (l : List UInt8) : beNat l < 256 ^ l.length := beNat_lt_aux _ l rfl

theorem beNat_take_lt (l : List UInt8) (j : Nat) (hj : j ≤ 8) : beNat (l.take j) < 18446744073709551616 := by
  have h := beNat_lt (l.take j)
  have h2 : 256 ^ (l.take j).length ≤ 256 ^ 8 := Nat.pow_le_pow_right (by omega) (by have := List.length_take_le j l; omega)
  have h3 : 256 ^ 8 = 18446744073709551616 := by decide
  omega

theorem beNat_take_lt7 (l : List UInt8) (j : Nat) (hj : j ≤ 7) : beNat (l.take j) < 72057594037927936 := by
  have h := beNat_lt (l.take j)
  have h2 : 256 ^ (l.take j).length ≤ 256 ^ 7 := Nat.pow_le_pow_right (by omega) (by have := List.length_take_le j l; omega)
  have h3 : 256 ^ 7 = 72057594037927936 := by decide
  omega

theorem toBE_length : ∀ (n v : Nat), (toBE n v).length = n
  | 0, _ => rfl
  | n + 1, v => by simp [toBE, toBE_length n]

theorem beNat_toBE : ∀ (n v : Nat), beNat (toBE n v) = v % 256 ^ n
  | 0, v => by simp [toBE, beNat, Nat.mod_one]
  | n + 1, v => by
    rw [toBE, beNat_snoc, beNat_toBE n, ofNat_toNat, Nat.pow_succ, Nat.mul_comm (256 ^ n) 256, Nat.mod_mul]
    omega

theorem toBE_cons : ∀ (n v : Nat), toBE (n + 1) v = UInt8.ofNat (v / 256 ^ n) :: toBE n v
  | 0, v => by simp [toBE]
  | n + 1, v => by
    rw [toBE, toBE_cons n]
    have e : v / 256 / 256 ^ n = v / 256 ^ (n + 1) := by rw [Nat.div_div_eq_div_mul, Nat.pow_succ, Nat.mul_comm]
    rw [e]
    rfl

theorem toBE_beNat_aux : ∀ (n : Nat) (l : List UInt8), l.length = n → toBE n (beNat l) = l
  | 0, l, h => by
    obtain rfl : l = [] := List.eq_nil_of_length_eq_zero h
    rfl
  | n + 1, l, h => by
    have hne : l ≠ [] := by intro e; simp [e] at h
    obtain ⟨l', c, rfl⟩ : ∃ l' c, l = l' ++ [c] := ⟨l.dropLast, l.getLast hne, (List.dropLast_concat_getLast hne).symm⟩
    have hl : l'.length = n := by simpa using h
    have hc := u8_lt c
    rw [beNat_snoc, toBE, show (beNat l' * 256 + c.toNat) / 256 = beNat l' by omega, toBE_beNat_aux n l' hl]
    congr 1
    congr 1
    apply UInt8.toNat_inj.1
    rw [ofNat_toNat]
    omega

theorem toBE_beNat (l : List UInt8) : toBE l.length (beNat l) = l := toBE_beNat_aux _ l rfl

theorem toBE_mod (n v : Nat) : toBE n (v % 256 ^ n) = toBE n v := by
  have h := toBE_beNat (toBE n v)
  rw [toBE_length, beNat_toBE] at h
  exact h

/-- The window of j bytes from k on, one byte longer. -/
theorem window_succ (xs : List UInt8) (k j : Nat) (h : k + j < xs.length) : (xs.drop k).take (j + 1) = (xs.drop k).take j ++ [xs[k + j]] := by
  rw [List.take_succ_eq_append_getElem (by simp; omega)]
  simp

theorem be_window_succ (xs : List UInt8) (k j : Nat) (h : k + j < xs.length) : beNat ((xs.drop k).take (j + 1)) = beNat ((xs.drop k).take j) * 256 + xs[k + j].toNat := by
  rw [window_succ xs k j h, beNat_snoc]

/-- One more byte, as Go puts it: a shift by eight and an or. -/
theorem or_step (a c : Nat) (ha : a < 72057594037927936) (hc : c < 256) : bits .or .u64 (IntKind.u64.wrap ((a : Int) * 256)) (IntKind.u64.wrap (c : Int)) = ((a * 256 + c : Nat) : Int) := by
  have e1 : IntKind.u64.wrap ((a : Int) * 256) = (a : Int) * 256 := by rw [IntKind.wrap_u64]; omega
  have e2 : IntKind.u64.wrap (c : Int) = (c : Int) := by rw [IntKind.wrap_u64]; omega
  rw [e1, e2, bits_join .u64 64 (by decide) (fun n h0 h1 => by rw [IntKind.wrap_u64]; omega) 8 ((a : Int) * 256) (c : Int) (by omega) (by omega) (by omega) (by omega) (by omega) (by omega)]
  omega

/-- What put has laid behind j rounds: the last j bytes of the window. -/
def putAt (ys : List UInt8) (off n j v : Nat) : List UInt8 := ys.take (off + n - j) ++ (toBE j v ++ ys.drop (off + n))

theorem putAt_zero (ys : List UInt8) (off n v : Nat) : putAt ys off n 0 v = ys := by simp [putAt, toBE]
theorem putAt_length (ys : List UInt8) (off n j v : Nat) (h : off + n ≤ ys.length) (hj : j ≤ n) : (putAt ys off n j v).length = ys.length := by
  simp [putAt, toBE_length]; omega
theorem putAt_succ (ys : List UInt8) (off n j v : Nat) (h : off + n ≤ ys.length) (hj : j < n) :
    (putAt ys off n j v).set (off + (n - 1 - j)) (UInt8.ofNat (v / 256 ^ j)) = putAt ys off n (j + 1) v := by
  unfold putAt
  rw [toBE_cons, show off + n - j = (off + (n - 1 - j)) + 1 by omega, show off + n - (j + 1) = off + (n - 1 - j) by omega]
  rw [List.take_succ_eq_append_getElem (by omega), List.append_assoc]
  rw [List.set_append_right _ _ (by simp; omega)]
  simp [List.length_take]
  rw [show min (off + (n - 1 - j)) ys.length = off + (n - 1 - j) by omega]
  simp

/-- A byte of a shifted number. -/
theorem shr_byte (v j : Nat) : IntKind.u8.wrap ((v : Int) / 2 ^ (8 * j)) = ((UInt8.ofNat (v / 256 ^ j)).toNat : Int) := by
  rw [IntKind.wrap_u8, ofNat_toNat]
  have e : ((2 : Int) ^ (8 * j)) = ((256 ^ j : Nat) : Int) := by
    rw [Int.pow_mul]; simp
  rw [e]
  omega



end Go.Proofs.YtdkaacjeogifdaaGreat.Rc

/-
  What the calls of octets do: numbers that are read and that are put.
-/
namespace Go.Proofs.YtdkaacjeogifdaaGreat.Rc
open Go.RowKit

/-- copy of bytes onto a row of one's own. -/
theorem copy_run (g off dLen dCap : Nat) (d a : Option Addr) (cap : Nat) (xs ys : List UInt8) (u : World) (hg : Own u g ys) (hr : Rd u a xs) (hd : 0 < xs.length → d = some ⟨g, off, none⟩) (hl : xs.length ≤ dLen) (hfit : off + xs.length ≤ ys.length) :
    ∃ W, (∀ ty, (Builtin.copy_ #[22, 22] ty #[.slice d dLen dCap, .slice a xs.length cap]).run Tryz.prog u = .ok (goInt xs.length) W) ∧ Own W g (ys.take off ++ (xs ++ ys.drop (off + xs.length))) ∧ u.grownBy W (some g) := by
  by_cases h0 : xs.length = 0
  · obtain rfl : xs = [] := List.eq_nil_of_length_eq_zero h0
    refine ⟨u, fun ty => ?_, by simpa using hg, World.grownBy.refl _ _⟩
    have h := run_copy_none (P := Tryz.prog) u 22 22 ty 5 d a dLen dCap 0 cap Tryz.underlying22 size5 (by simp)
    exact h
  · obtain ⟨b, o, rfl, hc⟩ := hr (by omega)
    obtain rfl := hd (by omega)
    refine ⟨u.setRow g ((bcs ys).take off ++ bcs xs ++ (bcs ys).drop (off + (bcs xs).length)).toArray, fun ty => ?_, ?_, grown_setRow _ _ _⟩
    · have h := run_copy_row (P := Tryz.prog) u 22 22 ty 5 g off dLen dCap ⟨b, o, none⟩ xs.length cap (bcs ys).toArray 5 (bcs xs) Tryz.underlying22 size5 hg (by rw [bcs_length]; exact (Nat.min_eq_left hl).symm) (fun j v hj => by
          have hj' : j < xs.length := by have := (List.getElem?_eq_some_iff.1 hj).1; simpa [bcs_length] using this
          rw [bcs_getElem? xs j hj'] at hj
          rw [Addr.add_lit, hc j hj']
          exact hj) (by simpa [bcs_length] using hfit) (bcs_oneCell xs)
      rw [h, bcs_length]
    · unfold Own
      rw [setRow_heap u g _ _ 5 _ hg]
      simp [bcs]

set_option maxHeartbeats 400000 in
theorem longer_any (a : Option Addr) (cap more : Nat) (xs : List UInt8) (w : World) (hr : Rd w a xs) (hm : xs.length + more ≤ 281474976710656) :
    Calls Tryz.prog 92 #[.slice a xs.length cap, .int .i64 more] w fun e w' => e = .returned (.slice (some ⟨w.heap.size, 0, none⟩) (xs.length + more) (xs.length + more)) ∧ Own w' w.heap.size (xs ++ List.replicate more 0) ∧ Below w.heap.size w w' := by
  obtain ⟨i0, hi, hz0, hz1, hz2⟩ := info_parts info5
  have hmk : ∀ u : World, (Instr.makeSlice 22 (.int .i64 ((xs.length : Int) + (more : Int))) (.int .i64 ((xs.length : Int) + (more : Int)))).run Tryz.prog u =
      .ok (.slice (some ⟨u.heap.size, 0, none⟩) (xs.length + more) (xs.length + more)) (u.alloc (.cells (madeCells #[.int .u8 0] (xs.length + more)) 5)) := fun u => by
    have h := run_make (P := Tryz.prog) u 22 5 i0 (.int .u8 0) Tryz.underlying22 hi hz0 .i64 .i64 ((xs.length : Int) + (more : Int)) ((xs.length : Int) + (more : Int)) (by omega) (Int.le_refl _) (by rw [hz2]; omega) (by omega)
    have e : ((xs.length : Int) + (more : Int)).toNat = xs.length + more := by omega
    rw [e] at h
    simpa [hz1, Value.cells] using h
  have hb0 : Below w.heap.size w (w.alloc (.cells (madeCells #[.int .u8 0] (xs.length + more)) 5)) := (Below.refl _ _).alloc (Nat.le_refl _) _
  have ho : Own (w.alloc (.cells (madeCells #[.int .u8 0] (xs.length + more)) 5)) w.heap.size (List.replicate (xs.length + more) 0) := by
    rw [made_zero]; exact heap_alloc_new w _
  obtain ⟨W, hcp, hoW, hgW⟩ := copy_run w.heap.size 0 (xs.length + more) (xs.length + more) (some ⟨w.heap.size, 0, none⟩) a cap xs _ _ ho (hr.below hb0 (Nat.le_refl _)) (fun _ => rfl) (by omega) (by simp)
  have hbW : Below w.heap.size w W := hb0.grown hgW (by simp) (fun k hk => by simp at hk; omega)
  have hres : Own W w.heap.size (xs ++ List.replicate more 0) := by
    have e : (List.replicate (xs.length + more) (0 : UInt8)).drop (0 + xs.length) = List.replicate more 0 := by simp
    rw [e] at hoW
    simpa using hoW
  clear hb0 ho hoW hgW hr
  go_enter Tryz.func92, Tryz.ntmps92
  go_wp2
  go_ret
  exact ⟨rfl, hres, hbW⟩

/-- The number of so many bytes from a place on, if all are there. -/
def numAt (xs : List UInt8) (i : Int) (size : Nat) : Option Nat := if 0 ≤ i ∧ i + size ≤ xs.length then some (beNat ((xs.drop i.toNat).take size)) else none

theorem numAt_none {xs : List UInt8} {i : Int} {size : Nat} (h : ¬ (0 ≤ i ∧ i + size ≤ xs.length)) : numAt xs i size = none := by unfold numAt; rw [if_neg h]
theorem numAt_some {xs : List UInt8} {k size : Nat} (h : k + size ≤ xs.length) : numAt xs k size = some (beNat ((xs.drop k).take size)) := by unfold numAt; rw [if_pos (by omega)]; simp
theorem numAt_lt (xs : List UInt8) (i : Int) (size : Nat) : (numAt xs i size).getD 0 < 256 ^ size := by
  unfold numAt
  split
  · have h := beNat_lt ((xs.drop i.toNat).take size)
    have h2 : 256 ^ ((xs.drop i.toNat).take size).length ≤ 256 ^ size := Nat.pow_le_pow_right (by omega) (List.length_take_le _ _)
    simp only [Option.getD_some]
    omega
  · simpa using Nat.pow_pos (by omega)

theorem number_out (a : Option Addr) (n cap : Nat) (i : Int) (size : Nat) (w : World) (hs : size ≤ 8) (hn : n ≤ 9223372036854775807) (h : i < 0 ∨ (n : Int) - size < i) :
    Calls Tryz.prog 68 #[.slice a n cap, .int .i64 i, .int .i64 size] w fun e w' => e = .returned (.tuple #[.int .u64 0, .bool false]) ∧ w = w' := by
  by_cases h1 : i < 0
  · go_enter Tryz.func68, Tryz.ntmps68
    go_wp2
    go_ret2
    exact ⟨rfl, rfl⟩
  · have h2 : (n : Int) - size < i := by omega
    go_enter Tryz.func68, Tryz.ntmps68
    go_wp2
    go_ret2
    exact ⟨rfl, rfl⟩

theorem number_in (b off cap : Nat) (xs : List UInt8) (k size : Nat) (w : World) (hs : size ≤ 8) (hn : xs.length ≤ 9223372036854775807)
    (hc : ∀ j (h : j < xs.length), w.cell? ⟨b, off + j, none⟩ = some (.int .u8 (xs[j].toNat : Int))) (h : k + size ≤ xs.length) :
    Calls Tryz.prog 68 #[.slice (some ⟨b, off, none⟩) xs.length cap, .int .i64 k, .int .i64 size] w fun e w' => e = .returned (.tuple #[.int .u64 (beNat ((xs.drop k).take size)), .bool true]) ∧ w = w' := by
  go_enter Tryz.func68, Tryz.ntmps68
  go_wp2
  go_loop [8, 21] (fun v i => ∃ j : Nat, j ≤ size ∧ i = .int .i64 j ∧ v = .int .u64 (beNat ((xs.drop k).take j))) (fun _ i => size - (intOf i).toNat)
  case atStart => exact ⟨0, Nat.zero_le _, rfl, rfl⟩
  case round =>
    obtain ⟨j, hj, rfl, rfl⟩ := hrel
    by_cases hlt : j < size
    · have hcc := hc (k + j) (by omega)
      go_wp2
      go_round
      case rel => exact ⟨j + 1, by omega, by go_num, by rw [or_step _ _ (beNat_take_lt7 _ _ (by omega)) (u8_lt _), be_window_succ xs k j (by omega)]⟩
      case measure => simp [intOf]; omega
    · obtain rfl : j = size := by omega
      go_wp2
      go_ret2
      exact ⟨rfl, rfl⟩

theorem number_any (a : Option Addr) (cap : Nat) (xs : List UInt8) (i : Int) (size : Nat) (w : World) (hs0 : 0 < size) (hs : size ≤ 8) (hn : xs.length ≤ 9223372036854775807) (hr : Rd w a xs) :
    Calls Tryz.prog 68 #[.slice a xs.length cap, .int .i64 i, .int .i64 size] w fun e w' => e = .returned (.tuple #[.int .u64 ((numAt xs i size).getD 0 : Nat), .bool (numAt xs i size).isSome]) ∧ w = w' := by
  by_cases h : 0 ≤ i ∧ i + size ≤ xs.length
  · obtain ⟨k, rfl⟩ := Int.eq_ofNat_of_zero_le h.1
    have hk : k + size ≤ xs.length := by omega
    obtain ⟨b, o, rfl, hc⟩ := hr (by omega)
    rw [numAt_some hk]
    exact number_in b o cap xs k size w hs hn hc hk
  · rw [numAt_none h]
    exact number_out a xs.length cap i size w hs hn (by omega)

theorem wrap_u8_in (n : Nat) (h : n < 256) : IntKind.u8.wrap (n : Int) = n := by rw [IntKind.wrap_u8]; omega
theorem wrap_u16_in (n : Nat) (h : n < 65536) : IntKind.u16.wrap (n : Int) = n := by simp [IntKind.wrap, IntKind.bits, IntKind.signed]; omega
theorem wrap_u32_in (n : Nat) (h : n < 4294967296) : IntKind.u32.wrap (n : Int) = n := by rw [IntKind.wrap_u32]; omega

theorem u64_any (a : Option Addr) (cap : Nat) (xs : List UInt8) (i : Int) (w : World) (hn : xs.length ≤ 9223372036854775807) (hr : Rd w a xs) :
    Calls Tryz.prog 52 #[.slice a xs.length cap, .int .i64 i] w fun e w' => e = .returned (.tuple #[.int .u64 ((numAt xs i 8).getD 0 : Nat), .bool (numAt xs i 8).isSome]) ∧ w = w' := by
  go_enter Tryz.func52, Tryz.ntmps52
  go_wp2_with (go_at_call 68; refine (number_any a cap xs i 8 _ (by omega) (by omega) hn hr).mono ?_; rintro e w' ⟨rfl, rfl⟩)
  go_ret2
  exact ⟨rfl, rfl⟩

set_option maxHeartbeats 400000 in
theorem put_any (g off n cap : Nat) (ys : List UInt8) (v : Nat) (w : World) (_hv : v < 18446744073709551616) (h : off + n ≤ ys.length) (hn : n ≤ 8) (hg : Own w g ys) :
    Calls Tryz.prog 93 #[.slice (some ⟨g, off, none⟩) n cap, .int .u64 v] w fun e w' => e = .returned (.tuple #[]) ∧ Own w' g (putAt ys off n n v) ∧ w.grownBy w' (some g) := by
  go_enter Tryz.func93, Tryz.ntmps93
  go_wp2
  go_loopw [7] (fun i wr => ∃ j : Nat, j ≤ n ∧ i = .int .i64 j ∧ Own wr g (putAt ys off n j v) ∧ w.grownBy wr (some g)) (fun i _ => n - (intOf i).toNat)
  case atStart => exact ⟨0, Nat.zero_le _, rfl, by rw [putAt_zero]; exact hg, World.grownBy.refl _ _⟩
  case round =>
    obtain ⟨j, hj, rfl, ho, hb⟩ := hrel
    by_cases hlt : j < n
    · have hf := ho.frozen (off + (n - 1 - j))
      have hcl := ho.cell (off + (n - 1 - j)) (by rw [putAt_length _ _ _ _ _ h hj]; omega)
      have hst := ho.store (off + (n - 1 - j)) (UInt8.ofNat (v / 256 ^ j))
      rw [putAt_succ ys off n j v h hlt, ← shr_byte, IntKind.wrap_u8] at hst
      have hgr := grown_trans hb (grown_store wr g (off + (n - 1 - j)) (.int .u8 ((v : Int) / 2 ^ (8 * j) % 256)))
      go_wp2
      go_roundw
      case rel => exact ⟨j + 1, by omega, by go_num, hst, hgr⟩
      case measure => simp [intOf]; omega
    · obtain rfl : j = n := by omega
      go_wp2
      go_end0
      exact ⟨rfl, ho, hb⟩

theorem putAt_behind (xs zs : List UInt8) (n v : Nat) (hz : zs.length = n) : putAt (xs ++ zs) xs.length n n v = xs ++ toBE n v := by
  unfold putAt
  rw [show xs.length + n - n = xs.length by omega, List.take_left, List.drop_eq_nil_of_le (by simp; omega), List.append_nil]

set_option maxHeartbeats 400000 in
theorem addNumber_any (a : Option Addr) (cap : Nat) (xs : List UInt8) (v n : Nat) (w : World) (hv : v < 18446744073709551616) (hn0 : 0 < n) (hn : n ≤ 8) (hm : xs.length + n ≤ 281474976710656) (hr : Rd w a xs) :
    Calls Tryz.prog 86 #[.slice a xs.length cap, .int .u64 v, .int .i64 n] w fun e w' => e = .returned (.slice (some ⟨w.heap.size, 0, none⟩) (xs.length + n) (xs.length + n)) ∧ Own w' w.heap.size (xs ++ toBE n v) ∧ Below w.heap.size w w' := by
  have hsz : ¬ xs.length + n = xs.length := by omega
  go_enter Tryz.func86, Tryz.ntmps86
  go_wp2_with (go_at_call 92; refine (longer_any a cap n xs _ hr hm).mono ?_; rintro e w1 ⟨rfl, ho, hb⟩)
  refine (put_any w.heap.size xs.length n n (xs ++ List.replicate n 0) v w1 hv (by simp) hn ho).mono ?_
  rintro e w2 ⟨rfl, ho2, hg2⟩
  have hb2 : Below w.heap.size w w2 := hb.grown hg2 hb.size (fun k hk => by simp at hk; omega)
  rw [putAt_behind xs _ n v (by simp)] at ho2
  clear ho hb hg2 hr
  go_wp2
  go_ret
  exact ⟨rfl, ho2, hb2⟩

theorem add32_any (a : Option Addr) (cap : Nat) (xs : List UInt8) (v : Nat) (w : World) (hv : v < 4294967296) (hm : xs.length + 4 ≤ 281474976710656) (hr : Rd w a xs) :
    Calls Tryz.prog 74 #[.slice a xs.length cap, .int .u32 v] w fun e w' => e = .returned (.slice (some ⟨w.heap.size, 0, none⟩) (xs.length + 4) (xs.length + 4)) ∧ Own w' w.heap.size (xs ++ toBE 4 v) ∧ Below w.heap.size w w' := by
  go_enter Tryz.func74, Tryz.ntmps74
  go_wp2_with (go_at_call 86; refine (addNumber_any a cap xs v 4 _ (by omega) (by omega) (by omega) hm hr).mono ?_; rintro e w1 ⟨rfl, ho, hb⟩)
  go_ret
  exact ⟨rfl, ho, hb⟩

theorem add64_any (a : Option Addr) (cap : Nat) (xs : List UInt8) (v : Nat) (w : World) (hv : v < 18446744073709551616) (hm : xs.length + 8 ≤ 281474976710656) (hr : Rd w a xs) :
    Calls Tryz.prog 73 #[.slice a xs.length cap, .int .u64 v] w fun e w' => e = .returned (.slice (some ⟨w.heap.size, 0, none⟩) (xs.length + 8) (xs.length + 8)) ∧ Own w' w.heap.size (xs ++ toBE 8 v) ∧ Below w.heap.size w w' := by
  go_enter Tryz.func73, Tryz.ntmps73
  go_wp2_with (go_at_call 86; refine (addNumber_any a cap xs v 8 _ (by omega) (by omega) (by omega) hm hr).mono ?_; rintro e w1 ⟨rfl, ho, hb⟩)
  go_ret
  exact ⟨rfl, ho, hb⟩

theorem add32_at (g cap n : Nat) (a : Option Addr) (xs : List UInt8) (v : Nat) (V : Int) (w : World) (hV : V = (v : Int)) (hg : w.heap.size = g) (hn : xs.length = n) (hv : v < 4294967296) (hm : n + 4 ≤ 281474976710656) (hr : Rd w a xs) :
    Calls Tryz.prog 74 #[.slice a n cap, .int .u32 V] w fun e w' => e = .returned (.slice (some ⟨g, 0, none⟩) (n + 4) (n + 4)) ∧ Own w' g (xs ++ toBE 4 v) ∧ Below g w w' := by
  subst hn hg hV; exact add32_any a cap xs v w hv hm hr
theorem add64_at (g cap n : Nat) (a : Option Addr) (xs : List UInt8) (v : Nat) (V : Int) (w : World) (hV : V = (v : Int)) (hg : w.heap.size = g) (hn : xs.length = n) (hv : v < 18446744073709551616) (hm : n + 8 ≤ 281474976710656) (hr : Rd w a xs) :
    Calls Tryz.prog 73 #[.slice a n cap, .int .u64 V] w fun e w' => e = .returned (.slice (some ⟨g, 0, none⟩) (n + 8) (n + 8)) ∧ Own w' g (xs ++ toBE 8 v) ∧ Below g w w' := by
  subst hn hg hV; exact add64_any a cap xs v w hv hm hr
theorem u64_at (cap n : Nat) (a : Option Addr) (xs : List UInt8) (i : Int) (v : Nat) (V : Int) (w : World) (hV : (v : Int) = V) (hn : xs.length = n) (hm : n ≤ 9223372036854775807) (hr : Rd w a xs) (hv : numAt xs i 8 = some v) :
    Calls Tryz.prog 52 #[.slice a n cap, .int .i64 i] w fun e w' => e = .returned (.tuple #[.int .u64 V, .bool true]) ∧ w = w' := by
  subst hn hV; have h := u64_any a cap xs i w hm hr; rw [hv] at h; exact h
theorem wrap16 (x : Int) : IntKind.u16.wrap x = x % 65536 := by simp [IntKind.wrap, IntKind.bits, IntKind.signed]

theorem numAt_put (pre post : List UInt8) (k v : Nat) (i : Int) (hi : i = (pre.length : Int)) : numAt (pre ++ (toBE k v ++ post)) i k = some (v % 256 ^ k) := by
  subst hi
  rw [numAt_some (by simp [toBE_length])]
  rw [List.drop_left, List.take_append_of_le_length (by simp [toBE_length]), List.take_of_length_le (by simp [toBE_length]), beNat_toBE]

/-- the head of a row of one's own -/
theorem Own.rd_head {w : World} {g : Nat} {xs post : List UInt8} (h : Own w g (xs ++ post)) : Rd w (some ⟨g, 0, none⟩) xs := fun _ => ⟨g, 0, rfl, fun j hj => by
  rw [Nat.zero_add, h.cell j (by simp; omega), List.getElem_append_left hj]⟩

end Go.Proofs.YtdkaacjeogifdaaGreat.Rc

/-
  record's little calls: within, rightStamp, Blocks, stamp, unstamp; bytes.Clone, Equal, HasPrefix.
-/
namespace Go.Proofs.YtdkaacjeogifdaaGreat.Rc
open Go.RowKit

/-- a right stamp's numbers -/
def okStamp (e s : Int) : Bool := (decide (1 ≤ e) && decide (e ≤ 8388608)) && (decide (1 ≤ s) && decide (s ≤ 549755813888))
theorem okStamp_iff (e s : Int) : okStamp e s = true ↔ (1 ≤ e ∧ e ≤ 8388608) ∧ 1 ≤ s ∧ s ≤ 549755813888 := by simp [okStamp]

/-- how many blocks -/
def blocksN (n : Int) : Int := if 1 ≤ n ∧ n ≤ 32 then n + 1 else 0
/-- the stamp -/
def stampN (e s : Nat) : Nat := 1099511627776 * e + s
def mark (e s : Nat) : List UInt8 := toBE 8 (stampN e s)
theorem mark_length (e s : Nat) : (mark e s).length = 8 := toBE_length _ _

theorem stamp_or (e s : Nat) (he : e ≤ 8388608) (hs : s < 1099511627776) : bits .or .u64 ((e : Int) * 1099511627776) (s : Int) = ((stampN e s : Nat) : Int) := by
  rw [bits_join .u64 64 (by decide) (fun n h0 h1 => by rw [IntKind.wrap_u64]; omega) 40 ((e : Int) * 1099511627776) (s : Int) (by omega) (by omega) (by omega) (by omega) (by omega) (by omega)]
  unfold stampN
  omega

theorem equal_at (ca cb n m : Nat) (a b : Option Addr) (xs ys : List UInt8) (w : World) (hn : xs.length = n) (hm : ys.length = m) (ha : Rd w a xs) (hb : Rd w b ys) :
    Calls Tryz.prog 84 #[.slice a n ca, .slice b m cb] w fun e w' => e = .returned (.bool (xs == ys)) ∧ w = w' := by
  subst hn hm
  have h1 := conv_run w a ca xs ha
  have h2 := conv_run w b cb ys hb
  go_enter Tryz.func84, Tryz.ntmps84
  go_wp2
  go_ret
  exact ⟨rfl, rfl⟩

/-- of a sector, and of eight bytes -/
theorem prefix_at (ca cb g o : Nat) (b : Option Addr) (xs ys : List UInt8) (w : World) (hn : xs.length = 512) (hm : ys.length = 8) (hca : 512 ≤ ca) (ha : Rd w (some ⟨g, o, none⟩) xs) (hb : Rd w b ys) :
    Calls Tryz.prog 71 #[.slice (some ⟨g, o, none⟩) 512 ca, .slice b 8 cb] w fun e w' => e = .returned (.bool (xs.take 8 == ys)) ∧ w = w' := by
  have hr : Rd w (some ⟨g, o, none⟩) (xs.take 8) := by
    have := ha.part 0 8
    simpa using this
  have c := equal_at ca cb 8 8 _ _ (xs.take 8) ys w (by simp; omega) hm hr hb
  have hca2 : 8 ≤ ca := by omega
  generalize (xs.take 8 == ys) = q at c ⊢
  go_enter Tryz.func71, Tryz.ntmps71
  go_wp2_with fail
  refine c.mono ?_
  rintro e w' ⟨rfl, rfl⟩
  go_wp2
  go_ret
  exact ⟨by simp, rfl⟩

set_option maxRecDepth 100000 in
/-- bytes.Clone of some bytes -/
theorem clone_at (cap n g o : Nat) (xs : List UInt8) (w : World) (hl : xs.length = n) (h0 : 0 < n) (hn : n ≤ 140737488355328) (hr : Rd w (some ⟨g, o, none⟩) xs) :
    Calls Tryz.prog 46 #[.slice (some ⟨g, o, none⟩) n cap] w fun e w' => ∃ h c, e = .returned (.slice (some ⟨h, 0, none⟩) n c) ∧ w.heap.size ≤ h ∧ RowB w' h c xs ∧ Below w.heap.size w w' := by
  obtain ⟨i0, hi, hz0, hz1, hz2⟩ := info_parts info5
  have hm : n ≤ maxLen := by unfold maxLen; omega
  have hq : ∀ u : World, (binOp .eql 22 (.slice (some ⟨g, o, none⟩) n cap) (.slice none 0 0)).run Tryz.prog u = .ok (.bool false) u := fun u => Lib.run_eql_slice_nil u 22 5 (some ⟨g, o, none⟩) n cap 0 0 Tryz.underlying22
  have o1 : (w.alloc (.cells #[] 5)).ownsRow w.heap.size 5 1 (.slice (some ⟨w.heap.size, 0, none⟩) 0 0) 0 [] := ⟨rfl, .inr ⟨w.heap.size, 0, #[], rfl, Nat.le_refl _, heap_alloc_new w _, Nat.le_refl _, by simp [maxLen], rfl, rfl⟩⟩
  have hr1 := hr.below ((Below.refl w.heap.size w).alloc (Nat.le_refl _) (.cells #[] 5)) (Nat.le_refl _)
  have B1 := (Below.refl w.heap.size w).alloc (Nat.le_refl _) (.cells #[] 5)
  go_enter Tryz.func46, Tryz.ntmps46
  go_wp2_with (at_builtin; refine wpList_append_bytes rfl _ _ rfl w.heap.size _ 0 [] rfl o1 (some ⟨g, o, none⟩) n cap xs rfl hl hr1 (fun h => by cases h) (by omega) (by simp) ?_)
  intro v' w1 hown hgrow
  have hown1 : w1.ownsRow w.heap.size 5 1 v' n (bcs xs) := by simpa using hown
  have hb : Below w.heap.size w w1 := B1.grown hgrow (by simp) (fun k hk => by simp [Value.ownBlock] at hk; omega)
  obtain ⟨h, c, rfl, hh, hrow⟩ := RowB.owns hown1 h0
  clear hgrow hown hown1 o1 B1 hr1
  go_wp2
  go_ret
  exact ⟨h, c, rfl, hh, hrow, hb⟩

end Go.Proofs.YtdkaacjeogifdaaGreat.Rc

/-
  Stamped.
-/
namespace Go.Proofs.YtdkaacjeogifdaaGreat.Rc
open Go.RowKit Go.Shelf
attribute [local go_sem] Oper.semAt_some

/-! ### what abides the book-keeping of a range over a function -/
theorem Box.kept {A B : World} {row : Option Nat} {g : Nat} {cs : Array Value} {t : TypeId} (h : Box A g cs t) (hg : A.grownBy B row) (hr : ∀ r, row = some r → ∃ o : Obj, A.heap[r]? = some o ∧ o.isCells = false) : Box B g cs t := (grownBy_keeps_cells hg hr h rfl).trans h
theorem RowB.kept {A B : World} {row : Option Nat} {g cap : Nat} {ys : List UInt8} (h : RowB A g cap ys) (hg : A.grownBy B row) (hr : ∀ r, row = some r → ∃ o : Obj, A.heap[r]? = some o ∧ o.isCells = false) : RowB B g cap ys := by
  obtain ⟨cur, h, r⟩ := h
  exact ⟨cur, h.kept hg hr, r⟩
theorem owns_kept {A B : World} {row : Option Nat} {base e size : Nat} {v : Value} {n : Nat} {xs : List Value} (h : A.ownsRow base e size v n xs) (hg : A.grownBy B row) (hr : ∀ r, row = some r → ∃ o : Obj, A.heap[r]? = some o ∧ o.isCells = false) : B.ownsRow base e size v n xs := by
  refine ⟨h.1, ?_⟩
  rcases h.2 with h | ⟨g, cap, cur, e1, e2, e3, e4⟩
  · exact .inl h
  · exact .inr ⟨g, cap, cur, e1, e2, (grownBy_keeps_cells hg hr e3 rfl).trans e3, e4⟩
theorem keeps_grown {A B : World} {g : Nat} {cs : Array Value} {t : TypeId} (h : Box A g cs t) (hg : A.grownBy B (some g)) : KeepsOthers A B :=
  ⟨hg.size, fun k o hk ho => (hg.block k (Array.getElem?_eq_some_iff.1 hk).1 (fun e => by
    cases e
    rw [show A.heap[g]? = _ from h] at hk
    cases hk
    cases ho)).trans hk⟩

theorem sec_part {w : World} {g o : Nat} {xs : List UInt8} (h : Rd w (some ⟨g, o, none⟩) xs) (x : Fin 8) : Rd w (some ⟨g, o + x.val * 512, none⟩) (sec xs x.val) := h.part (x.val * 512) 512

/-- does each sector begin with these bytes? -/
def allMarked (xs m : List UInt8) : Bool := (List.finRange 8).all fun x => (sec xs x.val).take 8 == m
def stampedB (xs : List UInt8) (e s : Int) : Bool := decide (xs.length = 4096) && (okStamp e s && allMarked xs (mark e.toNat s.toNat))

end Go.Proofs.YtdkaacjeogifdaaGreat.Rc

/-
  hide: what it does to memory.
-/
namespace Go.Proofs.YtdkaacjeogifdaaGreat.Rc
open Go.RowKit Go.Shelf
attribute [local go_sem] Oper.semAt_some

/-- bytes behind a row of one's own, in a region that draws, whatever the frame -/
theorem wpIn_append_bytes {F : Fence} {n : Nat} {o : Oper} {a : Act} {w : World} {K : Act → World → Prop} {Q : Exit → Act → World → Prop} {ys : Nat → Option Bool} {Z : Prop} (hw : Region.wanted o ys = true) (s x : Operand)
    (ho : o.op = .call { callee := .builtin .append, args := #[s, x], argTypes := #[22, 22] })
    (base : Nat) (v : Value) (m : Nat) (xs : List Value) (hs : a.eval s = v) (hown : w.ownsRow base 5 1 v m xs)
    (g off k c : Nat) (zs : List UInt8) (hx : a.eval x = .slice (some ⟨g, off, none⟩) k c) (hl : zs.length = k) (hr : Rd w (some ⟨g, off, none⟩) zs) (hb : m + k ≤ 140737488355328) (hbase : base ≤ w.heap.size)
    (h : ∀ v' w', w'.ownsRow base 5 1 v' (m + k) (xs ++ bcs zs) → w.grownBy w' v.ownBlock → K (a.put o.dst v') w') : if Region.wanted o ys = true then Oper.wpIn F n Tryz.prog o a w K Q else Z := by
  obtain ⟨i0, hi, hz0, hz1, hz2⟩ := info_parts info5
  rw [if_pos hw]
  obtain ⟨v', w', hrun, r1, r2, r3⟩ := run_append_own (P := Tryz.prog) w base 22 o.type 5 i0 (.int .u8 0) 1 1 Tryz.underlying22 hi hz0 hz1 hz2 rfl (by decide) v m xs hown ⟨g, off, none⟩ k c (bcs zs) (by rw [bcs_length]; omega) (fun j u hj => by
      have hj' : j < zs.length := by have := (List.getElem?_eq_some_iff.1 hj).1; simpa [bcs_length] using this
      rw [bcs_getElem? zs j hj'] at hj
      obtain ⟨b, o', he, hc⟩ := hr (by omega)
      obtain ⟨rfl, rfl, _⟩ := Addr.mk.inj (Option.some.inj he)
      rw [Addr.add_lit, hc j hj']
      exact hj) (bcs_oneCell zs) (by unfold maxLen; omega) (by omega) hbase
  unfold Oper.wpIn
  refine ⟨?_, ?_⟩
  · simp [Oper.about, ho, resolve, Target.leads, Sem.run_pure]
  · rw [Oper.semAt_plain F _ _ (by rw [ho]; intro c hc'; cases hc')]
    simp [execOp, ho, resolve, invoke, builtin, hs, hx, hrun, Result.andThen]
    exact h _ _ r1 r2

/-- one sector's stamp laid, what it hides kept -/
def hideStep (M : List UInt8) (st : List UInt8 × List UInt8) (x : Fin 8) : List UInt8 × List UInt8 := (over st.1 (x.val * 512) M, st.2 ++ (sec st.1 x.val).take 8)
def hideTo (xs M : List UInt8) (pre : List (Fin 8)) : List UInt8 × List UInt8 := pre.foldl (hideStep M) (xs, [])
theorem hideTo_snoc (xs M : List UInt8) (pre : List (Fin 8)) (x : Fin 8) : hideTo xs M (pre ++ [x]) = hideStep M (hideTo xs M pre) x := by simp [hideTo]
theorem hideTo_length (xs M : List UInt8) (hl : xs.length = 4096) (hm : M.length = 8) (pre : List (Fin 8)) : (hideTo xs M pre).1.length = 4096 ∧ (hideTo xs M pre).2.length = pre.length * 8 := by
  unfold hideTo
  have : ∀ (pre : List (Fin 8)) (st : List UInt8 × List UInt8), st.1.length = 4096 → (pre.foldl (hideStep M) st).1.length = 4096 ∧ (pre.foldl (hideStep M) st).2.length = st.2.length + pre.length * 8 := by
    intro pre
    induction pre with
    | nil => intro st h; exact ⟨h, by simp⟩
    | cons x pre ih =>
      intro st h
      have hx := x.isLt
      rw [List.foldl_cons]
      have h1 : (hideStep M st x).1.length = 4096 := by unfold hideStep; rw [over_length _ _ _ (by rw [h, hm]; omega)]; exact h
      obtain ⟨q1, q2⟩ := ih _ h1
      refine ⟨q1, ?_⟩
      rw [q2]
      have h2 : (hideStep M st x).2.length = st.2.length + 8 := by unfold hideStep; simp [sec, h]; omega
      rw [h2, List.length_cons]
      omega
  obtain ⟨q1, q2⟩ := this pre (xs, []) hl
  exact ⟨q1, by rw [q2]; simp⟩

theorem rowB_store {w : World} {g cap b j : Nat} {ys : List UInt8} {cs : Array Value} {t : TypeId} (h : RowB w g cap ys) (hb : Box w b cs t) (ht : 5 ≠ t) (u : Value) : RowB (w.setCell ⟨b, j, none⟩ u) g cap ys := by
  obtain ⟨cur, hc, r⟩ := h
  exact ⟨cur, (heap_setCell_other w ⟨b, j, none⟩ g u (hc.ne hb ht)).trans hc, r⟩
theorem Box.grown {w w' : World} {g : Nat} {cs : Array Value} {t : TypeId} {row : Option Nat} (h : Box w g cs t) (hg : w.grownBy w' row) (hr : row ≠ some g) : Box w' g cs t := (hg.block g h.lt (fun e => hr e.symm)).trans h
theorem RowB.grown {w w' : World} {g cap : Nat} {ys : List UInt8} {row : Option Nat} (h : RowB w g cap ys) (hg : w.grownBy w' row) (hr : row ≠ some g) : RowB w' g cap ys := by
  obtain ⟨cur, h, r⟩ := h
  exact ⟨cur, h.grown hg hr, r⟩
theorem owns_grown {w w' : World} {base e size n : Nat} {v : Value} {xs : List Value} {row : Option Nat} (h : w.ownsRow base e size v n xs) (hg : w.grownBy w' row) (hr : ∀ g, v.ownBlock = some g → row ≠ some g) : w'.ownsRow base e size v n xs := by
  refine ⟨h.1, ?_⟩
  rcases h.2 with h | ⟨g, cap, cur, rfl, e2, e3, e4⟩
  · exact .inl h
  · exact .inr ⟨g, cap, cur, rfl, e2, (hg.block g (Array.getElem?_eq_some_iff.1 e3).1 (fun e => hr g rfl e.symm)).trans e3, e4⟩
/-- the block of a row of one's own, if it has one -/
theorem owns_block {w : World} {base e size n : Nat} {v : Value} {xs : List Value} (h : w.ownsRow base e size v n xs) (g : Nat) (hg : v.ownBlock = some g) : base ≤ g ∧ ∃ cur, Box w g cur e := by
  rcases h.2 with ⟨rfl, _⟩ | ⟨g', cap, cur, rfl, e2, e3, e4⟩
  · simp [Value.ownBlock] at hg
  · simp [Value.ownBlock] at hg
    subst hg
    exact ⟨e2, cur, e3⟩
theorem keeps_owns {w w' : World} {base e size n : Nat} {v : Value} {xs : List Value} (h : w.ownsRow base e size v n xs) (hg : w.grownBy w' v.ownBlock) : KeepsOthers w w' := by
  cases hb : v.ownBlock with
  | none =>
    rw [hb] at hg
    exact ⟨hg.size, fun k o hk _ => (hg.block k (Array.getElem?_eq_some_iff.1 hk).1 (by simp)).trans hk⟩
  | some g =>
    rw [hb] at hg
    obtain ⟨_, cur, hc⟩ := owns_block h g hb
    exact keeps_grown hc hg

theorem owns_shape {w : World} {base e size n : Nat} {v : Value} {xs : List Value} (h : w.ownsRow base e size v n xs) : ∃ a cap, v = .slice a n cap := by
  rcases h.2 with ⟨rfl, rfl⟩ | ⟨g, cap, cur, rfl, _⟩
  · exact ⟨none, 0, rfl⟩
  · exact ⟨_, cap, rfl⟩

/-- what stands in memory while the sectors come -/
def HideI (w : World) (h c gm k1 : Nat) (st : List UInt8 × List UInt8) (W : World) : Prop :=
  RowB W h c st.1 ∧ (∃ v, Box W (w.heap.size + 1) #[v] 22 ∧ W.ownsRow (k1 + 1) 5 1 v st.2.length (bcs st.2)) ∧ Box W w.heap.size #[.slice (some ⟨gm, 0, none⟩) 8 8] 22 ∧ k1 + 1 ≤ W.heap.size

/-- one round's work on memory -/
theorem hide_round (w W : World) (h c gm k1 : Nat) (xs M hd : List UInt8) (v : Value) (x : Fin 8) (hh : w.heap.size + 1 < h) (hk : h < k1) (hl : xs.length = 4096) (hm : M.length = 8) (hM : Rd w (some ⟨gm, 0, none⟩) M) (hB : Below w.heap.size w W)
    (hx : RowB W h c xs) (hv : Box W (w.heap.size + 1) #[v] 22) (hown : W.ownsRow (k1 + 1) 5 1 v hd.length (bcs hd)) (hmk : Box W w.heap.size #[.slice (some ⟨gm, 0, none⟩) 8 8] 22) (hsz : k1 + 1 ≤ W.heap.size)
    (v' : Value) (w2 : World) (hown2 : w2.ownsRow (k1 + 1) 5 1 v' (hd.length + 8) (bcs hd ++ bcs ((sec xs x.val).take 8))) (hg2 : W.drew.grownBy w2 v.ownBlock) :
    w2.cell? ⟨w.heap.size + 1, 0, none⟩ = some v ∧ w2.frozen? ⟨w.heap.size + 1, 0, none⟩ = false ∧ (w2.setCell ⟨w.heap.size + 1, 0, none⟩ v').cell? ⟨w.heap.size, 0, none⟩ = some (.slice (some ⟨gm, 0, none⟩) 8 8) ∧
    ∃ W5, (∀ ty, (Builtin.copy_ #[22, 22] ty #[.slice (some ⟨h, x.val * 512, none⟩) 512 512, .slice (some ⟨gm, 0, none⟩) 8 8]).run Tryz.prog (w2.setCell ⟨w.heap.size + 1, 0, none⟩ v') = .ok (goInt 8) W5) ∧
      HideI w h c gm k1 (hideStep M (xs, hd) x) W5 ∧ Below w.heap.size w W5 ∧ KeepsOthers W W5 ∧ (W5.heap[k1]? = W.heap[k1]?) := by
  have hx8 := x.isLt
  have hne : ∀ g', v.ownBlock = some g' → k1 + 1 ≤ g' := fun g' e => (owns_block hown g' e).1
  have hx2 : RowB w2 h c xs := RowB.grown (w := W.drew) hx hg2 (fun e => by have := hne h e; omega)
  have hv2 : Box w2 (w.heap.size + 1) #[v] 22 := Box.grown (w := W.drew) hv hg2 (fun e => by have := hne _ e; omega)
  have hmk2 : Box w2 w.heap.size #[.slice (some ⟨gm, 0, none⟩) 8 8] 22 := Box.grown (w := W.drew) hmk hg2 (fun e => by have := hne _ e; omega)
  have hB2 : Below w.heap.size w w2 := (hB.drew).grown hg2 hB.size (fun k e => by have := hne _ e; omega)
  have hB3 := hB2.setCell (p := ⟨w.heap.size + 1, 0, none⟩) (by simp) v'
  have hv3 : Box (w2.setCell ⟨w.heap.size + 1, 0, none⟩ v') (w.heap.size + 1) #[v'] 22 := by have := hv2.store 0 v'; simpa using this
  have hmk3 : Box (w2.setCell ⟨w.heap.size + 1, 0, none⟩ v') w.heap.size #[.slice (some ⟨gm, 0, none⟩) 8 8] 22 := (heap_setCell_other w2 ⟨w.heap.size + 1, 0, none⟩ w.heap.size v' (by show w.heap.size ≠ w.heap.size + 1; omega)).trans hmk2
  have hx3 := rowB_store (j := 0) hx2 hv2 (by decide) v'
  have hown3 : (w2.setCell ⟨w.heap.size + 1, 0, none⟩ v').ownsRow (k1 + 1) 5 1 v' (hd.length + 8) (bcs hd ++ bcs ((sec xs x.val).take 8)) := owns_grown hown2 (grown_store w2 (w.heap.size + 1) 0 v') (fun g' e => by
    obtain ⟨q, _⟩ := owns_block hown2 g' e
    intro e2
    cases e2
    omega)
  have hM3 := hM.below hB3 (Nat.le_refl _)
  obtain ⟨W5, hrun, hrow5, hg5⟩ := copy_row h c (x.val * 512) 512 512 (some ⟨gm, 0, none⟩) 8 M xs _ hx3 hM3 (by omega) (by omega) (by omega)
  rw [hm] at hrun
  refine ⟨hv2.cell 0, hv2.frozen 0, hmk3.cell 0, W5, hrun, ⟨hrow5, ⟨v', hv3.grown hg5 (fun e => by cases e; omega), ?_⟩, hmk3.grown hg5 (fun e => by cases e; omega), ?_⟩, hB3.grown hg5 hB3.size (fun k e => by cases e; omega), ?_, ?_⟩
  · have e1 : (hideStep M (xs, hd) x).2 = hd ++ (sec xs x.val).take 8 := rfl
    have e2 : (hideStep M (xs, hd) x).2.length = hd.length + 8 := by rw [e1]; simp [sec, hl]; omega
    rw [e2, e1, bcs_append]
    refine owns_grown hown3 hg5 (fun g' e => ?_)
    obtain ⟨q, _⟩ := owns_block hown3 g' e
    intro e2
    cases e2
    omega
  · have h1 := hg2.size
    have h2 := hg5.size
    have h3 : (w2.setCell ⟨w.heap.size + 1, 0, none⟩ v').heap.size = w2.heap.size := by simp
    rw [h3] at h2
    have h4 : W.drew.heap.size = W.heap.size := rfl
    omega
  · obtain ⟨cur, hc, _⟩ := hx3
    exact ((KeepsOthers.drew W).trans (keeps_owns (w := W.drew) hown hg2)).trans ((KeepsOthers.setCell w2 _ _).trans (keeps_grown hc hg5))
  · have k0 : k1 < W.heap.size := by omega
    have a1 : w2.heap[k1]? = W.heap[k1]? := hg2.block k1 k0 (fun e => by have := hne k1 e.symm; omega)
    have a2 : (w2.setCell ⟨w.heap.size + 1, 0, none⟩ v').heap[k1]? = w2.heap[k1]? := heap_setCell_other w2 ⟨w.heap.size + 1, 0, none⟩ k1 v' (by show k1 ≠ w.heap.size + 1; omega)
    have k2 : k1 < (w2.setCell ⟨w.heap.size + 1, 0, none⟩ v').heap.size := by
      have h1 := hg2.size
      have h4 : W.drew.heap.size = W.heap.size := rfl
      simp
      omega
    exact (hg5.block k1 k2 (fun e => by cases e; omega)).trans (a2.trans a1)

end Go.Proofs.YtdkaacjeogifdaaGreat.Rc

/-
  append(s, make([]byte, k)...), upon a row of one's own; entries in memory.
-/
namespace Go.Proofs.YtdkaacjeogifdaaGreat.Rc
open Go.RowKit

def nought (n : Nat) : List UInt8 := List.replicate n 0
theorem nought_length (n : Nat) : (nought n).length = n := by simp [nought]
theorem zeroCells_bytes (k : Nat) : Builtin.zeroCells (Value.cells (.int .u8 0)) k = (bcs (nought k)).toArray := by
  apply Array.toList_inj.1
  apply List.ext_getElem
  · simp [Builtin.zeroCells, bcs, nought, Value.cells]
  · intro i h1 h2
    simp [Builtin.zeroCells, bcs, bc, nought, Value.cells, Nat.mod_one]

theorem info3 : Tryz.prog.underlying 3 = some (.int .i64) := by kernel_rfl

theorem run_append_zeros (w : World) (base ty : Nat) (v : Value) (n k : Nat) (xs : List UInt8) (h0 : 0 < n) (hk : 0 < k) (hown : w.ownsRow base 5 1 v n (bcs xs)) (hb : n + k ≤ 140737488355328) (hbase : base ≤ w.heap.size) :
    ∃ v' w', (Builtin.append_ #[22, 3] ty #[v, .int .i64 (k : Int)]).run Tryz.prog w = .ok v' w' ∧ w'.ownsRow base 5 1 v' (n + k) (bcs (xs ++ nought k)) ∧ w.grownBy w' v.ownBlock := by
  obtain ⟨i0, hi, hz0, hz1, hz2⟩ := info_parts info5
  have hx : xs.length = n := by have := hown.1; rw [bcs_length] at this; omega
  have hlen : (bcs (xs ++ nought k)).length = (n + k) * 1 := by rw [bcs_length]; simp [nought_length, hx]
  rcases hown.2 with ⟨rfl, rfl⟩ | ⟨g, cap, cur, rfl, hbg, hg, hnc, hcm, hcs, htake⟩
  · omega
  · have hw : IntKind.i64.wrap (k : Int) = k := by rw [IntKind.wrap_i64]; omega
    have hneg : ¬ ((k : Int) < 0) := by omega
    have h48 : ¬ (281474976710656 < (k : Int)) := by omega
    have hk0 : ¬ k = 0 := by omega
    by_cases hroom : n + k ≤ cap
    · have hfit : n * 1 + (bcs (nought k)).length ≤ cur.size := by rw [bcs_length, nought_length]; omega
      have hst := run_storeCells_at Tryz.prog g (n * 1) 5 (bcs (nought k)) 0 cur w hg (by simpa using hfit) (bcs_oneCell _)
      simp only [Nat.add_zero, Nat.mul_one] at hst
      refine ⟨.slice (some ⟨g, 0, none⟩) (n + k) cap, w.setRow g (cur.toList.take n ++ bcs (nought k) ++ cur.toList.drop (n + (bcs (nought k)).length)).toArray, ?_, ⟨hlen, .inr ⟨g, cap, _, rfl, hbg, setRow_heap w g cur _ 5 _ hg, hroom, hcm, ?_, ?_⟩⟩, ⟨rfl, rfl, rfl, by simp, fun j _ hj => setRow_other w g j _ (fun e => hj (by simp [Value.ownBlock, e]))⟩⟩
      · simp [Builtin.append_, run_underlying Tryz.underlying22, run_underlying info3, sizeOf, typeInfo, zeroValue, hi, hz0, hz1, hz2, asInt, asIntOf, hw, hneg, hk0, h48, hroom, zeroCells_bytes, Addr.add_lit, hst]
      · simp [bcs_length, nought_length]; omega
      · rw [Nat.mul_one] at htake
        have e : cur.toList.take n ++ bcs (nought k) ++ cur.toList.drop (n + (bcs (nought k)).length) = bcs (xs ++ nought k) ++ cur.toList.drop (n + (bcs (nought k)).length) := by rw [htake, bcs_append]
        rw [← hlen]
        show List.take _ (cur.toList.take n ++ bcs (nought k) ++ cur.toList.drop (n + (bcs (nought k)).length)) = _
        rw [e]
        exact List.take_left
    · have holds : ∀ j u, (bcs xs)[j]? = some u → w.drew.cell? ((⟨g, 0, none⟩ : Addr).add j) = some u := hown.cells (g := g) rfl
      have hold := run_firstCells_some (P := Tryz.prog) w.drew i0.size n ⟨g, 0, none⟩ n cap (bcs xs) (by rw [hz1]; exact hown.1) holds
      have hr := Lib.run_append_grow_zeros (P := Tryz.prog) w 22 3 ty 5 i0 (.int .u8 0) .i64 .i64 Tryz.underlying22 info3 hi hz0 (some ⟨g, 0, none⟩) n cap (bcs xs) hold k hk (by omega) (by omega) (by omega) (by rw [hz2]; omega) (growslice_fits (by omega) (by rw [hz2]; omega))
      have hge := grownCap_ge w (n + k) cap 5
      have hcm2 : grownCap w (n + k) cap 5 ≤ maxLen := grownCap_le_maxLen w (n + k) cap 5 (by unfold maxLen; omega)
      refine ⟨_, _, hr, ⟨hlen, .inr ⟨w.heap.size, _, _, rfl, hbase, heap_alloc_new w.drew _, hge, hcm2, ?_, ?_⟩⟩, ⟨rfl, rfl, rfl, by simp, fun j hj _ => Below.heap_alloc w.drew _ j hj⟩⟩
      · rw [zeroCells_bytes, zeroCells_bytes]
        simp [bcs_length, nought_length, hx]
        omega
      · rw [zeroCells_bytes, zeroCells_bytes, ← hlen]
        have e : ((bcs xs).toArray ++ (bcs (nought k)).toArray ++ (bcs (nought (grownCap w (n + k) cap 5 - (n + k)))).toArray).toList = bcs (xs ++ nought k) ++ bcs (nought (grownCap w (n + k) cap 5 - (n + k))) := by simp [bcs_append]
        rw [e]
        exact List.take_left

/-- an entry lies here -/
def EntAt (w : World) (b o : Nat) (e : Nat × List UInt8) : Prop :=
  w.cell? ⟨b, o, none⟩ = some (.int .i64 (e.1 : Int)) ∧ ∃ g q c, w.cell? ⟨b, o + 1, none⟩ = some (.slice (some ⟨g, q, none⟩) 64 c) ∧ 64 ≤ c ∧ c ≤ 9223372036854775807 ∧ e.2.length = 64 ∧ Rd w (some ⟨g, q, none⟩) e.2
/-- entries, one behind the other -/
def Ents (w : World) (a : Option Addr) (es : List (Nat × List UInt8)) : Prop :=
  0 < es.length → ∃ b o, a = some ⟨b, o, none⟩ ∧ ∀ j (h : j < es.length), EntAt w b (o + j * 2) es[j]
theorem EntAt.below {w w' : World} {b o : Nat} {e : Nat × List UInt8} (h : EntAt w b o e) (hb : Below w.heap.size w w') : EntAt w' b o e := by
  obtain ⟨h1, g, q, c, h2, h3, h4, h5, h6⟩ := h
  have hlt : b < w.heap.size := block_lt_of_cell h1
  exact ⟨(hb.cell (p := ⟨b, o, none⟩) hlt).trans h1, g, q, c, (hb.cell (p := ⟨b, o + 1, none⟩) hlt).trans h2, h3, h4, h5, h6.below hb (Nat.le_refl _)⟩
theorem Ents.below {w w' : World} {a : Option Addr} {es : List (Nat × List UInt8)} (h : Ents w a es) (hb : Below w.heap.size w w') : Ents w' a es := fun hp => by
  obtain ⟨b, o, ha, hc⟩ := h hp
  exact ⟨b, o, ha, fun j hj => (hc j hj).below hb⟩
/-- a block of one's own, as a row -/
theorem Own.owns {w : World} {g B : Nat} {ys : List UInt8} (h : Own w g ys) (hB : B ≤ g) (hm : ys.length ≤ maxLen) : w.ownsRow B 5 1 (.slice (some ⟨g, 0, none⟩) ys.length ys.length) ys.length (bcs ys) :=
  ⟨by rw [bcs_length]; omega, .inr ⟨g, ys.length, (bcs ys).toArray, rfl, hB, h, Nat.le_refl _, hm, by simp [bcs_length], List.take_of_length_le (by simp [bcs_length])⟩⟩

/-- entries as bytes -/
def entsB (es : List (Nat × List UInt8)) : List UInt8 := es.flatMap fun e => toBE 2 e.1 ++ e.2
theorem entsB_length (es : List (Nat × List UInt8)) (h : ∀ e ∈ es, e.2.length = 64) : (entsB es).length = es.length * 66 := by
  induction es with
  | nil => rfl
  | cons e es ih =>
    have h1 := ih (fun x hx => h x (List.mem_cons_of_mem _ hx))
    have h2 := h e (List.mem_cons_self)
    simp only [entsB, List.flatMap_cons, List.length_append, toBE_length, List.length_cons] at h1 ⊢
    omega
theorem entsB_take (es : List (Nat × List UInt8)) (k : Nat) (h : k < es.length) : entsB (es.take (k + 1)) = entsB (es.take k) ++ toBE 2 es[k].1 ++ es[k].2 := by
  unfold entsB
  rw [List.take_succ_eq_append_getElem h, List.flatMap_append]
  simp only [List.flatMap_cons, List.flatMap_nil, List.append_nil, List.append_assoc]
/-- what stands behind the sum -/
def restB (es : List (Nat × List UInt8)) : List UInt8 := entsB es ++ nought (4026 - es.length * 66)
end Go.Proofs.YtdkaacjeogifdaaGreat.Rc

/-
  Plain facts on the register of a check sum: it is linear over bits, and forgets nothing; nothing of the program is named here.
-/
namespace Go.Proofs.YtdkaacjeogifdaaGreat.Rc

/-- What is taken xor the register. -/
def taps : Nat := 2197175160

/-- One turn of a register whose lowest bit has been held against the byte's. -/
def turn (x : Nat) : Nat := if x % 2 = 1 then (x / 2) ^^^ taps else x / 2

/-- One turn with a bit. -/
def step (r b : Nat) : Nat := if r % 2 = b then r / 2 else (r / 2) ^^^ taps

/-- The register behind the first i bits of a byte. -/
def steps (r c : Nat) : Nat → Nat
  | 0 => r
  | i + 1 => step (steps r c i) (c / 2 ^ i % 2)

/-- The register behind bytes. -/
def reg (r : Nat) (xs : List UInt8) : Nat := xs.foldl (fun r c => steps r c.toNat 8) r

/-- A sum that goes on behind another one. -/
def crc (s : Nat) (xs : List UInt8) : Nat := 4294967295 - reg (4294967295 - s) xs

theorem xor_lt {a b : Nat} (ha : a < 4294967296) (hb : b < 4294967296) : a ^^^ b < 4294967296 := Nat.xor_lt_two_pow (n := 32) ha hb

theorem turn_lt {x : Nat} (h : x < 4294967296) : turn x < 4294967296 := by
  unfold turn
  split
  · exact xor_lt (by omega) (by decide)
  · omega

theorem step_lt {r : Nat} (b : Nat) (h : r < 4294967296) : step r b < 4294967296 := by
  unfold step
  split
  · omega
  · exact xor_lt (by omega) (by decide)

theorem steps_lt {r : Nat} (c : Nat) (h : r < 4294967296) (i : Nat) : steps r c i < 4294967296 := by
  induction i with
  | zero => exact h
  | succ i ih => exact step_lt _ ih

theorem reg_nil (r : Nat) : reg r [] = r := rfl
theorem reg_cons (r : Nat) (c : UInt8) (xs : List UInt8) : reg r (c :: xs) = reg (steps r c.toNat 8) xs := by unfold reg; rw [List.foldl_cons]
theorem reg_append (r : Nat) (xs ys : List UInt8) : reg r (xs ++ ys) = reg (reg r xs) ys := by simp [reg, List.foldl_append]
theorem reg_lt (xs : List UInt8) {r : Nat} (h : r < 4294967296) : reg r xs < 4294967296 := by
  induction xs generalizing r with
  | nil => rw [reg_nil]; exact h
  | cons c xs ih => rw [reg_cons]; exact ih (steps_lt _ h 8)

theorem reg_succ (r : Nat) (xs : List UInt8) (k : Nat) (h : k < xs.length) : reg r (xs.take (k + 1)) = steps (reg r (xs.take k)) xs[k].toNat 8 := by
  rw [List.take_succ_eq_append_getElem h, reg_append, reg_cons, reg_nil]

theorem xor_half (a b : Nat) : (a ^^^ b) / 2 = a / 2 ^^^ b / 2 := by
  have := Nat.shiftRight_xor_distrib (a := a) (b := b) (i := 1)
  simpa [Nat.shiftRight_eq_div_pow] using this

theorem xor_low (a b : Nat) : (a ^^^ b) % 2 = (a % 2 + b % 2) % 2 := by
  have h := Nat.testBit_xor a b 0
  simp only [Nat.testBit_zero] at h
  have ha : a % 2 = 0 ∨ a % 2 = 1 := by omega
  have hb : b % 2 = 0 ∨ b % 2 = 1 := by omega
  have hc : (a ^^^ b) % 2 = 0 ∨ (a ^^^ b) % 2 = 1 := by omega
  rcases ha with ha | ha <;> rcases hb with hb | hb <;> rcases hc with hc | hc <;> simp [ha, hb, hc] at h ⊢

/-- The turn is linear. -/
theorem turn_xor (x y : Nat) : turn (x ^^^ y) = turn x ^^^ turn y := by
  have hx : x % 2 = 0 ∨ x % 2 = 1 := by omega
  have hy : y % 2 = 0 ∨ y % 2 = 1 := by omega
  unfold turn
  rw [xor_low, xor_half]
  rcases hx with hx | hx <;> rcases hy with hy | hy <;> simp only [hx, hy]
  · rfl
  · simp only [if_true, Nat.zero_ne_one, if_false]
    rw [Nat.xor_assoc]
  · simp only [if_true, Nat.zero_ne_one, if_false]
    rw [Nat.xor_assoc, Nat.xor_assoc, Nat.xor_comm taps]
  · simp only [if_true, Nat.reduceAdd, Nat.reduceMod, Nat.zero_ne_one, if_false]
    rw [Nat.xor_assoc, ← Nat.xor_assoc taps, Nat.xor_comm taps, Nat.xor_assoc, Nat.xor_self, Nat.xor_zero]

theorem turn_zero : turn 0 = 0 := rfl

/-- A turn forgets nothing. -/
theorem turn_eq_zero {x : Nat} (h : x < 4294967296) (e : turn x = 0) : x = 0 := by
  unfold turn at e
  split at e
  · exfalso
    have h1 : (x / 2 ^^^ taps).testBit 31 = true := by
      rw [Nat.testBit_xor]
      have ha : (x / 2).testBit 31 = false := Nat.testBit_lt_two_pow (by omega)
      rw [ha]
      decide
    rw [e] at h1
    simp at h1
  · omega

/-- So many turns. -/
def turns : Nat → Nat → Nat
  | 0, x => x
  | n + 1, x => turn (turns n x)

theorem turns_lt {x : Nat} (h : x < 4294967296) : ∀ n, turns n x < 4294967296
  | 0 => h
  | n + 1 => turn_lt (turns_lt h n)
theorem turns_xor (x y : Nat) : ∀ n, turns n (x ^^^ y) = turns n x ^^^ turns n y
  | 0 => rfl
  | n + 1 => by rw [turns, turns_xor x y n, turn_xor]; rfl
theorem turns_add (x m : Nat) : ∀ n, turns (m + n) x = turns n (turns m x)
  | 0 => rfl
  | n + 1 => by rw [← Nat.add_assoc, turns, turns_add x m n]; rfl
theorem turns_eq_zero {x : Nat} (h : x < 4294967296) : ∀ n, turns n x = 0 → x = 0
  | 0, e => e
  | n + 1, e => turns_eq_zero h n (turn_eq_zero (turns_lt h n) e)

theorem xor_eq_zero {a b : Nat} (h : a ^^^ b = 0) : a = b := by
  have : a ^^^ b ^^^ b = b := by rw [h, Nat.zero_xor]
  rwa [Nat.xor_assoc, Nat.xor_self, Nat.xor_zero] at this

theorem turns_inj {x y : Nat} (hx : x < 4294967296) (hy : y < 4294967296) (n : Nat) (h : turns n x = turns n y) : x = y := by
  apply xor_eq_zero
  apply turns_eq_zero (xor_lt hx hy) n
  rw [turns_xor, h, Nat.xor_self]

/-- A bit that stands so high falls out behind so many turns. -/
theorem turns_high : ∀ (n d : Nat), turns n (d * 2 ^ n) = d
  | 0, d => by simp [turns]
  | n + 1, d => by
    have e : d * 2 ^ (n + 1) = (d * 2) * 2 ^ n := by rw [Nat.pow_succ, Nat.mul_assoc, Nat.mul_comm 2]
    rw [e, turns, turns_high n (d * 2)]
    unfold turn
    rw [if_neg (by omega)]
    omega

theorem step_turn (r b : Nat) (hb : b < 2) : step r b = turn (r ^^^ b) := by
  unfold step turn
  rw [xor_low, xor_half, show b / 2 = 0 by omega, Nat.xor_zero]
  by_cases h : r % 2 = b
  · rw [if_pos h, if_neg (by omega)]
  · rw [if_neg h, if_pos (by omega)]

theorem low_split (c i : Nat) : c % 2 ^ (i + 1) = c % 2 ^ i ^^^ (c / 2 ^ i % 2) * 2 ^ i := by
  rw [Nat.pow_succ, Nat.mod_mul]
  apply Nat.eq_of_testBit_eq
  intro j
  rw [Nat.testBit_xor, Nat.mul_comm (c / 2 ^ i % 2), Nat.add_comm, Nat.testBit_two_pow_mul_add _ (Nat.mod_lt _ (Nat.two_pow_pos i)), Nat.testBit_two_pow_mul]
  by_cases h : j < i
  · simp [h, Nat.not_le.2 h]
  · have h2 : i ≤ j := by omega
    have h3 : (c % 2 ^ i).testBit j = false := Nat.testBit_lt_two_pow (Nat.lt_of_lt_of_le (Nat.mod_lt _ (Nat.two_pow_pos i)) (Nat.pow_le_pow_right (by omega) h2))
    simp [h, h2, h3]

theorem steps_turns (r c : Nat) : ∀ i, steps r c i = turns i (r ^^^ c % 2 ^ i)
  | 0 => by simp [steps, turns, Nat.mod_one]
  | i + 1 => by
    rw [steps, steps_turns r c i, step_turn _ _ (by omega), low_split, ← Nat.xor_assoc, turns, turns_xor _ (c / 2 ^ i % 2 * 2 ^ i), turns_high]

theorem byte_turns (r : Nat) (c : UInt8) : steps r c.toNat 8 = turns 8 (r ^^^ c.toNat) := by
  rw [steps_turns]
  have := c.toNat_lt
  rw [Nat.mod_eq_of_lt (by omega)]

/-- Three registers and three lists held against each other by xor. -/
theorem reg_xor3 : ∀ (n : Nat) (a b c : List UInt8) (r s t : Nat), a.length = n → b.length = n → c.length = n →
    reg (r ^^^ s ^^^ t) (List.zipWith (· ^^^ ·) (List.zipWith (· ^^^ ·) a b) c) = reg r a ^^^ reg s b ^^^ reg t c
  | 0, a, b, c, r, s, t, ha, hb, hc => by
    rw [List.eq_nil_of_length_eq_zero ha, List.eq_nil_of_length_eq_zero hb, List.eq_nil_of_length_eq_zero hc]
    rfl
  | n + 1, a, b, c, r, s, t, ha, hb, hc => by
    match a, b, c, ha, hb, hc with
    | x :: a, y :: b, z :: c, ha, hb, hc =>
      simp only [List.zipWith_cons_cons, reg_cons]
      rw [← reg_xor3 n a b c _ _ _ (by simpa using ha) (by simpa using hb) (by simpa using hc)]
      congr 1
      rw [byte_turns, byte_turns, byte_turns, byte_turns, ← turns_xor, ← turns_xor, UInt8.toNat_xor, UInt8.toNat_xor]
      congr 1
      ac_rfl

/-- The number of bytes, the lowest first. -/
def leNat : List UInt8 → Nat
  | [] => 0
  | c :: xs => c.toNat ^^^ leNat xs * 2 ^ 8

theorem leNat_lt : ∀ (xs : List UInt8), leNat xs < 2 ^ (8 * xs.length)
  | [] => by decide
  | c :: xs => by
    have h := leNat_lt xs
    have hc := c.toNat_lt
    apply Nat.xor_lt_two_pow
    · exact Nat.lt_of_lt_of_le hc (Nat.pow_le_pow_right (by omega) (by simp; omega))
    · have e : 2 ^ (8 * (c :: xs).length) = 2 ^ (8 * xs.length) * 2 ^ 8 := by rw [← Nat.pow_add]; congr 1
      rw [e]
      exact (Nat.mul_lt_mul_right (by decide)).2 h

theorem leNat_inj : ∀ (xs ys : List UInt8), xs.length = ys.length → leNat xs = leNat ys → xs = ys
  | [], [], _, _ => rfl
  | x :: xs, y :: ys, hl, h => by
    have hx := x.toNat_lt
    have hy := y.toNat_lt
    have k : ∀ (z : UInt8) (n : Nat), (z.toNat ^^^ n * 2 ^ 8) % 2 ^ 8 = z.toNat ∧ (z.toNat ^^^ n * 2 ^ 8) / 2 ^ 8 = n := fun z n => by
      have hz := z.toNat_lt
      constructor
      · rw [Nat.xor_mod_two_pow]
        simp
      · have := Nat.shiftRight_xor_distrib (a := z.toNat) (b := n * 2 ^ 8) (i := 8)
        rw [Nat.shiftRight_eq_div_pow, Nat.shiftRight_eq_div_pow, Nat.shiftRight_eq_div_pow] at this
        rw [this, Nat.mul_div_cancel _ (by decide), Nat.div_eq_of_lt hz, Nat.zero_xor]
    unfold leNat at h
    have e1 : x.toNat = y.toNat := by rw [← (k x (leNat xs)).1, h, (k y (leNat ys)).1]
    have e2 : leNat xs = leNat ys := by rw [← (k x (leNat xs)).2, h, (k y (leNat ys)).2]
    rw [UInt8.toNat_inj.1 e1, leNat_inj xs ys (by simpa using hl) e2]

theorem reg_le : ∀ (xs : List UInt8) (r : Nat), reg r xs = turns (8 * xs.length) (r ^^^ leNat xs)
  | [], r => by simp [reg, leNat, turns]
  | c :: xs, r => by
    rw [reg_cons, reg_le xs, byte_turns]
    have e : 8 * (c :: xs).length = 8 + 8 * xs.length := by simp; omega
    rw [e, turns_add]
    congr 1
    rw [leNat, ← Nat.xor_assoc, turns_xor _ (leNat xs * 2 ^ 8), turns_high]

/-- Bytes of one list alone tell the register. -/
theorem reg_inj_start (xs : List UInt8) {r s : Nat} (hr : r < 4294967296) (hs : s < 4294967296) (h : reg r xs = reg s xs) : r = s := by
  rw [reg_le, reg_le, turns_xor, turns_xor] at h
  have h2 : turns (8 * xs.length) r = turns (8 * xs.length) s := by
    apply xor_eq_zero
    have : turns (8 * xs.length) r ^^^ turns (8 * xs.length) (leNat xs) ^^^ (turns (8 * xs.length) s ^^^ turns (8 * xs.length) (leNat xs)) = 0 := by rw [h, Nat.xor_self]
    rw [← this]
    generalize turns (8 * xs.length) r = x
    generalize turns (8 * xs.length) s = y
    generalize turns (8 * xs.length) (leNat xs) = z
    have e : x ^^^ z ^^^ (y ^^^ z) = x ^^^ y ^^^ (z ^^^ z) := by ac_rfl
    rw [e, Nat.xor_self, Nat.xor_zero]
  exact turns_inj hr hs _ h2

/-- Up to four bytes next to each other tell. -/
theorem reg_burst (pre ys zs post : List UInt8) (r : Nat) (hr : r < 4294967296) (hl : ys.length = zs.length) (h4 : ys.length ≤ 4) (h : reg r (pre ++ (ys ++ post)) = reg r (pre ++ (zs ++ post))) : ys = zs := by
  rw [reg_append, reg_append, reg_append, reg_append] at h
  have hR := reg_lt pre hr
  have h1 := reg_inj_start post (reg_lt ys hR) (reg_lt zs hR) h
  have b1 : leNat ys < 4294967296 := Nat.lt_of_lt_of_le (leNat_lt ys) (Nat.pow_le_pow_right (n := 2) (j := 32) (by omega) (by omega))
  have b2 : leNat zs < 4294967296 := Nat.lt_of_lt_of_le (leNat_lt zs) (Nat.pow_le_pow_right (n := 2) (j := 32) (by omega) (by omega))
  rw [reg_le ys, reg_le zs, ← hl] at h1
  have h2 := turns_inj (xor_lt hR b1) (xor_lt hR b2) _ h1
  apply leNat_inj _ _ hl
  have : reg r pre ^^^ (reg r pre ^^^ leNat ys) = reg r pre ^^^ (reg r pre ^^^ leNat zs) := by rw [h2]
  rwa [← Nat.xor_assoc, ← Nat.xor_assoc, Nat.xor_self, Nat.zero_xor, Nat.zero_xor] at this

theorem crc_lt (s : Nat) (xs : List UInt8) : crc s xs < 4294967296 := by unfold crc; omega

theorem flip_flip {s : Nat} (h : s < 4294967296) : 4294967295 - (4294967295 - s) = s := by omega

/-- Sums go on behind one another. -/
theorem crc_append (s : Nat) (xs ys : List UInt8) : crc (crc s xs) ys = crc s (xs ++ ys) := by
  unfold crc
  have h := reg_lt xs (r := 4294967295 - s) (by omega)
  rw [flip_flip h, reg_append]

theorem crc_nil {s : Nat} (h : s < 4294967296) : crc s [] = s := by
  unfold crc
  rw [reg_nil, flip_flip h]

theorem flip_xor {s : Nat} (h : s < 4294967296) : 4294967295 - s = s ^^^ 4294967295 := by
  apply Nat.eq_of_testBit_eq
  intro i
  have e : 4294967295 - s = 2 ^ 32 - (s + 1) := by omega
  rw [e, Nat.testBit_two_pow_sub_succ h, Nat.testBit_xor, show (4294967295 : Nat) = 2 ^ 32 - 1 by rfl, Nat.testBit_two_pow_sub_one]
  by_cases hi : i < 32
  · simp [hi]
  · have : s.testBit i = false := Nat.testBit_lt_two_pow (Nat.lt_of_lt_of_le h (Nat.pow_le_pow_right (n := 2) (i := 32) (by omega) (by omega)))
    simp [hi, this]

/-- Three lists as long held against each other have their sums held so. -/
theorem crc_xor3 (n : Nat) (a b c : List UInt8) (ha : a.length = n) (hb : b.length = n) (hc : c.length = n) :
    crc 0 (List.zipWith (· ^^^ ·) (List.zipWith (· ^^^ ·) a b) c) = crc 0 a ^^^ crc 0 b ^^^ crc 0 c := by
  unfold crc
  have h := reg_xor3 n a b c 4294967295 4294967295 4294967295 ha hb hc
  rw [Nat.xor_self, Nat.zero_xor] at h
  have l1 := reg_lt a (r := 4294967295) (by omega)
  have l2 := reg_lt b (r := 4294967295) (by omega)
  have l3 := reg_lt c (r := 4294967295) (by omega)
  simp only [Nat.sub_zero]
  rw [h, flip_xor l1, flip_xor l2, flip_xor l3, flip_xor (xor_lt (xor_lt l1 l2) l3)]
  generalize reg 4294967295 a = x
  generalize reg 4294967295 b = y
  generalize reg 4294967295 c = z
  have e : x ^^^ 4294967295 ^^^ (y ^^^ 4294967295) ^^^ (z ^^^ 4294967295) = (x ^^^ y ^^^ z ^^^ 4294967295) ^^^ (4294967295 ^^^ 4294967295) := by ac_rfl
  rw [e, Nat.xor_self, Nat.xor_zero]

theorem crc_burst (pre ys zs post : List UInt8) (hl : ys.length = zs.length) (h4 : ys.length ≤ 4) (h : crc 0 (pre ++ (ys ++ post)) = crc 0 (pre ++ (zs ++ post))) : ys = zs := by
  have l1 := reg_lt (pre ++ (ys ++ post)) (r := 4294967295) (by omega)
  have l2 := reg_lt (pre ++ (zs ++ post)) (r := 4294967295) (by omega)
  exact reg_burst pre ys zs post 4294967295 (by omega) hl h4 (by unfold crc at h; simp only [Nat.sub_zero] at h; omega)

end Go.Proofs.YtdkaacjeogifdaaGreat.Rc
