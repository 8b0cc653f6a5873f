/-
  GetSuper: what a superblock says.
-/
import Derived.Test.YtmhplpiglbamcaaGetNode
import Derived.BigQuiet
import Derived.Deep.RegionWith
namespace Go.Proofs.Ytmhplpiglbamcaa
open Go.RowKit

structure Sup where
  b : Int
  e : Int
  q : Int
  t : Int
def zeroS : Sup := ⟨0, 0, 0, 0⟩
def supV (s : Sup) : Value := .agg #[.int .i64 s.b, .int .i64 s.e, .int .i64 s.q, .int .i64 s.t]
def GetsS (w w' : World) (o : Option Sup) (r : Ending) : Prop := r = .returned (.tuple #[supV (o.getD zeroS), .int .i64 (erG o.isSome)]) ∧ Below w.heap.size w w'
def readS (xs : List UInt8) : Sup := ⟨i64 (num xs 8 8), i64 (num xs 16 8), i64 (num xs 24 8), i64 (num xs 32 8)⟩
def getSuper (xs : List UInt8) : Option Sup :=
  if rightS (readS xs).b (readS xs).e (readS xs).q (readS xs).t && (decide (xs.length = 4096) && isThen xs (headS (readS xs).b.toNat (readS xs).e.toNat (readS xs).q.toNat (readS xs).t.toNat)) then some (readS xs) else none

def ansS (B E Q T : Int) (n : Nat) (xs : List UInt8) : Option Sup := if rightS B E Q T && (decide (n = 4096) && isThen xs (headS B.toNat E.toNat Q.toNat T.toNat)) then some ⟨B, E, Q, T⟩ else none

set_option maxRecDepth 100000 in
set_option maxHeartbeats 2000000 in
theorem getSuper_wrong (n cap : Nat) (a : Option Addr) (xs : List UInt8) (B E Q T : Int) (w : World) (Hn : Hid (xs.length = n)) (hm : n ≤ 9223372036854775807) (hr : Rd w a xs) (hB : Hid (i64 (num xs 8 8) = B)) (hE : Hid (i64 (num xs 16 8) = E)) (hQ : Hid (i64 (num xs 24 8) = Q)) (hT : Hid (i64 (num xs 32 8) = T)) (h : rightS B E Q T = false) :
    Calls Try.prog 13 #[.slice a n cap] w fun r w' => GetsS w w' (ansS B E Q T n xs) r := by
  have e : ansS B E Q T n xs = none := by unfold ansS; rw [h]; rfl
  rw [e]
  clear e
  have B1 := (Below.refl w.heap.size w).alloc (Nat.le_refl _) (.cells #[.slice a n cap] 22)
  have x1 := Box.new w #[.slice a n cap] 22
  obtain ⟨w1, hw1⟩ : ∃ w1, w1 = w.alloc (.cells #[.slice a n cap] 22) := ⟨_, rfl⟩
  have s1 : w1.heap.size = w.heap.size + 1 := by rw [hw1]; simp
  rw [← hw1] at B1 x1
  have b2 := (Below.refl w1.heap.size w1).alloc (Nat.le_refl _) (.cells #[.int .i64 0, .int .i64 0, .int .i64 0, .int .i64 0] 27)
  have x2 := Box.new w1 #[.int .i64 0, .int .i64 0, .int .i64 0, .int .i64 0] 27
  have y1 := x1.below b2
  have B2 := B1.trans (b2.mono B1.size)
  obtain ⟨w2, hw2⟩ : ∃ w2, w2 = w1.alloc (.cells #[.int .i64 0, .int .i64 0, .int .i64 0, .int .i64 0] 27) := ⟨_, rfl⟩
  have s2 : w2.heap.size = w.heap.size + 1 + 1 := by rw [hw2]; simp [s1]
  rw [← hw2] at b2 x2 y1 B2
  have b3 := (Below.refl w2.heap.size w2).alloc (Nat.le_refl _) (.cells #[.int .i64 8] 3)
  have o3 : OneI (w2.alloc (.cells #[.int .i64 8] 3)) w2.heap.size 8 := heap_alloc_new w2 _
  have y2 := x2.below b3
  have z1 := y1.below b3
  have B3 := B2.trans (b3.mono B2.size)
  rw [s1] at y2
  rw [s2] at o3
  clear b2 b3 x1 y1 x2 B1 B2
  go_enter Try.func13, Try.ntmps13
  go_wp2_with fail
  rw [← hw1, ← hw2]
  obtain ⟨W, hW⟩ : ∃ W, W = w2.alloc (.cells #[.int .i64 8] 3) := ⟨_, rfl⟩
  rw [← hW] at o3 y2 z1 B3 ⊢
  clear hW hw1 hw2 s1 s2
  refine (next8_at w.heap.size (w.heap.size + 1 + 1) n cap a xs 8 W Hn.out hm (hr.below B3 (Nat.le_refl _)) z1 o3 (by omega)).mono ?_
  rintro r v1 ⟨rfl, p1, g1⟩
  rw [hB.out]
  replace p1 : OneI v1 (w.heap.size + 1 + 1) 16 := p1
  have bs1 : Box v1 w.heap.size #[.slice a n cap] 22 := (g1.block _ z1.lt (fun e => by have := Option.some.inj e; omega)).trans z1
  have bz1 : Box v1 (w.heap.size + 1) #[.int .i64 0, .int .i64 0, .int .i64 0, .int .i64 0] 27 := (g1.block _ y2.lt (fun e => by have := Option.some.inj e; omega)).trans y2
  have D1 := B3.grown g1 B3.size (fun k hk => by simp at hk; omega)
  clear g1 o3 z1 y2 B3
  go_wp2_with fail
  refine (next8_at w.heap.size (w.heap.size + 1 + 1) n cap a xs 16 v1 Hn.out hm (hr.below D1 (Nat.le_refl _)) bs1 p1 (by omega)).mono ?_
  rintro r v2 ⟨rfl, p2, g2⟩
  rw [hE.out]
  replace p2 : OneI v2 (w.heap.size + 1 + 1) 24 := p2
  have bs2 : Box v2 w.heap.size #[.slice a n cap] 22 := (g2.block _ bs1.lt (fun e => by have := Option.some.inj e; omega)).trans bs1
  have bz2 : Box v2 (w.heap.size + 1) #[.int .i64 0, .int .i64 0, .int .i64 0, .int .i64 0] 27 := (g2.block _ bz1.lt (fun e => by have := Option.some.inj e; omega)).trans bz1
  have D2 := D1.grown g2 D1.size (fun k hk => by simp at hk; omega)
  clear g2 p1 bs1 bz1 D1
  go_wp2_with fail
  refine (next8_at w.heap.size (w.heap.size + 1 + 1) n cap a xs 24 v2 Hn.out hm (hr.below D2 (Nat.le_refl _)) bs2 p2 (by omega)).mono ?_
  rintro r v3 ⟨rfl, p3, g3⟩
  rw [hQ.out]
  replace p3 : OneI v3 (w.heap.size + 1 + 1) 32 := p3
  have bs3 : Box v3 w.heap.size #[.slice a n cap] 22 := (g3.block _ bs2.lt (fun e => by have := Option.some.inj e; omega)).trans bs2
  have bz3 : Box v3 (w.heap.size + 1) #[.int .i64 0, .int .i64 0, .int .i64 0, .int .i64 0] 27 := (g3.block _ bz2.lt (fun e => by have := Option.some.inj e; omega)).trans bz2
  have D3 := D2.grown g3 D2.size (fun k hk => by simp at hk; omega)
  clear g3 p2 bs2 bz2 D2
  go_wp2_with fail
  refine (next8_at w.heap.size (w.heap.size + 1 + 1) n cap a xs 32 v3 Hn.out hm (hr.below D3 (Nat.le_refl _)) bs3 p3 (by omega)).mono ?_
  rintro r v4 ⟨rfl, p4, g4⟩
  rw [hT.out]
  replace p4 : OneI v4 (w.heap.size + 1 + 1) 40 := p4
  have bs4 : Box v4 w.heap.size #[.slice a n cap] 22 := (g4.block _ bs3.lt (fun e => by have := Option.some.inj e; omega)).trans bs3
  have bz4 : Box v4 (w.heap.size + 1) #[.int .i64 0, .int .i64 0, .int .i64 0, .int .i64 0] 27 := (g4.block _ bz3.lt (fun e => by have := Option.some.inj e; omega)).trans bz3
  have D4 := D3.grown g4 D3.size (fun k hk => by simp at hk; omega)
  clear g4 p3 bs3 bz3 D3
  have bA := (Below.refl v4.heap.size v4).alloc (Nat.le_refl _) (.cells #[.int .i64 B, .int .i64 E, .int .i64 Q, .int .i64 T] 27)
  have bq := Box.new v4 #[.int .i64 B, .int .i64 E, .int .i64 Q, .int .i64 T] 27
  have bs := bs4.below bA
  have bz := bz4.below bA
  have D := D4.trans (bA.mono D4.size)
  go_wp2_with fail
  obtain ⟨U, hU⟩ : ∃ U, U = v4.alloc (.cells #[.int .i64 B, .int .i64 E, .int .i64 Q, .int .i64 T] 27) := ⟨_, rfl⟩
  rw [← hU] at bq bs bz D ⊢
  obtain ⟨G, hG⟩ : ∃ G, G = v4.heap.size := ⟨_, rfl⟩
  rw [← hG] at bq ⊢
  clear bs4 bz4 D4 p4 bA hU hG
  have hrU := hr.below D (Nat.le_refl _)
  have q0 := bq.cell 0
  have q1 := bq.cell 1
  have q2 := bq.cell 2
  have q3 := bq.cell 3
  have s0 := bs.cell 0
  simp only [List.getElem?_toArray, List.getElem?_cons_zero, List.getElem?_cons_succ] at q0 q1 q2 q3 s0
  go_region_with (go_at_call 37; refine (rightSuper_at B E Q T _).mono ?_; rintro r u1 ⟨rfl, b1⟩; rw [h]; have D1 : Below w.heap.size w u1 := (D.drew).trans (b1.mono D.size); have bz1 : Box u1 (w.heap.size + 1) #[.int .i64 0, .int .i64 0, .int .i64 0, .int .i64 0] 27 := Box.below (w := U.drew) bz b1)
  all_goals
    have m0 := bz1.cell 0
    have m1 := bz1.cell 1
    have m2 := bz1.cell 2
    have m3 := bz1.cell 3
    simp only [List.getElem?_toArray, List.getElem?_cons_zero, List.getElem?_cons_succ] at m0 m1 m2 m3
    have f0 := bz1.frozen 0
    have f1 := bz1.frozen 1
    have f2 := bz1.frozen 2
    have f3 := bz1.frozen 3
    go_wp2_with fail
    have Y := ((((bz1.store 0 (.int .i64 0)).store 1 (.int .i64 0)).store 2 (.int .i64 0)).store 3 (.int .i64 0))
    have C1 := ((((D1.setCell (p := ⟨w.heap.size + 1, 0, none⟩) (Nat.le_succ _) (.int .i64 0)).setCell (p := ⟨w.heap.size + 1, 1, none⟩) (Nat.le_succ _) (.int .i64 0)).setCell (p := ⟨w.heap.size + 1, 2, none⟩) (Nat.le_succ _) (.int .i64 0)).setCell (p := ⟨w.heap.size + 1, 3, none⟩) (Nat.le_succ _) (.int .i64 0))
    generalize ((((u1.setCell ⟨w.heap.size + 1, 0, none⟩ (.int .i64 0)).setCell ⟨w.heap.size + 1, 1, none⟩ (.int .i64 0)).setCell ⟨w.heap.size + 1, 2, none⟩ (.int .i64 0)).setCell ⟨w.heap.size + 1, 3, none⟩ (.int .i64 0)) = W9 at Y C1 ⊢
    clear m0 m1 m2 m3
    have m0 := Y.cell 0
    have m1 := Y.cell 1
    have m2 := Y.cell 2
    have m3 := Y.cell 3
    simp at m0 m1 m2 m3
    refine bodyPost_ret (v := .tuple #[.agg #[.int .i64 0, .int .i64 0, .int .i64 0, .int .i64 0], .int .i64 30]) (by simp [results, Try.results13, go_sem, m0, m1, m2, m3]) rfl ?_
    exact ⟨rfl, C1⟩

set_option maxRecDepth 100000 in
set_option maxHeartbeats 2000000 in
theorem getSuper_off (n cap : Nat) (a : Option Addr) (xs : List UInt8) (B E Q T : Int) (w : World) (Hn : Hid (xs.length = n)) (hm : n ≤ 9223372036854775807) (hr : Rd w a xs) (hB : Hid (i64 (num xs 8 8) = B)) (hE : Hid (i64 (num xs 16 8) = E)) (hQ : Hid (i64 (num xs 24 8) = Q)) (hT : Hid (i64 (num xs 32 8) = T)) (h : rightS B E Q T = true) (h4 : n ≠ 4096) :
    Calls Try.prog 13 #[.slice a n cap] w fun r w' => GetsS w w' (ansS B E Q T n xs) r := by
  have e : ansS B E Q T n xs = none := by unfold ansS; rw [decide_eq_false h4]; simp
  rw [e]
  clear e
  have h5 : ((n : Int) != 4096) = true := by simp; omega
  clear h4
  have B1 := (Below.refl w.heap.size w).alloc (Nat.le_refl _) (.cells #[.slice a n cap] 22)
  have x1 := Box.new w #[.slice a n cap] 22
  obtain ⟨w1, hw1⟩ : ∃ w1, w1 = w.alloc (.cells #[.slice a n cap] 22) := ⟨_, rfl⟩
  have s1 : w1.heap.size = w.heap.size + 1 := by rw [hw1]; simp
  rw [← hw1] at B1 x1
  have b2 := (Below.refl w1.heap.size w1).alloc (Nat.le_refl _) (.cells #[.int .i64 0, .int .i64 0, .int .i64 0, .int .i64 0] 27)
  have x2 := Box.new w1 #[.int .i64 0, .int .i64 0, .int .i64 0, .int .i64 0] 27
  have y1 := x1.below b2
  have B2 := B1.trans (b2.mono B1.size)
  obtain ⟨w2, hw2⟩ : ∃ w2, w2 = w1.alloc (.cells #[.int .i64 0, .int .i64 0, .int .i64 0, .int .i64 0] 27) := ⟨_, rfl⟩
  have s2 : w2.heap.size = w.heap.size + 1 + 1 := by rw [hw2]; simp [s1]
  rw [← hw2] at b2 x2 y1 B2
  have b3 := (Below.refl w2.heap.size w2).alloc (Nat.le_refl _) (.cells #[.int .i64 8] 3)
  have o3 : OneI (w2.alloc (.cells #[.int .i64 8] 3)) w2.heap.size 8 := heap_alloc_new w2 _
  have y2 := x2.below b3
  have z1 := y1.below b3
  have B3 := B2.trans (b3.mono B2.size)
  rw [s1] at y2
  rw [s2] at o3
  clear b2 b3 x1 y1 x2 B1 B2
  go_enter Try.func13, Try.ntmps13
  go_wp2_with fail
  rw [← hw1, ← hw2]
  obtain ⟨W, hW⟩ : ∃ W, W = w2.alloc (.cells #[.int .i64 8] 3) := ⟨_, rfl⟩
  rw [← hW] at o3 y2 z1 B3 ⊢
  clear hW hw1 hw2 s1 s2
  refine (next8_at w.heap.size (w.heap.size + 1 + 1) n cap a xs 8 W Hn.out hm (hr.below B3 (Nat.le_refl _)) z1 o3 (by omega)).mono ?_
  rintro r v1 ⟨rfl, p1, g1⟩
  rw [hB.out]
  replace p1 : OneI v1 (w.heap.size + 1 + 1) 16 := p1
  have bs1 : Box v1 w.heap.size #[.slice a n cap] 22 := (g1.block _ z1.lt (fun e => by have := Option.some.inj e; omega)).trans z1
  have bz1 : Box v1 (w.heap.size + 1) #[.int .i64 0, .int .i64 0, .int .i64 0, .int .i64 0] 27 := (g1.block _ y2.lt (fun e => by have := Option.some.inj e; omega)).trans y2
  have D1 := B3.grown g1 B3.size (fun k hk => by simp at hk; omega)
  clear g1 o3 z1 y2 B3
  go_wp2_with fail
  refine (next8_at w.heap.size (w.heap.size + 1 + 1) n cap a xs 16 v1 Hn.out hm (hr.below D1 (Nat.le_refl _)) bs1 p1 (by omega)).mono ?_
  rintro r v2 ⟨rfl, p2, g2⟩
  rw [hE.out]
  replace p2 : OneI v2 (w.heap.size + 1 + 1) 24 := p2
  have bs2 : Box v2 w.heap.size #[.slice a n cap] 22 := (g2.block _ bs1.lt (fun e => by have := Option.some.inj e; omega)).trans bs1
  have bz2 : Box v2 (w.heap.size + 1) #[.int .i64 0, .int .i64 0, .int .i64 0, .int .i64 0] 27 := (g2.block _ bz1.lt (fun e => by have := Option.some.inj e; omega)).trans bz1
  have D2 := D1.grown g2 D1.size (fun k hk => by simp at hk; omega)
  clear g2 p1 bs1 bz1 D1
  go_wp2_with fail
  refine (next8_at w.heap.size (w.heap.size + 1 + 1) n cap a xs 24 v2 Hn.out hm (hr.below D2 (Nat.le_refl _)) bs2 p2 (by omega)).mono ?_
  rintro r v3 ⟨rfl, p3, g3⟩
  rw [hQ.out]
  replace p3 : OneI v3 (w.heap.size + 1 + 1) 32 := p3
  have bs3 : Box v3 w.heap.size #[.slice a n cap] 22 := (g3.block _ bs2.lt (fun e => by have := Option.some.inj e; omega)).trans bs2
  have bz3 : Box v3 (w.heap.size + 1) #[.int .i64 0, .int .i64 0, .int .i64 0, .int .i64 0] 27 := (g3.block _ bz2.lt (fun e => by have := Option.some.inj e; omega)).trans bz2
  have D3 := D2.grown g3 D2.size (fun k hk => by simp at hk; omega)
  clear g3 p2 bs2 bz2 D2
  go_wp2_with fail
  refine (next8_at w.heap.size (w.heap.size + 1 + 1) n cap a xs 32 v3 Hn.out hm (hr.below D3 (Nat.le_refl _)) bs3 p3 (by omega)).mono ?_
  rintro r v4 ⟨rfl, p4, g4⟩
  rw [hT.out]
  replace p4 : OneI v4 (w.heap.size + 1 + 1) 40 := p4
  have bs4 : Box v4 w.heap.size #[.slice a n cap] 22 := (g4.block _ bs3.lt (fun e => by have := Option.some.inj e; omega)).trans bs3
  have bz4 : Box v4 (w.heap.size + 1) #[.int .i64 0, .int .i64 0, .int .i64 0, .int .i64 0] 27 := (g4.block _ bz3.lt (fun e => by have := Option.some.inj e; omega)).trans bz3
  have D4 := D3.grown g4 D3.size (fun k hk => by simp at hk; omega)
  clear g4 p3 bs3 bz3 D3
  have bA := (Below.refl v4.heap.size v4).alloc (Nat.le_refl _) (.cells #[.int .i64 B, .int .i64 E, .int .i64 Q, .int .i64 T] 27)
  have bq := Box.new v4 #[.int .i64 B, .int .i64 E, .int .i64 Q, .int .i64 T] 27
  have bs := bs4.below bA
  have bz := bz4.below bA
  have D := D4.trans (bA.mono D4.size)
  go_wp2_with fail
  obtain ⟨U, hU⟩ : ∃ U, U = v4.alloc (.cells #[.int .i64 B, .int .i64 E, .int .i64 Q, .int .i64 T] 27) := ⟨_, rfl⟩
  rw [← hU] at bq bs bz D ⊢
  obtain ⟨G, hG⟩ : ∃ G, G = v4.heap.size := ⟨_, rfl⟩
  rw [← hG] at bq ⊢
  clear bs4 bz4 D4 p4 bA hU hG
  have hrU := hr.below D (Nat.le_refl _)
  have q0 := bq.cell 0
  have q1 := bq.cell 1
  have q2 := bq.cell 2
  have q3 := bq.cell 3
  have s0 := bs.cell 0
  simp only [List.getElem?_toArray, List.getElem?_cons_zero, List.getElem?_cons_succ] at q0 q1 q2 q3 s0
  clear s0
  go_region_with (go_at_call 37; refine (rightSuper_at B E Q T _).mono ?_; rintro r u1 ⟨rfl, b1⟩; rw [h]; have D1 : Below w.heap.size w u1 := (D.drew).trans (b1.mono D.size); have bz1 : Box u1 (w.heap.size + 1) #[.int .i64 0, .int .i64 0, .int .i64 0, .int .i64 0] 27 := Box.below (w := U.drew) bz b1; have bs1 : Box u1 w.heap.size #[.slice a n cap] 22 := Box.below (w := U.drew) bs b1; have bq1 : Box u1 G #[.int .i64 B, .int .i64 E, .int .i64 Q, .int .i64 T] 27 := Box.below (w := U.drew) bq b1; have s0 := bs1.cell 0; have q0 := bq1.cell 0; have q1 := bq1.cell 1; have q2 := bq1.cell 2; have q3 := bq1.cell 3; simp only [List.getElem?_toArray, List.getElem?_cons_zero, List.getElem?_cons_succ] at q0 q1 q2 q3 s0)
  all_goals
    have m0 := bz1.cell 0
    have m1 := bz1.cell 1
    have m2 := bz1.cell 2
    have m3 := bz1.cell 3
    simp only [List.getElem?_toArray, List.getElem?_cons_zero, List.getElem?_cons_succ] at m0 m1 m2 m3
    have f0 := bz1.frozen 0
    have f1 := bz1.frozen 1
    have f2 := bz1.frozen 2
    have f3 := bz1.frozen 3
    go_wp2_with fail
    have Y := ((((bz1.store 0 (.int .i64 0)).store 1 (.int .i64 0)).store 2 (.int .i64 0)).store 3 (.int .i64 0))
    have C1 := ((((D1.setCell (p := ⟨w.heap.size + 1, 0, none⟩) (Nat.le_succ _) (.int .i64 0)).setCell (p := ⟨w.heap.size + 1, 1, none⟩) (Nat.le_succ _) (.int .i64 0)).setCell (p := ⟨w.heap.size + 1, 2, none⟩) (Nat.le_succ _) (.int .i64 0)).setCell (p := ⟨w.heap.size + 1, 3, none⟩) (Nat.le_succ _) (.int .i64 0))
    generalize ((((u1.setCell ⟨w.heap.size + 1, 0, none⟩ (.int .i64 0)).setCell ⟨w.heap.size + 1, 1, none⟩ (.int .i64 0)).setCell ⟨w.heap.size + 1, 2, none⟩ (.int .i64 0)).setCell ⟨w.heap.size + 1, 3, none⟩ (.int .i64 0)) = W9 at Y C1 ⊢
    clear m0 m1 m2 m3
    have m0 := Y.cell 0
    have m1 := Y.cell 1
    have m2 := Y.cell 2
    have m3 := Y.cell 3
    simp at m0 m1 m2 m3
    refine bodyPost_ret (v := .tuple #[.agg #[.int .i64 0, .int .i64 0, .int .i64 0, .int .i64 0], .int .i64 30]) (by simp [results, Try.results13, go_sem, m0, m1, m2, m3]) rfl ?_
    exact ⟨rfl, C1⟩

set_option maxRecDepth 100000 in
set_option maxHeartbeats 4000000 in
theorem getSuper_bad (bb oo cap b e q t : Nat) (xs : List UInt8) (w : World) (Hn : Hid (xs.length = 4096)) (hcap : 4096 ≤ cap) (hcm : cap ≤ 9223372036854775807) (hm : 4096 ≤ 9223372036854775807) (hr : Rd w (some ⟨bb, oo, none⟩) xs) (hB : Hid (i64 (num xs 8 8) = (b : Int))) (hE : Hid (i64 (num xs 16 8) = (e : Int))) (hQ : Hid (i64 (num xs 24 8) = (q : Int))) (hT : Hid (i64 (num xs 32 8) = (t : Int))) (h : rightS b e q t = true) (hH : isThen xs (headS b e q t) = false) :
    Calls Try.prog 13 #[.slice (some ⟨bb, oo, none⟩) 4096 cap] w fun r w' => GetsS w w' none r := by
  obtain ⟨hb9, he9, hq9, ht9⟩ : b < 9223372036854775808 ∧ e < 9223372036854775808 ∧ q < 9223372036854775808 ∧ t < 9223372036854775808 := by
    have := rightS_nat h
    omega
  have B1 := (Below.refl w.heap.size w).alloc (Nat.le_refl _) (.cells #[.slice (some ⟨bb, oo, none⟩) 4096 cap] 22)
  have x1 := Box.new w #[.slice (some ⟨bb, oo, none⟩) 4096 cap] 22
  obtain ⟨w1, hw1⟩ : ∃ w1, w1 = w.alloc (.cells #[.slice (some ⟨bb, oo, none⟩) 4096 cap] 22) := ⟨_, rfl⟩
  have s1 : w1.heap.size = w.heap.size + 1 := by rw [hw1]; simp
  rw [← hw1] at B1 x1
  have b2 := (Below.refl w1.heap.size w1).alloc (Nat.le_refl _) (.cells #[.int .i64 0, .int .i64 0, .int .i64 0, .int .i64 0] 27)
  have x2 := Box.new w1 #[.int .i64 0, .int .i64 0, .int .i64 0, .int .i64 0] 27
  have y1 := x1.below b2
  have B2 := B1.trans (b2.mono B1.size)
  obtain ⟨w2, hw2⟩ : ∃ w2, w2 = w1.alloc (.cells #[.int .i64 0, .int .i64 0, .int .i64 0, .int .i64 0] 27) := ⟨_, rfl⟩
  have s2 : w2.heap.size = w.heap.size + 1 + 1 := by rw [hw2]; simp [s1]
  rw [← hw2] at b2 x2 y1 B2
  have b3 := (Below.refl w2.heap.size w2).alloc (Nat.le_refl _) (.cells #[.int .i64 8] 3)
  have o3 : OneI (w2.alloc (.cells #[.int .i64 8] 3)) w2.heap.size 8 := heap_alloc_new w2 _
  have y2 := x2.below b3
  have z1 := y1.below b3
  have B3 := B2.trans (b3.mono B2.size)
  rw [s1] at y2
  rw [s2] at o3
  clear b2 b3 x1 y1 x2 B1 B2
  go_enter Try.func13, Try.ntmps13
  go_wp2_with fail
  rw [← hw1, ← hw2]
  obtain ⟨W, hW⟩ : ∃ W, W = w2.alloc (.cells #[.int .i64 8] 3) := ⟨_, rfl⟩
  rw [← hW] at o3 y2 z1 B3 ⊢
  clear hW hw1 hw2 s1 s2
  refine (next8_at w.heap.size (w.heap.size + 1 + 1) 4096 cap (some ⟨bb, oo, none⟩) xs 8 W Hn.out hm (hr.below B3 (Nat.le_refl _)) z1 o3 (by omega)).mono ?_
  rintro r v1 ⟨rfl, p1, g1⟩
  rw [hB.out]
  replace p1 : OneI v1 (w.heap.size + 1 + 1) 16 := p1
  have bs1 : Box v1 w.heap.size #[.slice (some ⟨bb, oo, none⟩) 4096 cap] 22 := (g1.block _ z1.lt (fun e => by have := Option.some.inj e; omega)).trans z1
  have bz1 : Box v1 (w.heap.size + 1) #[.int .i64 0, .int .i64 0, .int .i64 0, .int .i64 0] 27 := (g1.block _ y2.lt (fun e => by have := Option.some.inj e; omega)).trans y2
  have D1 := B3.grown g1 B3.size (fun k hk => by simp at hk; omega)
  clear g1 o3 z1 y2 B3
  go_wp2_with fail
  refine (next8_at w.heap.size (w.heap.size + 1 + 1) 4096 cap (some ⟨bb, oo, none⟩) xs 16 v1 Hn.out hm (hr.below D1 (Nat.le_refl _)) bs1 p1 (by omega)).mono ?_
  rintro r v2 ⟨rfl, p2, g2⟩
  rw [hE.out]
  replace p2 : OneI v2 (w.heap.size + 1 + 1) 24 := p2
  have bs2 : Box v2 w.heap.size #[.slice (some ⟨bb, oo, none⟩) 4096 cap] 22 := (g2.block _ bs1.lt (fun e => by have := Option.some.inj e; omega)).trans bs1
  have bz2 : Box v2 (w.heap.size + 1) #[.int .i64 0, .int .i64 0, .int .i64 0, .int .i64 0] 27 := (g2.block _ bz1.lt (fun e => by have := Option.some.inj e; omega)).trans bz1
  have D2 := D1.grown g2 D1.size (fun k hk => by simp at hk; omega)
  clear g2 p1 bs1 bz1 D1
  go_wp2_with fail
  refine (next8_at w.heap.size (w.heap.size + 1 + 1) 4096 cap (some ⟨bb, oo, none⟩) xs 24 v2 Hn.out hm (hr.below D2 (Nat.le_refl _)) bs2 p2 (by omega)).mono ?_
  rintro r v3 ⟨rfl, p3, g3⟩
  rw [hQ.out]
  replace p3 : OneI v3 (w.heap.size + 1 + 1) 32 := p3
  have bs3 : Box v3 w.heap.size #[.slice (some ⟨bb, oo, none⟩) 4096 cap] 22 := (g3.block _ bs2.lt (fun e => by have := Option.some.inj e; omega)).trans bs2
  have bz3 : Box v3 (w.heap.size + 1) #[.int .i64 0, .int .i64 0, .int .i64 0, .int .i64 0] 27 := (g3.block _ bz2.lt (fun e => by have := Option.some.inj e; omega)).trans bz2
  have D3 := D2.grown g3 D2.size (fun k hk => by simp at hk; omega)
  clear g3 p2 bs2 bz2 D2
  go_wp2_with fail
  refine (next8_at w.heap.size (w.heap.size + 1 + 1) 4096 cap (some ⟨bb, oo, none⟩) xs 32 v3 Hn.out hm (hr.below D3 (Nat.le_refl _)) bs3 p3 (by omega)).mono ?_
  rintro r v4 ⟨rfl, p4, g4⟩
  rw [hT.out]
  replace p4 : OneI v4 (w.heap.size + 1 + 1) 40 := p4
  have bs4 : Box v4 w.heap.size #[.slice (some ⟨bb, oo, none⟩) 4096 cap] 22 := (g4.block _ bs3.lt (fun e => by have := Option.some.inj e; omega)).trans bs3
  have bz4 : Box v4 (w.heap.size + 1) #[.int .i64 0, .int .i64 0, .int .i64 0, .int .i64 0] 27 := (g4.block _ bz3.lt (fun e => by have := Option.some.inj e; omega)).trans bz3
  have D4 := D3.grown g4 D3.size (fun k hk => by simp at hk; omega)
  clear g4 p3 bs3 bz3 D3
  have bA := (Below.refl v4.heap.size v4).alloc (Nat.le_refl _) (.cells #[.int .i64 (b : Int), .int .i64 (e : Int), .int .i64 (q : Int), .int .i64 (t : Int)] 27)
  have bq := Box.new v4 #[.int .i64 (b : Int), .int .i64 (e : Int), .int .i64 (q : Int), .int .i64 (t : Int)] 27
  have bs := bs4.below bA
  have bz := bz4.below bA
  have D := D4.trans (bA.mono D4.size)
  go_wp2_with fail
  obtain ⟨U, hU⟩ : ∃ U, U = v4.alloc (.cells #[.int .i64 (b : Int), .int .i64 (e : Int), .int .i64 (q : Int), .int .i64 (t : Int)] 27) := ⟨_, rfl⟩
  rw [← hU] at bq bs bz D ⊢
  obtain ⟨G, hG⟩ : ∃ G, G = v4.heap.size := ⟨_, rfl⟩
  rw [← hG] at bq ⊢
  clear bs4 bz4 D4 p4 bA hU hG
  have hrU := hr.below D (Nat.le_refl _)
  have q0 := bq.cell 0
  have q1 := bq.cell 1
  have q2 := bq.cell 2
  have q3 := bq.cell 3
  have s0 := bs.cell 0
  simp only [List.getElem?_toArray, List.getElem?_cons_zero, List.getElem?_cons_succ] at q0 q1 q2 q3 s0
  clear s0
  go_region_with (first | (go_at_call 37; refine (rightSuper_at (b : Int) e q t _).mono ?_; rintro r u1 ⟨rfl, b1⟩; rw [h]; have D1 : Below w.heap.size w u1 := (D.drew).trans (b1.mono D.size); have bz1 : Box u1 (w.heap.size + 1) #[.int .i64 0, .int .i64 0, .int .i64 0, .int .i64 0] 27 := Box.below (w := U.drew) bz b1; have bs1 : Box u1 w.heap.size #[.slice (some ⟨bb, oo, none⟩) 4096 cap] 22 := Box.below (w := U.drew) bs b1; have bq1 : Box u1 G #[.int .i64 (b : Int), .int .i64 (e : Int), .int .i64 (q : Int), .int .i64 (t : Int)] 27 := Box.below (w := U.drew) bq b1; have s0 := bs1.cell 0; have q0 := bq1.cell 0; have q1 := bq1.cell 1; have q2 := bq1.cell 2; have q3 := bq1.cell 3; simp only [List.getElem?_toArray, List.getElem?_cons_zero, List.getElem?_cons_succ] at q0 q1 q2 q3 s0) | (go_at_call 39; refine (superHead_at b e q t u1 hb9 he9 hq9 ht9).mono ?_; rintro r u2 ⟨g, rfl, hg, oh, b2⟩; have D2 : Below w.heap.size w u2 := D1.trans (b2.mono D1.size); have bz2 := bz1.below b2; have bq2 := bq1.below b2; have bs2 := bs1.below b2; have hr2 := hr.below D2 (Nat.le_refl _); have t0 := bs2.cell 0; simp only [List.getElem?_toArray, List.getElem?_cons_zero] at t0) | (go_at_call 45; refine (isThen_at cap 44 4096 44 (some ⟨bb, oo, none⟩) (some ⟨g, 0, none⟩) xs (headS b e q t) u2 Hn.out (headS_length _ _ _ _) hcap hcm (by omega) (by simp) hr2 oh.rd).mono ?_; rintro r u3 ⟨rfl, rfl⟩; rw [hH]))
  all_goals
    have m0 := bz2.cell 0
    have m1 := bz2.cell 1
    have m2 := bz2.cell 2
    have m3 := bz2.cell 3
    simp only [List.getElem?_toArray, List.getElem?_cons_zero, List.getElem?_cons_succ] at m0 m1 m2 m3
    have f0 := bz2.frozen 0
    have f1 := bz2.frozen 1
    have f2 := bz2.frozen 2
    have f3 := bz2.frozen 3
    go_wp2_with fail
    have Y := ((((bz2.store 0 (.int .i64 0)).store 1 (.int .i64 0)).store 2 (.int .i64 0)).store 3 (.int .i64 0))
    have C1 := ((((D2.setCell (p := ⟨w.heap.size + 1, 0, none⟩) (Nat.le_succ _) (.int .i64 0)).setCell (p := ⟨w.heap.size + 1, 1, none⟩) (Nat.le_succ _) (.int .i64 0)).setCell (p := ⟨w.heap.size + 1, 2, none⟩) (Nat.le_succ _) (.int .i64 0)).setCell (p := ⟨w.heap.size + 1, 3, none⟩) (Nat.le_succ _) (.int .i64 0))
    generalize ((((u2.setCell ⟨w.heap.size + 1, 0, none⟩ (.int .i64 0)).setCell ⟨w.heap.size + 1, 1, none⟩ (.int .i64 0)).setCell ⟨w.heap.size + 1, 2, none⟩ (.int .i64 0)).setCell ⟨w.heap.size + 1, 3, none⟩ (.int .i64 0)) = W9 at Y C1 ⊢
    clear m0 m1 m2 m3
    have m0 := Y.cell 0
    have m1 := Y.cell 1
    have m2 := Y.cell 2
    have m3 := Y.cell 3
    simp at m0 m1 m2 m3
    refine bodyPost_ret (v := .tuple #[.agg #[.int .i64 0, .int .i64 0, .int .i64 0, .int .i64 0], .int .i64 30]) (by simp [results, Try.results13, go_sem, m0, m1, m2, m3]) rfl ?_
    exact ⟨rfl, C1⟩

set_option maxRecDepth 100000 in
set_option maxHeartbeats 4000000 in
theorem getSuper_ok (bb oo cap b e q t : Nat) (xs : List UInt8) (w : World) (Hn : Hid (xs.length = 4096)) (hcap : 4096 ≤ cap) (hcm : cap ≤ 9223372036854775807) (hm : 4096 ≤ 9223372036854775807) (hr : Rd w (some ⟨bb, oo, none⟩) xs) (hB : Hid (i64 (num xs 8 8) = (b : Int))) (hE : Hid (i64 (num xs 16 8) = (e : Int))) (hQ : Hid (i64 (num xs 24 8) = (q : Int))) (hT : Hid (i64 (num xs 32 8) = (t : Int))) (h : rightS b e q t = true) (hH : isThen xs (headS b e q t) = true) :
    Calls Try.prog 13 #[.slice (some ⟨bb, oo, none⟩) 4096 cap] w fun r w' => GetsS w w' (some ⟨b, e, q, t⟩) r := by
  obtain ⟨hb9, he9, hq9, ht9⟩ : b < 9223372036854775808 ∧ e < 9223372036854775808 ∧ q < 9223372036854775808 ∧ t < 9223372036854775808 := by
    have := rightS_nat h
    omega
  have B1 := (Below.refl w.heap.size w).alloc (Nat.le_refl _) (.cells #[.slice (some ⟨bb, oo, none⟩) 4096 cap] 22)
  have x1 := Box.new w #[.slice (some ⟨bb, oo, none⟩) 4096 cap] 22
  obtain ⟨w1, hw1⟩ : ∃ w1, w1 = w.alloc (.cells #[.slice (some ⟨bb, oo, none⟩) 4096 cap] 22) := ⟨_, rfl⟩
  have s1 : w1.heap.size = w.heap.size + 1 := by rw [hw1]; simp
  rw [← hw1] at B1 x1
  have b2 := (Below.refl w1.heap.size w1).alloc (Nat.le_refl _) (.cells #[.int .i64 0, .int .i64 0, .int .i64 0, .int .i64 0] 27)
  have x2 := Box.new w1 #[.int .i64 0, .int .i64 0, .int .i64 0, .int .i64 0] 27
  have y1 := x1.below b2
  have B2 := B1.trans (b2.mono B1.size)
  obtain ⟨w2, hw2⟩ : ∃ w2, w2 = w1.alloc (.cells #[.int .i64 0, .int .i64 0, .int .i64 0, .int .i64 0] 27) := ⟨_, rfl⟩
  have s2 : w2.heap.size = w.heap.size + 1 + 1 := by rw [hw2]; simp [s1]
  rw [← hw2] at b2 x2 y1 B2
  have b3 := (Below.refl w2.heap.size w2).alloc (Nat.le_refl _) (.cells #[.int .i64 8] 3)
  have o3 : OneI (w2.alloc (.cells #[.int .i64 8] 3)) w2.heap.size 8 := heap_alloc_new w2 _
  have y2 := x2.below b3
  have z1 := y1.below b3
  have B3 := B2.trans (b3.mono B2.size)
  rw [s1] at y2
  rw [s2] at o3
  clear b2 b3 x1 y1 x2 B1 B2
  go_enter Try.func13, Try.ntmps13
  go_wp2_with fail
  rw [← hw1, ← hw2]
  obtain ⟨W, hW⟩ : ∃ W, W = w2.alloc (.cells #[.int .i64 8] 3) := ⟨_, rfl⟩
  rw [← hW] at o3 y2 z1 B3 ⊢
  clear hW hw1 hw2 s1 s2
  refine (next8_at w.heap.size (w.heap.size + 1 + 1) 4096 cap (some ⟨bb, oo, none⟩) xs 8 W Hn.out hm (hr.below B3 (Nat.le_refl _)) z1 o3 (by omega)).mono ?_
  rintro r v1 ⟨rfl, p1, g1⟩
  rw [hB.out]
  replace p1 : OneI v1 (w.heap.size + 1 + 1) 16 := p1
  have bs1 : Box v1 w.heap.size #[.slice (some ⟨bb, oo, none⟩) 4096 cap] 22 := (g1.block _ z1.lt (fun e => by have := Option.some.inj e; omega)).trans z1
  have bz1 : Box v1 (w.heap.size + 1) #[.int .i64 0, .int .i64 0, .int .i64 0, .int .i64 0] 27 := (g1.block _ y2.lt (fun e => by have := Option.some.inj e; omega)).trans y2
  have D1 := B3.grown g1 B3.size (fun k hk => by simp at hk; omega)
  clear g1 o3 z1 y2 B3
  go_wp2_with fail
  refine (next8_at w.heap.size (w.heap.size + 1 + 1) 4096 cap (some ⟨bb, oo, none⟩) xs 16 v1 Hn.out hm (hr.below D1 (Nat.le_refl _)) bs1 p1 (by omega)).mono ?_
  rintro r v2 ⟨rfl, p2, g2⟩
  rw [hE.out]
  replace p2 : OneI v2 (w.heap.size + 1 + 1) 24 := p2
  have bs2 : Box v2 w.heap.size #[.slice (some ⟨bb, oo, none⟩) 4096 cap] 22 := (g2.block _ bs1.lt (fun e => by have := Option.some.inj e; omega)).trans bs1
  have bz2 : Box v2 (w.heap.size + 1) #[.int .i64 0, .int .i64 0, .int .i64 0, .int .i64 0] 27 := (g2.block _ bz1.lt (fun e => by have := Option.some.inj e; omega)).trans bz1
  have D2 := D1.grown g2 D1.size (fun k hk => by simp at hk; omega)
  clear g2 p1 bs1 bz1 D1
  go_wp2_with fail
  refine (next8_at w.heap.size (w.heap.size + 1 + 1) 4096 cap (some ⟨bb, oo, none⟩) xs 24 v2 Hn.out hm (hr.below D2 (Nat.le_refl _)) bs2 p2 (by omega)).mono ?_
  rintro r v3 ⟨rfl, p3, g3⟩
  rw [hQ.out]
  replace p3 : OneI v3 (w.heap.size + 1 + 1) 32 := p3
  have bs3 : Box v3 w.heap.size #[.slice (some ⟨bb, oo, none⟩) 4096 cap] 22 := (g3.block _ bs2.lt (fun e => by have := Option.some.inj e; omega)).trans bs2
  have bz3 : Box v3 (w.heap.size + 1) #[.int .i64 0, .int .i64 0, .int .i64 0, .int .i64 0] 27 := (g3.block _ bz2.lt (fun e => by have := Option.some.inj e; omega)).trans bz2
  have D3 := D2.grown g3 D2.size (fun k hk => by simp at hk; omega)
  clear g3 p2 bs2 bz2 D2
  go_wp2_with fail
  refine (next8_at w.heap.size (w.heap.size + 1 + 1) 4096 cap (some ⟨bb, oo, none⟩) xs 32 v3 Hn.out hm (hr.below D3 (Nat.le_refl _)) bs3 p3 (by omega)).mono ?_
  rintro r v4 ⟨rfl, p4, g4⟩
  rw [hT.out]
  replace p4 : OneI v4 (w.heap.size + 1 + 1) 40 := p4
  have bs4 : Box v4 w.heap.size #[.slice (some ⟨bb, oo, none⟩) 4096 cap] 22 := (g4.block _ bs3.lt (fun e => by have := Option.some.inj e; omega)).trans bs3
  have bz4 : Box v4 (w.heap.size + 1) #[.int .i64 0, .int .i64 0, .int .i64 0, .int .i64 0] 27 := (g4.block _ bz3.lt (fun e => by have := Option.some.inj e; omega)).trans bz3
  have D4 := D3.grown g4 D3.size (fun k hk => by simp at hk; omega)
  clear g4 p3 bs3 bz3 D3
  have bA := (Below.refl v4.heap.size v4).alloc (Nat.le_refl _) (.cells #[.int .i64 (b : Int), .int .i64 (e : Int), .int .i64 (q : Int), .int .i64 (t : Int)] 27)
  have bq := Box.new v4 #[.int .i64 (b : Int), .int .i64 (e : Int), .int .i64 (q : Int), .int .i64 (t : Int)] 27
  have bs := bs4.below bA
  have bz := bz4.below bA
  have D := D4.trans (bA.mono D4.size)
  go_wp2_with fail
  obtain ⟨U, hU⟩ : ∃ U, U = v4.alloc (.cells #[.int .i64 (b : Int), .int .i64 (e : Int), .int .i64 (q : Int), .int .i64 (t : Int)] 27) := ⟨_, rfl⟩
  rw [← hU] at bq bs bz D ⊢
  obtain ⟨G, hG⟩ : ∃ G, G = v4.heap.size := ⟨_, rfl⟩
  rw [← hG] at bq ⊢
  clear bs4 bz4 D4 p4 bA hU hG
  have hrU := hr.below D (Nat.le_refl _)
  have q0 := bq.cell 0
  have q1 := bq.cell 1
  have q2 := bq.cell 2
  have q3 := bq.cell 3
  have s0 := bs.cell 0
  simp only [List.getElem?_toArray, List.getElem?_cons_zero, List.getElem?_cons_succ] at q0 q1 q2 q3 s0
  clear s0
  go_region_with (first | (go_at_call 37; refine (rightSuper_at (b : Int) e q t _).mono ?_; rintro r u1 ⟨rfl, b1⟩; rw [h]; have D1 : Below w.heap.size w u1 := (D.drew).trans (b1.mono D.size); have bz1 : Box u1 (w.heap.size + 1) #[.int .i64 0, .int .i64 0, .int .i64 0, .int .i64 0] 27 := Box.below (w := U.drew) bz b1; have bs1 : Box u1 w.heap.size #[.slice (some ⟨bb, oo, none⟩) 4096 cap] 22 := Box.below (w := U.drew) bs b1; have bq1 : Box u1 G #[.int .i64 (b : Int), .int .i64 (e : Int), .int .i64 (q : Int), .int .i64 (t : Int)] 27 := Box.below (w := U.drew) bq b1; have s0 := bs1.cell 0; have q0 := bq1.cell 0; have q1 := bq1.cell 1; have q2 := bq1.cell 2; have q3 := bq1.cell 3; simp only [List.getElem?_toArray, List.getElem?_cons_zero, List.getElem?_cons_succ] at q0 q1 q2 q3 s0) | (go_at_call 39; refine (superHead_at b e q t u1 hb9 he9 hq9 ht9).mono ?_; rintro r u2 ⟨g, rfl, hg, oh, b2⟩; have D2 : Below w.heap.size w u2 := D1.trans (b2.mono D1.size); have bz2 := bz1.below b2; have bq2 := bq1.below b2; have bs2 := bs1.below b2; have hr2 := hr.below D2 (Nat.le_refl _); have t0 := bs2.cell 0; simp only [List.getElem?_toArray, List.getElem?_cons_zero] at t0) | (go_at_call 45; refine (isThen_at cap 44 4096 44 (some ⟨bb, oo, none⟩) (some ⟨g, 0, none⟩) xs (headS b e q t) u2 Hn.out (headS_length _ _ _ _) hcap hcm (by omega) (by simp) hr2 oh.rd).mono ?_; rintro r u3 ⟨rfl, rfl⟩; rw [hH]))
  all_goals
    have m0 := bz2.cell 0
    have m1 := bz2.cell 1
    have m2 := bz2.cell 2
    have m3 := bz2.cell 3
    simp only [List.getElem?_toArray, List.getElem?_cons_zero, List.getElem?_cons_succ] at m0 m1 m2 m3
    have f0 := bz2.frozen 0
    have f1 := bz2.frozen 1
    have f2 := bz2.frozen 2
    have f3 := bz2.frozen 3
    have k0 := bq2.cell 0
    have k1 := bq2.cell 1
    have k2 := bq2.cell 2
    have k3 := bq2.cell 3
    simp only [List.getElem?_toArray, List.getElem?_cons_zero, List.getElem?_cons_succ] at k0 k1 k2 k3
    go_wp2_with fail
    have Y := ((((bz2.store 0 (.int .i64 (b : Int))).store 1 (.int .i64 (e : Int))).store 2 (.int .i64 (q : Int))).store 3 (.int .i64 (t : Int)))
    have C1 := ((((D2.setCell (p := ⟨w.heap.size + 1, 0, none⟩) (Nat.le_succ _) (.int .i64 (b : Int))).setCell (p := ⟨w.heap.size + 1, 1, none⟩) (Nat.le_succ _) (.int .i64 (e : Int))).setCell (p := ⟨w.heap.size + 1, 2, none⟩) (Nat.le_succ _) (.int .i64 (q : Int))).setCell (p := ⟨w.heap.size + 1, 3, none⟩) (Nat.le_succ _) (.int .i64 (t : Int)))
    generalize ((((u2.setCell ⟨w.heap.size + 1, 0, none⟩ (.int .i64 (b : Int))).setCell ⟨w.heap.size + 1, 1, none⟩ (.int .i64 (e : Int))).setCell ⟨w.heap.size + 1, 2, none⟩ (.int .i64 (q : Int))).setCell ⟨w.heap.size + 1, 3, none⟩ (.int .i64 (t : Int))) = W9 at Y C1 ⊢
    clear m0 m1 m2 m3
    have m0 := Y.cell 0
    have m1 := Y.cell 1
    have m2 := Y.cell 2
    have m3 := Y.cell 3
    simp at m0 m1 m2 m3
    refine bodyPost_ret (v := .tuple #[.agg #[.int .i64 (b : Int), .int .i64 (e : Int), .int .i64 (q : Int), .int .i64 (t : Int)], .int .i64 0]) (by simp [results, Try.results13, go_sem, m0, m1, m2, m3]) rfl ?_
    exact ⟨rfl, C1⟩

end Go.Proofs.Ytmhplpiglbamcaa
