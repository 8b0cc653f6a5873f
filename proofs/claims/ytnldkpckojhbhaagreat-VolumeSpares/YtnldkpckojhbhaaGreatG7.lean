/-
  SuRefPut, SuRefSuper, HSmall, HFit, HLay, HDo, VFormat, JStand, DkBackw, DkCopy, DkStand, SSmall, SRange, SGroup, SProd, SHands, SInv, SImg, SAhead, SWr: put together.
-/
import Derived.Test.YtnldkpckojhbhaaGreatG6
import Derived.RangeFuncNested
import Derived.RangeFuncBound
import Derived.RangeFuncCalls
import Derived.RangeFuncLeaves
import Derived.Shelf.Abstract
import Derived.Shelf.RegionOpen
import Derived.WalkKit
import Derived.OwnWalkIn
import Derived.TacticsInMore
import Derived.LoopNIn
import Derived.LoopIn
import Derived.Deep.RegionHeld3
import Derived.Deep.AppendLies
/-
  The document's own Puts.
-/
namespace Go.Proofs.YtnldkpckojhbhaaGreat.Su
open Go.RowKit

/-- add: a number, in so many bytes -/
theorem refadd_at (cap n N : Nat) (a : Option Addr) (xs : List UInt8) (v : Nat) (V S : Int) (w : World) (hV : V = (v : Int)) (hS : S = (N : Int)) (hl : xs.length = n) (hv : v < 9223372036854775808) (hN0 : 0 < N) (hN : N ≤ 8) (hn : n ≤ 140737488355300) (hr : Rd w a xs) (hnil : a = none → cap = 0) :
    Calls Tryz.prog 168 #[.slice a n cap, .int .i64 V, .int .i64 S] w fun e w' => ∃ v', e = .returned v' ∧ w'.ownsRow w.heap.size 5 1 v' (n + N) (bcs (xs ++ toBE N v)) ∧ Below w.heap.size w w' := by
  subst hV hS
  have c := refAdd_at cap n N a xs v v N w rfl rfl hl (by omega) hN0 hN hn hr hnil
  clear hl
  go_enter Tryz.func168, Tryz.ntmps168
  go_wp2_with fail
  refine c.mono ?_
  rintro e w1 ⟨v', rfl, ho, hb⟩
  go_wp2
  go_ret
  exact ⟨_, rfl, ho, hb⟩

/-- The class: these slots hold these values, and the box is there. -/
def SlotsBox (ps : List (Nat × Value)) (G : Nat) (cs : Array Value) (t : TypeId) (a : Act) (u : World) : Prop := (∀ p ∈ ps, a.eval (.tmp p.1) = p.2) ∧ Box u G cs t
theorem SlotsBox.put {ps : List (Nat × Value)} {G : Nat} {cs : Array Value} {t : TypeId} {a : Act} {u : World} (s : Nat) (v : Value) (hs : (ps.all fun p => p.1 != s) = true) :
    SlotsBox ps G cs t (a.put (some s) v) u ↔ SlotsBox ps G cs t a u := by
  have e : ∀ p ∈ ps, (a.put (some s) v).eval (.tmp p.1) = a.eval (.tmp p.1) := fun p hp => Act.eval_put (fun d hd => by
    have h1 := (List.all_eq_true.1 hs) p hp
    simp at h1 hd
    subst hd
    intro h
    injection h with h
    exact h1 h)
  constructor
  · rintro ⟨h, hb⟩
    exact ⟨fun p hp => (e p hp).symm.trans (h p hp), hb⟩
  · rintro ⟨h, hb⟩
    exact ⟨fun p hp => (e p hp).trans (h p hp), hb⟩

set_option maxRecDepth 100000 in
set_option maxHeartbeats 4000000 in
theorem refPutSuper_ok (b e q t : Nat) (w : World) (hb : 64 ≤ b ∧ b ≤ 512) (he : 1 ≤ e ∧ e ≤ 8388608) (hq : 1 ≤ q ∧ q ≤ 549755813888) (ht : 0 ≤ t ∧ t ≤ 511) :
    Calls Tryz.prog 100 #[.agg #[.int .i64 b, .int .i64 e, .int .i64 q, .int .i64 t]] w fun r w' => Puts w w' (some (superB b e q t)) r := by
  have B0 := (Below.refl w.heap.size w).alloc (Nat.le_refl _) (.cells #[.int .i64 b, .int .i64 e, .int .i64 q, .int .i64 t] 141)
  have x0 := Box.new w #[.int .i64 b, .int .i64 e, .int .i64 q, .int .i64 t] 141
  go_enter Tryz.func100, Tryz.ntmps100
  go_wp2_with fail
  obtain ⟨W, hW⟩ : ∃ W, W = w.alloc (.cells #[.int .i64 (b : Int), .int .i64 e, .int .i64 q, .int .i64 t] 141) := ⟨_, rfl⟩
  rw [← hW] at x0 B0 ⊢
  clear hW
  refine wp_region_any (by kernel_rfl) ?_
  change wpAny _ _ _ _ _ _ _ (World.drew _)
  -- the addresses first
  refine wpAny_take (i := 2) (v := ?_) rfl (by kernel_rfl) (by kernel_rfl) (by kernel_rfl) (fun _ _ _ h => h) (Or.inl ⟨by rfl, ?_⟩) ?_
  rotate_left
  · intro w
    go_simp
    with_reducible rfl
  refine wpAny_take (i := 5) (v := ?_) rfl (by kernel_rfl) (by kernel_rfl) (by kernel_rfl) (fun _ _ _ h => h) (Or.inl ⟨by rfl, ?_⟩) ?_
  rotate_left
  · intro w
    go_simp
    with_reducible rfl
  refine wpAny_take (i := 8) (v := ?_) rfl (by kernel_rfl) (by kernel_rfl) (by kernel_rfl) (fun _ _ _ h => h) (Or.inl ⟨by rfl, ?_⟩) ?_
  rotate_left
  · intro w
    go_simp
    with_reducible rfl
  refine wpAny_take (i := 11) (v := ?_) rfl (by kernel_rfl) (by kernel_rfl) (by kernel_rfl) (fun _ _ _ h => h) (Or.inl ⟨by rfl, ?_⟩) ?_
  rotate_left
  · intro w
    go_simp
    with_reducible rfl
  refine wpAny_of_class (C := SlotsBox [(45, .pointer (some ⟨w.heap.size, 0, none⟩)), (48, .pointer (some ⟨w.heap.size, 1, none⟩)), (51, .pointer (some ⟨w.heap.size, 2, none⟩)), (54, .pointer (some ⟨w.heap.size, 3, none⟩))] w.heap.size #[.int .i64 b, .int .i64 e, .int .i64 q, .int .i64 t] 141) _ _ _ _ ?_
  have hC0 : Box W.drew w.heap.size #[.int .i64 (b : Int), .int .i64 e, .int .i64 q, .int .i64 t] 141 := x0
  refine wpAnyC_take (i := 3) (v := .int .i64 b) rfl (by kernel_rfl) (by kernel_rfl) (by kernel_rfl) (fun _ _ _ h => h) ?_ (fun a u h => (SlotsBox.put 46 _ (by rfl)).1 h) (fun a u h => (SlotsBox.put 46 _ (by rfl)).2 h) ?_ ?_
  · rintro a u ⟨hs, hx⟩
    have h1 : a.tmps[45]?.getD undef = .pointer (some ⟨w.heap.size, 0, none⟩) := by
      have := hs (45, .pointer (some ⟨w.heap.size, 0, none⟩)) (by simp)
      simpa [Act.eval] using this
    have c := hx.cell 0
    simp at c
    refine ⟨rfl, ?_⟩
    simp [execOp, h1, go_sem, c]
  · refine ⟨fun p hp => ?_, hC0⟩
    simp at hp
    rcases hp with rfl | rfl | rfl | rfl <;> rfl
  refine wpAnyC_take (i := 6) (v := .int .i64 e) rfl (by kernel_rfl) (by kernel_rfl) (by kernel_rfl) (fun _ _ _ h => h) ?_ (fun a u h => (SlotsBox.put 49 _ (by rfl)).1 h) (fun a u h => (SlotsBox.put 49 _ (by rfl)).2 h) ?_ ?_
  · rintro a u ⟨hs, hx⟩
    have h1 : a.tmps[48]?.getD undef = .pointer (some ⟨w.heap.size, 1, none⟩) := by
      have := hs (48, .pointer (some ⟨w.heap.size, 1, none⟩)) (by simp)
      simpa [Act.eval] using this
    have c := hx.cell 1
    simp at c
    refine ⟨rfl, ?_⟩
    simp [execOp, h1, go_sem, c]
  · refine (SlotsBox.put 46 _ (by rfl)).2 ?_
    refine ⟨fun p hp => ?_, hC0⟩
    simp at hp
    rcases hp with rfl | rfl | rfl | rfl <;> rfl
  refine wpAnyC_take (i := 9) (v := .int .i64 q) rfl (by kernel_rfl) (by kernel_rfl) (by kernel_rfl) (fun _ _ _ h => h) ?_ (fun a u h => (SlotsBox.put 52 _ (by rfl)).1 h) (fun a u h => (SlotsBox.put 52 _ (by rfl)).2 h) ?_ ?_
  · rintro a u ⟨hs, hx⟩
    have h1 : a.tmps[51]?.getD undef = .pointer (some ⟨w.heap.size, 2, none⟩) := by
      have := hs (51, .pointer (some ⟨w.heap.size, 2, none⟩)) (by simp)
      simpa [Act.eval] using this
    have c := hx.cell 2
    simp at c
    refine ⟨rfl, ?_⟩
    simp [execOp, h1, go_sem, c]
  · refine (SlotsBox.put 49 _ (by rfl)).2 ?_
    refine (SlotsBox.put 46 _ (by rfl)).2 ?_
    refine ⟨fun p hp => ?_, hC0⟩
    simp at hp
    rcases hp with rfl | rfl | rfl | rfl <;> rfl
  refine wpAnyC_take (i := 12) (v := .int .i64 t) rfl (by kernel_rfl) (by kernel_rfl) (by kernel_rfl) (fun _ _ _ h => h) ?_ (fun a u h => (SlotsBox.put 55 _ (by rfl)).1 h) (fun a u h => (SlotsBox.put 55 _ (by rfl)).2 h) ?_ ?_
  · rintro a u ⟨hs, hx⟩
    have h1 : a.tmps[54]?.getD undef = .pointer (some ⟨w.heap.size, 3, none⟩) := by
      have := hs (54, .pointer (some ⟨w.heap.size, 3, none⟩)) (by simp)
      simpa [Act.eval] using this
    have c := hx.cell 3
    simp at c
    refine ⟨rfl, ?_⟩
    simp [execOp, h1, go_sem, c]
  · refine (SlotsBox.put 52 _ (by rfl)).2 ?_
    refine (SlotsBox.put 49 _ (by rfl)).2 ?_
    refine (SlotsBox.put 46 _ (by rfl)).2 ?_
    refine ⟨fun p hp => ?_, hC0⟩
    simp at hp
    rcases hp with rfl | rfl | rfl | rfl <;> rfl
  have kc : (convert 37 37 (.slice (some ⟨W.heap.size, 0, none⟩) 8 8)).run Tryz.prog ((W.alloc (.cells #[.int .u8 76, .int .u8 69, .int .u8 68, .int .u8 71, .int .u8 69, .int .u8 82, .int .u8 48, .int .u8 49] 5)).drew) = .ok (.slice (some ⟨W.heap.size, 0, none⟩) 8 8) ((W.alloc (.cells #[.int .u8 76, .int .u8 69, .int .u8 68, .int .u8 71, .int .u8 69, .int .u8 82, .int .u8 48, .int .u8 49] 5 (8, 9))).drew) := Lib.run_convert_bytes_const (P := Tryz.prog) W.drew 37 5 #[.int .u8 76, .int .u8 69, .int .u8 68, .int .u8 71, .int .u8 69, .int .u8 82, .int .u8 48, .int .u8 49] 8 8 Tryz.underlying37 Tryz.underlying5
  refine wpAnyC_one (i := 0) (by kernel_rfl) rfl (fun K hK => ?_)
  go_simp
  refine hK _ _ ⟨?_, ?_⟩
  · refine ⟨fun p hp => ?_, ?_⟩
    · simp at hp
      rcases hp with rfl | rfl | rfl | rfl <;> rfl
    · exact (Below.heap_alloc W _ _ x0.lt).trans x0
  clear hK K
  refine wpAnyC_one (i := 1) (by kernel_rfl) rfl (fun K hK => ?_)
  go_simp
  refine hK _ _ ⟨?_, ?_⟩
  · refine ⟨fun p hp => ?_, ?_⟩
    · simp at hp
      rcases hp with rfl | rfl | rfl | rfl <;> rfl
    · exact (Below.heap_alloc W _ _ x0.lt).trans x0
  clear hK K
  obtain ⟨V, hV⟩ : ∃ V, V = (W.alloc (.cells #[.int .u8 76, .int .u8 69, .int .u8 68, .int .u8 71, .int .u8 69, .int .u8 82, .int .u8 48, .int .u8 49] 5 (8, 9))).drew := ⟨_, rfl⟩
  have rL : Rd V (some ⟨W.heap.size, 0, none⟩) letters := by rw [hV]; exact rd_marked W (8, 9) letters
  have BV : Below w.heap.size w V := by rw [hV]; exact (B0.alloc B0.size _).drew
  have xV : Box V w.heap.size #[.int .i64 (b : Int), .int .i64 e, .int .i64 q, .int .i64 t] 141 := by rw [hV]; exact (Below.heap_alloc W _ _ x0.lt).trans x0
  rw [← hV]
  clear hV kc
  obtain ⟨L0, hL0⟩ : ∃ L, L = letters := ⟨_, rfl⟩
  obtain ⟨L1, hL1⟩ : ∃ L, L = L0 ++ toBE 8 b := ⟨_, rfl⟩
  obtain ⟨L2, hL2⟩ : ∃ L, L = L1 ++ toBE 8 e := ⟨_, rfl⟩
  obtain ⟨L3, hL3⟩ : ∃ L, L = L2 ++ toBE 8 q := ⟨_, rfl⟩
  obtain ⟨L4, hL4⟩ : ∃ L, L = L3 ++ toBE 8 t := ⟨_, rfl⟩
  have N0 : Hid (L0.length = 8) := by rw [hL0]; exact rfl
  have N1 : Hid (L1.length = 16) := by rw [hL1, List.length_append, toBE_length, N0.out]; exact rfl
  have N2 : Hid (L2.length = 24) := by rw [hL2, List.length_append, toBE_length, N1.out]; exact rfl
  have N3 : Hid (L3.length = 32) := by rw [hL3, List.length_append, toBE_length, N2.out]; exact rfl
  have N4 : Hid (L4.length = 40) := by rw [hL4, List.length_append, toBE_length, N3.out]; exact rfl
  have E4 : Hid (lead [b, e, q, t] = L4) := by show _ = _; rw [hL4, hL3, hL2, hL1, hL0]; simp [lead]
  rw [← hL0] at rL
  have U1 : Hid _ := hL1
  have U2 : Hid _ := hL2
  have U3 : Hid _ := hL3
  have U4 : Hid _ := hL4
  have n0 : (some (⟨W.heap.size, 0, none⟩ : Addr)) = none → 8 = 0 := fun h => by simp at h
  clear hL0 hL1 hL2 hL3 hL4
  refine wpAnyC_one (i := 4) (by kernel_rfl) rfl (fun K hK => ?_)
  go_simp
  refine (refadd_at 8 8 8 (some ⟨W.heap.size, 0, none⟩) L0 b _ 8 V rfl rfl N0.out (by omega) (by omega) (by omega) (by omega) rL n0).mono ?_
  rintro r w1 ⟨v1, rfl, o1, b1⟩
  rw [← U1.out] at o1
  obtain ⟨a1, c1, rfl, _, _, _, r1, n1, _⟩ := owns_parts o1
  have B1 := BV.trans (b1.mono BV.size)
  have x1 := xV.below b1
  refine hK _ _ ⟨?_, ?_⟩
  · refine ⟨fun p hp => ?_, x1⟩
    simp at hp
    rcases hp with rfl | rfl | rfl | rfl <;> rfl
  clear hK K b1 BV xV rL n0
  clear o1
  refine wpAnyC_one (i := 7) (by kernel_rfl) rfl (fun K hK => ?_)
  go_simp
  refine (refadd_at c1 16 8 a1 L1 e _ 8 w1 rfl rfl N1.out (by omega) (by omega) (by omega) (by omega) r1 n1).mono ?_
  rintro r w2 ⟨v2, rfl, o2, b2⟩
  rw [← U2.out] at o2
  obtain ⟨a2, c2, rfl, _, _, _, r2, n2, _⟩ := owns_parts o2
  have B2 := B1.trans (b2.mono B1.size)
  have x2 := x1.below b2
  refine hK _ _ ⟨?_, ?_⟩
  · refine ⟨fun p hp => ?_, x2⟩
    simp at hp
    rcases hp with rfl | rfl | rfl | rfl <;> rfl
  clear hK K b2 B1 x1 r1 n1
  clear o2
  refine wpAnyC_one (i := 10) (by kernel_rfl) rfl (fun K hK => ?_)
  go_simp
  refine (refadd_at c2 24 8 a2 L2 q _ 8 w2 rfl rfl N2.out (by omega) (by omega) (by omega) (by omega) r2 n2).mono ?_
  rintro r w3 ⟨v3, rfl, o3, b3⟩
  rw [← U3.out] at o3
  obtain ⟨a3, c3, rfl, _, _, _, r3, n3, _⟩ := owns_parts o3
  have B3 := B2.trans (b3.mono B2.size)
  have x3 := x2.below b3
  refine hK _ _ ⟨?_, ?_⟩
  · refine ⟨fun p hp => ?_, x3⟩
    simp at hp
    rcases hp with rfl | rfl | rfl | rfl <;> rfl
  clear hK K b3 B2 x2 r2 n2
  clear o3
  refine wpAnyC_one (i := 13) (by kernel_rfl) rfl (fun K hK => ?_)
  go_simp
  refine (refadd_at c3 32 8 a3 L3 t _ 8 w3 rfl rfl N3.out (by omega) (by omega) (by omega) (by omega) r3 n3).mono ?_
  rintro r w4 ⟨v4, rfl, o4, b4⟩
  rw [← U4.out] at o4
  obtain ⟨a4, c4, rfl, _, _, _, r4, n4, _⟩ := owns_parts o4
  have B4 := B3.trans (b4.mono B3.size)
  have x4 := x3.below b4
  refine hK _ _ ⟨?_, ?_⟩
  · refine ⟨fun p hp => ?_, x4⟩
    simp at hp
    rcases hp with rfl | rfl | rfl | rfl <;> rfl
  clear hK K b4 B3 x3 r3 n3
  refine wpAnyC_one (i := 14) (by kernel_rfl) rfl (fun K hK => ?_)
  go_simp
  refine hK _ _ ⟨?_, ?_⟩
  · refine ⟨fun p hp => ?_, x4⟩
    simp at hp
    rcases hp with rfl | rfl | rfl | rfl <;> rfl
  clear hK K
  refine wpAnyC_done (by kernel_rfl) ?_ _
  clear x4
  have hcl := crc_lt 0 L4
  have k5 := ref_at c4 40 a4 L4 0 0 w4 rfl N4.out (by omega) (by omega) r4
  obtain ⟨X, hX⟩ : ∃ X, X = crc 0 L4 := ⟨_, rfl⟩
  rw [← hX] at hcl k5
  have HX : Hid _ := hX
  clear hX
  go_wp2_with fail
  refine k5.mono ?_
  rintro r w5 ⟨rfl, rfl⟩
  go_wp2_with fail
  refine (refadd_at c4 40 4 a4 L4 X _ 4 w4 rfl rfl N4.out (by omega) (by omega) (by omega) (by omega) r4 n4).mono ?_
  rintro r w6 ⟨v6, rfl, o6, b6⟩
  have B6 := B4.trans (b6.mono B4.size)
  have z4 := B4.size
  have p6 : w6.ownsRow w.heap.size 5 1 v6 44 (bcs (headS b e q t ++ noughts 0)) := by
    have h : headS b e q t ++ noughts 0 = L4 ++ toBE 4 X := by unfold headS; rw [E4.out, ← HX.out]; simp [noughts]
    rw [h]
    exact ⟨o6.1, by
      rcases o6.2 with h | ⟨g', cap', cur, h1, h2, h3⟩
      · exact .inl h
      · exact .inr ⟨g', cap', cur, h1, Nat.le_trans z4 h2, h3⟩⟩
  clear o6 b6 o4 r4 n4 B4 k5 z4
  obtain ⟨i0, hi, hz0, hz1, hz2⟩ := info_parts info5
  go_wp2_with fail
  go_loopw [4] (fun v wr => ∃ k : Nat, k ≤ 4052 ∧ wr.ownsRow w.heap.size 5 1 v (44 + k) (bcs (headS b e q t ++ noughts k)) ∧ Below w.heap.size w wr) (fun v _ => match v with | .slice _ n _ => 4096 - n | _ => 0)
  case atStart => exact ⟨0, Nat.zero_le _, p6, B6⟩
  case round =>
    obtain ⟨k, hk, hown, hbel⟩ := hrel
    clear p6 B6
    obtain ⟨ak, ck, rfl, _, _, _, _, _, _⟩ := owns_parts hown
    by_cases hlt : k < 4052
    · have z3 := hbel.size
      have hlt2 : ((44 + k : Nat) : Int) < 4096 := by omega
      go_wp2_with (at_builtin; refine wpList_append_own _ rfl _ _ 37 rfl w.heap.size 5 i0 (.int .u8 0) 1 1 Tryz.underlying37 hi hz0 hz1 hz2 rfl (by decide) _ (44 + k) (bcs (headS b e q t ++ noughts k)) rfl (hown.alloc _) ⟨wr.heap.size, 0, none⟩ 1 1 [.int .u8 0] rfl rfl ?c1 ?c2 ?c3 ?c4 ?c5 ?_)
      case c1 =>
        intro i u hi'
        match i, hi' with
        | 0, hi' => simp at hi'; subst hi'; simp [Addr.add]
      case c2 => intro u hu; simp at hu; subst hu; rfl
      case c3 => unfold maxLen; omega
      case c4 => omega
      case c5 => simp; omega
      · intro v' w7 hown7 hgrow _
        have B7 : Below w.heap.size w w7 := (hbel.alloc z3 _).grown hgrow (by simp; omega) (fun k hk => (hown.lt k hk).1)
        have p7 : w7.ownsRow w.heap.size 5 1 v' (44 + (k + 1)) (bcs (headS b e q t ++ noughts (k + 1))) := by
          have h : headS b e q t ++ noughts (k + 1) = (headS b e q t ++ noughts k) ++ [0] := by simp [noughts, List.replicate_succ']
          rw [h, bcs_append]
          exact hown7
        obtain ⟨a7, c7, rfl, _, _, _, _, _, _⟩ := owns_parts p7
        clear hown hbel hgrow hown7
        go_wp2
        go_roundw
        case rel => exact ⟨k + 1, by omega, p7, B7⟩
        case measure => simp; omega
    · obtain rfl : k = 4052 := by omega
      go_wp2
      go_ret2
      refine ⟨_, rfl, ?_, hbel⟩
      show World.ownsRow _ _ _ _ _ (superB b e q t).length (bcs (superB b e q t))
      rw [superB_length]
      exact hown
end Go.Proofs.YtnldkpckojhbhaaGreat.Su

/-
  The document's own PutSuper, whatever the super.
-/
namespace Go.Proofs.YtnldkpckojhbhaaGreat.Su
open Go.RowKit

theorem refPutSuper_none (b e q t : Int) (w : World) (h : rightS b e q t = false) :
    Calls Tryz.prog 100 #[.agg #[.int .i64 b, .int .i64 e, .int .i64 q, .int .i64 t]] w fun r w' => Puts w w' none r := by
  have B0 := (Below.refl w.heap.size w).alloc (Nat.le_refl _) (.cells #[.int .i64 b, .int .i64 e, .int .i64 q, .int .i64 t] 141)
  by_cases h0 : b < 64
  · clear h
    go_enter Tryz.func100, Tryz.ntmps100
    go_wp2
    go_ret2
    exact ⟨_, rfl, World.ownsRow_nil _ _ _ _, B0⟩
  · by_cases h1 : 512 < b
    · clear h
      go_enter Tryz.func100, Tryz.ntmps100
      go_wp2
      go_ret2
      exact ⟨_, rfl, World.ownsRow_nil _ _ _ _, B0⟩
    · by_cases h2 : e < 1
      · clear h
        go_enter Tryz.func100, Tryz.ntmps100
        go_wp2
        go_ret2
        exact ⟨_, rfl, World.ownsRow_nil _ _ _ _, B0⟩
      · by_cases h3 : 8388608 < e
        · clear h
          go_enter Tryz.func100, Tryz.ntmps100
          go_wp2
          go_ret2
          exact ⟨_, rfl, World.ownsRow_nil _ _ _ _, B0⟩
        · by_cases h4 : q < 1
          · clear h
            go_enter Tryz.func100, Tryz.ntmps100
            go_wp2
            go_ret2
            exact ⟨_, rfl, World.ownsRow_nil _ _ _ _, B0⟩
          · by_cases h5 : 549755813888 < q
            · clear h
              go_enter Tryz.func100, Tryz.ntmps100
              go_wp2
              go_ret2
              exact ⟨_, rfl, World.ownsRow_nil _ _ _ _, B0⟩
            · by_cases h6 : t < 0
              · clear h
                go_enter Tryz.func100, Tryz.ntmps100
                go_wp2
                go_ret2
                exact ⟨_, rfl, World.ownsRow_nil _ _ _ _, B0⟩
              · by_cases h7 : 511 < t
                · clear h
                  go_enter Tryz.func100, Tryz.ntmps100
                  go_wp2
                  go_ret2
                  exact ⟨_, rfl, World.ownsRow_nil _ _ _ _, B0⟩
                · exfalso
                  have hh : rightS b e q t = true := by
                    simp only [rightS, wi, Bool.and_eq_true, decide_eq_true_eq]
                    omega
                  rw [hh] at h
                  cases h

/-- the document's PutSuper is super's -/
theorem refPutSuper_at (b e q t : Int) (w : World) : Calls Tryz.prog 100 #[.agg #[.int .i64 b, .int .i64 e, .int .i64 q, .int .i64 t]] w fun r w' => Puts w w' (putSuper b e q t) r := by
  cases h : rightS b e q t
  · have e0 : putSuper b e q t = none := by unfold putSuper; rw [h]; rfl
    rw [e0]
    exact refPutSuper_none b e q t w h
  · have e0 : putSuper b e q t = some (superB b.toNat e.toNat q.toNat t.toNat) := by unfold putSuper; rw [h]; rfl
    rw [e0]
    have hh := rightS_nat h
    obtain ⟨b, rfl⟩ := Int.eq_ofNat_of_zero_le (show 0 ≤ b by omega)
    obtain ⟨e, rfl⟩ := Int.eq_ofNat_of_zero_le (show 0 ≤ e by omega)
    obtain ⟨q, rfl⟩ := Int.eq_ofNat_of_zero_le (show 0 ≤ q by omega)
    obtain ⟨t, rfl⟩ := Int.eq_ofNat_of_zero_le (show 0 ≤ t by omega)
    exact refPutSuper_ok b e q t w (by omega) (by omega) (by omega) (by omega)
end Go.Proofs.YtnldkpckojhbhaaGreat.Su

/-
  replay's small calls: within, later; the law's of.
-/
namespace Go.Proofs.YtnldkpckojhbhaaGreat.H
open Go.RowKit
open Go.Proofs.YtnldkpckojhbhaaGreat.Su (wi Sup zeroS supV)
open Go.Proofs.YtnldkpckojhbhaaGreat.Dk (Box)

theorem within_at (v l h : Int) (w : World) : Calls Tryz.prog 162 #[.int .i64 v, .int .i64 l, .int .i64 h] w fun e w' => e = .returned (.bool (wi v l h)) ∧ w = w' := by
  unfold wi
  by_cases h1 : l ≤ v
  · go_enter Tryz.func162, Tryz.ntmps162
    go_wp2
    go_ret
    simp [h1]
  · go_enter Tryz.func162, Tryz.ntmps162
    go_wp2
    go_ret
    simp
    omega

/-- a counts though b is there -/
def later (a b : Sup) : Bool := decide (b.e < a.e) || (a.e == b.e) && decide (b.q < a.q)
theorem later_at (a b : Sup) (w : World) : Calls Tryz.prog 186 #[supV a, supV b] w fun e w' => e = .returned (.bool (later a b)) ∧ Below w.heap.size w w' := by
  obtain ⟨a1, a2, a3, a4⟩ := a
  obtain ⟨b1, b2, b3, b4⟩ := b
  unfold later supV
  dsimp only
  have B2 := ((Below.refl w.heap.size w).alloc (Nat.le_refl _) (.cells #[.int .i64 a1, .int .i64 a2, .int .i64 a3, .int .i64 a4] 141)).alloc (by simp) (.cells #[.int .i64 b1, .int .i64 b2, .int .i64 b3, .int .i64 b4] 141)
  have x := (Box.new w #[.int .i64 a1, .int .i64 a2, .int .i64 a3, .int .i64 a4] 141).alloc (.cells #[.int .i64 b1, .int .i64 b2, .int .i64 b3, .int .i64 b4] 141)
  have y := Box.new (w.alloc (.cells #[.int .i64 a1, .int .i64 a2, .int .i64 a3, .int .i64 a4] 141)) #[.int .i64 b1, .int .i64 b2, .int .i64 b3, .int .i64 b4] 141
  have z : (w.alloc (.cells #[.int .i64 a1, .int .i64 a2, .int .i64 a3, .int .i64 a4] 141)).heap.size = w.heap.size + 1 := by simp
  rw [z] at y
  have c1 := x.cell 1
  have c2 := x.cell 2
  have d1 := y.cell 1
  have d2 := y.cell 2
  simp only [List.getElem?_toArray, List.getElem?_cons_succ, List.getElem?_cons_zero] at c1 c2 d1 d2
  clear x y z
  by_cases h1 : b2 < a2
  · go_enter Tryz.func186, Tryz.ntmps186
    go_wp2
    go_ret
    exact ⟨by simp [h1], B2⟩
  · by_cases h2 : a2 = b2
    · subst h2
      go_enter Tryz.func186, Tryz.ntmps186
      go_wp2
      go_ret
      exact ⟨by simp, B2⟩
    · go_enter Tryz.func186, Tryz.ntmps186
      go_wp2
      go_ret
      exact ⟨by simp [h1, h2], B2⟩

theorem owns_le {w : World} {B B' e z n : Nat} {v : Value} {xs : List Value} (h : w.ownsRow B e z v n xs) (hb : B' ≤ B) : w.ownsRow B' e z v n xs :=
  ⟨h.1, h.2.imp id fun ⟨g, cap, cur, a, b, r⟩ => ⟨g, cap, cur, a, Nat.le_trans hb b, r⟩⟩
end Go.Proofs.YtnldkpckojhbhaaGreat.H

/-
  allFit; the law's made.
-/
namespace Go.Proofs.YtnldkpckojhbhaaGreat.H
open Go.RowKit
open Go.Proofs.YtnldkpckojhbhaaGreat.Su (wi)
open Go.Proofs.YtnldkpckojhbhaaGreat.Dk (Box)

/-- the cells of images, whatever their data -/
def CellsI (w : World) (a : Option Addr) (is : List (Int × Option Addr × Nat × Nat)) : Prop :=
  0 < is.length → ∃ b o, a = some ⟨b, o, none⟩ ∧ ∀ j (h : j < is.length), w.cell? ⟨b, o + j * 2, none⟩ = some (.int .i64 is[j].1) ∧ w.cell? ⟨b, o + j * 2 + 1, none⟩ = some (.slice is[j].2.1 is[j].2.2.1 is[j].2.2.2)
def fits (size : Int) (q : Int × Option Addr × Nat × Nat) : Bool := wi q.1 2 (size - 1) && decide (q.2.2.1 = 4096)

set_option maxRecDepth 100000 in
set_option maxHeartbeats 4000000 in
theorem allFit_at (w : World) (a : Option Addr) (n c : Nat) (is : List (Int × Option Addr × Nat × Nat)) (size : Int) (hl : is.length = n) (hn : n ≤ 1000000) (hs : 0 ≤ size ∧ size ≤ 1000000) (hc : CellsI w a is) :
    Calls Tryz.prog 163 #[.slice a n c, .int .i64 size] w fun r w' => r = .returned (.bool (is.all (fits size))) ∧ Below w.heap.size w w' := by
  have HC : Hid (CellsI w a is) := hc
  have HL : Hid (is.length = n) := hl
  obtain ⟨hs1, hs2⟩ := hs
  clear hc hl
  go_enter Tryz.func163, Tryz.ntmps163
  go_wp2_with fail
  go_loopw [9] (fun i u => ∃ k : Nat, k ≤ n ∧ i = .int .i64 (k : Int) ∧ (is.take k).all (fits size) = true ∧ Below w.heap.size w u) (fun i _ => n - (intOf i).toNat)
  case atStart => exact ⟨0, Nat.zero_le _, rfl, by simp, Below.refl _ _⟩
  case round =>
    obtain ⟨k, hk, rfl, hal, B⟩ := hrel
    have HA : Hid ((is.take k).all (fits size) = true) := hal
    clear hal
    by_cases hlt : k < n
    · have hki : (k : Int) < (n : Int) := by omega
      have hkl : k < is.length := by rw [HL.out]; exact hlt
      obtain ⟨b, o, rfl, hcc⟩ := HC.out (by omega)
      obtain ⟨c0, c1⟩ := hcc k hkl
      have hst : Hid ((is.take (k + 1)).all (fits size) = ((is.take k).all (fits size) && fits size is[k])) := by
        show _ = _
        rw [List.take_succ_eq_append_getElem hkl, List.all_append]; simp
      have hno : Hid (fits size is[k] = false → is.all (fits size) = false) := fun h => by
        rw [List.all_eq_false]
        exact ⟨is[k], List.getElem_mem hkl, by rw [h]; simp⟩
      generalize (is[k]'hkl) = q at c0 c1 hst hno
      obtain ⟨qb, qa, qn, qc⟩ := q
      dsimp only at c0 c1
      have l0 := block_lt_of_cell c0
      have x0 := (B.cell (p := ⟨b, o + k * 2, none⟩) l0).trans c0
      have x1 := (B.cell (p := ⟨b, o + k * 2 + 1, none⟩) l0).trans c1
      have bx := Box.new wr #[.int .i64 qb, .slice qa qn qc] 89
      have B1 := B.alloc B.size (.cells #[.int .i64 qb, .slice qa qn qc] 89)
      have y0 := bx.cell 0
      have y1 := bx.cell 1
      simp only [List.getElem?_toArray, List.getElem?_cons_zero, List.getElem?_cons_succ] at y0 y1
      have cW := within_at qb 2 (size - 1) (wr.alloc (.cells #[.int .i64 qb, .slice qa qn qc] 89))
      have wr1 : IntKind.i64.wrap (size - 1) = size - 1 := by rw [IntKind.wrap_i64]; omega
      clear hcc c0 c1 l0 bx
      cases hwi : wi qb 2 (size - 1)
      · have hf : fits size (qb, qa, qn, qc) = false := by simp [fits, hwi]
        have hres := hno.out hf
        rw [hwi] at cW
        have HRes : Hid (is.all (fits size) = false) := hres
        clear hres hf hst hno HA
        go_wp2_with fail
        refine Calls.mono cW ?_
        rintro r u ⟨rfl, rfl⟩
        go_wp2_with fail
        go_ret
        exact ⟨by rw [HRes.out]; rfl, B1⟩
      · rw [hwi] at cW
        by_cases hq : qn = 4096
        · have hf : fits size (qb, qa, qn, qc) = true := by simp [fits, hwi, hq]
          have hal : (is.take (k + 1)).all (fits size) = true := by rw [hst.out, HA.out, hf]; rfl
          have HA2 : Hid ((is.take (k + 1)).all (fits size) = true) := hal
          clear hal hst hno HA hf
          subst hq
          go_wp2_with fail
          refine Calls.mono cW ?_
          rintro r u ⟨rfl, rfl⟩
          go_wp2_with fail
          go_roundw
          case rel => exact ⟨k + 1, by omega, by push_cast; rfl, HA2.out, B1⟩
          case measure => simp [intOf]; omega
        · have hf : fits size (qb, qa, qn, qc) = false := by simp [fits, hwi, hq]
          have hres := hno.out hf
          have hne : ((qn : Int) != 4096) = true := by simp; omega
          have HRes : Hid (is.all (fits size) = false) := hres
          clear hres hq hf hst hno HA
          go_wp2_with fail
          refine Calls.mono cW ?_
          rintro r u ⟨rfl, rfl⟩
          go_wp2_with fail
          go_ret
          exact ⟨by rw [HRes.out]; rfl, B1⟩
    · have hke : k = n := by omega
      have hall : is.all (fits size) = true := by have := HA.out; rw [hke, ← HL.out, List.take_length] at this; exact this
      have HRes : Hid (is.all (fits size) = true) := hall
      clear hall HA
      subst hke
      go_wp2_with fail
      go_ret
      exact ⟨by rw [HRes.out]; rfl, B⟩
end Go.Proofs.YtnldkpckojhbhaaGreat.H

/-
  lay: images are written in order, then the disk is flushed.
-/
namespace Go.Proofs.YtnldkpckojhbhaaGreat.H
open Go.RowKit
open Go.Proofs.YtnldkpckojhbhaaGreat.Dk (Box Upd IsDisk DS Rd)

/-- images with their bytes -/
abbrev ImD := (Int × Option Addr × Nat × Nat) × List UInt8
def pl (L : List ImD) : List (Int × List UInt8) := L.map fun p => (p.1.1, p.2)
structure ImsD (w : World) (a : Option Addr) (L : List ImD) (F : Nat → Prop) : Prop where
  cells : CellsI w a (L.map (·.1))
  data : ∀ p ∈ L, Rd w p.1.2.1 p.2 ∧ p.2.length = p.1.2.2.1 ∧ ∀ ad, p.1.2.1 = some ad → ad.block < w.heap.size ∧ ¬ F ad.block
  out : ∀ ad, a = some ad → ¬ F ad.block
theorem rd_upd {F : Nat → Prop} {w w' : World} {a : Option Addr} {xs : List UInt8} (h : Rd w a xs) (hu : Upd F w w') (hg : ∀ ad, a = some ad → ¬ F ad.block) : Rd w' a xs := fun hp => by
  obtain ⟨b, o, rfl, hc⟩ := h hp
  exact (Dk.Rd.upd (fun _ => ⟨b, o, rfl, hc⟩) hu (hg _ rfl)) hp

set_option maxRecDepth 100000 in
set_option maxHeartbeats 4000000 in
theorem lay_at {g : Nat} {w : World} {D : DS} {F : Nat → Prop} (hd : IsDisk w g D F) (a : Option Addr) (n c : Nat) (L : List ImD) (hl : L.length = n) (hn : n ≤ 1000) (hI : ImsD w a L F) (hlim : D.uf.length ≤ 900000 ∧ D.n ≤ 900000) :
    Calls Tryz.prog 164 #[.pointer (some ⟨g, 0, none⟩), .slice a n c] w fun e w' => e = .returned (.int .i64 ((layD (pl L) D).2 : Int)) ∧ (∃ F', IsDisk w' g (layD (pl L) D).1 F' ∧ ∀ i, F' i → F i ∨ w.heap.size ≤ i) ∧ Upd F w w' := by
  have HI : Hid (ImsD w a L F) := hI
  have HL : Hid (L.length = n) := hl
  have HLim : Hid (D.uf.length ≤ 900000 ∧ D.n ≤ 900000) := hlim
  have HD : Hid (IsDisk w g D F) := hd
  clear hI hl hlim hd
  go_enter Tryz.func164, Tryz.ntmps164
  go_wp2_with fail
  go_loopw [10] (fun i u => ∃ (k : Nat) (E : DS) (F' : Nat → Prop), k ≤ n ∧ i = .int .i64 (k : Int) ∧ IsDisk u g E F' ∧ (∀ i, F' i → F i ∨ w.heap.size ≤ i) ∧ Upd F w u ∧ layD (pl L) D = layD ((pl L).drop k) E ∧ E.uf.length ≤ D.uf.length + k ∧ E.n ≤ D.n + k) (fun i _ => n - (intOf i).toNat)
  case atStart => exact ⟨0, D, F, Nat.zero_le _, rfl, HD.out, fun i h => .inl h, Upd.refl _ _, by simp, by omega, by omega⟩
  case round =>
    obtain ⟨k, E, F', hk, rfl, hd, hF', U, hlay, hu, hn2⟩ := hrel
    have HDk : Hid (IsDisk wr g E F') := hd
    have HF : Hid (∀ i, F' i → F i ∨ w.heap.size ≤ i) := hF'
    have HLay : Hid (layD (pl L) D = layD ((pl L).drop k) E) := hlay
    have HB : Hid (E.uf.length ≤ D.uf.length + k ∧ E.n ≤ D.n + k) := ⟨hu, hn2⟩
    clear hd hF' hlay hu hn2
    by_cases hlt : k < n
    · have hki : (k : Int) < (n : Int) := by omega
      have hkl : k < L.length := by rw [HL.out]; exact hlt
      obtain ⟨b, o, rfl, hcc⟩ := HI.out.cells (by rw [List.length_map]; omega)
      obtain ⟨c0, c1⟩ := hcc k (by rw [List.length_map]; exact hkl)
      obtain ⟨hr, hlen, hno⟩ := HI.out.data L[k] (List.getElem_mem hkl)
      have hdrop : Hid ((pl L).drop k = (L[k].1.1, L[k].2) :: (pl L).drop (k + 1)) := by
        show _ = _
        have h1 : k < (pl L).length := by simp [pl]; exact hkl
        rw [List.drop_eq_getElem_cons h1]
        simp [pl]
      simp only [List.getElem_map] at c0 c1
      generalize (L[k]'hkl) = q at c0 c1 hr hlen hno hdrop
      obtain ⟨⟨qb, qa, qn, qc⟩, xs⟩ := q
      dsimp only at c0 c1 hr hlen hno hdrop
      have nb := HI.out.out _ rfl
      have l0 := block_lt_of_cell c0
      have x0 : wr.cell? ⟨b, o + k * 2, none⟩ = some (.int .i64 qb) := (World.cell?_of_block (a := ⟨b, o + k * 2, none⟩) (U.block b l0 nb)).trans c0
      have x1 : wr.cell? ⟨b, o + k * 2 + 1, none⟩ = some (.slice qa qn qc) := (World.cell?_of_block (a := ⟨b, o + k * 2 + 1, none⟩) (U.block b l0 nb)).trans c1
      have bx := Box.new wr #[.int .i64 qb, .slice qa qn qc] 89
      have bA := (Below.refl wr.heap.size wr).alloc (Nat.le_refl _) (.cells #[.int .i64 qb, .slice qa qn qc] 89)
      have U1 := U.alloc (.cells #[.int .i64 qb, .slice qa qn qc] 89)
      have y0 := bx.cell 0
      have y1 := bx.cell 1
      simp only [List.getElem?_toArray, List.getElem?_cons_zero, List.getElem?_cons_succ] at y0 y1
      have hnoF' : ∀ ad, qa = some ad → ¬ F' ad.block := fun ad e hf => by
        rcases HF.out _ hf with h1 | h1
        · exact (hno ad e).2 h1
        · exact absurd (hno ad e).1 (Nat.not_lt.2 h1)
      have cW := Dk.write_at (HDk.out.below bA) qb qa qn qc xs hlen ⟨by have := HB.out.1; have := HLim.out.1; omega, by have := HB.out.2; have := HLim.out.2; omega⟩ ((rd_upd hr U (fun ad e => (hno ad e).2)).below bA (Nat.le_refl _)) hnoF'
      have hle := write_le E qb xs
      clear hcc c0 c1 l0 bx hr nb
      have HW : Hid ((E.write qb xs).nb = E.nb ∧ (E.write qb xs).uf.length ≤ E.uf.length + 1 ∧ (E.write qb xs).n ≤ E.n + 1) := hle
      have hE2 : Hid (layD (pl L) D = if E.writeE qb xs = 0 then layD ((pl L).drop (k + 1)) (E.write qb xs) else (E.write qb xs, E.writeE qb xs)) := by
        show _ = _
        rw [HLay.out, hdrop.out]
        rfl
      clear hle HLay hdrop
      by_cases he : E.writeE qb xs = 0
      · rw [he] at cW
        have hE3 : Hid (layD (pl L) D = layD ((pl L).drop (k + 1)) (E.write qb xs)) := hE2.out.trans (if_pos he)
        clear hE2 he
        go_wp2_with fail
        refine Calls.mono cW ?_
        rintro r u ⟨rfl, ⟨F2, hd2, hF2⟩, U2⟩
        have U3 : Upd F w u := U1.trans U2 (fun i h => HF.out i h)
        clear cW y0 y1 x0 x1
        go_wp2_with fail
        go_roundw
        case rel => exact ⟨k + 1, _, F2, by omega, by push_cast; rfl, hd2, fun i hi => by
            rcases hF2 i hi with h1 | h1
            · exact HF.out i h1
            · exact .inr (Nat.le_trans U1.size h1), U3, hE3.out, by have := HW.out.2.1; have := HB.out.1; omega, by have := HW.out.2.2; have := HB.out.2; omega⟩
        case measure => simp [intOf]; omega
      · have hE3 : Hid (layD (pl L) D = (E.write qb xs, E.writeE qb xs)) := hE2.out.trans (if_neg he)
        have hne : ((E.writeE qb xs : Int) != 0) = true := by simp; omega
        generalize E.writeE qb xs = ee at cW hE3 hne
        clear hE2 he
        go_wp2_with fail
        refine Calls.mono cW ?_
        rintro r u ⟨rfl, ⟨F2, hd2, hF2⟩, U2⟩
        have U3 : Upd F w u := U1.trans U2 (fun i h => HF.out i h)
        clear cW y0 y1 x0 x1
        go_wp2_with fail
        go_ret
        rw [hE3.out]
        exact ⟨rfl, ⟨F2, hd2, fun i hi => by
            rcases hF2 i hi with h1 | h1
            · exact HF.out i h1
            · exact .inr (Nat.le_trans U1.size h1)⟩, U3⟩
    · have hke : k = n := by omega
      have hE3 : Hid (layD (pl L) D = (E.flush, E.operE)) := by
        show _ = _
        rw [HLay.out, hke, List.drop_of_length_le (by simp [pl, HL.out])]
        rfl
      have cF := Dk.flush_at HDk.out
      subst hke
      generalize E.operE = ee at cF hE3
      clear HLay
      go_wp2_with fail
      refine Calls.mono cF ?_
      rintro r u ⟨rfl, hd2, U2⟩
      go_wp2_with fail
      go_ret
      rw [hE3.out]
      exact ⟨rfl, ⟨F', hd2, HF.out⟩, U.trans U2 (fun i h => HF.out i h)⟩
end Go.Proofs.YtnldkpckojhbhaaGreat.H

/-
  Do: the images, then the superblock; what it refuses.
-/
namespace Go.Proofs.YtnldkpckojhbhaaGreat.H
open Go.RowKit
open Go.Proofs.YtnldkpckojhbhaaGreat.Su (wi supV erP)
open Go.Proofs.YtnldkpckojhbhaaGreat.Dk (Box Upd IsDisk DS Rd)

/-- what Do does -/
def doR (D : DS) (L : List ImD) (o : Option (List UInt8)) (slot : Int) : DS × Nat :=
  match o with
  | none => (D, 2)
  | some sb => if wi slot 0 1 && (L.map (·.1)).all (fits D.nb) then doD (pl L) slot sb D else (D, 2)

theorem owns4096 {w : World} {B n : Nat} {v : Value} {ys : List UInt8} (h : w.ownsRow B 5 1 v n (Su.bcs ys)) (hn : n = 4096) : ∃ g c, v = .slice (some ⟨g, 0, none⟩) 4096 c ∧ B ≤ g ∧ g < w.heap.size ∧ Rd w (some ⟨g, 0, none⟩) ys := by
  subst hn
  rcases h.2 with ⟨h1, h2⟩ | ⟨g, cap, cur, h1, hBg, hg2, hnc, hcm, hcs, ht⟩
  · omega
  · subst h1
    refine ⟨g, cap, rfl, hBg, (Array.getElem?_eq_some_iff.1 hg2).1, ?_⟩
    exact Su.owns_rd_at h

set_option maxRecDepth 100000 in
set_option maxHeartbeats 4000000 in
theorem do_at {g : Nat} {w : World} {D : DS} {F : Nat → Prop} (hd : IsDisk w g D F) (a : Option Addr) (n c : Nat) (L : List ImD) (b e q t slot : Int) (hl : L.length = n) (hn : n ≤ 1000) (hI : ImsD w a L F) (hlim : D.uf.length ≤ 800000 ∧ D.n ≤ 800000) :
    Calls Tryz.prog 91 #[.pointer (some ⟨g, 0, none⟩), .slice a n c, .agg #[.int .i64 b, .int .i64 e, .int .i64 q, .int .i64 t], .int .i64 slot] w fun r w' => r = .returned (.int .i64 ((doR D L (Su.putSuper b e q t) slot).2 : Int)) ∧ (∃ F', IsDisk w' g (doR D L (Su.putSuper b e q t) slot).1 F' ∧ ∀ i, F' i → F i ∨ w.heap.size ≤ i) ∧ Upd F w w' := by
  have HI : Hid (ImsD w a L F) := hI
  have HL : Hid (L.length = n) := hl
  have HLim : Hid (D.uf.length ≤ 800000 ∧ D.n ≤ 800000) := hlim
  have HD : Hid (IsDisk w g D F) := hd
  have hok := hd.ok
  have hflt := hd.flt
  have x := Box.new w #[.int .i64 b, .int .i64 e, .int .i64 q, .int .i64 t] 141
  have B0 := (Below.refl w.heap.size w).alloc (Nat.le_refl _) (.cells #[.int .i64 b, .int .i64 e, .int .i64 q, .int .i64 t] 141)
  have c0 := x.cell 0
  have c1 := x.cell 1
  have c2 := x.cell 2
  have c3 := x.cell 3
  simp only [List.getElem?_toArray, List.getElem?_cons_zero, List.getElem?_cons_succ] at c0 c1 c2 c3
  have cS := Dk.size_of (HD.out.below B0)
  have cP := Su.putSuper_at b e q t (w.alloc (.cells #[.int .i64 b, .int .i64 e, .int .i64 q, .int .i64 t] 141))
  have hsb : Hid (∀ sb, Su.putSuper b e q t = some sb → sb.length = 4096) := fun sb h => by
    unfold Su.putSuper at h
    split at h
    · injection h with h
      rw [← h, Su.superB_length]
    · cases h
  generalize Su.putSuper b e q t = o at cP hsb ⊢
  have hnb1 := hok.lo
  have hnb2 := hok.hi
  have HF : Hid (∀ i, F i → i < w.heap.size) := hflt
  obtain ⟨N, hN⟩ : ∃ N, N = D.nb := ⟨_, rfl⟩
  have HNb : Hid (N = D.nb) := hN
  rw [← hN] at cS hnb1 hnb2
  have hN0 : ((N : Int) == 0) = false := by simp; omega
  clear hI hl hlim hd hok hflt x hN
  go_enter Tryz.func91, Tryz.ntmps91
  go_wp2_with fail
  refine Calls.mono cS ?_
  rintro r u0 ⟨rfl, rfl⟩
  clear cS
  go_wp2_with fail
  refine Calls.mono cP ?_
  rintro r u1 ⟨v, rfl, hrow, b1⟩
  have B1 := B0.trans (b1.mono B0.size)
  clear cP c0 c1 c2 c3
  have U1 : Upd F w u1 := Upd.of_below B1
  cases o with
  | none =>
    have he : erP none = 2 := rfl
    rw [he]
    clear hrow
    go_wp2_with fail
    go_ret
    exact ⟨rfl, ⟨F, HD.out.below B1, fun i h => .inl h⟩, U1⟩
  | some sb =>
    have he : erP (some sb) = 0 := rfl
    rw [he]
    have hl := hsb.out sb rfl
    obtain ⟨gb, cb, rfl, hgb, hgbl, rd⟩ := owns4096 hrow hl
    have hgb : w.heap.size ≤ gb := Nat.le_trans B0.size hgb
    have HR : Hid (Rd u1 (some ⟨gb, 0, none⟩) sb) := rd
    have HSl : Hid (sb.length = 4096) := hl
    clear hrow rd hsb hl
    have cW := within_at slot 0 1 u1
    cases hw : wi slot 0 1 with
    | false =>
      rw [hw] at cW
      have hres : Hid (doR D L (some sb) slot = (D, 2)) := by show _ = _; simp [doR, hw]
      go_wp2_with fail
      refine Calls.mono cW ?_
      rintro r u2 ⟨rfl, rfl⟩
      go_wp2_with fail
      go_ret
      rw [hres.out]
      exact ⟨rfl, ⟨F, HD.out.below B1, fun i h => .inl h⟩, U1⟩
    | true =>
      rw [hw] at cW
      have cA := allFit_at u1 a n c (L.map (·.1)) N (by rw [List.length_map]; exact HL.out) (by omega) ⟨by omega, by omega⟩ (fun h => by
        obtain ⟨b', o', e', hc'⟩ := HI.out.cells h
        exact ⟨b', o', e', fun j hj => ⟨(B1.cell (p := ⟨b', o' + j * 2, none⟩) (block_lt_of_cell (hc' j hj).1)).trans (hc' j hj).1, (B1.cell (p := ⟨b', o' + j * 2 + 1, none⟩) (block_lt_of_cell (hc' j hj).2)).trans (hc' j hj).2⟩⟩)
      cases ha : (L.map (·.1)).all (fits N) with
      | false =>
        rw [ha] at cA
        have hres : Hid (doR D L (some sb) slot = (D, 2)) := by show _ = _; simp only [doR]; rw [← HNb.out, ha, hw]; rfl
        clear ha
        go_wp2_with fail
        refine Calls.mono cW ?_
        rintro r u2 ⟨rfl, rfl⟩
        go_wp2_with fail
        refine Calls.mono cA ?_
        rintro r u3 ⟨rfl, b3⟩
        go_wp2_with fail
        go_ret
        rw [hres.out]
        have B3 := B1.trans (b3.mono B1.size)
        exact ⟨rfl, ⟨F, HD.out.below B3, fun i h => .inl h⟩, Upd.of_below B3⟩
      | true =>
        rw [ha] at cA
        have hres : Hid (doR D L (some sb) slot = doD (pl L) slot sb D) := by show _ = _; simp only [doR]; rw [← HNb.out, ha, hw]; rfl
        clear ha
        go_wp2_with fail
        refine Calls.mono cW ?_
        rintro r u2 ⟨rfl, rfl⟩
        go_wp2_with fail
        refine Calls.mono cA ?_
        rintro r u3 ⟨rfl, b3⟩
        have B3 := B1.trans (b3.mono B1.size)
        have hI3 : ImsD u3 a L F := by
          refine ⟨fun h => ?_, fun p hp => ?_, HI.out.out⟩
          · obtain ⟨b', o', e', hc'⟩ := HI.out.cells h
            exact ⟨b', o', e', fun j hj => ⟨(B3.cell (p := ⟨b', o' + j * 2, none⟩) (block_lt_of_cell (hc' j hj).1)).trans (hc' j hj).1, (B3.cell (p := ⟨b', o' + j * 2 + 1, none⟩) (block_lt_of_cell (hc' j hj).2)).trans (hc' j hj).2⟩⟩
          · obtain ⟨h1, h2, h3⟩ := HI.out.data p hp
            exact ⟨rd_upd h1 (Upd.of_below (F := F) B3) (fun ad e => (h3 ad e).2), h2, fun ad e => ⟨Nat.lt_of_lt_of_le (h3 ad e).1 B3.size, (h3 ad e).2⟩⟩
        have cL := lay_at (HD.out.below B3) a n c L HL.out hn hI3 ⟨by have := HLim.out.1; omega, by have := HLim.out.2; omega⟩
        have hr3 : Hid (Rd u3 (some ⟨gb, 0, none⟩) sb) := HR.out.below b3 (Nat.le_refl _)
        have z3 : gb < u3.heap.size := Nat.lt_of_lt_of_le hgbl b3.size
        have hle := layD_le (pl L) D
        have HLe : Hid ((layD (pl L) D).1.nb = D.nb ∧ (layD (pl L) D).1.uf.length ≤ D.uf.length + n ∧ (layD (pl L) D).1.n ≤ D.n + n) := by
          rw [show (pl L).length = n by simp [pl, HL.out]] at hle
          exact hle
        clear cA cW hI3 b3 HR hgbl hle
        by_cases h0 : (layD (pl L) D).2 = 0
        · have hres2 : Hid (doR D L (some sb) slot = layD [(slot, sb)] (layD (pl L) D).1) := by show _ = _; rw [hres.out, doD, if_pos h0]
          rw [h0] at cL
          generalize (layD (pl L) D).1 = D1 at cL hres2 HLe
          clear hres h0
          go_wp2_with fail
          refine Calls.mono cL ?_
          rintro r u4 ⟨rfl, ⟨F4, hd4, hF4⟩, U4⟩
          have U5 : Upd F w u4 := (Upd.of_below (F := F) B3).trans U4 (fun i h => .inl h)
          have hg4 : ¬ F gb := fun h => by have := HF.out _ h; omega
          have hgF4 : ¬ F4 gb := fun h => by
            rcases hF4 _ h with h1 | h1
            · exact hg4 h1
            · omega
          have rd4 : Rd u4 (some ⟨gb, 0, none⟩) sb := rd_upd hr3.out U4 (fun ad e => by injection e with e; rw [← e]; exact hg4)
          have bA := (Below.refl u4.heap.size u4).alloc (Nat.le_refl _) (.cells #[.int .i64 slot, .slice (some ⟨gb, 0, none⟩) 4096 cb] 89)
          have bx := Box.new u4 #[.int .i64 slot, .slice (some ⟨gb, 0, none⟩) 4096 cb] 89
          have z4 : gb < u4.heap.size := Nat.lt_of_lt_of_le z3 U4.size
          have hFl := hd4.flt
          have hI5 : ImsD (u4.alloc (.cells #[.int .i64 slot, .slice (some ⟨gb, 0, none⟩) 4096 cb] 89)) (some ⟨u4.heap.size, 0, none⟩) [((slot, some ⟨gb, 0, none⟩, 4096, cb), sb)] F4 := by
            refine ⟨fun _ => ⟨u4.heap.size, 0, rfl, fun j hj => ?_⟩, fun p hp => ?_, fun ad e => ?_⟩
            · have hj0 : j = 0 := by simp at hj; omega
              subst hj0
              have y0 := bx.cell 0
              have y1 := bx.cell 1
              simp only [List.getElem?_toArray, List.getElem?_cons_zero, List.getElem?_cons_succ] at y0 y1
              exact ⟨y0, y1⟩
            · simp at hp
              subst hp
              exact ⟨rd4.below bA (Nat.le_refl _), HSl.out, fun ad e => by injection e with e; rw [← e]; exact ⟨by simp; omega, hgF4⟩⟩
            · injection e with e
              rw [← e]
              intro h
              have := hFl _ h
              exact Nat.lt_irrefl _ this
          have cL2 := lay_at (hd4.below bA) (some ⟨u4.heap.size, 0, none⟩) 1 1 [((slot, some ⟨gb, 0, none⟩, 4096, cb), sb)] rfl (by decide) hI5 ⟨by have := HLe.out.2.1; have := HLim.out.1; omega, by have := HLe.out.2.2; have := HLim.out.2; omega⟩
          have hpl : pl [((slot, some ⟨gb, 0, none⟩, 4096, cb), sb)] = [(slot, sb)] := rfl
          rw [hpl] at cL2
          clear cL hI5 bx rd4 hpl
          generalize layD [(slot, sb)] D1 = R at cL2 hres2
          go_wp2_with fail
          refine Calls.mono cL2 ?_
          rintro r u6 ⟨rfl, ⟨F6, hd6, hF6⟩, U6⟩
          go_wp2_with fail
          go_ret
          rw [hres2.out]
          have U7 := (U5.alloc (.cells #[.int .i64 slot, .slice (some ⟨gb, 0, none⟩) 4096 cb] 89)).trans U6 (fun i h => by
            rcases hF4 i h with h1 | h1
            · exact .inl h1
            · exact .inr (Nat.le_trans B3.size h1))
          refine ⟨rfl, ⟨F6, hd6, fun i hi => ?_⟩, U7⟩
          rcases hF6 i hi with h1 | h1
          · rcases hF4 i h1 with h2 | h2
            · exact .inl h2
            · exact .inr (Nat.le_trans B3.size h2)
          · exact .inr (Nat.le_trans (Nat.le_trans U5.size bA.size) h1)
        · have hres2 : Hid (doR D L (some sb) slot = layD (pl L) D) := by show _ = _; rw [hres.out, doD, if_neg h0]
          have hne : (((layD (pl L) D).2 : Int) != 0) = true := by simp; omega
          clear h0 hres
          generalize layD (pl L) D = R at cL hres2 hne
          obtain ⟨D4, ee⟩ := R
          dsimp only at cL hne
          go_wp2_with fail
          refine Calls.mono cL ?_
          rintro r u4 ⟨rfl, ⟨F4, hd4, hF4⟩, U4⟩
          go_wp2_with fail
          go_ret
          rw [hres2.out]
          exact ⟨rfl, ⟨F4, hd4, fun i hi => by
            rcases hF4 i hi with h1 | h1
            · exact .inl h1
            · exact .inr (Nat.le_trans B3.size h1)⟩, (Upd.of_below (F := F) B3).trans U4 (fun i h => .inl h)⟩
end Go.Proofs.YtnldkpckojhbhaaGreat.H

/-
  Format: noughts, then the superblock.
-/
namespace Go.Proofs.YtnldkpckojhbhaaGreat.V
open Go.RowKit
open Go.Proofs.YtnldkpckojhbhaaGreat.Dk (Box DS IsDisk Upd Rd nought)
open Go.Proofs.YtnldkpckojhbhaaGreat.H (layD doD owns4096 write_le)

/-- the blocks that Format writes: noughts, from block 1 on -/
def fmtL : Nat → List (Int × List UInt8)
  | 0 => []
  | n + 1 => fmtL n ++ [((n : Int) + 1, nought 4096)]
theorem fmtL_len (n : Nat) : (fmtL n).length = n := by
  induction n with
  | zero => rfl
  | succ n ih => simp [fmtL, ih]
theorem fmtL_get (n k : Nat) (h : k < (fmtL n).length) : (fmtL n)[k] = ((k : Int) + 1, nought 4096) := by
  induction n with
  | zero => simp [fmtL] at h
  | succ n ih =>
    have hl := fmtL_len n
    simp only [fmtL]
    by_cases hk : k < n
    · rw [List.getElem_append_left (by omega)]
      exact ih (by omega)
    · have hk2 : k = n := by rw [fmtL_len] at h; omega
      subst hk2
      rw [List.getElem_append_right (by omega)]
      simp [hl]
theorem fmtL_drop (n k : Nat) (h : k < n) : (fmtL n).drop k = ((k : Int) + 1, nought 4096) :: (fmtL n).drop (k + 1) := by
  have hk : k < (fmtL n).length := by rw [fmtL_len]; exact h
  rw [List.drop_eq_getElem_cons hk, fmtL_get n k hk]

/-- what Format does to a disk of 64 blocks -/
def fmtD (D : DS) : DS × Nat := doD (fmtL 22) 0 (Su.superB 64 1 1 0) D
theorem right11 : Su.putSuper 64 1 1 0 = some (Su.superB 64 1 1 0) := by
  unfold Su.putSuper
  rw [if_pos (by decide)]
  rfl
set_option maxRecDepth 100000 in
set_option maxHeartbeats 4000000 in
theorem format_at {g : Nat} {w : World} {D : DS} {F : Nat → Prop} (hd : IsDisk w g D F) (hnb : D.nb = 64) (hlim : D.uf.length ≤ 800000 ∧ D.n ≤ 800000) :
    Calls Tryz.prog 48 #[.pointer (some ⟨g, 0, none⟩)] w fun r w' => r = .returned (.int .i64 ((fmtD D).2 : Int)) ∧ (∃ F', IsDisk w' g (fmtD D).1 F' ∧ ∀ i, F' i → F i ∨ w.heap.size ≤ i) ∧ Upd F w w' := by
  have cS := Dk.size_of hd
  rw [hnb] at cS
  have cO := La.of_good 64 w (by decide) (by decide)
  rw [show La.layA 64 = #[.int .i64 64, .int .i64 2, .int .i64 16, .int .i64 18, .int .i64 19, .int .i64 4, .int .i64 23] by rfl] at cO
  have HD : Hid (IsDisk w g D F) := hd
  have HLim : Hid (D.uf.length ≤ 800000 ∧ D.n ≤ 800000) := hlim
  have hfl : Hid (∀ i, F i → i < w.heap.size) := hd.flt
  have hZl : Hid ((nought 4096).length = 4096) := Dk.nought_length 4096
  have hmk : ∀ u, (Instr.makeSlice 37 (.int .i64 4096) (.int .i64 4096)).run Tryz.prog u = .ok (.slice (some ⟨u.heap.size, 0, none⟩) 4096 4096) (u.alloc (.cells (Dk.bcs (nought 4096)).toArray 5)) := fun u => Dk.make_run 4096 (by decide) u
  have HZr : Hid (∀ u : World, Rd (u.alloc (.cells (Dk.bcs (nought 4096)).toArray 5)) (some ⟨u.heap.size, 0, none⟩) (nought 4096)) := fun u => (Dk.own_lit u (nought 4096)).rd
  have hdrop : Hid (∀ k, k < 22 → (fmtL 22).drop k = ((k : Int) + 1, nought 4096) :: (fmtL 22).drop (k + 1)) := fun k hk => fmtL_drop 22 k hk
  have hend : Hid ((fmtL 22).drop 22 = []) := List.drop_eq_nil_of_le (by rw [fmtL_len]; exact Nat.le_refl _)
  have hfd : Hid (fmtD D = doD (fmtL 22) 0 (Su.superB 64 1 1 0) D) := rfl
  have cP : Hid (∀ u, Calls Tryz.prog 114 #[.agg #[.int .i64 64, .int .i64 1, .int .i64 1, .int .i64 0]] u fun r w' => Su.Puts u w' (some (Su.superB 64 1 1 0)) r) := fun u => by
    have := Su.putSuper_at 64 1 1 0 u
    rw [right11] at this
    exact this
  have hsl : Hid ((Su.superB 64 1 1 0).length = 4096) := Su.superB_length 64 1 1 0
  clear hd hlim hnb
  generalize Su.superB 64 1 1 0 = sb at hfd cP hsl
  generalize nought 4096 = zs at hZl hmk HZr hdrop
  generalize fmtL 22 = FL at hdrop hend hfd
  go_enter Tryz.func48, Tryz.ntmps48
  go_wp2_with fail
  refine Calls.mono cS ?_
  rintro r w' ⟨rfl, rfl⟩
  go_wp2_with fail
  refine Calls.mono cO ?_
  rintro r wu1 ⟨rfl, b1⟩
  have HB1 : Hid (w.heap.size ≤ wu1.heap.size) := b1.size
  have x := Box.new wu1 #[.int .i64 64, .int .i64 2, .int .i64 16, .int .i64 18, .int .i64 19, .int .i64 4, .int .i64 23] 57
  have B2 := b1.alloc b1.size (.cells #[.int .i64 64, .int .i64 2, .int .i64 16, .int .i64 18, .int .i64 19, .int .i64 4, .int .i64 23] 57)
  have cQ := cP.out (wu1.alloc (.cells #[.int .i64 64, .int .i64 2, .int .i64 16, .int .i64 18, .int .i64 19, .int .i64 4, .int .i64 23] 57))
  clear cS cO cP b1
  go_wp2_with fail
  refine Calls.mono cQ ?_
  rintro r wu2 ⟨v, rfl, hrow, b2⟩
  have he : Su.erP (some sb) = 0 := rfl
  rw [he]
  obtain ⟨gb, cb, rfl, hgb, hgbl, rd⟩ := owns4096 hrow hsl.out
  have B3 := B2.trans (b2.mono B2.size)
  have x2 := x.below b2
  have bz : Below wu2.heap.size wu2 (wu2.alloc (.cells (Dk.bcs zs).toArray 5)) := (Below.refl _ _).alloc (Nat.le_refl _) _
  have hrz := HZr.out wu2
  have B4 := B3.trans (bz.mono B3.size)
  obtain ⟨wu3, hu3⟩ : ∃ u, u = wu2.alloc (.cells (Dk.bcs zs).toArray 5) := ⟨_, rfl⟩
  have HU3 : Hid (wu3 = wu2.alloc (.cells (Dk.bcs zs).toArray 5)) := hu3
  rw [← hu3] at bz hrz B4
  have hz3 : wu2.heap.size < wu3.heap.size := by rw [hu3]; simp
  have HX3 : Hid (Box wu3 wu1.heap.size #[.int .i64 64, .int .i64 2, .int .i64 16, .int .i64 18, .int .i64 19, .int .i64 4, .int .i64 23] 57) := x2.below bz
  have HR3 : Hid (Rd wu3 (some ⟨gb, 0, none⟩) sb) := rd.below bz (Nat.le_refl _)
  have HZ3 : Hid (Rd wu3 (some ⟨wu2.heap.size, 0, none⟩) zs) := hrz
  have HB4 : Hid (Below w.heap.size w wu3) := B4
  have HD3 : Hid (IsDisk wu3 g D F) := HD.out.below B4
  have HG : Hid (w.heap.size ≤ gb ∧ gb < wu3.heap.size ∧ w.heap.size ≤ wu1.heap.size ∧ wu1.heap.size < wu3.heap.size ∧ w.heap.size ≤ wu2.heap.size ∧ wu2.heap.size < wu3.heap.size) := by
    have h1 := B2.size
    have h2 := x2.lt
    have h3 := b2.size
    have h4 := B3.size
    have h5 := HB1.out
    exact ⟨by omega, by omega, h5, by omega, h4, hz3⟩
  clear cQ hrow b2 x x2 B2 B3 bz hrz rd hgb hgbl B4 hz3 hu3 HD
  go_wp2_with fail
  rw [← HU3.out]
  clear HU3 hmk
  go_loopw [8] (fun i u => ∃ (k : Nat) (E : DS) (F' : Nat → Prop), k ≤ 22 ∧ i = .int .i64 ((k : Int) + 1) ∧ IsDisk u g E F' ∧ (∀ i, F' i → F i ∨ wu3.heap.size ≤ i) ∧ Upd F wu3 u ∧ layD FL D = layD (FL.drop k) E ∧ E.uf.length ≤ D.uf.length + k ∧ E.n ≤ D.n + k) (fun i _ => 23 - (intOf i).toNat)
  case atStart => exact ⟨0, D, F, by omega, rfl, HD3.out, fun i h => .inl h, Upd.refl _ _, by simp, by omega, by omega⟩
  case round =>
    obtain ⟨k, E, F', hk, rfl, hdk, hF', U, hlay, hu, hn2⟩ := hrel
    have HDk : Hid (IsDisk wr g E F') := hdk
    have HF : Hid (∀ i, F' i → F i ∨ wu3.heap.size ≤ i) := hF'
    have HU : Hid (Upd F wu3 wr) := U
    have HLay : Hid (layD FL D = layD (FL.drop k) E) := hlay
    have HB : Hid (E.uf.length ≤ D.uf.length + k ∧ E.n ≤ D.n + k) := ⟨hu, hn2⟩
    have hnF : ∀ i, w.heap.size ≤ i → i < wu3.heap.size → ¬ F' i := fun i h1 h2 hf => by
      rcases hF' i hf with h | h
      · have := hfl.out i h; omega
      · omega
    have hnF0 : ∀ i, w.heap.size ≤ i → ¬ F i := fun i h1 hf => by have := hfl.out i hf; omega
    have xk := U.box HX3.out (hnF0 _ HG.out.2.2.1)
    have x6 := xk.cell 6
    simp only [List.getElem?_toArray, List.getElem?_cons_zero, List.getElem?_cons_succ] at x6
    have HnF : Hid (∀ i, w.heap.size ≤ i → i < wu3.heap.size → ¬ F' i) := hnF
    have HnF0 : Hid (∀ i, w.heap.size ≤ i → ¬ F i) := hnF0
    have hki1 : (k : Int) + 1 ≤ 23 := by omega
    clear hdk hF' hlay hu hn2 U xk hnF hnF0
    by_cases hlt : k < 22
    · have hki : (k : Int) + 1 < 23 := by omega
      have hrz := Dk.Rd.upd HZ3.out HU.out (HnF0.out _ HG.out.2.2.2.2.1)
      have cW := Dk.write_at HDk.out ((k : Int) + 1) (some ⟨wu2.heap.size, 0, none⟩) 4096 4096 zs hZl.out ⟨by have := HB.out.1; have := HLim.out.1; omega, by have := HB.out.2; have := HLim.out.2; omega⟩ hrz (fun ad e => by injection e with e; subst e; exact HnF.out _ HG.out.2.2.2.2.1 HG.out.2.2.2.2.2)
      have HW : Hid ((E.write ((k : Int) + 1) zs).nb = E.nb ∧ (E.write ((k : Int) + 1) zs).uf.length ≤ E.uf.length + 1 ∧ (E.write ((k : Int) + 1) zs).n ≤ E.n + 1) := write_le E ((k : Int) + 1) zs
      have hE2 : Hid (layD FL D = if E.writeE ((k : Int) + 1) zs = 0 then layD (FL.drop (k + 1)) (E.write ((k : Int) + 1) zs) else (E.write ((k : Int) + 1) zs, E.writeE ((k : Int) + 1) zs)) := by
        show _ = _
        rw [HLay.out, hdrop.out k hlt]
        rfl
      clear HLay hrz
      by_cases h0 : E.writeE ((k : Int) + 1) zs = 0
      · rw [h0] at cW
        have hE3 : Hid (layD FL D = layD (FL.drop (k + 1)) (E.write ((k : Int) + 1) zs)) := hE2.out.trans (if_pos h0)
        clear hE2 h0
        go_wp2_with fail
        refine Calls.mono cW ?_
        rintro r u ⟨rfl, ⟨F2, hd2, hF2⟩, U2⟩
        have U3 : Upd F wu3 u := HU.out.trans U2 (fun i h => HF.out i h)
        clear cW x6
        go_wp2_with fail
        go_roundw
        case rel => exact ⟨k + 1, _, F2, by omega, by push_cast; rfl, hd2, fun i hi => by
            rcases hF2 i hi with h1 | h1
            · exact HF.out i h1
            · exact .inr (Nat.le_trans HU.out.size h1), U3, hE3.out, by have := HW.out.2.1; have := HB.out.1; omega, by have := HW.out.2.2; have := HB.out.2; omega⟩
        case measure => simp [intOf]; omega
      · have hE3 : Hid (layD FL D = (E.write ((k : Int) + 1) zs, E.writeE ((k : Int) + 1) zs)) := hE2.out.trans (if_neg h0)
        have hne : ((E.writeE ((k : Int) + 1) zs : Int) != 0) = true := by simp; omega
        have hno : ¬ (layD FL D).2 = 0 := by rw [hE3.out]; exact h0
        have hres : Hid (fmtD D = (E.write ((k : Int) + 1) zs, E.writeE ((k : Int) + 1) zs)) := by
          show _ = _
          rw [hfd.out, doD, if_neg hno, hE3.out]
        generalize E.writeE ((k : Int) + 1) zs = ee at cW hE3 hne hres
        clear hE2 h0 hno hE3
        go_wp2_with fail
        refine Calls.mono cW ?_
        rintro r u ⟨rfl, ⟨F2, hd2, hF2⟩, U2⟩
        have U3 : Upd F wu3 u := HU.out.trans U2 (fun i h => HF.out i h)
        clear cW x6
        go_wp2_with fail
        go_ret
        rw [hres.out]
        exact ⟨rfl, ⟨F2, hd2, fun i hi => by
            rcases hF2 i hi with h1 | h1
            · rcases HF.out i h1 with h | h
              · exact .inl h
              · exact .inr (Nat.le_trans HB4.out.size h)
            · exact .inr (Nat.le_trans HB4.out.size (Nat.le_trans HU.out.size h1))⟩, (Dk.Upd.of_below HB4.out).trans U3 (fun i h => .inl h)⟩
    · have hke : k = 22 := by omega
      subst hke
      have hki : ¬ ((22 : Nat) : Int) + 1 < 23 := by omega
      have hlayE : Hid (layD FL D = (E.flush, E.operE)) := by
        show _ = _
        rw [HLay.out, hend.out]
        rfl
      have cF := Dk.flush_at HDk.out
      clear HLay hlt hdrop hend
      rw [show ((22 : Nat) : Int) + 1 = 23 by decide]
      go_wp2_with fail
      refine Calls.mono cF ?_
      rintro r wu4 ⟨rfl, hd4, U4⟩
      have U5 : Upd F wu3 wu4 := HU.out.trans U4 (fun i h => HF.out i h)
      clear cF x6
      by_cases h0 : E.operE = 0
      · have hz : ((E.operE : Int) != 0) = false := by simp; omega
        have hdo : Hid (fmtD D = layD [(0, sb)] E.flush) := by
          show _ = _
          rw [hfd.out, doD, hlayE.out, if_pos h0]
        have hle := H.flush_le E
        have hrs := Dk.Rd.upd HR3.out U5 (HnF0.out _ HG.out.1)
        have cW := Dk.write_at hd4 0 (some ⟨gb, 0, none⟩) 4096 cb sb hsl.out ⟨by have := HB.out.1; have := HLim.out.1; omega, by have := HB.out.2; have := HLim.out.2; omega⟩ hrs (fun ad e => by injection e with e; subst e; exact HnF.out _ HG.out.1 HG.out.2.1)
        have HD4 : Hid (IsDisk wu4 g E.flush F') := hd4
        clear hle hrs hd4 h0
        go_wp2_with fail
        refine Calls.mono cW ?_
        rintro r wu5 ⟨rfl, ⟨F2, hd5, hF5⟩, U6⟩
        have U7 : Upd F wu3 wu5 := U5.trans U6 (fun i h => HF.out i h)
        have HF2 : Hid (∀ i, F2 i → F i ∨ w.heap.size ≤ i) := fun i hi => by
          rcases hF5 i hi with h1 | h1
          · rcases HF.out i h1 with h | h
            · exact .inl h
            · exact .inr (Nat.le_trans HB4.out.size h)
          · exact .inr (Nat.le_trans HB4.out.size (Nat.le_trans U5.size h1))
        clear cW hz
        by_cases hw0 : E.flush.writeE 0 sb = 0
        · have hz : ((E.flush.writeE 0 sb : Int) != 0) = false := by simp; omega
          have hres : Hid (fmtD D = ((E.flush.write 0 sb).flush, (E.flush.write 0 sb).operE)) := by
            show _ = _
            rw [hdo.out]
            unfold layD
            rw [if_pos hw0]
            rfl
          have cF := Dk.flush_at hd5
          have HF5 : Hid (∀ i, F2 i → F' i ∨ wu4.heap.size ≤ i) := hF5
          clear hw0 hd5 hF5
          go_wp2_with fail
          refine Calls.mono cF ?_
          rintro r wu6 ⟨rfl, hd6, U8⟩
          have U9 : Upd F wu3 wu6 := U7.trans U8 (fun i h => by
            rcases HF5.out i h with h | h
            · exact HF.out i h
            · exact .inr (Nat.le_trans U5.size h))
          clear cF
          go_wp2_with fail
          go_ret
          rw [hres.out]
          exact ⟨rfl, ⟨F2, hd6, HF2.out⟩, (Dk.Upd.of_below HB4.out).trans U9 (fun i h => .inl h)⟩
        · have hne : ((E.flush.writeE 0 sb : Int) != 0) = true := by simp; omega
          have hres : Hid (fmtD D = (E.flush.write 0 sb, E.flush.writeE 0 sb)) := by
            show _ = _
            rw [hdo.out]
            unfold layD
            rw [if_neg hw0]
          generalize E.flush.writeE 0 sb = ee at hne hres
          clear hw0
          go_wp2_with fail
          go_ret
          rw [hres.out]
          exact ⟨rfl, ⟨F2, hd5, HF2.out⟩, (Dk.Upd.of_below HB4.out).trans U7 (fun i h => .inl h)⟩
      · have hne : ((E.operE : Int) != 0) = true := by simp; omega
        have hres : Hid (fmtD D = (E.flush, E.operE)) := by
          show _ = _
          rw [hfd.out, doD, hlayE.out, if_neg h0]
        generalize E.operE = ee at hne hres
        clear h0
        go_wp2_with fail
        go_ret
        rw [hres.out]
        exact ⟨rfl, ⟨F', hd4, fun i hi => by
          rcases HF.out i hi with h | h
          · exact .inl h
          · exact .inr (Nat.le_trans HB4.out.size h)⟩, (Dk.Upd.of_below HB4.out).trans U5 (fun i h => .inl h)⟩
end Go.Proofs.YtnldkpckojhbhaaGreat.V

/-
  What a disk's blocks are behind a group's writes.
-/
namespace Go.Proofs.YtnldkpckojhbhaaGreat.J
open Go.RowKit

theorem lastOf_front (uf ws : List (Nat × List UInt8)) (n : Nat) : ∀ k, k ≤ uf.length → Dk.lastOf (uf ++ ws) n k = Dk.lastOf uf n k
  | 0, _ => rfl
  | k + 1, h => by
    rw [Dk.lastOf, Dk.lastOf, List.getElem?_append_left (by omega), lastOf_front uf ws n k (by omega)]
theorem lastOf_snoc (uf : List (Nat × List UInt8)) (x : Nat × List UInt8) (n : Nat) : Dk.lastOf (uf ++ [x]) n (uf ++ [x]).length = if x.1 = n then some x.2 else Dk.lastOf uf n uf.length := by
  rw [List.length_append, List.length_singleton, Dk.lastOf, List.getElem?_concat_length, lastOf_front uf [x] n _ (Nat.le_refl _)]
/-- one write more -/
theorem stand_snoc (D : Dk.DS) (x : Nat × List UInt8) (m n : Nat) : ({ D with uf := D.uf ++ [x], n := m } : Dk.DS).stand n = if x.1 = n then x.2 else D.stand n := by
  unfold Dk.DS.stand
  simp only [lastOf_snoc]
  split
  · rfl
  · rfl
theorem wrs_one (S f : Nat) (bs : List (List UInt8)) (k : Nat) : wrs S f bs (k + 1) = wrs S f bs k ++ [(2 + (f + k) % S, bs.getD k [])] := by simp [wrs, List.range_succ]
theorem grow_one (D : Dk.DS) (S f : Nat) (bs : List (List UInt8)) (k : Nat) : grow D S f bs (k + 1) = { grow D S f bs k with uf := (grow D S f bs k).uf ++ [(2 + (f + k) % S, bs.getD k [])], n := (grow D S f bs k).n + 1 } := by
  simp only [grow, wrs_one, List.append_assoc, Nat.add_assoc]
theorem grow_out (D : Dk.DS) (S f : Nat) (bs : List (List UInt8)) (p : Nat) : ∀ k, (∀ i, i < k → 2 + (f + i) % S ≠ p) → (grow D S f bs k).stand p = D.stand p
  | 0, _ => by rw [grow_zero]
  | k + 1, h => by
    rw [grow_one, stand_snoc, if_neg (h k (by omega)), grow_out D S f bs p k (fun i hi => h i (by omega))]
theorem grow_in (D : Dk.DS) (f : Nat) (bs : List (List UInt8)) (i : Nat) : ∀ k, i < k → k ≤ 16 → (grow D 16 f bs k).stand (2 + (f + i) % 16) = bs.getD i []
  | 0, h, _ => by omega
  | k + 1, h, h16 => by
    rw [grow_one, stand_snoc]
    by_cases e : i = k
    · subst e
      rw [if_pos rfl]
    · rw [if_neg (by dsimp only; omega), grow_in D f bs i k (by omega) (by omega)]
end Go.Proofs.YtnldkpckojhbhaaGreat.J
namespace Go.Proofs.YtnldkpckojhbhaaGreat.Dk
theorem blk_carryTo (uf : List (Nat × List UInt8)) (d : List UInt8) (nb k : Nat) (hk : k < nb) (hd : d.length = nb * 4096) (hu : ∀ w ∈ uf, w.1 < nb ∧ w.2.length = 4096) : ∀ n, n ≤ uf.length → (carryTo uf d n).length = nb * 4096 ∧ blk (carryTo uf d n) k = (lastOf uf k n).getD (blk d k)
  | 0, _ => ⟨hd, rfl⟩
  | n + 1, h => by
    obtain ⟨ih1, ih2⟩ := blk_carryTo uf d nb k hk hd hu n (by omega)
    have hg : uf[n]? = some uf[n] := List.getElem?_eq_getElem (by omega)
    obtain ⟨hw1, hw2⟩ := hu uf[n] (List.getElem_mem (by omega))
    have hfit : uf[n].1 * 4096 + 4096 ≤ (carryTo uf d n).length := by rw [ih1]; omega
    rw [carryTo, lastOf, hg]
    refine ⟨?_, ?_⟩
    · show (carry (carryTo uf d n) uf[n].1 uf[n].2 255).length = _
      rw [carry_length _ _ _ _ hfit hw2, ih1]
    · show blk (carry (carryTo uf d n) uf[n].1 uf[n].2 255) k = (if uf[n].1 = k then some uf[n].2 else lastOf uf k n).getD (blk d k)
      by_cases e : uf[n].1 = k
      · rw [if_pos e, ← e, blk_carry_all _ _ _ hfit hw2]
        rfl
      · rw [if_neg e, blk_carry_other _ _ _ _ _ hfit hw2 (fun h => e h.symm), ih2]
theorem stand_blk (D : DS) (ok : D.Ok) (k : Nat) (hk : k < D.nb) : blk D.image k = D.stand k := (blk_carryTo D.uf D.dur D.nb k hk ok.len ok.each D.uf.length (Nat.le_refl _)).2
end Go.Proofs.YtnldkpckojhbhaaGreat.Dk
namespace Go.Proofs.YtnldkpckojhbhaaGreat.J
theorem stand_flush {D : Dk.DS} (h : Calm D) (ok : D.Ok) (n : Nat) (hn : n < D.nb) : D.flush.stand n = D.stand n := by
  rw [h.flush.1, ← Dk.stand_blk D ok n hn]
  rfl
/-- as the law picks -/
def pk (x : Int) (n : Nat) : Int := if x.tmod n < 0 then x.tmod n + n else x.tmod n
theorem pk_in (x : Int) (n : Nat) (h0 : 0 < n) : 0 ≤ pk x n ∧ pk x n < n := by
  have h1 : x.tmod n < n := Int.tmod_lt_of_pos x (by omega)
  have h2 : -(n : Int) < x.tmod n := Int.lt_tmod_of_pos x (by omega)
  unfold pk
  split <;> omega
theorem pick_eq (x : Int) (n : Nat) (N : Int) (w : World) (hN : N = (n : Int)) (h0 : 0 < n) (hn : n ≤ 2000000) :
    Calls Tryz.prog 43 #[.int .i64 x, .int .i64 N] w fun e w' => e = .returned (.int .i64 (pk x n)) ∧ w = w' := by
  subst hN
  have h1 : x.tmod n < n := Int.tmod_lt_of_pos x (by omega)
  have h2 : -(n : Int) < x.tmod n := Int.lt_tmod_of_pos x (by omega)
  unfold pk
  obtain ⟨y, hy⟩ : ∃ y, x.tmod n = y := ⟨_, rfl⟩
  rw [hy] at h1 h2 ⊢
  by_cases hneg : y < 0
  · rw [if_pos hneg]
    go_enter Tryz.func43, Tryz.ntmps43
    go_wp2
    go_ret
    exact ⟨rfl, rfl⟩
  · rw [if_neg hneg]
    go_enter Tryz.func43, Tryz.ntmps43
    go_wp2
    go_ret
    exact ⟨rfl, rfl⟩
end Go.Proofs.YtnldkpckojhbhaaGreat.J

/-
  The library's walk through a list of writes, from its end.
-/
namespace Go.Proofs.YtnldkpckojhbhaaGreat.Dk
open Go.RowKit Go.Shelf
attribute [local go_sem] Oper.semAt_some

abbrev Wr := Nat × (Nat × Nat × Nat)
def encW (x : Wr) : Array Value := #[.int .i64 (x.1 : Int), .agg #[.int .i64 (x.2.1 : Int), .slice (some ⟨x.2.2.1, 0, none⟩) 4096 x.2.2.2]]
/-- what comes in round j -/
def comes (ps : List (Nat × Nat × Nat)) (j : Nat) : Wr := (ps.length - 1 - j, ps[ps.length - 1 - j]?.getD (0, 0, 0))
/-- what has come behind k rounds -/
def downs (ps : List (Nat × Nat × Nat)) (k : Nat) : List Wr := (List.range k).map (comes ps)
theorem downs_succ (ps : List (Nat × Nat × Nat)) (k : Nat) : downs ps (k + 1) = downs ps k ++ [comes ps k] := by simp [downs, List.range_succ]
theorem downs_length (ps : List (Nat × Nat × Nat)) (k : Nat) : (downs ps k).length = k := by simp [downs]

set_option maxRecDepth 100000 in
set_option maxHeartbeats 2000000 in
theorem back1_in (n : Nat) (hn : 1 ≤ n) (l Bs n₀ b len cap : Nat) (ps : List (Nat × Nat × Nat)) (hlen : ps.length = len) (hmax : len ≤ 1000000) (hb : b < n₀) (J Jx : List Wr → World → Prop)
    (hY : ∀ pre x W, J pre W → pre.length < len → YieldAt Fence.wide (n - 1) Tryz.prog l (encW x) W fun e W' =>
      (e = .returned (.bool true) ∧ J (pre ++ [x]) W' ∧ Below n₀ W W') ∨ (e = .returned (.bool false) ∧ Jx (pre ++ [x]) W'))
    (W : World) (hBs : W.cell? ⟨Bs, 0, none⟩ = some (.slice (some ⟨b, 0, none⟩) len cap)) (hBn : Bs < n₀)
    (hc : ∀ j (h : j < ps.length), W.cell? ⟨b, 0 + j * 2, none⟩ = some (.int .i64 (ps[j].1 : Int)) ∧ W.cell? ⟨b, 0 + j * 2 + 1, none⟩ = some (.slice (some ⟨ps[j].2.1, 0, none⟩) 4096 ps[j].2.2)) (h0 : J [] W) :
    CallsIn Fence.wide n Tryz.prog 209 #[.func (.yield l) #[] #[], .pointer (some ⟨Bs, 0, none⟩)] W fun e W' => (∃ v, e = .returned v) ∧
      ((∃ ys, ys = downs ps len ∧ J ys W') ∨ (∃ pre, (∃ k, k ≤ len ∧ pre = downs ps k) ∧ Jx pre W')) := by
  have Hlen : Hid _ := hlen
  have Hc : Hid _ := hc
  clear hlen hc
  refine callsIn_of_wp Tryz.func209 rfl trivial ?_ rfl
  simp only [Tryz.ntmps209, List.size_toArray, List.length_cons, List.length_nil, Nat.reduceAdd, Nat.reduceSub, Array.replicate_succ, Array.replicate_zero, List.push_toArray, List.append_toArray, List.nil_append, List.cons_append]
  gi_wp2
  gi_loopw [3] (fun i wr => ∃ k : Nat, k ≤ len ∧ i = .int .i64 ((len : Int) - 1 - (k : Int)) ∧ J (downs ps k) wr ∧ Below n₀ W wr)
    (fun i _ => (intOf i + 1).toNat)
  case atStart => exact ⟨0, Nat.zero_le _, by simp, h0, Below.refl _ _⟩
  case round =>
    obtain ⟨k, hk, rfl, hJs, hnx⟩ := hrel
    have hBs' := (hnx.cell (p := ⟨Bs, 0, none⟩) hBn).trans hBs
    by_cases hlt : k < len
    · obtain ⟨j, hj⟩ : ∃ j : Nat, j = len - 1 - k := ⟨_, rfl⟩
      have hji : (len : Int) - 1 - (k : Int) = (j : Int) := by omega
      have hjl : j < ps.length := by rw [Hlen.out]; omega
      obtain ⟨a0, a1⟩ := Hc.out j hjl
      have hcm : comes ps k = (j, ps[j]) := by
        unfold comes
        rw [Hlen.out, ← hj, List.getElem?_eq_getElem hjl]
        rfl
      obtain ⟨fn, tmps, assign, body, hy, hR⟩ := hY _ (comes ps k) wr hJs (by rw [downs_length]; exact hlt)
      rw [hcm] at hy
      dsimp only [encW] at hy
      have b0 := (hnx.cell (p := ⟨b, 0 + j * 2, none⟩) hb).trans a0
      have b1 := (hnx.cell (p := ⟨b, 0 + j * 2 + 1, none⟩) hb).trans a1
      simp only [Nat.zero_add] at b0 b1
      have hjn : (j : Int) < len := by omega
      rw [hji]
      generalize (ps[j]'hjl) = p at hy b0 b1 hcm
      obtain ⟨pb, pg, pc⟩ := p
      dsimp only at hy b0 b1
      have Hcm : Hid _ := hcm
      have Hji : Hid _ := hji
      have Hj : Hid _ := hj
      clear a0 a1 hcm hji hj
      gi_wp2
      refine hR.mono ?_
      rintro e W3 (⟨rfl, hJ3, hk3⟩ | ⟨rfl, hJx3⟩)
      · gi_wp2
        go_roundw
        case rel => exact ⟨k + 1, by omega, by congr 1; have := Hji.out; omega, by rw [downs_succ]; exact hJ3, hnx.trans hk3⟩
        case measure => simp [intOf]
      · gi_wp2
        refine bodyPost_ret (results_none rfl _ _ _) rfl ?_
        exact ⟨⟨_, rfl⟩, .inr ⟨_, ⟨k + 1, by omega, (downs_succ _ _).symm⟩, hJx3⟩⟩
    · obtain rfl : k = len := by omega
      have e1 : (k : Int) - 1 - (k : Int) = -1 := by omega
      rw [e1]
      gi_wp2
      go_end0
      exact ⟨⟨_, rfl⟩, .inl ⟨_, rfl, hJs⟩⟩

set_option maxRecDepth 100000 in
set_option maxHeartbeats 1000000 in
/-- .. of no writes: no round. -/
theorem back1_nil_in (n : Nat) (l Bs cap : Nat) (a : Option Addr) (J : List Wr → World → Prop) (W : World) (hBs : W.cell? ⟨Bs, 0, none⟩ = some (.slice a 0 cap)) (h0 : J [] W) :
    CallsIn Fence.wide n Tryz.prog 209 #[.func (.yield l) #[] #[], .pointer (some ⟨Bs, 0, none⟩)] W fun e W' => (∃ v, e = .returned v) ∧ J [] W' := by
  refine callsIn_of_wp Tryz.func209 rfl trivial ?_ rfl
  simp only [Tryz.ntmps209, List.size_toArray, List.length_cons, List.length_nil, Nat.reduceAdd, Nat.reduceSub, Array.replicate_succ, Array.replicate_zero, List.push_toArray, List.append_toArray, List.nil_append, List.cons_append]
  gi_wp2
  gi_loopw [3] (fun i wr => i = .int .i64 (-1) ∧ J [] wr) (fun _ _ => 0)
  case atStart => exact ⟨rfl, h0⟩
  case round =>
    obtain ⟨rfl, hJs⟩ := hrel
    gi_wp2
    go_end0
    exact ⟨⟨_, rfl⟩, hJs⟩

set_option maxHeartbeats 1000000 in
/-- slices.Backward: the list is boxed; the function captures the box. -/
theorem back_in (n : Nat) (a : Option Addr) (len cap : Nat) (w : World) :
    CallsIn Fence.wide n Tryz.prog 167 #[.slice a len cap] w fun e w' => e = .returned (.func (.func 209) #[] #[.pointer (some ⟨w.heap.size, 0, none⟩)]) ∧ w' = w.alloc (.cells #[.slice a len cap] 128) := by
  refine callsIn_of_wp Tryz.func167 rfl trivial ?_ rfl
  simp only [Tryz.ntmps167, List.size_toArray, List.length_cons, List.length_nil, Nat.reduceAdd, Nat.reduceSub, Array.replicate_succ, Array.replicate_zero, List.push_toArray, List.append_toArray, List.nil_append, List.cons_append]
  gi_wp2
  go_ret
  exact ⟨rfl, rfl⟩

/-- The writes ps lie where v says, below n₀. -/
def Wrs (n₀ : Nat) (w : World) (v : Value) (ps : List (Nat × Nat × Nat)) : Prop :=
  (∃ a cap, v = .slice a 0 cap ∧ ps = []) ∨ ∃ b cap, v = .slice (some ⟨b, 0, none⟩) ps.length cap ∧ b < n₀ ∧ ∀ j (h : j < ps.length), w.cell? ⟨b, 0 + j * 2, none⟩ = some (.int .i64 (ps[j].1 : Int)) ∧ w.cell? ⟨b, 0 + j * 2 + 1, none⟩ = some (.slice (some ⟨ps[j].2.1, 0, none⟩) 4096 ps[j].2.2)
theorem Wrs.below {n₀ : Nat} {A B : World} {v : Value} {ps : List (Nat × Nat × Nat)} (hb : Below n₀ A B) (h : Wrs n₀ A v ps) : Wrs n₀ B v ps := by
  rcases h with h | ⟨b, cap, hv, hlt, hc⟩
  · exact .inl h
  · refine .inr ⟨b, cap, hv, hlt, fun j hj => ?_⟩
    obtain ⟨h0, h1⟩ := hc j hj
    exact ⟨(hb.cell (p := ⟨b, 0 + j * 2, none⟩) hlt).trans h0, (hb.cell (p := ⟨b, 0 + j * 2 + 1, none⟩) hlt).trans h1⟩

theorem back_stops (n : Nat) (hn : 1 ≤ n) (Bs n₀ : Nat) (v : Value) (ps : List (Nat × Nat × Nat)) (hmax : ps.length ≤ 1000000) (w : World) (hBs : Bs < n₀) (hn₀ : n₀ ≤ w.heap.size) (hc : w.cell? ⟨Bs, 0, none⟩ = some v) (hI : Wrs n₀ w v ps) :
    SeqStopsK Fence.wide n Tryz.prog 209 #[.pointer (some ⟨Bs, 0, none⟩)] encW (Below n₀) (fun ys => ys = downs ps ps.length) (fun pre => ∃ k, k ≤ ps.length ∧ pre = downs ps k) ps.length w := fun l J Jx W hW _ _ hY h0 => by
  have hc' := (hW.cell (p := ⟨Bs, 0, none⟩) (Nat.lt_of_lt_of_le hBs hn₀)).trans hc
  rcases hI.below (hW.mono hn₀) with ⟨a, cap, rfl, rfl⟩ | ⟨b, cap, rfl, hb, hcs⟩
  · exact (back1_nil_in n l Bs cap a J W hc' h0).mono fun e W' ⟨he, hj⟩ => ⟨he, .inl ⟨_, rfl, hj⟩⟩
  · exact back1_in n hn l Bs n₀ b ps.length cap ps rfl hmax hb J Jx hY W hc' hBs hcs h0
end Go.Proofs.YtnldkpckojhbhaaGreat.Dk

/-
  Copy.
-/
namespace Go.Proofs.YtnldkpckojhbhaaGreat.Dk
open Go.RowKit

theorem Lies.shape {w : World} {g : Nat} {D : DS} {F : Nat → Prop} {gd cd : Nat} {vu : Value} {ps : List (Nat × Nat × Nat)} (h : Lies w g D F gd cd vu ps) : ∃ av cu, vu = .slice av D.uf.length cu := by
  have hrow := h.row
  rcases hrow.2 with ⟨h1, h2⟩ | ⟨gv, cu, cur, hv, _⟩
  · exact ⟨none, 0, by rw [h1, h2]⟩
  · exact ⟨some ⟨gv, 0, none⟩, cu, hv⟩

set_option maxRecDepth 100000 in
set_option maxHeartbeats 4000000 in
theorem copy_at {g : Nat} {w : World} {D : DS} {F : Nat → Prop} (hd : IsDisk w g D F) (hlim : D.uf.length ≤ 1000000) :
    Calls Tryz.prog 56 #[.pointer (some ⟨g, 0, none⟩)] w fun e w' => ∃ gc, e = .returned (.pointer (some ⟨gc, 0, none⟩)) ∧ NewDisk w w' gc D.copy := by
  obtain ⟨gd, cd, vu, ps, h⟩ := hd
  have c := isMade_at h
  obtain ⟨_, c1, c2, _⟩ := box_cells h.box
  obtain ⟨av, cu, rfl⟩ := h.shape
  obtain ⟨i0, hi, hz0, hz1, hz2⟩ := info_parts info79
  have hlo := h.ok.lo
  have hhi := h.ok.hi
  have H : Hid (Lies w g D F gd cd (.slice av D.uf.length cu) ps) := h
  obtain ⟨n, hn⟩ : ∃ n, n = D.uf.length := ⟨_, rfl⟩
  rw [← hn] at c2 hlim
  have Hn : Hid _ := hn
  have ck1 := clone_at cd (D.nb * 4096) ⟨gd, 0, none⟩ D.dur w h.ok.len (by omega) (by omega) h.dur.rd
  have hglt := h.box.lt
  clear h hn
  go_enter Tryz.func56, Tryz.ntmps56
  go_wp2_with fail
  refine c.mono ?_
  rintro e w' ⟨rfl, rfl⟩
  clear c
  go_wp2_with fail
  refine ck1.mono ?_
  rintro e w1 ⟨gd1, cd1, rfl, hgd1, r1, b1⟩
  clear ck1
  go_wp2_with fail
  refine (holding_at gd1 cd1 D.nb D.dur w1 r1 H.out.ok.len hlo hhi).mono ?_
  rintro e w2 ⟨rfl, hd2, b2⟩
  have B2 := b1.trans (b2.mono b1.size)
  have z1 := b1.size
  obtain ⟨gc, hgc⟩ : ∃ gc, gc = w1.heap.size := ⟨_, rfl⟩
  rw [← hgc] at hd2 ⊢
  have hF2 : ∀ i, (i = gc ∨ i = gd1) → w.heap.size ≤ i := fun i hi => by rcases hi with rfl | rfl; omega; exact hgd1
  have c2' := (B2.cell (p := ⟨g, 2, none⟩) hglt).trans c2
  clear b1 b2 r1 hgc c1 hgd1 z1
  go_wp2_with fail
  go_loopw [20] (fun i wr => ∃ k : Nat, k ≤ n ∧ i = .int .i64 k ∧ (∃ F2 : Nat → Prop, IsDisk wr gc { DS.new D.nb D.dur with uf := D.uf.take k } F2 ∧ ∀ i, F2 i → w.heap.size ≤ i) ∧ Below w.heap.size w wr) (fun i _ => n - (intOf i).toNat)
  case atStart => exact ⟨0, Nat.zero_le _, rfl, ⟨_, hd2, hF2⟩, B2⟩
  case round =>
    obtain ⟨k, hk, rfl, ⟨F2, hdk, hFk⟩, B⟩ := hrel
    clear hd2 hF2 B2 c2'
    by_cases hlt : k < n
    · have hk' : k < D.uf.length := by rw [← Hn.out]; exact hlt
      have hkp : k < ps.length := by rw [H.out.len]; exact hk'
      obtain ⟨gv, cu', cur, hvu, hcu, hmu, hbv, hcells⟩ := H.out.writes (by omega)
      simp only [Value.slice.injEq, true_and] at hvu
      obtain ⟨rfl, rfl⟩ := hvu
      rw [← Hn.out] at hcu
      obtain ⟨a0, a1⟩ := hcells k hk' hkp
      obtain ⟨_, hdat, _, _⟩ := H.out.each k hkp hk'
      obtain ⟨hb1, hb2⟩ := H.out.ok.at k hk'
      have htk : Hid (D.uf.take (k + 1) = D.uf.take k ++ [(D.uf[k].1, D.uf[k].2)]) := List.take_succ_eq_append_getElem hk'
      have Htl : Hid ((D.uf.take k).length = k) := by show _ = _; rw [List.length_take]; omega
      have Hb1 : Hid _ := hb1
      have Hb2 : Hid _ := hb2
      generalize (ps[k]'hkp).2.1 = gk at a1 hdat
      generalize (ps[k]'hkp).2.2 = ck at a1 hdat
      generalize (D.uf[k]'hk').2 = data at hdat Hb2 htk
      generalize (D.uf[k]'hk').1 = bn at a0 Hb1 htk
      have a0' := (B.cell (p := ⟨gv, 0 + k * 2, none⟩) hbv.lt).trans a0
      have a1' := (B.cell (p := ⟨gv, 0 + k * 2 + 1, none⟩) hbv.lt).trans a1
      simp only [Nat.zero_add] at a0' a1'
      have hdat1 := hdat.same (B.block gk hdat.lt)
      obtain ⟨gd2, cd2, vu2, ps2, hl⟩ := hdk
      obtain ⟨av2, cu2, rfl⟩ := hl.shape
      dsimp only at hl
      rw [Htl.out] at hl
      have bA := (Below.refl wr.heap.size wr).alloc (Nat.le_refl _) (.cells #[.int .i64 (bn : Int), .slice (some ⟨gk, 0, none⟩) 4096 ck] 136)
      have xb := Box.new wr #[.int .i64 (bn : Int), .slice (some ⟨gk, 0, none⟩) 4096 ck] 136
      have BA := B.alloc B.size (.cells #[.int .i64 (bn : Int), .slice (some ⟨gk, 0, none⟩) 4096 ck] 136)
      have hdat2 := hdat1.same (bA.block gk hdat1.lt)
      have hl1 := hl.below bA
      have hGF0 : ¬ F2 wr.heap.size := fun h => by have := hl.flt _ h; omega
      obtain ⟨V, hV⟩ : ∃ V, V = wr.alloc (.cells #[.int .i64 (bn : Int), .slice (some ⟨gk, 0, none⟩) 4096 ck] 136) := ⟨_, rfl⟩
      obtain ⟨G, hG⟩ : ∃ G, G = wr.heap.size := ⟨_, rfl⟩
      rw [← hV] at xb BA hdat2 hl1
      rw [← hG] at xb hGF0
      have hGF : ¬ F2 G := hGF0
      clear hGF0
      have HV : Hid _ := hV
      have HG : Hid _ := hG
      clear hV hG bA hl hdat hdat1 a0 a1 hcells hb1 hb2 B
      go_upto_region 7 with fail
      rw [← HV.out, ← HG.out]
      clear HV HG a0' a1'
      refine wp_region_any (by kernel_rfl) ?_
      change wpAny _ _ _ _ _ _ _ (World.drew _)
      refine wpAny_take (i := 0) (v := ?_) rfl (by kernel_rfl) (by kernel_rfl) (by kernel_rfl) (fun _ _ _ h => h) (Or.inl ⟨by rfl, ?_⟩) ?_
      rotate_left
      · intro w
        go_simp
        with_reducible rfl
      refine wpAny_take (i := 1) (v := ?_) rfl (by kernel_rfl) (by kernel_rfl) (by kernel_rfl) (fun _ _ _ h => h) (Or.inl ⟨by rfl, ?_⟩) ?_
      rotate_left
      · intro w
        go_simp
        with_reducible rfl
      refine wpAny_take (i := 2) (v := ?_) rfl (by kernel_rfl) (by kernel_rfl) (by kernel_rfl) (fun _ _ _ h => h) (Or.inl ⟨by rfl, ?_⟩) ?_
      rotate_left
      · intro w
        go_simp
        with_reducible rfl
      refine wpAny_take (i := 3) (v := ?_) rfl (by kernel_rfl) (by kernel_rfl) (by kernel_rfl) (fun _ _ _ h => h) (Or.inl ⟨by rfl, ?_⟩) ?_
      rotate_left
      · intro w
        go_simp
        with_reducible rfl
      refine wpAny_take (i := 5) (v := ?_) rfl (by kernel_rfl) (by kernel_rfl) (by kernel_rfl) (fun _ _ _ h => h) (Or.inl ⟨by rfl, ?_⟩) ?_
      rotate_left
      · intro w
        go_simp
        with_reducible rfl
      refine wpAny_take (i := 7) (v := ?_) rfl (by kernel_rfl) (by kernel_rfl) (by kernel_rfl) (fun _ _ _ h => h) (Or.inl ⟨by rfl, ?_⟩) ?_
      rotate_left
      · intro w
        go_simp
        with_reducible rfl
      simp only [Act.put, List.setIfInBounds_toArray, List.set_cons_zero, List.set_cons_succ, List.getElem_toArray, List.getElem_cons_zero, List.getElem_cons_succ]
      refine wpAny_of_late (C := SlotsCells [(27, .pointer (some ⟨gc, 2, none⟩)), (29, .pointer (some ⟨G, 0, none⟩)), (31, .pointer (some ⟨G, 1, none⟩))] [(⟨gc, 2, none⟩, .slice av2 k cu2), (⟨G, 0, none⟩, .int .i64 (bn : Int)), (⟨G, 1, none⟩, .slice (some ⟨gk, 0, none⟩) 4096 ck)]) (late := [13, 14, 15]) _ _ _ _ ?_
      have xd : Box V.drew G #[.int .i64 (bn : Int), .slice (some ⟨gk, 0, none⟩) 4096 ck] 136 := xb
      have Bd : Below w.heap.size w V.drew := BA.drew
      have ld : Lies V.drew gc { DS.new D.nb D.dur with uf := D.uf.take k } F2 gd2 cd2 (.slice av2 k cu2) ps2 := hl1.below (Below.refl _ _).drew
      have rd : RowB V.drew gk ck data := hdat2
      obtain ⟨W, hW⟩ : ∃ W, W = V.drew := ⟨_, rfl⟩
      rw [← hW] at xd Bd ld rd ⊢
      clear hW xb BA hl1 hdat2
      obtain ⟨_, _, k2, _⟩ := box_cells ld.box
      have y0 := xd.cell 0
      have y1 := xd.cell 1
      simp only [List.getElem?_toArray, List.getElem?_cons_zero, List.getElem?_cons_succ] at y0 y1
      refine wpAnyD_take (i := 4) (v := .slice av2 k cu2) rfl (by kernel_rfl) (by kernel_rfl) (by kernel_rfl) (by kernel_rfl) (fun _ _ _ h => h) ?_ (fun fr u h => (SlotsCells.put 28 _ (by rfl)).1 h) (fun fr u h => (SlotsCells.put 28 _ (by rfl)).2 h) ?_ ?_
      · intro fr u hh
        obtain ⟨e1, e2⟩ := hh.load (s := 27) (p := ⟨gc, 2, none⟩) (v := .slice av2 k cu2) (by simp) (by simp)
        exact ⟨rfl, by simp [execOp, e1, go_sem, e2]⟩
      · refine ⟨fun p hp => ?_, fun q hq => ?_⟩
        · simp at hp
          rcases hp with rfl | rfl | rfl <;> rfl
        · simp at hq
          rcases hq with rfl | rfl | rfl
          · exact k2
          · exact y0
          · exact y1
      simp only [Act.put, List.setIfInBounds_toArray, List.set_cons_zero, List.set_cons_succ, List.getElem_toArray, List.getElem_cons_zero, List.getElem_cons_succ]
      refine wpAnyD_take (i := 6) (v := .int .i64 (bn : Int)) rfl (by kernel_rfl) (by kernel_rfl) (by kernel_rfl) (by kernel_rfl) (fun _ _ _ h => h) ?_ (fun fr u h => (SlotsCells.put 30 _ (by rfl)).1 h) (fun fr u h => (SlotsCells.put 30 _ (by rfl)).2 h) ?_ ?_
      · intro fr u hh
        obtain ⟨e1, e2⟩ := hh.load (s := 29) (p := ⟨G, 0, none⟩) (v := .int .i64 (bn : Int)) (by simp) (by simp)
        exact ⟨rfl, by simp [execOp, e1, go_sem, e2]⟩
      · refine ⟨fun p hp => ?_, fun q hq => ?_⟩
        · simp at hp
          rcases hp with rfl | rfl | rfl <;> rfl
        · simp at hq
          rcases hq with rfl | rfl | rfl
          · exact k2
          · exact y0
          · exact y1
      simp only [Act.put, List.setIfInBounds_toArray, List.set_cons_zero, List.set_cons_succ, List.getElem_toArray, List.getElem_cons_zero, List.getElem_cons_succ]
      refine wpAnyD_take (i := 8) (v := .slice (some ⟨gk, 0, none⟩) 4096 ck) rfl (by kernel_rfl) (by kernel_rfl) (by kernel_rfl) (by kernel_rfl) (fun _ _ _ h => h) ?_ (fun fr u h => (SlotsCells.put 32 _ (by rfl)).1 h) (fun fr u h => (SlotsCells.put 32 _ (by rfl)).2 h) ?_ ?_
      · intro fr u hh
        obtain ⟨e1, e2⟩ := hh.load (s := 31) (p := ⟨G, 1, none⟩) (v := .slice (some ⟨gk, 0, none⟩) 4096 ck) (by simp) (by simp)
        exact ⟨rfl, by simp [execOp, e1, go_sem, e2]⟩
      · refine ⟨fun p hp => ?_, fun q hq => ?_⟩
        · simp at hp
          rcases hp with rfl | rfl | rfl <;> rfl
        · simp at hq
          rcases hq with rfl | rfl | rfl
          · exact k2
          · exact y0
          · exact y1
      simp only [Act.put, List.setIfInBounds_toArray, List.set_cons_zero, List.set_cons_succ, List.getElem_toArray, List.getElem_cons_zero, List.getElem_cons_succ]
      have hgW : gc < W.heap.size := ld.box.lt
      have hGW : G < W.heap.size := xd.lt
      refine wpAnyD_one (i := 9) (by kernel_rfl) rfl (fun K hK => ?_)
      go_simp
      refine (clone_at ck 4096 ⟨gk, 0, none⟩ data W Hb2.out (by omega) (by omega) rd.rd).mono ?_
      rintro e w3 ⟨gn, cn, rfl, hgn, rn, b3⟩
      have k2' := (b3.cell (p := ⟨gc, 2, none⟩) hgW).trans k2
      have y0' := (b3.cell (p := ⟨G, 0, none⟩) hGW).trans y0
      have y1' := (b3.cell (p := ⟨G, 1, none⟩) hGW).trans y1
      refine hK _ _ ⟨?_, ?_⟩
      · refine .inr ⟨fun p hp => ?_, fun q hq => ?_⟩
        · simp at hp
          rcases hp with rfl | rfl | rfl <;> rfl
        · simp at hq
          rcases hq with rfl | rfl | rfl
          · exact k2'
          · exact y0'
          · exact y1'
      clear hK K
      refine wpAnyD_one (i := 10) (by kernel_rfl) rfl (fun K hK => ?_)
      go_simp
      refine hK _ _ ⟨?_, ?_⟩
      · refine .inr ⟨fun p hp => ?_, fun q hq => ?_⟩
        · simp at hp
          rcases hp with rfl | rfl | rfl <;> rfl
        · simp at hq
          rcases hq with rfl | rfl | rfl
          · exact k2'
          · exact y0'
          · exact y1'
      clear hK K
      have bA := (Below.refl w3.heap.size w3).alloc (Nat.le_refl _) (.cells #[.int .i64 (bn : Int), .slice (some ⟨gn, 0, none⟩) 4096 cn] 136)
      have x4 := Box.new w3 #[.int .i64 (bn : Int), .slice (some ⟨gn, 0, none⟩) 4096 cn] 136
      have rn4 := rn.same (bA.block gn rn.lt)
      have B4 := b3.trans (bA.mono b3.size)
      have k2f := (B4.cell (p := ⟨gc, 2, none⟩) hgW).trans k2
      have y0f := (B4.cell (p := ⟨G, 0, none⟩) hGW).trans y0
      have y1f := (B4.cell (p := ⟨G, 1, none⟩) hGW).trans y1
      refine wpAnyD_one (i := 11) (by kernel_rfl) rfl (fun K hK => ?_)
      go_simp
      refine hK _ _ ⟨?_, ?_⟩
      · refine .inr ⟨fun p hp => ?_, fun q hq => ?_⟩
        · simp at hp
          rcases hp with rfl | rfl | rfl <;> rfl
        · simp at hq
          rcases hq with rfl | rfl | rfl
          · exact k2f
          · exact y0f
          · exact y1f
      clear hK K
      obtain ⟨V4, hV⟩ : ∃ V, V = w3.alloc (.cells #[.int .i64 (bn : Int), .slice (some ⟨gn, 0, none⟩) 4096 cn] 136) := ⟨_, rfl⟩
      obtain ⟨G4, hG⟩ : ∃ G, G = w3.heap.size := ⟨_, rfl⟩
      rw [← hV] at x4 rn4 B4 k2f y0f y1f ⊢
      have hG4W : W.heap.size ≤ G4 := by rw [hG]; exact b3.size
      rw [← hG] at x4 ⊢
      clear hV hG bA k2' y0' y1' rn b3
      have l4 := ld.below B4
      have row4 : V4.ownsRow 0 136 2 (.slice av2 k cu2) k (wcs ps2) := by
        have := l4.row
        dsimp only at this
        rw [Htl.out] at this
        exact this
      refine wpAnyD_one (i := 12) (by kernel_rfl) rfl (fun K hK => ?_)
      refine step_append_where rfl (.tmp 28) (.tmp 35) 128 rfl 136 i0 (.agg #[.int .i64 0, .slice none 0 0]) 2 32 Tryz.underlying128 hi hz0 hz1 hz2 rfl (by decide) (.slice av2 k cu2) k (wcs ps2) rfl row4 ⟨G4, 0, none⟩ 1 1 [.int .i64 (bn : Int), .slice (some ⟨gn, 0, none⟩) 4096 cn] rfl rfl ?_ ?_ (by unfold maxLen; omega) (by omega) ?_
      · intro j u hj
        match j, hj with
        | 0, hj => simp at hj; subst hj; rw [Addr.add_lit]; exact x4.cell 0
        | 1, hj => simp at hj; subst hj; rw [Addr.add_lit]; exact x4.cell 1
      · intro u hu
        simp at hu
        rcases hu with rfl | rfl <;> rfl
      intro v5 w5 o5 g5 hw5
      have hVs : W.heap.size ≤ V4.heap.size := B4.size
      obtain ⟨F5, hl5, hF5, hu5, hbx⟩ := ld.added B4 bn gn cn data rn4 hgn Hb1.out Hb2.out (by
        show World.ownsRow _ _ _ _ _ ((D.uf.take k).length + 1) _
        rw [wcs_snoc, Htl.out]
        exact o5) g5 (fun q hq => by rcases hw5 q hq with h | h; exact .inl h; exact .inr (by omega))
      obtain ⟨av5, cu5, rfl⟩ : ∃ av cu, v5 = .slice av (k + 1) cu := by
        rcases o5.2 with ⟨_, h2⟩ | ⟨gv, cu, cur, hv, _⟩
        · omega
        · exact ⟨some ⟨gv, 0, none⟩, cu, hv⟩
      obtain ⟨_, _, k5, _⟩ := box_cells hbx
      have hxG := xd.below B4
      have hGrow : some G ≠ (Value.slice av2 k cu2).ownBlock := by
        intro e
        rcases row4.2 with ⟨h1, _⟩ | ⟨gv', cu', cur', hv', _, hgv', _, _, hcs', htk'⟩
        · simp only [Value.slice.injEq] at h1
          rw [h1.1] at e
          simp [Value.ownBlock] at e
        · exact hGF (by rw [hv'] at e; simp [Value.ownBlock] at e; exact ld.fu G (by rw [hv']; simp [Value.ownBlock, e]))
      have y0g := (World.cell?_of_block (a := ⟨G, 0, none⟩) (g5.block G hxG.lt hGrow)).trans y0f
      have y1g := (World.cell?_of_block (a := ⟨G, 1, none⟩) (g5.block G hxG.lt hGrow)).trans y1f
      refine hK _ _ ⟨?_, ?_⟩
      · refine .inr ⟨fun p hp => ?_, fun q hq => ?_⟩
        · simp at hp
          rcases hp with rfl | rfl | rfl <;> rfl
        · simp at hq
          rcases hq with rfl | rfl | rfl
          · exact k5
          · exact y0g
          · exact y1g
      clear hK K
      simp only [Act.put, List.setIfInBounds_toArray]
      refine wpAnyD_one (i := 13) (by kernel_rfl) rfl (fun K hK => ?_)
      go_simp
      refine hK _ _ ⟨.inl rfl, ?_⟩
      clear hK K
      refine wpAnyD_one (i := 14) (by kernel_rfl) rfl (fun K hK => ?_)
      go_simp
      refine hK _ _ ⟨.inl rfl, ?_⟩
      clear hK K
      have f2 := hbx.frozen 2
      refine wpAnyD_one (i := 15) (by kernel_rfl) rfl (fun K hK => ?_)
      go_simp
      refine hK _ _ ⟨.inl rfl, ?_⟩
      clear hK K
      refine wpAnyD_done (by kernel_rfl) ?_ _
      have hsz : w.heap.size ≤ W.heap.size := Bd.size
      have B6 := Bd.trans (hu5.below (B := w.heap.size) hFk hsz)
      have hd6 : IsDisk (w5.setCell ⟨gc, 2, none⟩ (.slice av5 (k + 1) cu5)) gc { DS.new D.nb D.dur with uf := D.uf.take (k + 1) } F5 := by
        rw [htk.out]
        exact ⟨_, _, _, _, hl5⟩
      generalize w5.setCell ⟨gc, 2, none⟩ (.slice av5 (k + 1) cu5) = X at hd6 B6 ⊢
      clear hl5 hu5 hbx k5 y0g y1g hxG x4 rn4 B4 k2f y0f y1f l4 row4 o5 g5 hw5 f2 xd ld rd k2 y0 y1
      go_wp2
      go_roundw
      case rel => exact ⟨k + 1, by omega, by go_num, ⟨F5, hd6, fun i hi => by rcases hF5 i hi with h | h; exact hFk i h; omega⟩, B6⟩
      case measure => simp [intOf]; omega
    · obtain rfl : k = n := by omega
      have hall : D.uf.take k = D.uf := List.take_of_length_le (by rw [← Hn.out]; exact Nat.le_refl _)
      rw [hall] at hdk
      obtain ⟨gd2, cd2, vu2, ps2, hl⟩ := hdk
      obtain ⟨_, _, _, _, p4, p5, p6, p7, p8⟩ := box_cells (H.out.below B).box
      obtain ⟨_, _, _, _, q4, q5, q6, q7, q8⟩ := box_cells hl.box
      have f4 := hl.box.frozen 4
      have f5 := hl.box.frozen 5
      have f6 := hl.box.frozen 6
      have f7 := hl.box.frozen 7
      have f8 := hl.box.frozen 8
      have b9 := ((((hl.box.store 4 (.bool D.gone)).store 5 (.bool D.arm.set)).store 6 (.int .i64 (D.arm.left : Int))).store 7 (.bool D.fail.set)).store 8 (.int .i64 (D.fail.left : Int))
      have g9 := grown_trans (grown_trans (grown_trans (grown_trans (grown_store wr gc 4 (.bool D.gone)) (grown_store _ gc 5 (.bool D.arm.set))) (grown_store _ gc 6 (.int .i64 (D.arm.left : Int)))) (grown_store _ gc 7 (.bool D.fail.set))) (grown_store _ gc 8 (.int .i64 (D.fail.left : Int)))
      have hl9 := hl.turned (D' := D.copy) g9 b9 rfl rfl H.out.ok.copy
      have hgcw := hFk gc hl.fg
      have B9 : Below w.heap.size w _ := B.grown g9 B.size (fun q e => by cases e; exact hgcw)
      clear b9 g9 hl
      go_wp2
      go_ret
      exact ⟨gc, rfl, F2, ⟨_, _, _, _, hl9⟩, hFk, B9⟩
end Go.Proofs.YtnldkpckojhbhaaGreat.Dk

/-
  standing, Read.
-/
namespace Go.Proofs.YtnldkpckojhbhaaGreat.Dk
open Go.RowKit Go.Shelf
attribute [local go_sem] Oper.semAt_some

theorem Lies.wrs {w : World} {g : Nat} {D : DS} {F : Nat → Prop} {gd cd : Nat} {vu : Value} {ps : List (Nat × Nat × Nat)} (h : Lies w g D F gd cd vu ps) (n₀ : Nat) (hn : w.heap.size ≤ n₀) : Wrs n₀ w vu ps := by
  by_cases h0 : 0 < D.uf.length
  · obtain ⟨gv, cu, cur, rfl, _, _, hbv, hc⟩ := h.writes h0
    refine .inr ⟨gv, cu, by rw [h.len], Nat.lt_of_lt_of_le hbv.lt hn, fun j hj => ?_⟩
    have hj' : j < D.uf.length := by rw [← h.len]; exact hj
    obtain ⟨a, b⟩ := hc j hj' hj
    obtain ⟨e, _⟩ := h.each j hj hj'
    exact ⟨by rw [e]; exact a, b⟩
  · obtain ⟨av, cu, rfl⟩ := h.shape
    have e : D.uf.length = 0 := by omega
    exact .inl ⟨av, cu, by rw [e], List.eq_nil_of_length_eq_zero (by rw [h.len, e])⟩

/-- the last write of block nn, met from the end -/
theorem lastOf_met {D : DS} {ps : List (Nat × Nat × Nat)} (nn : Nat) (hl : ps.length = D.uf.length) (he : ∀ k (h : k < ps.length) (h' : k < D.uf.length), ps[k].1 = D.uf[k].1) (k : Nat) (hk : k ≤ ps.length) (hno : ∀ p ∈ downs ps k, p.2.1 ≠ nn) : lastOf D.uf nn D.uf.length = lastOf D.uf nn (D.uf.length - k) := by
  induction k with
  | zero => rfl
  | succ k ih =>
    have h1 := ih (by omega) (fun p hp => hno p (by rw [downs_succ]; exact List.mem_append_left _ hp))
    rw [h1]
    obtain ⟨m, hm⟩ : ∃ m, D.uf.length - k = m + 1 := ⟨D.uf.length - k - 1, by omega⟩
    have hm' : D.uf.length - (k + 1) = m := by omega
    have hlt : m < D.uf.length := by omega
    have hltp : m < ps.length := by omega
    rw [hm, hm', lastOf_succ D.uf nn m hlt]
    have h2 := hno (comes ps k) (by rw [downs_succ]; simp)
    have e1 : comes ps k = (m, ps[m]) := by
      unfold comes
      have : ps.length - 1 - k = m := by omega
      rw [this, List.getElem?_eq_getElem hltp]
      rfl
    rw [e1] at h2
    rw [if_neg (by rw [← he m hltp hlt]; exact h2)]

set_option maxRecDepth 100000 in
set_option maxHeartbeats 2000000 in
theorem standing_at {g : Nat} {w : World} {D : DS} {F : Nat → Prop} {gd cd : Nat} {vu : Value} {ps : List (Nat × Nat × Nat)} (h : Lies w g D F gd cd vu ps) (nn : Nat) (hn : nn < D.nb) (hlim : D.uf.length ≤ 1000000) :
    Calls Tryz.prog 99 #[.pointer (some ⟨g, 0, none⟩), .int .i64 (nn : Int)] w fun e w' => (∃ b o cap, e = .returned (.slice (some ⟨b, o, none⟩) 4096 cap) ∧ Rd w (some ⟨b, o, none⟩) (D.stand nn)) ∧ Below w.heap.size w w' := by
  refine (callsIn_wide (n := 3)).1 ?_
  obtain ⟨_, c1, c2, _⟩ := box_cells h.box
  have hglt := h.box.lt
  obtain ⟨av, cu, rfl⟩ := h.shape
  have B0 := ((Below.refl w.heap.size w).alloc (Nat.le_refl _) (.cells #[.int .i64 (nn : Int)] 3)).alloc (by simp) (.cells #[.slice none 0 0] 37)
  have k2 := (B0.cell (p := ⟨g, 2, none⟩) hglt).trans c2
  have hstand : Hid (D.stand nn = (lastOf D.uf nn D.uf.length).getD (blk D.dur nn)) := rfl
  have hmet : Hid _ := @lastOf_met D ps nn h.len (fun k h1 h2 => (h.each k h1 h2).1)
  have hdur : Hid (Rd w (some ⟨gd, 0 + nn * 4096, none⟩) (blk D.dur nn)) := h.dur.rd.part (nn * 4096) 4096
  have hcd : D.nb * 4096 ≤ cd ∧ cd ≤ 9223372036854775807 := by
    obtain ⟨_, _, q1, q2, _⟩ := h.dur
    rw [h.ok.len] at q1
    unfold maxLen at q2
    omega
  have hhi := h.ok.hi
  generalize D.stand nn = ST at hstand ⊢
  refine callsIn_of_wp_marks Tryz.func99 rfl trivial ?_ rfl
  simp only [Tryz.ntmps99, List.size_toArray, List.length_cons, List.length_nil, Nat.reduceAdd, Nat.reduceSub, Array.replicate_succ, Array.replicate_zero, List.push_toArray, List.append_toArray, List.nil_append, List.cons_append]
  gi_wp2_with fail
  refine ⟨trivial, ?_⟩
  refine (back_in 2 _ _ _ _).mono ?_
  rintro e w' ⟨rfl, rfl⟩
  gi_wp2_with fail
  have bN := (Box.new w #[.int .i64 (nn : Int)] 3)
  have bR := Box.new (w.alloc (.cells #[.int .i64 (nn : Int)] 3)) #[.slice none 0 0] 37
  have bS := Box.new ((w.alloc (.cells #[.int .i64 (nn : Int)] 3)).alloc (.cells #[.slice none 0 0] 37)) #[.slice av D.uf.length cu] 128
  have s1 : (w.alloc (.cells #[.int .i64 (nn : Int)] 3)).heap.size = w.heap.size + 1 := by simp
  have s2 : ((w.alloc (.cells #[.int .i64 (nn : Int)] 3)).alloc (.cells #[.slice none 0 0] 37)).heap.size = w.heap.size + 2 := by simp
  rw [s1] at bR
  rw [s2] at bS
  have B1 := B0.alloc B0.size (.cells #[.slice av D.uf.length cu] 128)
  have bN2 := (bN.alloc (.cells #[.slice none 0 0] 37)).alloc (.cells #[.slice av D.uf.length cu] 128)
  have bR2 := bR.alloc (.cells #[.slice av D.uf.length cu] 128)
  obtain ⟨W0, hW0⟩ : ∃ W, W = ((w.alloc (.cells #[.int .i64 (nn : Int)] 3)).alloc (.cells #[.slice none 0 0] 37)).alloc (.cells #[.slice av D.uf.length cu] 128) := ⟨_, rfl⟩
  have s3 : W0.heap.size = w.heap.size + 3 := by rw [hW0]; simp
  have hs3 : w.heap.size + 3 ≤ W0.heap.size := by omega
  rw [← hW0] at bN2 bR2 bS B1 ⊢
  clear bN bR s1 s2 B0 hW0 k2
  have hwr := (h.wrs (w.heap.size + 3) (by omega))
  have hwr0 : Wrs (w.heap.size + 3) W0 (.slice av D.uf.length cu) ps := by
    rcases h.wrs w.heap.size (Nat.le_refl _) with q | ⟨b, cap, hv, hlt, hc⟩
    · exact .inl q
    · exact .inr ⟨b, cap, hv, by omega, fun j hj => by
        obtain ⟨q0, q1⟩ := hc j hj
        exact ⟨(B1.cell (p := ⟨b, 0 + j * 2, none⟩) hlt).trans q0, (B1.cell (p := ⟨b, 0 + j * 2 + 1, none⟩) hlt).trans q1⟩⟩
  clear hwr
  refine wpIn_rangeFunc_ownH (α := Wr) rfl (by omega) (gf := 209) (lb := #[.pointer (some ⟨w.heap.size + 2, 0, none⟩)]) rfl trivial (enters_of Tryz.func209 (by kernel_rfl) rfl)
    (back_stops (3 - 1) (by omega) (w.heap.size + 2) (w.heap.size + 3) _ ps (by rw [h.len]; exact hlim) W0 (by omega) hs3 (bS.cell 0) hwr0) belowK_t (belowK_b (by omega)) (Below.refl _ _) (fun _ => rfl)
    (fun pre W => ((∀ p ∈ pre, p.2.1 ≠ nn) ∧ W.cell? ⟨w.heap.size, 0, none⟩ = some (.int .i64 (nn : Int)) ∧ W.cell? ⟨w.heap.size + 1, 0, none⟩ = some (.slice none 0 0) ∧ W.frozen? ⟨w.heap.size + 1, 0, none⟩ = false ∧ w.heap.size + 3 ≤ W.heap.size) ∧ Below w.heap.size w W)
    (fun c pre W => (c = .ret ∧ ∃ ini last, pre = ini ++ [last] ∧ (∀ p ∈ ini, p.2.1 ≠ nn) ∧ last.2.1 = nn ∧ W.cell? ⟨w.heap.size + 1, 0, none⟩ = some (.slice (some ⟨last.2.2.1, 0, none⟩) 4096 last.2.2.2)) ∧ Below w.heap.size w W)
    (OwnFrom.and (Own.from (fun s A B row hs hg hr => ⟨hs.1, cell_kept hs.2.1 hg hr, cell_kept hs.2.2.1 hg hr, (frozen_kept hs.2.2.1 hg hr).trans hs.2.2.2.1, Nat.le_trans hs.2.2.2.2 hg.size⟩) _) (ownFrom_below (Nat.le_refl _) (by omega)))
    (fun c => OwnFrom.and (Own.from (fun s A B row hs hg hr => by obtain ⟨hc, ini, last, e1, e2, e3, e4⟩ := hs; exact ⟨hc, ini, last, e1, e2, e3, cell_kept e4 hg hr⟩) _) (ownFrom_below (Nat.le_refl _) (by omega)))
    ⟨⟨by simp, bN2.cell 0, bR2.cell 0, bR2.frozen 0, hs3⟩, B1⟩
    (fun x a' W => ∃ Bx, W.cell? ⟨Bx, 0, none⟩ = some (.int .i64 (x.2.1 : Int)) ∧ W.cell? ⟨Bx, 1, none⟩ = some (.slice (some ⟨x.2.2.1, 0, none⟩) 4096 x.2.2.2) ∧ a' = { tmps := #[.pointer (some ⟨g, 0, none⟩), .int .i64 (nn : Int), undef, .pointer (some ⟨w.heap.size, 0, none⟩), .pointer (some ⟨w.heap.size + 1, 0, none⟩), undef, .pointer (some ⟨Bx, 0, none⟩), .pointer (some ⟨g, 0, none⟩), .pointer (some ⟨g, 0, none⟩), .pointer (some ⟨g, 2, none⟩), .slice av D.uf.length cu, .func (.func 209) #[] #[.pointer (some ⟨w.heap.size + 2, 0, none⟩)], .int .i64 (x.1 : Int), (.agg #[.int .i64 (x.2.1 : Int), .slice (some ⟨x.2.2.1, 0, none⟩) 4096 x.2.2.2]), undef, undef, undef, undef, undef, undef, undef, undef, undef, undef, undef, undef], defers := [] })
    (fun x a' => Own.from (fun s A B row hs hg hr => by obtain ⟨Bx, e1, e2, e3⟩ := hs; exact ⟨Bx, cell_kept e1 hg hr, cell_kept e2 hg hr, e3⟩) _) ?assign ?body ?done ?stop
  case assign =>
    rintro l pre x W K ⟨⟨hp, hcn, hcr, hfr, hsz⟩, hB⟩ hK
    dsimp only [encW]
    have bAl := (Below.refl W.heap.size W).alloc (Nat.le_refl _) (.cells #[.int .i64 (x.2.1 : Int), .slice (some ⟨x.2.2.1, 0, none⟩) 4096 x.2.2.2] 136)
    gi_wp2
    refine hK _ _ ((KeepsOthers.alloc _ _).from _) ((Below.refl _ W).alloc hsz _) ⟨⟨hp, (bAl.cell (p := ⟨w.heap.size, 0, none⟩) (by show w.heap.size < _; omega)).trans hcn, (bAl.cell (p := ⟨w.heap.size + 1, 0, none⟩) (by show w.heap.size + 1 < _; omega)).trans hcr, (bAl.frozen (p := ⟨w.heap.size + 1, 0, none⟩) (by show w.heap.size + 1 < _; omega)).trans hfr, by simp; omega⟩, hB.alloc hB.size _⟩ ⟨W.heap.size, ?_, ?_, rfl⟩
    · exact (Box.new W #[.int .i64 (x.2.1 : Int), .slice (some ⟨x.2.2.1, 0, none⟩) 4096 x.2.2.2] 136).cell 0
    · exact (Box.new W #[.int .i64 (x.2.1 : Int), .slice (some ⟨x.2.2.1, 0, none⟩) 4096 x.2.2.2] 136).cell 1
  case body =>
    rintro l pre x a' W hl ⟨r, hr⟩ ⟨⟨hp, hcn, hcr, hfr, hsz⟩, hB⟩ ⟨Bx, e1, e2, rfl⟩ hlt
    by_cases hx : x.2.1 = nn
    · have hx' : ((x.2.1 : Int) == (nn : Int)) = true := by rw [hx]; simp
      gi_wp2
      exact ⟨(KeepsOthers.setCell _ _ _).from _, ⟨rfl, pre, x, rfl, hp, hx, World.cell?_setCell_same' _ _ _ (by rw [hcr]; rfl)⟩, hB.setCell (p := ⟨w.heap.size + 1, 0, none⟩) (by simp) _⟩
    · have hx' : ((x.2.1 : Int) == (nn : Int)) = false := by simp; omega
      gi_wp2
      exact ⟨KeepsFrom.refl _ _, Below.refl _ _, ⟨fun p hp' => (List.mem_append.1 hp').elim (hp p) (fun e => by simp at e; subst e; exact hx), hcn, hcr, hfr, hsz⟩, hB⟩
  case done =>
    rintro D' ys W hD rfl ⟨⟨hne, hcn, hcr, hfr, hsz⟩, hB⟩ hK
    have hST : Hid (ST = blk D.dur nn) := by
      have h1 := hmet.out ps.length (Nat.le_refl _) hne
      rw [h.len, Nat.sub_self] at h1
      show _ = _
      rw [hstand.out, h1]
      rfl
    have d1 := (hB.cell (p := ⟨g, 1, none⟩) hglt).trans c1
    gi_wp2_with fail
    refine wpIn_wide.2 ?_
    refine wp_region_any (by kernel_rfl) ?_
    change wpAny _ _ _ _ _ _ _ (World.drew _)
    refine wpAny_of_class (C := fun _ _ => True) _ _ _ _ ?_
    have d1d : W.drew.cell? ⟨g, 1, none⟩ = some (.slice (some ⟨gd, 0, none⟩) (D.nb * 4096) cd) := d1
    have hcnd : W.drew.cell? ⟨w.heap.size, 0, none⟩ = some (.int .i64 (nn : Int)) := hcn
    have hcrd : W.drew.cell? ⟨w.heap.size + 1, 0, none⟩ = some (.slice none 0 0) := hcr
    have hfrd : W.drew.frozen? ⟨w.heap.size + 1, 0, none⟩ = false := hfr
    refine wpAnyC_two (i := 0) (j := 4) (by kernel_rfl) rfl rfl (fun K hK2 => ?_) (fun K hK2 => ?_)
    · skip
      go_simp
      refine hK2 _ _ ⟨trivial, ?_⟩
      clear hK2 K
      refine wpAnyC_two (i := 1) (j := 4) (by kernel_rfl) rfl rfl (fun K hK2 => ?_) (fun K hK2 => ?_)
      · skip
        go_simp
        refine hK2 _ _ ⟨trivial, ?_⟩
        clear hK2 K
        refine wpAnyC_two (i := 2) (j := 4) (by kernel_rfl) rfl rfl (fun K hK2 => ?_) (fun K hK2 => ?_)
        · skip
          go_simp
          refine hK2 _ _ ⟨trivial, ?_⟩
          clear hK2 K
          refine wpAnyC_two (i := 3) (j := 4) (by kernel_rfl) rfl rfl (fun K hK2 => ?_) (fun K hK2 => ?_)
          · skip
            go_simp
            refine hK2 _ _ ⟨trivial, ?_⟩
            clear hK2 K
            refine wpAnyC_one (i := 4) (by kernel_rfl) rfl (fun K hK2 => ?_)
            go_simp
            refine hK2 _ _ ⟨trivial, ?_⟩
            clear hK2 K
            refine wpAnyC_one (i := 5) (by kernel_rfl) rfl (fun K hK2 => ?_)
            go_simp
            refine (part_i gd 0 (D.nb * 4096) cd nn 4096 _ _ W.drew rfl rfl (by omega) (by omega) (by omega)).mono ?_
            rintro e w' ⟨rfl, rfl⟩
            refine hK2 _ _ ⟨trivial, ?_⟩
            clear hK2 K
            refine wpAnyC_one (i := 6) (by kernel_rfl) rfl (fun K hK2 => ?_)
            go_simp
            refine hK2 _ _ ⟨trivial, ?_⟩
            clear hK2 K
            refine wpAnyC_done (by kernel_rfl) ?_ _
            obtain ⟨V, hV⟩ : ∃ V, V = (W.setCell ⟨w.heap.size + 1, 0, none⟩ (.slice (some ⟨gd, nn * 4096, none⟩) 4096 4096)).drew := ⟨_, rfl⟩
            have hK' : V.heap[D']? = some (.deferred (some [])) := by rw [hV]; exact (KeepsOthers.setCell W ⟨w.heap.size + 1, 0, none⟩ (.slice (some ⟨gd, nn * 4096, none⟩) 4096 4096)).same D' _ hK rfl
            have hcV : V.cell? ⟨w.heap.size + 1, 0, none⟩ = some (.slice (some ⟨gd, nn * 4096, none⟩) 4096 4096) := by rw [hV]; exact World.cell?_setCell_same' W _ _ (by rw [hcr]; rfl)
            have hBV : Below w.heap.size w V := by rw [hV]; exact (hB.setCell (p := ⟨w.heap.size + 1, 0, none⟩) (by simp) _).drew
            rw [← hV]
            clear hV
            have hc5 := cell_kept hcV (grownBy_putObj' _ D' (.deferred none)) (fun r e => by cases e; exact ⟨_, hK', rfl⟩)
            gi_wp2
            refine ⟨by simp, .inl ⟨_, _, rfl, run_takeDeferred hK', ?_⟩⟩
            refine ⟨.slice (some ⟨gd, nn * 4096, none⟩) 4096 4096, ?_, ⟨gd, nn * 4096, 4096, rfl, by rw [hST.out]; have := hdur.out; rw [Nat.zero_add] at this; exact this⟩, hBV.trans (belowK_b (w := w) (Nat.le_refl _) _ D' _ _ (by omega) hK' rfl rfl)⟩
            simp [results, Tryz.f99, go_sem, hc5]
          · skip
            go_simp
            refine hK2 _ _ ⟨trivial, ?_⟩
            clear hK2 K
            refine wpAnyC_one (i := 3) (by kernel_rfl) rfl (fun K hK2 => ?_)
            go_simp
            refine hK2 _ _ ⟨trivial, ?_⟩
            clear hK2 K
            refine wpAnyC_one (i := 5) (by kernel_rfl) rfl (fun K hK2 => ?_)
            go_simp
            refine (part_i gd 0 (D.nb * 4096) cd nn 4096 _ _ W.drew rfl rfl (by omega) (by omega) (by omega)).mono ?_
            rintro e w' ⟨rfl, rfl⟩
            refine hK2 _ _ ⟨trivial, ?_⟩
            clear hK2 K
            refine wpAnyC_one (i := 6) (by kernel_rfl) rfl (fun K hK2 => ?_)
            go_simp
            refine hK2 _ _ ⟨trivial, ?_⟩
            clear hK2 K
            refine wpAnyC_done (by kernel_rfl) ?_ _
            obtain ⟨V, hV⟩ : ∃ V, V = (W.setCell ⟨w.heap.size + 1, 0, none⟩ (.slice (some ⟨gd, nn * 4096, none⟩) 4096 4096)).drew := ⟨_, rfl⟩
            have hK' : V.heap[D']? = some (.deferred (some [])) := by rw [hV]; exact (KeepsOthers.setCell W ⟨w.heap.size + 1, 0, none⟩ (.slice (some ⟨gd, nn * 4096, none⟩) 4096 4096)).same D' _ hK rfl
            have hcV : V.cell? ⟨w.heap.size + 1, 0, none⟩ = some (.slice (some ⟨gd, nn * 4096, none⟩) 4096 4096) := by rw [hV]; exact World.cell?_setCell_same' W _ _ (by rw [hcr]; rfl)
            have hBV : Below w.heap.size w V := by rw [hV]; exact (hB.setCell (p := ⟨w.heap.size + 1, 0, none⟩) (by simp) _).drew
            rw [← hV]
            clear hV
            have hc5 := cell_kept hcV (grownBy_putObj' _ D' (.deferred none)) (fun r e => by cases e; exact ⟨_, hK', rfl⟩)
            gi_wp2
            refine ⟨by simp, .inl ⟨_, _, rfl, run_takeDeferred hK', ?_⟩⟩
            refine ⟨.slice (some ⟨gd, nn * 4096, none⟩) 4096 4096, ?_, ⟨gd, nn * 4096, 4096, rfl, by rw [hST.out]; have := hdur.out; rw [Nat.zero_add] at this; exact this⟩, hBV.trans (belowK_b (w := w) (Nat.le_refl _) _ D' _ _ (by omega) hK' rfl rfl)⟩
            simp [results, Tryz.f99, go_sem, hc5]
        · skip
          go_simp
          refine hK2 _ _ ⟨trivial, ?_⟩
          clear hK2 K
          refine wpAnyC_one (i := 2) (by kernel_rfl) rfl (fun K hK2 => ?_)
          go_simp
          refine hK2 _ _ ⟨trivial, ?_⟩
          clear hK2 K
          refine wpAnyC_one (i := 3) (by kernel_rfl) rfl (fun K hK2 => ?_)
          go_simp
          refine hK2 _ _ ⟨trivial, ?_⟩
          clear hK2 K
          refine wpAnyC_one (i := 5) (by kernel_rfl) rfl (fun K hK2 => ?_)
          go_simp
          refine (part_i gd 0 (D.nb * 4096) cd nn 4096 _ _ W.drew rfl rfl (by omega) (by omega) (by omega)).mono ?_
          rintro e w' ⟨rfl, rfl⟩
          refine hK2 _ _ ⟨trivial, ?_⟩
          clear hK2 K
          refine wpAnyC_one (i := 6) (by kernel_rfl) rfl (fun K hK2 => ?_)
          go_simp
          refine hK2 _ _ ⟨trivial, ?_⟩
          clear hK2 K
          refine wpAnyC_done (by kernel_rfl) ?_ _
          obtain ⟨V, hV⟩ : ∃ V, V = (W.setCell ⟨w.heap.size + 1, 0, none⟩ (.slice (some ⟨gd, nn * 4096, none⟩) 4096 4096)).drew := ⟨_, rfl⟩
          have hK' : V.heap[D']? = some (.deferred (some [])) := by rw [hV]; exact (KeepsOthers.setCell W ⟨w.heap.size + 1, 0, none⟩ (.slice (some ⟨gd, nn * 4096, none⟩) 4096 4096)).same D' _ hK rfl
          have hcV : V.cell? ⟨w.heap.size + 1, 0, none⟩ = some (.slice (some ⟨gd, nn * 4096, none⟩) 4096 4096) := by rw [hV]; exact World.cell?_setCell_same' W _ _ (by rw [hcr]; rfl)
          have hBV : Below w.heap.size w V := by rw [hV]; exact (hB.setCell (p := ⟨w.heap.size + 1, 0, none⟩) (by simp) _).drew
          rw [← hV]
          clear hV
          have hc5 := cell_kept hcV (grownBy_putObj' _ D' (.deferred none)) (fun r e => by cases e; exact ⟨_, hK', rfl⟩)
          gi_wp2
          refine ⟨by simp, .inl ⟨_, _, rfl, run_takeDeferred hK', ?_⟩⟩
          refine ⟨.slice (some ⟨gd, nn * 4096, none⟩) 4096 4096, ?_, ⟨gd, nn * 4096, 4096, rfl, by rw [hST.out]; have := hdur.out; rw [Nat.zero_add] at this; exact this⟩, hBV.trans (belowK_b (w := w) (Nat.le_refl _) _ D' _ _ (by omega) hK' rfl rfl)⟩
          simp [results, Tryz.f99, go_sem, hc5]
      · skip
        go_simp
        refine hK2 _ _ ⟨trivial, ?_⟩
        clear hK2 K
        refine wpAnyC_one (i := 1) (by kernel_rfl) rfl (fun K hK2 => ?_)
        go_simp
        refine hK2 _ _ ⟨trivial, ?_⟩
        clear hK2 K
        refine wpAnyC_one (i := 2) (by kernel_rfl) rfl (fun K hK2 => ?_)
        go_simp
        refine hK2 _ _ ⟨trivial, ?_⟩
        clear hK2 K
        refine wpAnyC_one (i := 3) (by kernel_rfl) rfl (fun K hK2 => ?_)
        go_simp
        refine hK2 _ _ ⟨trivial, ?_⟩
        clear hK2 K
        refine wpAnyC_one (i := 5) (by kernel_rfl) rfl (fun K hK2 => ?_)
        go_simp
        refine (part_i gd 0 (D.nb * 4096) cd nn 4096 _ _ W.drew rfl rfl (by omega) (by omega) (by omega)).mono ?_
        rintro e w' ⟨rfl, rfl⟩
        refine hK2 _ _ ⟨trivial, ?_⟩
        clear hK2 K
        refine wpAnyC_one (i := 6) (by kernel_rfl) rfl (fun K hK2 => ?_)
        go_simp
        refine hK2 _ _ ⟨trivial, ?_⟩
        clear hK2 K
        refine wpAnyC_done (by kernel_rfl) ?_ _
        obtain ⟨V, hV⟩ : ∃ V, V = (W.setCell ⟨w.heap.size + 1, 0, none⟩ (.slice (some ⟨gd, nn * 4096, none⟩) 4096 4096)).drew := ⟨_, rfl⟩
        have hK' : V.heap[D']? = some (.deferred (some [])) := by rw [hV]; exact (KeepsOthers.setCell W ⟨w.heap.size + 1, 0, none⟩ (.slice (some ⟨gd, nn * 4096, none⟩) 4096 4096)).same D' _ hK rfl
        have hcV : V.cell? ⟨w.heap.size + 1, 0, none⟩ = some (.slice (some ⟨gd, nn * 4096, none⟩) 4096 4096) := by rw [hV]; exact World.cell?_setCell_same' W _ _ (by rw [hcr]; rfl)
        have hBV : Below w.heap.size w V := by rw [hV]; exact (hB.setCell (p := ⟨w.heap.size + 1, 0, none⟩) (by simp) _).drew
        rw [← hV]
        clear hV
        have hc5 := cell_kept hcV (grownBy_putObj' _ D' (.deferred none)) (fun r e => by cases e; exact ⟨_, hK', rfl⟩)
        gi_wp2
        refine ⟨by simp, .inl ⟨_, _, rfl, run_takeDeferred hK', ?_⟩⟩
        refine ⟨.slice (some ⟨gd, nn * 4096, none⟩) 4096 4096, ?_, ⟨gd, nn * 4096, 4096, rfl, by rw [hST.out]; have := hdur.out; rw [Nat.zero_add] at this; exact this⟩, hBV.trans (belowK_b (w := w) (Nat.le_refl _) _ D' _ _ (by omega) hK' rfl rfl)⟩
        simp [results, Tryz.f99, go_sem, hc5]
    · skip
      go_simp
      refine hK2 _ _ ⟨trivial, ?_⟩
      clear hK2 K
      refine wpAnyC_one (i := 0) (by kernel_rfl) rfl (fun K hK2 => ?_)
      go_simp
      refine hK2 _ _ ⟨trivial, ?_⟩
      clear hK2 K
      refine wpAnyC_one (i := 1) (by kernel_rfl) rfl (fun K hK2 => ?_)
      go_simp
      refine hK2 _ _ ⟨trivial, ?_⟩
      clear hK2 K
      refine wpAnyC_one (i := 2) (by kernel_rfl) rfl (fun K hK2 => ?_)
      go_simp
      refine hK2 _ _ ⟨trivial, ?_⟩
      clear hK2 K
      refine wpAnyC_one (i := 3) (by kernel_rfl) rfl (fun K hK2 => ?_)
      go_simp
      refine hK2 _ _ ⟨trivial, ?_⟩
      clear hK2 K
      refine wpAnyC_one (i := 5) (by kernel_rfl) rfl (fun K hK2 => ?_)
      go_simp
      refine (part_i gd 0 (D.nb * 4096) cd nn 4096 _ _ W.drew rfl rfl (by omega) (by omega) (by omega)).mono ?_
      rintro e w' ⟨rfl, rfl⟩
      refine hK2 _ _ ⟨trivial, ?_⟩
      clear hK2 K
      refine wpAnyC_one (i := 6) (by kernel_rfl) rfl (fun K hK2 => ?_)
      go_simp
      refine hK2 _ _ ⟨trivial, ?_⟩
      clear hK2 K
      refine wpAnyC_done (by kernel_rfl) ?_ _
      obtain ⟨V, hV⟩ : ∃ V, V = (W.setCell ⟨w.heap.size + 1, 0, none⟩ (.slice (some ⟨gd, nn * 4096, none⟩) 4096 4096)).drew := ⟨_, rfl⟩
      have hK' : V.heap[D']? = some (.deferred (some [])) := by rw [hV]; exact (KeepsOthers.setCell W ⟨w.heap.size + 1, 0, none⟩ (.slice (some ⟨gd, nn * 4096, none⟩) 4096 4096)).same D' _ hK rfl
      have hcV : V.cell? ⟨w.heap.size + 1, 0, none⟩ = some (.slice (some ⟨gd, nn * 4096, none⟩) 4096 4096) := by rw [hV]; exact World.cell?_setCell_same' W _ _ (by rw [hcr]; rfl)
      have hBV : Below w.heap.size w V := by rw [hV]; exact (hB.setCell (p := ⟨w.heap.size + 1, 0, none⟩) (by simp) _).drew
      rw [← hV]
      clear hV
      have hc5 := cell_kept hcV (grownBy_putObj' _ D' (.deferred none)) (fun r e => by cases e; exact ⟨_, hK', rfl⟩)
      gi_wp2
      refine ⟨by simp, .inl ⟨_, _, rfl, run_takeDeferred hK', ?_⟩⟩
      refine ⟨.slice (some ⟨gd, nn * 4096, none⟩) 4096 4096, ?_, ⟨gd, nn * 4096, 4096, rfl, by rw [hST.out]; have := hdur.out; rw [Nat.zero_add] at this; exact this⟩, hBV.trans (belowK_b (w := w) (Nat.le_refl _) _ D' _ _ (by omega) hK' rfl rfl)⟩
      simp [results, Tryz.f99, go_sem, hc5]
  case stop =>
    rintro D' c pre W hD ⟨k, hk, rfl⟩ ⟨⟨rfl, ini, last, e1, e2, e3, hcr⟩, hB⟩ hK
    gi_wp2
    refine ⟨by simp, .inl ⟨_, _, rfl, run_takeDeferred hK, ?_⟩⟩
    have hc5 := cell_kept hcr (grownBy_putObj' _ D' (.deferred none)) (fun r e => by cases e; exact ⟨_, hK, rfl⟩)
    obtain ⟨k', rfl⟩ : ∃ k', k = k' + 1 := by
      cases k with
      | zero => simp [downs] at e1
      | succ k' => exact ⟨k', rfl⟩
    rw [downs_succ] at e1
    obtain ⟨rfl, e5⟩ := List.append_inj' e1 rfl
    obtain rfl : comes ps k' = last := by simpa using e5
    obtain ⟨m, hm⟩ : ∃ m, m = ps.length - 1 - k' := ⟨_, rfl⟩
    have hmp : m < ps.length := by omega
    have hmu : m < D.uf.length := by rw [← h.len]; exact hmp
    have hcm : comes ps k' = (m, ps[m]) := by
      unfold comes
      rw [← hm, List.getElem?_eq_getElem hmp]
      rfl
    obtain ⟨q1, q2, _⟩ := h.each m hmp hmu
    have hST : ST = D.uf[m].2 := by
      have h1 := hmet.out k' (by omega) e2
      have h2 : D.uf.length - k' = m + 1 := by rw [← h.len]; omega
      rw [h2, lastOf_succ D.uf nn m hmu, if_pos (by rw [← q1]; rw [hcm] at e3; exact e3)] at h1
      rw [hstand.out, h1]
      rfl
    rw [hcm] at hc5
    refine ⟨.slice (some ⟨ps[m].2.1, 0, none⟩) 4096 ps[m].2.2, ?_, ⟨ps[m].2.1, 0, ps[m].2.2, rfl, by rw [hST]; exact q2.rd⟩, hB.trans (belowK_b (w := w) (Nat.le_refl _) W D' _ _ (by omega) hK rfl rfl)⟩
    simp [results, Tryz.f99, go_sem, hc5]

theorem stand_length {D : DS} (h : D.Ok) (nn : Nat) (hn : nn < D.nb) : (D.stand nn).length = 4096 := by
  have key : ∀ k, k ≤ D.uf.length → ∀ x, lastOf D.uf nn k = some x → x.length = 4096 := by
    intro k
    induction k with
    | zero => intro _ x hx; simp [lastOf] at hx
    | succ k ih =>
      intro hk x hx
      rw [lastOf_succ D.uf nn k (by omega)] at hx
      split at hx
      · have := (h.at k (by omega)).2
        simp at hx
        rw [← hx]; exact this
      · exact ih (by omega) x hx
  unfold DS.stand
  cases e : lastOf D.uf nn D.uf.length with
  | none => exact blk_length _ _ (h.room hn)
  | some x => exact key _ (Nat.le_refl _) x e

/-- Read -/
theorem read_at {g : Nat} {w : World} {D : DS} {F : Nat → Prop} (hd : IsDisk w g D F) (nn : Nat) (hn : nn < D.nb) (hg : D.gone = false) (hlim : D.uf.length ≤ 1000000) :
    Calls Tryz.prog 28 #[.pointer (some ⟨g, 0, none⟩), .int .i64 (nn : Int)] w fun e w' => ∃ gr cr, e = .returned (.tuple #[.slice (some ⟨gr, 0, none⟩) 4096 cr, .int .i64 0]) ∧ w.heap.size ≤ gr ∧ RowB w' gr cr (D.stand nn) ∧ Below w.heap.size w w' := by
  obtain ⟨gd, cd, vu, ps, h⟩ := hd
  have c := isMade_at h
  have cH := has_at h (nn : Int)
  have hhas : D.has (nn : Int) = true := by simp [DS.has]; omega
  rw [hhas] at cH
  have cS := standing_at h nn hn hlim
  obtain ⟨_, _, _, _, c4, _⟩ := box_cells h.box
  rw [hg] at c4
  have Hlen : Hid _ := stand_length h.ok nn hn
  generalize D.stand nn = ST at cS Hlen ⊢
  go_enter Tryz.func28, Tryz.ntmps28
  go_wp2_with fail
  refine c.mono ?_
  rintro e w' ⟨rfl, rfl⟩
  go_wp2_with fail
  refine cH.mono ?_
  rintro e w' ⟨rfl, rfl⟩
  go_wp2_with fail
  refine cS.mono ?_
  rintro e w1 ⟨⟨b, o, cap, rfl, hr⟩, b1⟩
  clear c cH cS
  go_wp2_with fail
  refine (clone_at cap 4096 ⟨b, o, none⟩ ST w1 Hlen.out (by omega) (by omega) (hr.below b1 (Nat.le_refl _))).mono ?_
  rintro e w2 ⟨gr, cr, rfl, hgr, r2, b2⟩
  have B2 := b1.trans (b2.mono b1.size)
  have z1 := b1.size
  clear b1 b2
  go_wp2
  go_ret2
  exact ⟨gr, cr, rfl, by omega, r2, B2⟩

theorem read_bad {g : Nat} {w : World} {D : DS} {F : Nat → Prop} (hd : IsDisk w g D F) (n : Int) (hE : D.readE n ≠ 0) :
    Calls Tryz.prog 28 #[.pointer (some ⟨g, 0, none⟩), .int .i64 n] w fun e w' => e = .returned (.tuple #[.slice none 0 0, .int .i64 (D.readE n : Int)]) ∧ w = w' := by
  obtain ⟨gd, cd, vu, ps, h⟩ := hd
  have c := isMade_at h
  have cH := has_at h n
  obtain ⟨_, _, _, _, c4, _⟩ := box_cells h.box
  cases hh : D.has n with
  | false =>
    have e : D.readE n = 70 := by simp [DS.readE, hh]
    rw [e]
    rw [hh] at cH
    go_enter Tryz.func28, Tryz.ntmps28
    go_wp2_with fail
    refine c.mono ?_
    rintro e w' ⟨rfl, rfl⟩
    go_wp2_with fail
    refine cH.mono ?_
    rintro e w' ⟨rfl, rfl⟩
    go_wp2
    go_ret2
    exact ⟨rfl, rfl⟩
  | true =>
    cases hg : D.gone with
    | false => exact absurd (by simp [DS.readE, hh, hg]) hE
    | true =>
      have e : D.readE n = 6 := by simp [DS.readE, hh, hg]
      rw [e]
      rw [hh] at cH
      rw [hg] at c4
      go_enter Tryz.func28, Tryz.ntmps28
      go_wp2_with fail
      refine c.mono ?_
      rintro e w' ⟨rfl, rfl⟩
      go_wp2_with fail
      refine cH.mono ?_
      rintro e w' ⟨rfl, rfl⟩
      go_wp2
      go_ret2
      exact ⟨rfl, rfl⟩
end Go.Proofs.YtnldkpckojhbhaaGreat.Dk

/-
  The reader of a ring: where it stands, and the block there.
-/
namespace Go.Proofs.YtnldkpckojhbhaaGreat.S
open Go.RowKit
open Go.Proofs.YtnldkpckojhbhaaGreat.Dk (Box)

/-- a reader of a disk of 64 blocks -/
def rC (dg : Nat) (B E S t : Int) : Array Value := #[.pointer (some ⟨dg, 0, none⟩), .int .i64 64, .int .i64 2, .int .i64 16, .int .i64 18, .int .i64 19, .int .i64 4, .int .i64 23, .int .i64 B, .int .i64 E, .int .i64 S, .int .i64 t]
theorem r_cells {w : World} {g dg : Nat} {B E S t : Int} (h : Box w g (rC dg B E S t) 261) :
    w.cell? ⟨g, 0, none⟩ = some (.pointer (some ⟨dg, 0, none⟩)) ∧ w.cell? ⟨g, 1, none⟩ = some (.int .i64 64) ∧ w.cell? ⟨g, 2, none⟩ = some (.int .i64 2) ∧ w.cell? ⟨g, 3, none⟩ = some (.int .i64 16) ∧ w.cell? ⟨g, 4, none⟩ = some (.int .i64 18) ∧ w.cell? ⟨g, 5, none⟩ = some (.int .i64 19) ∧ w.cell? ⟨g, 6, none⟩ = some (.int .i64 4) ∧ w.cell? ⟨g, 7, none⟩ = some (.int .i64 23) ∧ w.cell? ⟨g, 8, none⟩ = some (.int .i64 B) ∧ w.cell? ⟨g, 9, none⟩ = some (.int .i64 E) ∧ w.cell? ⟨g, 10, none⟩ = some (.int .i64 S) ∧ w.cell? ⟨g, 11, none⟩ = some (.int .i64 t) :=
  ⟨h.cell 0, h.cell 1, h.cell 2, h.cell 3, h.cell 4, h.cell 5, h.cell 6, h.cell 7, h.cell 8, h.cell 9, h.cell 10, h.cell 11⟩

theorem within_at (n a b : Int) (w : World) :
    Calls Tryz.prog 270 #[.int .i64 n, .int .i64 a, .int .i64 b] w fun r w' => r = .returned (.bool (decide (a ≤ n ∧ n ≤ b))) ∧ w = w' := by
  by_cases h1 : a ≤ n
  · by_cases h2 : n ≤ b
    · rw [decide_eq_true ⟨h1, h2⟩]
      go_enter Tryz.func270, Tryz.ntmps270
      go_wp2
      go_ret
      exact ⟨rfl, rfl⟩
    · rw [decide_eq_false (fun h => h2 h.2)]
      go_enter Tryz.func270, Tryz.ntmps270
      go_wp2
      go_ret
      exact ⟨rfl, rfl⟩
  · rw [decide_eq_false (fun h => h1 h.1)]
    go_enter Tryz.func270, Tryz.ntmps270
    go_wp2
    go_ret
    exact ⟨rfl, rfl⟩

theorem place_at (dg t b : Nat) (B E S : Int) (w : World) (ht : t < 16) (hb : b ≤ 1000) :
    Calls Tryz.prog 207 #[.agg (rC dg B E S (t : Int)), .int .i64 (b : Int)] w fun r w' => r = .returned (.int .i64 (((t + b) % 16 : Nat) : Int)) ∧ Below w.heap.size w w' := by
  have B0 := (Below.refl w.heap.size w).alloc (Nat.le_refl _) (.cells (rC dg B E S (t : Int)) 261)
  have e : (((t + b) % 16 : Nat) : Int) = ((t : Int) + (b : Int)) % 16 := by push_cast; rfl
  rw [e]
  clear e
  unfold rC at B0 ⊢
  go_enter Tryz.func207, Tryz.ntmps207
  go_wp2_with fail
  go_ret
  exact ⟨rfl, B0⟩

/-- what a block's reading needs -/
@[reducible] def R12 (w : World) (dg : Nat) (B E S t : Int) (u : World) : Prop :=
  u.cell? ⟨w.heap.size, 0, none⟩ = some (.pointer (some ⟨dg, 0, none⟩)) ∧ u.cell? ⟨w.heap.size, 1, none⟩ = some (.int .i64 64) ∧ u.cell? ⟨w.heap.size, 2, none⟩ = some (.int .i64 2) ∧ u.cell? ⟨w.heap.size, 3, none⟩ = some (.int .i64 16) ∧ u.cell? ⟨w.heap.size, 4, none⟩ = some (.int .i64 18) ∧ u.cell? ⟨w.heap.size, 5, none⟩ = some (.int .i64 19) ∧ u.cell? ⟨w.heap.size, 6, none⟩ = some (.int .i64 4) ∧ u.cell? ⟨w.heap.size, 7, none⟩ = some (.int .i64 23) ∧ u.cell? ⟨w.heap.size, 8, none⟩ = some (.int .i64 B) ∧ u.cell? ⟨w.heap.size, 9, none⟩ = some (.int .i64 E) ∧ u.cell? ⟨w.heap.size, 10, none⟩ = some (.int .i64 S) ∧ u.cell? ⟨w.heap.size, 11, none⟩ = some (.int .i64 t)

set_option maxHeartbeats 4000000 in
theorem block_at {w : World} {dg : Nat} {D : Dk.DS} {F : Nat → Prop} (hd : Dk.IsDisk w dg D F) (hnb : D.nb = 64) (hg : D.gone = false) (hlim : D.uf.length ≤ 1000000) (B E S : Int) (t b : Nat) (ht : t < 16) (hb : b ≤ 1000) :
    Calls Tryz.prog 271 #[.agg (rC dg B E S (t : Int)), .int .i64 (b : Int)] w fun r w' => ∃ gr cr, r = .returned (.tuple #[.slice (some ⟨gr, 0, none⟩) 4096 cr, .int .i64 0]) ∧ w.heap.size ≤ gr ∧ Rc.RowB w' gr cr (D.stand (2 + (t + b) % 16)) ∧ Below w.heap.size w w' := by
  have al := (Below.refl w.heap.size w).alloc (Nat.le_refl _) (.cells (rC dg B E S (t : Int)) 261)
  have x0 := Dk.Box.new w (rC dg B E S (t : Int)) 261
  have hm : (t + b) % 16 < 16 := Nat.mod_lt _ (by decide)
  have HS : Hid (∀ u, Below (w.alloc (.cells (rC dg B E S (t : Int)) 261)).heap.size (w.alloc (.cells (rC dg B E S (t : Int)) 261)) u → R12 w dg B E S (t : Int) u) := fun u bu => r_cells (x0.below bu)
  have HR : Hid (∀ u, Below w.heap.size w u → Calls Tryz.prog 28 #[.pointer (some ⟨dg, 0, none⟩), .int .i64 (2 + (((t + b) % 16 : Nat) : Int))] u fun e w' => ∃ gr cr, e = .returned (.tuple #[.slice (some ⟨gr, 0, none⟩) 4096 cr, .int .i64 0]) ∧ u.heap.size ≤ gr ∧ Dk.RowB w' gr cr (D.stand (2 + (t + b) % 16)) ∧ Below u.heap.size u w') := fun u bu => by
    have hd' : Dk.IsDisk u dg D F := by
      obtain ⟨gd, cd, vu, ps, hl⟩ := hd
      exact ⟨gd, cd, vu, ps, hl.kept (fun i hi => bu.block i (hl.flt i hi)) bu.size⟩
    have c := Dk.read_at hd' (2 + (t + b) % 16) (by omega) hg hlim
    have e : ((2 + (t + b) % 16 : Nat) : Int) = 2 + (((t + b) % 16 : Nat) : Int) := by omega
    rw [e] at c
    exact c
  have HP : Hid (∀ u, Calls Tryz.prog 207 #[.agg (rC dg B E S (t : Int)), .int .i64 (b : Int)] u fun r w' => r = .returned (.int .i64 (((t + b) % 16 : Nat) : Int)) ∧ Below u.heap.size u w') := fun u => place_at dg t b B E S u ht hb
  generalize D.stand (2 + (t + b) % 16) = X at HR ⊢
  generalize (t + b) % 16 = p at HR HP hm
  have hwp : IntKind.i64.wrap (2 + (p : Int)) = 2 + (p : Int) := by rw [IntKind.wrap_i64]; omega
  have HAL : Hid (Below w.heap.size w (w.alloc (.cells (rC dg B E S (t : Int)) 261))) := al
  clear hd x0 al
  unfold rC at HS HP HAL ⊢
  go_enter Tryz.func271, Tryz.ntmps271
  go_wp2_with fail
  generalize hW : w.alloc (.cells #[.pointer (some ⟨dg, 0, none⟩), .int .i64 64, .int .i64 2, .int .i64 16, .int .i64 18, .int .i64 19, .int .i64 4, .int .i64 23, .int .i64 B, .int .i64 E, .int .i64 S, .int .i64 (t : Int)] 261) = W at HS HAL ⊢
  clear hW
  go_region_held3 (fun u => u.cell? ⟨w.heap.size, 0, none⟩ = some (.pointer (some ⟨dg, 0, none⟩)) ∧ u.cell? ⟨w.heap.size, 1, none⟩ = some (.int .i64 64) ∧ u.cell? ⟨w.heap.size, 2, none⟩ = some (.int .i64 2) ∧ u.cell? ⟨w.heap.size, 3, none⟩ = some (.int .i64 16) ∧ u.cell? ⟨w.heap.size, 4, none⟩ = some (.int .i64 18) ∧ u.cell? ⟨w.heap.size, 5, none⟩ = some (.int .i64 19) ∧ u.cell? ⟨w.heap.size, 6, none⟩ = some (.int .i64 4) ∧ u.cell? ⟨w.heap.size, 7, none⟩ = some (.int .i64 23) ∧ u.cell? ⟨w.heap.size, 8, none⟩ = some (.int .i64 B) ∧ u.cell? ⟨w.heap.size, 9, none⟩ = some (.int .i64 E) ∧ u.cell? ⟨w.heap.size, 10, none⟩ = some (.int .i64 S) ∧ u.cell? ⟨w.heap.size, 11, none⟩ = some (.int .i64 (t : Int)))
    (first | with_reducible exact HS.out _ ((Below.refl W.heap.size W).drew) | with_reducible exact HS.out _ B2 | with_reducible exact HS.out _ B1)
    (first
      | (go_at_call 207; refine Calls.mono (HP.out W.drew) ?_; rintro r u1 ⟨rfl, hw1⟩; have B1 : Below W.heap.size W u1 := ((Below.refl W.heap.size W).drew).trans hw1)
      | (go_at_call 28; refine Calls.mono (HR.out u1 (HAL.out.trans (B1.mono HAL.out.size))) ?_; rintro r u2 ⟨gr, cr, rfl, hgr, hrow, hw2⟩; have B2 : Below W.heap.size W u2 := B1.trans (hw2.mono B1.size)))
  have z1 := HAL.out.size
  have z2 := B1.size
  go_wp2_with fail
  exact bodyPost_ret (v := .tuple #[.slice (some ⟨gr, 0, none⟩) 4096 cr, .int .i64 0]) (by simp [results, Tryz.results271, go_sem]) rfl ⟨gr, cr, rfl, by omega, hrow, HAL.out.trans (B2.mono HAL.out.size)⟩
end Go.Proofs.YtnldkpckojhbhaaGreat.S

/-
  A range over a function that tells, of what it hands on, more than its value: what lies in memory there (A). The body is left by its end alone.
-/
namespace Go.Proofs.YtnldkpckojhbhaaGreat.S
open Go.RowKit

section
variable {F : Fence} {n : Nat} {P : Program}
/-- how a round's body is left: by its end -/
def endPost {α : Type} (B : Nat) (Kp : World → World → Prop) (I : List α → World → Prop) (xs : List α) (W : World) : Exit → Act → World → Prop
  | .normal, _, W' => KeepsFrom B W W' ∧ Kp W W' ∧ I xs W'
  | _, _, _ => False

/-- what the function that is ranged over keeps: of each x that is handed on A holds, in the world in which it is handed on -/
def Hands {α : Type} (F : Fence) (n : Nat) (P : Program) (gf : Nat) (lb : Array Value) (encs : α → Array Value) (A : List α → α → World → Prop) (Kp : World → World → Prop) (R : List α → Prop) (w : World) : Prop :=
  ∀ (l : Nat) (J : List α → World → Prop) (W : World), Below w.heap.size w W → AbidesFrom W.heap.size J →
    (∀ pre x W1, J pre W1 → A pre x W1 → YieldAt F (n - 1) P l (encs x) W1 fun e W' => e = .returned (.bool true) ∧ J (pre ++ [x]) W' ∧ Kp W1 W') → J [] W →
    CallsIn F n P gf (#[.func (.yield l) #[] #[]] ++ lb) W fun e W' => (∃ v, e = .returned v) ∧ ∃ xs, R xs ∧ J xs W'

theorem wpIn_range_told {α : Type} {g : Operand} {ps : Array Tmp} {assign body : Code} {Q : Exit → Act → World → Prop} {a : Act} {w w0 : World} (hro : F.round = none) (h1 : 1 ≤ n) {gf : Nat} {lb : Array Value} (hg : a.eval g = .func (.func gf) #[] lb) (hFg : F.fn gf)
    (eg : ∀ args w, (callFunc gf args).run P w = .ok (.enter gf args) w) {encs : α → Array Value} {A : List α → α → World → Prop} {Kp : World → World → Prop} {R : List α → Prop} (hseq : Hands F (n - 1) P gf lb encs A Kp R w0) (hb0 : Below w0.heap.size w0 w)
    (hKt : ∀ {A B C : World}, Kp A B → Kp B C → Kp A C) (hKb : ∀ (W : World) (l : Nat) (o o' : Obj), w.heap.size ≤ l → W.heap[l]? = some o → o.isCells = false → o.isWalk = false → Kp W (W.putObj l o')) (hps : ∀ x, (encs x).size = ps.size)
    (I : List α → World → Prop) (hI : OwnFrom w.heap.size I) (h0 : I [] w) (Ax : List α → α → Act → World → Prop) (hAx : ∀ pre x a', OwnFrom w.heap.size (fun (_ : Unit) W => Ax pre x a' W))
    (hassign : ∀ (l : Nat) (pre : List α) (x : α) (W : World) (K : Act → World → Prop), I pre W → A pre x W → (∀ a' W', KeepsFrom w.heap.size W W' → Kp W W' → I pre W' → Ax pre x a' W' → K a' W') →
      assign.wpIn (F.inRound l) (n - 1 - 1) P (Exit.then K (fun _ _ _ => False)) { tmps := (ps.zip (encs x)).foldl (fun t (p, v) => t.setIfInBounds p v) a.tmps, defers := [] } W)
    (hbody : ∀ (l : Nat) (pre : List α) (x : α) (a' : Act) (W : World), w.heap.size ≤ l → (∃ r, W.heap[l]? = some (.loop r)) → I pre W → Ax pre x a' W → body.wpIn (F.inRound l) (n - 1 - 1) P (endPost w.heap.size Kp I (pre ++ [x]) W) a' W)
    (hdone : ∀ (D : Nat) (xs : List α) (W : World), w.heap.size ≤ D → R xs → I xs W → W.heap[D]? = some (.deferred (some [])) → Q .normal { a with defers := { target := .collected D, args := #[] } :: a.defers } W) :
    (Code.rangeFunc g ps assign body).wpIn F n P Q a w := by
  refine wpIn_rangeFunc fun fn hfn => ?_
  rw [hro]
  obtain ⟨rec, hrec⟩ : ∃ rec : LoopState → Option Code → Loop, rec = fun st pe => { state := st, pending := pe, fn, tmps := a.tmps, params := ps, assign, body, defers := w.heap.size } := ⟨_, rfl⟩
  obtain ⟨W1, hW1⟩ : ∃ W1, (w.alloc (.deferred (some []))).alloc (.loop (rec .ready none)) = W1 := ⟨_, rfl⟩
  have z1 : W1.heap.size = w.heap.size + 2 := by rw [← hW1]; simp
  have hL1 : W1.heap[w.heap.size + 1]? = some (.loop (rec .ready none)) := by
    have h := heap_alloc_new (w.alloc (.deferred (some []))) (.loop (rec .ready none))
    rw [hW1] at h
    simpa using h
  have hK1 : W1.heap[w.heap.size]? = some (.deferred (some [])) := by
    rw [← hW1]
    exact (Below.heap_alloc _ _ _ (by simp)).trans (heap_alloc_new w _)
  have hI1 : I [] W1 := by rw [← hW1]; exact hI.alloc _ (hI.alloc _ h0)
  have hb1 : Below w0.heap.size w0 W1 := by
    rw [← hW1]
    exact hb0.trans ((((Below.refl _ w).alloc (Nat.le_refl _) _).alloc (by simp) _).mono hb0.size)
  refine ⟨w.heap.size + 1, [{ target := .collected w.heap.size, args := #[] }], W1, { target := .fn (.func gf) lb, args := #[.func (.yield (w.heap.size + 1)) #[] #[]] }, W1, gf, #[.func (.yield (w.heap.size + 1)) #[] #[]] ++ lb, W1, ?_, ?_, ?_, ?_, fun _ => h1, ?_⟩
  · rw [← hW1, hrec]
    exact run_enterLoop_outer _ _ _ _ _
  · simp only [resolve, hg]
    simp [go_sem]
  · intro f' hf'
    simp [Target.leads] at hf'
    subst hf'
    exact hFg
  · simp [invoke, go_sem, eg]
  have own : ∀ {A B : World} {row : Option Nat}, (∀ r, row = some r → W1.heap.size ≤ r ∧ ∃ o : Obj, A.heap[r]? = some o ∧ o.isWalk = true) → (∀ r, row = some r → w.heap.size ≤ r ∧ ∃ o : Obj, A.heap[r]? = some o ∧ o.isCells = false) := fun hr r e => by
    obtain ⟨hB, o, ho, hw⟩ := hr r e
    exact ⟨by omega, o, ho, Obj.not_cells_of_walk hw⟩
  refine (hseq (w.heap.size + 1) (fun pre W => I pre W ∧ W.heap[w.heap.size + 1]? = some (.loop (rec .ready none)) ∧ W.heap[w.heap.size]? = some (.deferred (some []))) W1 hb1
    (fun s A B row hs hg' hr => ⟨hI s A B row hs.1 hg' (own (B := B) hr), (grownBy_keeps hg' (fun r e => (hr r e).2) hs.2.1 rfl).trans hs.2.1, (grownBy_keeps hg' (fun r e => (hr r e).2) hs.2.2 rfl).trans hs.2.2⟩) ?_ ⟨hI1, hL1, hK1⟩).mono ?_
  · rintro pre x W ⟨hi, hl, hk⟩ hAW
    have hy := run_yield (P := P) (args := encs x) hl (by rw [hrec]; exact hps x)
    rw [hrec] at hy
    refine ⟨fn, _, assign, body, hy, roundIn_of_wpIn hfn (hassign _ pre x W _ hi hAW fun a' Wa hf hp hi' hax => ?_)⟩
    have hl' := hf.same _ _ (by omega) hl rfl
    have hk' := hf.same _ _ (Nat.le_refl _) hk rfl
    have hlt : w.heap.size + 1 < Wa.heap.size := (Array.getElem?_eq_some_iff.1 hl').1
    refine ⟨_, run_beginRound hl' (by rw [hrec]), ?_⟩
    have hl2 : (Wa.putObj (w.heap.size + 1) (.loop { rec .ready none with state := .busy })).heap[w.heap.size + 1]? = some (.loop { rec .ready none with state := .busy }) := World.putObj_heap_same hlt
    have hk2 : (Wa.putObj (w.heap.size + 1) (.loop { rec .ready none with state := .busy })).heap[w.heap.size]? = some (.deferred (some [])) := (World.putObj_heap_other (by omega)).trans hk'
    refine wpIn_mono (hbody _ pre x a' _ (by omega) ⟨_, hl2⟩ (hI.putObj _ hi' (by omega) hl' rfl) ((hAx pre x a').putObj (s := ()) _ hax (by omega) hl' rfl)) ?_
    rintro e a3 W3 hq
    cases e with
    | normal =>
      obtain ⟨hk3, hp3, hi3⟩ := hq
      have hl3 := hk3.same _ _ (by omega) hl2 rfl
      have hd3 := hk3.same _ _ (Nat.le_refl _) hk2 rfl
      have hr3 := run_endRound (P := P) none hl3
      have hlt3 := (Array.getElem?_eq_some_iff.1 hl3).1
      refine ⟨_, _, hr3, rfl, ⟨hI.putObj _ hi3 (by omega) hl3 rfl, ?_, (World.putObj_heap_other (by omega)).trans hd3⟩, hKt hp (hKt (hKt (hKb _ _ _ _ (by omega) hl' rfl rfl) hp3) (hKb _ _ _ _ (by omega) hl3 rfl rfl))⟩
      rw [hrec]
      exact World.putObj_heap_same hlt3
    | ret => exact hq.elim
    | exit id => exact hq.elim
    | goto t => exact hq.elim
    | panic ch => exact hq.elim
    | outgrown => exact hq.elim
  · rintro e W2 ⟨⟨v, rfl⟩, xs, hR, hi, hl, hk⟩
    have hE := run_endLoop (P := P) hl (by rw [hrec]; simp)
    have hpn : (rec LoopState.ready none).pending = none := by rw [hrec]
    rw [hpn] at hE
    refine ⟨none, _, hE, hdone _ xs _ (Nat.le_refl _) hR (hI.putObj _ hi (by omega) hl rfl) ((World.putObj_heap_other (by omega)).trans hk)⟩
end
end Go.Proofs.YtnldkpckojhbhaaGreat.S

/-
  The group that begins so many blocks behind the tail.
-/
namespace Go.Proofs.YtnldkpckojhbhaaGreat.S
open Go.RowKit
open Go.Proofs.YtnldkpckojhbhaaGreat.Dk (Box)

/-- k blocks of the ring, from b behind the tail on -/
def ringB (D : Dk.DS) (t b k : Nat) : List (List UInt8) := (List.range k).map fun i => D.stand (2 + (t + (b + i)) % 16)
theorem ringB_length (D : Dk.DS) (t b k : Nat) : (ringB D t b k).length = k := by simp [ringB]
theorem ringB_succ (D : Dk.DS) (t b k : Nat) : ringB D t b (k + 1) = ringB D t b k ++ [D.stand (2 + (t + (b + k)) % 16)] := by simp [ringB, List.range_succ]
theorem ringB_head (D : Dk.DS) (t b k : Nat) : (ringB D t b (k + 1))[0]?.getD [] = D.stand (2 + (t + b) % 16) := by simp [ringB]
/-- how many images the head there speaks of -/
def cntAt (D : Dk.DS) (t b : Nat) : Nat := (Rc.saidEs (D.stand (2 + (t + b) % 16))).length
/-- a whole group of this epoch and number begins there -/
def GOk (D : Dk.DS) (t E b s : Nat) : Prop :=
  (Rc.isHead (D.stand (2 + (t + b) % 16)) ∧ Rc.saidE (D.stand (2 + (t + b) % 16)) = E ∧ Rc.saidS (D.stand (2 + (t + b) % 16)) = s) ∧ b + (cntAt D t b + 1) ≤ 16 ∧ Rc.isGrp (ringB D t b (cntAt D t b + 1))
/-- its images -/
def gimgs (D : Dk.DS) (t b : Nat) : List (Int × List UInt8) := Rc.imgsTo (ringB D t b (cntAt D t b + 1)) (Rc.saidEs (D.stand (2 + (t + b) % 16))) (cntAt D t b)
def zG : Value := .agg #[.int .i64 0, .int .i64 0, .slice none 0 0]
/-- what is told of it -/
def GrR (w : World) (D : Dk.DS) (t E b s : Nat) (r : Ending) (w' : World) : Prop :=
  (GOk D t E b s ∧ ∃ a c ps, r = .returned (.tuple #[.agg #[.int .i64 (E : Int), .int .i64 (s : Int), .slice a (cntAt D t b) c], .int .i64 0]) ∧ w'.ownsRow w.heap.size 89 2 (.slice a (cntAt D t b) c) (cntAt D t b) (Rc.imgC ps) ∧ Rc.GetJ w.heap.size w' ps ∧ ps.map (fun p => (p.b, p.xs)) = gimgs D t b ∧ Below w.heap.size w w') ∨
  (¬ GOk D t E b s ∧ r = .returned (.tuple #[.agg #[.int .i64 0, .int .i64 0, .slice none 0 0], .int .i64 80]) ∧ Below w.heap.size w w')

theorem box3 {W : World} {b : Nat} {v0 v1 v2 : Value} (h : Box W b #[v0, v1, v2] 203) : (W.cell? ⟨b, 0, none⟩ = some v0 ∧ W.cell? ⟨b, 1, none⟩ = some v1 ∧ W.cell? ⟨b, 2, none⟩ = some v2) ∧ W.frozen? ⟨b, 0, none⟩ = false ∧ W.frozen? ⟨b, 1, none⟩ = false ∧ W.frozen? ⟨b, 2, none⟩ = false :=
  ⟨⟨h.cell 0, h.cell 1, h.cell 2⟩, h.frozen 0, h.frozen 1, h.frozen 2⟩
theorem below_set3 {B : Nat} {a W : World} (h : Below B a W) {k : Nat} (hk : B ≤ k) (v0 v1 v2 : Value) : Below B a (((W.setCell ⟨k, 0, none⟩ v0).setCell ⟨k, 1, none⟩ v1).setCell ⟨k, 2, none⟩ v2) :=
  ((h.setCell (p := ⟨k, 0, none⟩) hk v0).setCell (p := ⟨k, 1, none⟩) hk v1).setCell (p := ⟨k, 2, none⟩) hk v2
theorem box_set3 {W : World} {k : Nat} {u0 u1 u2 : Value} (h : Box W k #[u0, u1, u2] 203) (v0 v1 v2 : Value) : Box (((W.setCell ⟨k, 0, none⟩ v0).setCell ⟨k, 1, none⟩ v1).setCell ⟨k, 2, none⟩ v2) k #[v0, v1, v2] 203 := by
  simpa using ((h.store 0 v0).store 1 v1).store 2 v2

set_option maxRecDepth 100000 in
set_option maxHeartbeats 4000000 in
theorem group_at {w : World} {dg : Nat} {D : Dk.DS} {F : Nat → Prop} (hd : Dk.IsDisk w dg D F) (hnb : D.nb = 64) (hg : D.gone = false) (hlim : D.uf.length ≤ 1000000) (B : Int) (S : Int) (t E b s : Nat) (ht : t < 16) (hb : b ≤ 16) :
    Calls Tryz.prog 240 #[.agg (rC dg B (E : Int) S (t : Int)), .int .i64 (b : Int), .int .i64 (s : Int)] w (GrR w D t E b s) := by
  have ok : D.Ok := by obtain ⟨gd, cd, vu, ps, hl⟩ := hd; exact hl.ok
  have HBk : Hid (∀ (u : World) (k : Nat), Below w.heap.size w u → k ≤ 1000 → Calls Tryz.prog 271 #[.agg (rC dg B (E : Int) S (t : Int)), .int .i64 (k : Int)] u fun r w' => ∃ gr cr, r = .returned (.tuple #[.slice (some ⟨gr, 0, none⟩) 4096 cr, .int .i64 0]) ∧ u.heap.size ≤ gr ∧ Rc.RowB w' gr cr (D.stand (2 + (t + k) % 16)) ∧ Below u.heap.size u w') := fun u k bu hk => by
    have hd' : Dk.IsDisk u dg D F := by
      obtain ⟨gd, cd, vu, ps, hl⟩ := hd
      exact ⟨gd, cd, vu, ps, hl.kept (fun i hi => bu.block i (hl.flt i hi)) bu.size⟩
    exact block_at hd' hnb hg hlim B E S t k ht hk
  have HLn : Hid (∀ k, (D.stand (2 + (t + k) % 16)).length = 4096) := fun k => Dk.stand_length ok _ (by have := Nat.mod_lt (t + k) (show 0 < 16 by decide); omega)
  clear hd ok
  have b1 := (Below.refl w.heap.size w).alloc (Nat.le_refl _) (.cells (rC dg B (E : Int) S (t : Int)) 261)
  have B0 := b1.alloc b1.size (.cells #[.int .i64 0, .int .i64 0, .slice none 0 0] 203)
  have x0 := (Dk.Box.new w (rC dg B (E : Int) S (t : Int)) 261).alloc (.cells #[.int .i64 0, .int .i64 0, .slice none 0 0] 203)
  have x1 : Box ((w.alloc (.cells (rC dg B (E : Int) S (t : Int)) 261)).alloc (.cells #[.int .i64 0, .int .i64 0, .slice none 0 0] 203)) (w.heap.size + 1) #[.int .i64 0, .int .i64 0, .slice none 0 0] 203 := Rg.Box.next w _ _ 203
  have z0 : Hid (((w.alloc (.cells (rC dg B (E : Int) S (t : Int)) 261)).alloc (.cells #[.int .i64 0, .int .i64 0, .slice none 0 0] 203)).heap.size = w.heap.size + 2) := by show _ = _; simp
  obtain ⟨y0, y1, y2, y3, y4, y5, y6, y7, y8, y9, y10, y11⟩ := r_cells x0
  have HX0 : Hid (Box ((w.alloc (.cells (rC dg B (E : Int) S (t : Int)) 261)).alloc (.cells #[.int .i64 0, .int .i64 0, .slice none 0 0] 203)) w.heap.size (rC dg B (E : Int) S (t : Int)) 261) := x0
  clear b1 x0
  unfold rC at *
  have HX1 : Hid (Box ((w.alloc (.cells #[.pointer (some ⟨dg, 0, none⟩), .int .i64 64, .int .i64 2, .int .i64 16, .int .i64 18, .int .i64 19, .int .i64 4, .int .i64 23, .int .i64 B, .int .i64 (E : Int), .int .i64 S, .int .i64 (t : Int)] 261)).alloc (.cells #[.int .i64 0, .int .i64 0, .slice none 0 0] 203)) (w.heap.size + 1) #[.int .i64 0, .int .i64 0, .slice none 0 0] 203) := x1
  have HB0 : Hid (Below w.heap.size w ((w.alloc (.cells #[.pointer (some ⟨dg, 0, none⟩), .int .i64 64, .int .i64 2, .int .i64 16, .int .i64 18, .int .i64 19, .int .i64 4, .int .i64 23, .int .i64 B, .int .i64 (E : Int), .int .i64 S, .int .i64 (t : Int)] 261)).alloc (.cells #[.int .i64 0, .int .i64 0, .slice none 0 0] 203))) := B0
  have cB := HBk.out _ B0 (k := b) (by omega)
  clear x1 B0
  go_enter Tryz.func240, Tryz.ntmps240
  go_wp2_with fail
  refine Calls.mono cB ?_
  generalize (w.alloc (.cells #[.pointer (some ⟨dg, 0, none⟩), .int .i64 64, .int .i64 2, .int .i64 16, .int .i64 18, .int .i64 19, .int .i64 4, .int .i64 23, .int .i64 B, .int .i64 (E : Int), .int .i64 S, .int .i64 (t : Int)] 261)).alloc (.cells #[.int .i64 0, .int .i64 0, .slice none 0 0] 203) = W0 at *
  rintro r u1 ⟨gh, ch, rfl, hgh, hrow, bb1⟩
  clear cB y0 y1 y2 y3 y4 y5 y6 y7 y8 y9 y10 y11
  have HC : Hid (∀ u, Below W0.heap.size W0 u → R12 w dg B (E : Int) S (t : Int) u) := fun u bu => r_cells (HX0.out.below bu)
  have hrow' := hrow
  obtain ⟨curh, hbh, hcap, hmax, _, _⟩ := hrow'
  have HX : Hid ((D.stand (2 + (t + b) % 16)).length = 4096) := HLn.out b
  rw [HX.out] at hcap
  have cH := Rc.head_at (some ⟨gh, 0, none⟩) 4096 ch (D.stand (2 + (t + b) % 16)) u1 HX.out hcap (by unfold maxLen at hmax; omega) hrow.rd
  have HRow : Hid (Rc.RowB u1 gh ch (D.stand (2 + (t + b) % 16))) := hrow
  clear hrow hbh
  obtain ⟨X, hXe⟩ : ∃ X, X = D.stand (2 + (t + b) % 16) := ⟨_, rfl⟩
  have HXe : Hid (X = D.stand (2 + (t + b) % 16)) := hXe
  rw [← hXe] at cH HRow HX
  clear hXe
  go_wp2_with fail
  refine Calls.mono cH ?_
  rintro r u2 (⟨hH, rfl, bb2⟩ | ⟨hH, rfl, bb2⟩)
  rotate_left
  · have B2 := bb1.trans (bb2.mono bb1.size)
    have hno : ¬ GOk D t E b s := fun h => hH (by rw [HXe.out]; exact h.1.1)
    have x2 := HX1.out.below B2
    obtain ⟨⟨q0, q1, q2⟩, p0, p1, p2⟩ := box3 x2
    have x3 := box_set3 x2 (.int .i64 0) (.int .i64 0) (.slice none 0 0)
    have d0 := x3.cell 0
    have d1 := x3.cell 1
    have d2 := x3.cell 2
    simp at d0 d1 d2
    have Bf := below_set3 (HB0.out.trans (B2.mono HB0.out.size)) (k := w.heap.size + 1) (Nat.le_succ _) (.int .i64 0) (.int .i64 0) (.slice none 0 0)
    go_wp2_with fail
    exact bodyPost_ret (v := .tuple #[.agg #[.int .i64 0, .int .i64 0, .slice none 0 0], .int .i64 80]) (by simp [results, Tryz.results240, go_sem, d0, d1, d2]) rfl (.inr ⟨hno, rfl, Bf⟩)
  have B2 := bb1.trans (bb2.mono bb1.size)
  obtain ⟨y0, y1, y2, y3, y4, y5, y6, y7, y8, y9, y10, y11⟩ := HC.out u2 B2
  clear cH
  by_cases hES : Rc.saidE X = E ∧ Rc.saidS X = s
  rotate_left
  · have hno : ¬ GOk D t E b s := fun h => hES (by rw [HXe.out]; exact h.1.2)
    by_cases hE : Rc.saidE X = E
    · have hS : Rc.saidS X ≠ s := fun h => hES ⟨hE, h⟩
      have e1 : ¬ ((Rc.saidS X : Int) = (s : Int)) := by omega
      have e2 : ((Rc.saidE X : Int)) = (E : Int) := by omega
      clear hES hS hE
      have x2 := HX1.out.below B2
      obtain ⟨⟨q0, q1, q2⟩, p0, p1, p2⟩ := box3 x2
      have x3 := box_set3 x2 (.int .i64 0) (.int .i64 0) (.slice none 0 0)
      have d0 := x3.cell 0
      have d1 := x3.cell 1
      have d2 := x3.cell 2
      simp at d0 d1 d2
      have Bf := below_set3 (HB0.out.trans (B2.mono HB0.out.size)) (k := w.heap.size + 1) (Nat.le_succ _) (.int .i64 0) (.int .i64 0) (.slice none 0 0)
      go_wp2_with fail
      exact bodyPost_ret (v := .tuple #[.agg #[.int .i64 0, .int .i64 0, .slice none 0 0], .int .i64 80]) (by simp [results, Tryz.results240, go_sem, d0, d1, d2]) rfl (.inr ⟨hno, rfl, Bf⟩)
    · have e1 : ¬ ((Rc.saidE X : Int) = (E : Int)) := by omega
      clear hES hE
      have x2 := HX1.out.below B2
      obtain ⟨⟨q0, q1, q2⟩, p0, p1, p2⟩ := box3 x2
      have x3 := box_set3 x2 (.int .i64 0) (.int .i64 0) (.slice none 0 0)
      have d0 := x3.cell 0
      have d1 := x3.cell 1
      have d2 := x3.cell 2
      simp at d0 d1 d2
      have Bf := below_set3 (HB0.out.trans (B2.mono HB0.out.size)) (k := w.heap.size + 1) (Nat.le_succ _) (.int .i64 0) (.int .i64 0) (.slice none 0 0)
      go_wp2_with fail
      exact bodyPost_ret (v := .tuple #[.agg #[.int .i64 0, .int .i64 0, .slice none 0 0], .int .i64 80]) (by simp [results, Tryz.results240, go_sem, d0, d1, d2]) rfl (.inr ⟨hno, rfl, Bf⟩)
  obtain ⟨hE, hS⟩ := hES
  have hm1 : 1 ≤ (Rc.saidEs X).length ∧ (Rc.saidEs X).length ≤ 32 := by
    have := hH.2.1.2.1
    simpa using this
  obtain ⟨m, hm⟩ : ∃ m, m = (Rc.saidEs X).length := ⟨_, rfl⟩
  have HM : Hid (cntAt D t b = m) := by show (Rc.saidEs (D.stand (2 + (t + b) % 16))).length = m; rw [← HXe.out, hm]
  rw [← hm] at hm1 ⊢
  have e1 : ((Rc.saidE X : Nat) : Int) = (E : Int) := by omega
  have e2 : ((Rc.saidS X : Nat) : Int) = (s : Int) := by omega
  simp only [e1, e2]
  have HHd : Hid (Rc.isHead X ∧ Rc.saidE X = E ∧ Rc.saidS X = s) := ⟨hH, hE, hS⟩
  have cBl := Rc.blocks_at (m : Int) u2
  have ebl : Rc.blocksN (m : Int) = ((m + 1 : Nat) : Int) := by
    unfold Rc.blocksN
    rw [if_pos (by omega)]
    omega
  rw [ebl] at cBl
  clear ebl hE hS e1 e2 hm hH
  go_wp2_with fail
  refine Calls.mono cBl ?_
  rintro r u3 ⟨rfl, rfl⟩
  clear cBl
  by_cases hfit : b + (m + 1) ≤ 16
  rotate_left
  · have hno : ¬ GOk D t E b s := fun h => hfit (by have := h.2.1; rw [HM.out] at this; exact this)
    have hgt : (16 : Int) < (b : Int) + ((m : Int) + 1) := by omega
    clear hfit
    have x2 := HX1.out.below B2
    obtain ⟨⟨q0, q1, q2⟩, p0, p1, p2⟩ := box3 x2
    have x3 := box_set3 x2 (.int .i64 0) (.int .i64 0) (.slice none 0 0)
    have d0 := x3.cell 0
    have d1 := x3.cell 1
    have d2 := x3.cell 2
    simp at d0 d1 d2
    have Bf := below_set3 (HB0.out.trans (B2.mono HB0.out.size)) (k := w.heap.size + 1) (Nat.le_succ _) (.int .i64 0) (.int .i64 0) (.slice none 0 0)
    go_wp2_with fail
    exact bodyPost_ret (v := .tuple #[.agg #[.int .i64 0, .int .i64 0, .slice none 0 0], .int .i64 80]) (by simp [results, Tryz.results240, go_sem, d0, d1, d2]) rfl (.inr ⟨hno, rfl, Bf⟩)
  have hle : ¬ (16 : Int) < (b : Int) + ((m : Int) + 1) := by omega
  obtain ⟨i0, hi0, hz0, hz1, hz2⟩ := info_parts Rc.info31
  have HRow2 : Hid (Rc.RowB u2 gh ch X) := HRow.out.same (bb2.block gh HRow.out.lt)
  have al := (Below.refl u2.heap.size u2).alloc (Nat.le_refl _) (.cells #[.slice (some ⟨gh, 0, none⟩) 4096 ch] 37)
  have hst : Hid ((u2.alloc (.cells #[.slice (some ⟨gh, 0, none⟩) 4096 ch] 37)).ownsRow W0.heap.size 37 1 (.slice (some ⟨u2.heap.size, 0, none⟩) 1 1) 1 (Rc.lstC [⟨0, X, gh, ch⟩])) := ⟨rfl, .inr ⟨u2.heap.size, 1, #[.slice (some ⟨gh, 0, none⟩) 4096 ch], rfl, B2.size, Dk.Box.new u2 _ 37, Nat.le_refl _, by unfold maxLen; omega, rfl, rfl⟩⟩
  have hgj : Hid (Rc.GetJ W0.heap.size (u2.alloc (.cells #[.slice (some ⟨gh, 0, none⟩) 4096 ch] 37)) [⟨0, X, gh, ch⟩]) := ⟨fun p hp => by
    obtain rfl : p = ⟨0, X, gh, ch⟩ := by simpa using hp
    exact ⟨HRow2.out.same (al.block gh HRow2.out.lt), hgh, HX.out⟩, by simp⟩
  have hbl : Hid (Below W0.heap.size W0 (u2.alloc (.cells #[.slice (some ⟨gh, 0, none⟩) 4096 ch] 37))) := B2.trans (al.mono B2.size)
  have hq0 : Hid ([(⟨0, X, gh, ch⟩ : Rc.GG)].map Rc.GG.xs = ringB D t b 1) := by show [X] = _; rw [HXe.out]; simp [ringB]
  clear y0 y1 y2 y4 y5 y6 y7 y8 y9 y10 y11
  go_wp2_with fail
  clear y3
  generalize u2.alloc (.cells #[.slice (some ⟨gh, 0, none⟩) 4096 ch] 37) = u4 at hst hgj hbl al ⊢
  go_loopw [15, 16] (fun v15 v16 u => ∃ (j : Nat) (qs : List Rc.GG), 1 ≤ j ∧ j ≤ m + 1 ∧ v16 = .int .i64 ((b : Int) + (j : Int)) ∧ u.ownsRow W0.heap.size 37 1 v15 j (Rc.lstC qs) ∧ Rc.GetJ W0.heap.size u qs ∧ qs.map Rc.GG.xs = ringB D t b j ∧ Below W0.heap.size W0 u) (fun _ v16 _ => b + (m + 1) - (intOf v16).toNat)
  case atStart => exact ⟨1, [⟨0, X, gh, ch⟩], Nat.le_refl _, by omega, by push_cast; rfl, hst.out, hgj.out, hq0.out, hbl.out⟩
  case round =>
    clear hst hgj hbl hq0 al HRow2 HRow
    obtain ⟨j, qs, hj1, hj2, rfl, hown, hJ, hq, Bj⟩ := hrel
    have HJ : Hid (Rc.GetJ W0.heap.size wr qs) := hJ
    have HQ : Hid (qs.map Rc.GG.xs = ringB D t b j) := hq
    obtain ⟨av, cv, rfl⟩ := Rc.owns_shape hown
    clear hJ hq
    by_cases hlt : j < m + 1
    · have hlt' : (b : Int) + (j : Int) < (b : Int) + ((m : Int) + 1) := by omega
      have cB := HBk.out wr (b + j) (HB0.out.trans (Bj.mono HB0.out.size)) (by omega)
      have ebj : ((b + j : Nat) : Int) = (b : Int) + (j : Int) := by omega
      rw [ebj] at cB
      have HX4 : Hid ((D.stand (2 + (t + (b + j)) % 16)).length = 4096) := HLn.out (b + j)
      have HSc : Hid (ringB D t b (j + 1) = ringB D t b j ++ [D.stand (2 + (t + (b + j)) % 16)]) := ringB_succ D t b j
      generalize D.stand (2 + (t + (b + j)) % 16) = Y at cB HX4 HSc
      obtain ⟨y0, y1, y2, y3, y4, y5, y6, y7, y8, y9, y10, y11⟩ := HC.out wr Bj
      have HOWN : Hid (wr.ownsRow W0.heap.size 37 1 (.slice av j cv) j (Rc.lstC qs)) := hown
      clear hown ebj
      go_wp2_with fail
      refine Calls.mono cB ?_
      rintro r v1 ⟨gr, cr, rfl, hgr, hrow, bb1⟩
      clear cB y0 y1 y2 y3 y4 y5 y6 y7 y8 y9 y10 y11
      have O1 : Hid (v1.ownsRow W0.heap.size 37 1 (.slice av j cv) j (Rc.lstC qs)) := Rc.owns_below HOWN.out bb1
      have own1 := (O1.out).alloc (.cells #[.slice (some ⟨gr, 0, none⟩) 4096 cr] 37)
      have B1 := Bj.trans (bb1.mono Bj.size)
      have J1 : Hid (Rc.GetJ W0.heap.size v1 (qs ++ [⟨0, Y, gr, cr⟩])) := HJ.out.snoc bb1 ⟨0, Y, gr, cr⟩ hrow hgr HX4.out Bj.size
      clear bb1 hrow
      have z1 := B1.size
      go_wp2_with (at_builtin; refine wpList_append_own _ rfl _ _ 46 rfl W0.heap.size 37 i0 (.slice none 0 0) 1 24 Tryz.underlying46 hi0 hz0 hz1 hz2 rfl (by decide) _ j _ rfl own1 ⟨v1.heap.size, 0, none⟩ 1 1 [.slice (some ⟨gr, 0, none⟩) 4096 cr] rfl rfl ?c1 ?c2 ?c3 ?c4 ?c5 ?_)
      case c1 =>
        intro i u hi'
        match i, hi' with
        | 0, hi' => simp at hi'; subst hi'; simp [Addr.add]
      case c2 => intro u hu; simp at hu; subst hu; rfl
      case c3 => unfold maxLen; omega
      case c4 => omega
      case c5 => simp; omega
      · intro v' v2 hown2 hgrow _
        have al1 := (Below.refl v1.heap.size v1).alloc (Nat.le_refl _) (.cells #[.slice (some ⟨gr, 0, none⟩) 4096 cr] 37)
        have B2' : Below W0.heap.size W0 v2 := (B1.alloc z1 _).grown hgrow (by simp; omega) (fun k hk => (O1.out.lt k hk).1)
        have J2 : Rc.GetJ W0.heap.size v2 (qs ++ [⟨0, Y, gr, cr⟩]) := (J1.out.below al1).grown own1 (by decide) hgrow
        clear hgrow own1 al1
        go_wp2_with fail
        go_roundw
        case rel => exact ⟨j + 1, qs ++ [⟨0, Y, gr, cr⟩], by omega, by omega, by push_cast; rw [Int.add_assoc], by simpa [Rc.lstC] using hown2, J2, by rw [List.map_append, HQ.out, HSc.out]; rfl, B2'⟩
        case measure => simp [intOf]; omega
    · obtain rfl : j = m + 1 := by omega
      have hql : qs.length = m + 1 := by
        have := congrArg List.length HQ.out
        rw [List.length_map, ringB_length] at this
        exact this
      have hLs := Rc.lsts_of hown HJ.out hql
      rw [HQ.out] at hLs
      have cG := Rc.get_in av (m + 1) cv (ringB D t b (m + 1)) wr (ringB_length _ _ _ _) (by omega) (by omega) hLs
      have hge : ¬ (b : Int) + ((m + 1 : Nat) : Int) < (b : Int) + ((m : Int) + 1) := by omega
      clear hown hLs hql hlt
      go_wp2_with fail
      refine Calls.mono cG ?_
      have hml : (Rc.saidEs X).length = m := by rw [HXe.out]; exact HM.out
      rintro r v1 (⟨hG, a, c, ps, rfl, ho, hj, hps, bb⟩ | ⟨hG, rfl, bb⟩)
      · have B3 := Bj.trans (bb.mono Bj.size)
        rw [ringB_head D t b m, ← HXe.out, hml] at ho hps
        rw [ringB_head D t b m, ← HXe.out, hml, HHd.out.2.1, HHd.out.2.2]
        have x2 := HX1.out.below B3
        obtain ⟨⟨q0, q1, q2⟩, p0, p1, p2⟩ := box3 x2
        have x3 := box_set3 x2 (.int .i64 (E : Int)) (.int .i64 (s : Int)) (.slice a m c)
        have d0 := x3.cell 0
        have d1 := x3.cell 1
        have d2 := x3.cell 2
        simp at d0 d1 d2
        have Bf := below_set3 (HB0.out.trans (B3.mono HB0.out.size)) (k := w.heap.size + 1) (Nat.le_succ _) (.int .i64 (E : Int)) (.int .i64 (s : Int)) (.slice a m c)
        have hbase : w.heap.size ≤ wr.heap.size := Nat.le_trans HB0.out.size Bj.size
        have hset : ∀ k, k ≠ w.heap.size + 1 → (((v1.setCell ⟨w.heap.size + 1, 0, none⟩ (.int .i64 (E : Int))).setCell ⟨w.heap.size + 1, 1, none⟩ (.int .i64 (s : Int))).setCell ⟨w.heap.size + 1, 2, none⟩ (.slice a m c)).heap[k]? = v1.heap[k]? := fun k hk => by
          rw [heap_setCell_other _ ⟨w.heap.size + 1, 2, none⟩ k _ (by simpa using hk), heap_setCell_other _ ⟨w.heap.size + 1, 1, none⟩ k _ (by simpa using hk), heap_setCell_other _ ⟨w.heap.size + 1, 0, none⟩ k _ (by simpa using hk)]
        have Ho : Hid ((((v1.setCell ⟨w.heap.size + 1, 0, none⟩ (.int .i64 (E : Int))).setCell ⟨w.heap.size + 1, 1, none⟩ (.int .i64 (s : Int))).setCell ⟨w.heap.size + 1, 2, none⟩ (.slice a m c)).ownsRow w.heap.size 89 2 (.slice a m c) m (Rc.imgC ps)) := by
          have ho' := J.owns_kept ho (fun k hk => hset k (fun e => by
            obtain ⟨_, cur, hb94⟩ := Rc.owns_block ho k hk
            subst e
            exact x2.ne hb94 (by decide) rfl))
          refine ⟨ho'.1, ?_⟩
          rcases ho'.2 with h1 | ⟨g', cap', cur, e, hb', rr⟩
          · exact .inl h1
          · exact .inr ⟨g', cap', cur, e, Nat.le_trans hbase hb', rr⟩
        have Hj : Hid (Rc.GetJ w.heap.size (((v1.setCell ⟨w.heap.size + 1, 0, none⟩ (.int .i64 (E : Int))).setCell ⟨w.heap.size + 1, 1, none⟩ (.int .i64 (s : Int))).setCell ⟨w.heap.size + 1, 2, none⟩ (.slice a m c)) ps) := ⟨fun p hp => by
          obtain ⟨a1, a2, a3⟩ := hj.rows p hp
          refine ⟨a1.same (hset p.h (fun e => ?_)), Nat.le_trans hbase a2, a3⟩
          obtain ⟨cur, hb5, _⟩ := a1
          rw [e] at hb5
          exact x2.ne hb5 (by decide) rfl, hj.apart⟩
        have HP : Hid (ps.map (fun p => (p.b, p.xs)) = gimgs D t b) := by
          show _ = _
          rw [hps]
          unfold gimgs
          rw [HM.out, ← HXe.out]
        have HGk : Hid (GOk D t E b s) := by
          refine ⟨by rw [← HXe.out]; exact HHd.out, by rw [HM.out]; exact hfit, by rw [HM.out]; exact hG⟩
        have HBf : Hid (Below w.heap.size w (((v1.setCell ⟨w.heap.size + 1, 0, none⟩ (.int .i64 (E : Int))).setCell ⟨w.heap.size + 1, 1, none⟩ (.int .i64 (s : Int))).setCell ⟨w.heap.size + 1, 2, none⟩ (.slice a m c))) := Bf
        clear ho hj hps hset Bf hG
        go_wp2_with fail
        refine bodyPost_ret (v := .tuple #[.agg #[.int .i64 (E : Int), .int .i64 (s : Int), .slice a m c], .int .i64 0]) (by simp [results, Tryz.results240, go_sem, d0, d1, d2]) rfl (.inl ⟨HGk.out, a, c, ps, ?_⟩)
        rw [HM.out]
        exact ⟨rfl, Ho.out, Hj.out, HP.out, HBf.out⟩
      · have B3 := Bj.trans (bb.mono Bj.size)
        have hno : ¬ GOk D t E b s := fun h => hG (by have := h.2.2; rw [HM.out] at this; exact this)
        clear hG
        have x2 := HX1.out.below B3
        obtain ⟨⟨q0, q1, q2⟩, p0, p1, p2⟩ := box3 x2
        have x3 := box_set3 x2 (.int .i64 0) (.int .i64 0) (.slice none 0 0)
        have d0 := x3.cell 0
        have d1 := x3.cell 1
        have d2 := x3.cell 2
        simp at d0 d1 d2
        have Bf := below_set3 (HB0.out.trans (B3.mono HB0.out.size)) (k := w.heap.size + 1) (Nat.le_succ _) (.int .i64 0) (.int .i64 0) (.slice none 0 0)
        go_wp2_with fail
        exact bodyPost_ret (v := .tuple #[.agg #[.int .i64 0, .int .i64 0, .slice none 0 0], .int .i64 80]) (by simp [results, Tryz.results240, go_sem, d0, d1, d2]) rfl (.inr ⟨hno, rfl, Bf⟩)
end Go.Proofs.YtnldkpckojhbhaaGreat.S

/-
  The groups of a ring, handed on one by one.
-/
namespace Go.Proofs.YtnldkpckojhbhaaGreat.S
open Go.RowKit Go.Shelf
open Go.Proofs.YtnldkpckojhbhaaGreat.Dk (Box)
attribute [local go_sem] Oper.semAt_some

/-- what who ranges writes into: two boxes, and the row that the first one speaks of -/
def Cons (bt bb : Nat) (W : World) (k : Nat) : Prop := k = bt ∨ k = bb ∨ ∃ v, W.cell? ⟨bt, 0, none⟩ = some v ∧ v.ownBlock = some k
/-- a round: all other cells stand -/
structure Kp (bt bb : Nat) (W W' : World) : Prop where
  size : W.heap.size ≤ W'.heap.size
  block : ∀ (k : Nat) (o : Obj), W.heap[k]? = some o → o.isCells = true → ¬ Cons bt bb W k → W'.heap[k]? = some o
  cons : ∀ k, Cons bt bb W' k → Cons bt bb W k ∨ (W.heap.size ≤ k ∧ k < W'.heap.size)
/-- what is written into lies behind n0, and is not the reader -/
def Tl (n0 bt bb Br : Nat) (W : World) : Prop := Br < W.heap.size ∧ ∀ k, Cons bt bb W k → n0 ≤ k ∧ k < W.heap.size ∧ k ≠ Br
theorem Kp.trans {bt bb : Nat} {A B C : World} (h : Kp bt bb A B) (k : Kp bt bb B C) : Kp bt bb A C := by
  refine ⟨Nat.le_trans h.size k.size, fun i o hi ho hc => k.block i o (h.block i o hi ho hc) ho (fun hB => ?_), fun i hi => ?_⟩
  · have hlt := (Array.getElem?_eq_some_iff.1 hi).1
    rcases h.cons i hB with h1 | h1
    · exact hc h1
    · omega
  · have := h.size
    have := k.size
    rcases k.cons i hi with h1 | h1
    · rcases h.cons i h1 with h2 | h2
      · exact .inl h2
      · exact .inr (by omega)
    · exact .inr (by omega)
theorem Tl.kp {n0 bt bb Br : Nat} {A B : World} (h : Tl n0 bt bb Br A) (k : Kp bt bb A B) (hn : n0 ≤ A.heap.size) : Tl n0 bt bb Br B := by
  refine ⟨Nat.lt_of_lt_of_le h.1 k.size, fun i hi => ?_⟩
  have := k.size
  have hB := h.1
  rcases k.cons i hi with h1 | h1
  · obtain ⟨a1, a2, a3⟩ := h.2 i h1
    exact ⟨a1, by omega, a3⟩
  · exact ⟨by omega, h1.2, by omega⟩
theorem Cons.below {bt bb : Nat} {A B : World} (b : Below A.heap.size A B) (hbt : bt < A.heap.size) {k : Nat} (h : Cons bt bb B k) : Cons bt bb A k := by
  rcases h with h | h | ⟨v, h1, h2⟩
  · exact .inl h
  · exact .inr (.inl h)
  · exact .inr (.inr ⟨v, (b.cell (p := ⟨bt, 0, none⟩) hbt).symm.trans h1, h2⟩)
theorem Tl.below {n0 bt bb Br : Nat} {A B : World} (h : Tl n0 bt bb Br A) (b : Below A.heap.size A B) : Tl n0 bt bb Br B := by
  have hz := b.size
  refine ⟨Nat.lt_of_lt_of_le h.1 hz, fun k hk => ?_⟩
  obtain ⟨_, hbt, _⟩ := h.2 bt (.inl rfl)
  obtain ⟨a1, a2, a3⟩ := h.2 k (hk.below b hbt)
  exact ⟨a1, by omega, a3⟩

/-- a group as it is handed on: where it begins, its number, its images -/
structure Gx where
  b : Nat
  s : Nat
  m : Nat
  a : Option Addr
  c : Nat
  ps : List Rc.GG
def encG (E : Nat) (x : Gx) : Array Value := #[.agg #[.int .i64 (E : Int), .int .i64 (x.s : Int), .slice x.a x.m x.c], .int .i64 0]
/-- what lies in memory of it -/
def GA (D : Dk.DS) (t E : Nat) (x : Gx) (W : World) : Prop :=
  GOk D t E x.b x.s ∧ x.m = cntAt D t x.b ∧ W.ownsRow 0 89 2 (.slice x.a x.m x.c) x.m (Rc.imgC x.ps) ∧ Rc.GetJ 0 W x.ps ∧ x.ps.map (fun p => (p.b, p.xs)) = gimgs D t x.b
/-- the groups behind one another, as many as there are -/
def Run (D : Dk.DS) (t E : Nat) : Nat → Nat → List Gx → Prop
  | b, s, [] => ¬ GOk D t E b s
  | b, s, x :: r => (x.b = b ∧ x.s = s ∧ GOk D t E b s ∧ x.m = cntAt D t b) ∧ Run D t E (b + (cntAt D t b + 1)) (s + 1) r
/-- a beginning of them: up to b', s' -/
def Upto (D : Dk.DS) (t E : Nat) : Nat → Nat → List Gx → Nat → Nat → Prop
  | b, s, [], b', s' => b = b' ∧ s = s'
  | b, s, x :: r, b', s' => (x.b = b ∧ x.s = s ∧ GOk D t E b s ∧ x.m = cntAt D t b) ∧ Upto D t E (b + (cntAt D t b + 1)) (s + 1) r b' s'
theorem Upto.snoc {D : Dk.DS} {t E : Nat} : ∀ {xs : List Gx} {b s b' s' : Nat} {x : Gx}, Upto D t E b s xs b' s' → (x.b = b' ∧ x.s = s' ∧ GOk D t E b' s' ∧ x.m = cntAt D t b') → Upto D t E b s (xs ++ [x]) (b' + (cntAt D t b' + 1)) (s' + 1)
  | [], _, _, _, _, _, ⟨rfl, rfl⟩, h => ⟨h, rfl, rfl⟩
  | _ :: _, _, _, _, _, _, ⟨h1, h2⟩, h => ⟨h1, h2.snoc h⟩
theorem Upto.len {D : Dk.DS} {t E : Nat} : ∀ {xs : List Gx} {b s b' s' : Nat}, Upto D t E b s xs b' s' → b + xs.length ≤ b'
  | [], _, _, _, _, ⟨rfl, _⟩ => Nat.le_refl _
  | _ :: _, _, _, _, _, ⟨_, h2⟩ => by
    have := h2.len
    simp only [List.length_cons]
    omega
theorem Upto.done {D : Dk.DS} {t E : Nat} : ∀ {xs : List Gx} {b s b' s' : Nat}, Upto D t E b s xs b' s' → ¬ GOk D t E b' s' → Run D t E b s xs
  | [], _, _, _, _, ⟨rfl, rfl⟩, h => h
  | _ :: _, _, _, _, _, ⟨h1, h2⟩, h => ⟨h1, h2.done h⟩

theorem box_kp {bt bb g : Nat} {A B : World} {cs : Array Value} {ty : TypeId} (h : Box A g cs ty) (k : Kp bt bb A B) (hc : ¬ Cons bt bb A g) : Box B g cs ty := k.block g _ h rfl hc

set_option maxRecDepth 100000 in
set_option maxHeartbeats 4000000 in
theorem prod_in (n : Nat) (hn : 1 ≤ n) (l Br bt bb dg n0 : Nat) (D : Dk.DS) (F : Nat → Prop) (t E S0 : Nat) (Bk : Int) (ht : t < 16) (hnb : D.nb = 64) (hgn : D.gone = false) (hlim : D.uf.length ≤ 1000000) (hS0 : S0 ≤ 549755813888) (J : List Gx → World → Prop) (W : World)
    (hd : Dk.IsDisk W dg D F) (hFc : ∀ k, F k → k < n0 ∧ ∃ o : Obj, W.heap[k]? = some o ∧ o.isCells = true) (hBr : Box W Br (rC dg Bk (E : Int) (S0 : Int) (t : Int)) 261) (hT : Tl n0 bt bb Br W) (hn0 : n0 ≤ W.heap.size)
    (hJ : ∀ pre A B, J pre A → Below A.heap.size A B → J pre B)
    (hY : ∀ pre x W1, J pre W1 → GA D t E x W1 → pre.length < 16 → YieldAt Fence.wide (n - 1) Tryz.prog l (encG E x) W1 fun e W' => e = .returned (.bool true) ∧ J (pre ++ [x]) W' ∧ Kp bt bb W1 W') (h0 : J [] W) :
    CallsIn Fence.wide n Tryz.prog 239 #[.func (.yield l) #[] #[], .pointer (some ⟨Br, 0, none⟩)] W fun e W' => (∃ v, e = .returned v) ∧ ∃ xs, Run D t E 0 S0 xs ∧ J xs W' := by
  have c10 := (r_cells hBr).2.2.2.2.2.2.2.2.2.2.1
  have HD : Hid (∀ A : World, (∀ k, F k → A.heap[k]? = W.heap[k]?) → W.heap.size ≤ A.heap.size → Dk.IsDisk A dg D F) := fun A hA hz => by
    obtain ⟨gd, cd, vu, ps, hl⟩ := hd
    exact ⟨gd, cd, vu, ps, hl.kept hA hz⟩
  have HFc : Hid (∀ k, F k → k < n0 ∧ ∃ o : Obj, W.heap[k]? = some o ∧ o.isCells = true) := hFc
  have HT : Hid (Tl n0 bt bb Br W) := hT
  have HBr : Hid (Box W Br (rC dg Bk (E : Int) (S0 : Int) (t : Int)) 261) := hBr
  have HJ : Hid (∀ pre A B, J pre A → Below A.heap.size A B → J pre B) := hJ
  have HY : Hid (∀ pre x W1, J pre W1 → GA D t E x W1 → pre.length < 16 → YieldAt Fence.wide (n - 1) Tryz.prog l (encG E x) W1 fun e W' => e = .returned (.bool true) ∧ J (pre ++ [x]) W' ∧ Kp bt bb W1 W') := hY
  have H0 : Hid (J [] W) := h0
  clear hd hFc hBr hT hJ hY h0
  refine callsIn_of_wp Tryz.func239 rfl trivial ?_ rfl
  simp only [Tryz.ntmps239, List.size_toArray, List.length_cons, List.length_nil, Nat.reduceAdd, Nat.reduceSub, Array.replicate_succ, Array.replicate_zero, List.push_toArray, List.append_toArray, List.nil_append, List.cons_append]
  gi_wp2
  clear c10
  gi_loopw [3, 4] (fun v3 v4 wr => ∃ (b s : Nat) (xs : List Gx), b ≤ 16 ∧ s ≤ S0 + b ∧ v3 = .int .i64 (b : Int) ∧ v4 = .int .i64 (s : Int) ∧ Upto D t E 0 S0 xs b s ∧ J xs wr ∧ (∀ k, F k → wr.heap[k]? = W.heap[k]?) ∧ Box wr Br (rC dg Bk (E : Int) (S0 : Int) (t : Int)) 261 ∧ Tl n0 bt bb Br wr ∧ W.heap.size ≤ wr.heap.size)
    (fun v3 _ _ => 17 - (intOf v3).toNat)
  case atStart => exact ⟨0, S0, [], by omega, by omega, rfl, rfl, ⟨rfl, rfl⟩, H0.out, fun _ _ => rfl, HBr.out, HT.out, Nat.le_refl _⟩
  case round =>
    obtain ⟨b, s, xs, hb, hs, rfl, rfl, hU, hJs, hFs, hBx, hTs, hz⟩ := hrel
    obtain ⟨y0, y1, y2, y3, y4, y5, y6, y7, y8, y9, y10, y11⟩ := r_cells hBx
    have cG := group_at (HD.out wr hFs hz) hnb hgn hlim Bk (S0 : Int) t E b s ht hb
    have HU : Hid (Upto D t E 0 S0 xs b s) := hU
    have HJs : Hid (J xs wr) := hJs
    have HFs : Hid (∀ k, F k → wr.heap[k]? = W.heap[k]?) := hFs
    have HBx : Hid (Box wr Br (rC dg Bk (E : Int) (S0 : Int) (t : Int)) 261) := hBx
    have HTs : Hid (Tl n0 bt bb Br wr) := hTs
    clear hU hJs hFs hBx hTs
    unfold rC at cG
    gi_wp2_with fail
    refine ⟨trivial, ?_⟩
    refine ((callsIn_wide (n := n - 1)).2 cG).mono ?_
    rintro r u1 (⟨hG, a, c, ps, rfl, ho, hj, hps, bb1⟩ | ⟨hG, rfl, bb1⟩)
    · have hfit := hG.2.1
      have hm1 : 1 ≤ cntAt D t b ∧ cntAt D t b ≤ 32 := by
        have h := hG.1.1.2.1.2.1
        simpa [cntAt] using h
      obtain ⟨m, hm⟩ : ∃ m, m = cntAt D t b := ⟨_, rfl⟩
      have HM : Hid (m = cntAt D t b) := hm
      rw [← hm] at ho hfit hm1 ⊢
      clear hm
      have al := (Below.refl u1.heap.size u1).alloc (Nat.le_refl _) (.cells #[.int .i64 (E : Int), .int .i64 (s : Int), .slice a m c] 203)
      have bz := bb1.trans (al.mono bb1.size)
      have hJz := HJ.out xs wr _ HJs.out bz
      have hTz := HTs.out.below bz
      have hGA : GA D t E ⟨b, s, m, a, c, ps⟩ (u1.alloc (.cells #[.int .i64 (E : Int), .int .i64 (s : Int), .slice a m c] 203)) := by
        refine ⟨hG, HM.out, ?_, ⟨fun p hp => ?_, hj.apart⟩, hps⟩
        · have ho' := Rc.owns_below ho al
          refine ⟨ho'.1, ?_⟩
          rcases ho'.2 with h1 | ⟨g', cap', cur, e, _, rr⟩
          · exact .inl h1
          · exact .inr ⟨g', cap', cur, e, Nat.zero_le _, rr⟩
        · obtain ⟨a1, _, a3⟩ := hj.rows p hp
          exact ⟨a1.same (al.block p.h a1.lt), Nat.zero_le _, a3⟩
      obtain ⟨fn, tmps, assign, body, hy, hR⟩ := HY.out xs ⟨b, s, m, a, c, ps⟩ _ hJz hGA (by have := HU.out.len; omega)
      dsimp only [encG] at hy
      have x5 := Dk.Box.new u1 #[.int .i64 (E : Int), .int .i64 (s : Int), .slice a m c] 203
      have hc5 : ¬ Cons bt bb (u1.alloc (.cells #[.int .i64 (E : Int), .int .i64 (s : Int), .slice a m c] 203)) u1.heap.size := fun h => by
        have hbt := (HTs.out.2 bt (.inl rfl)).2.1
        have h' := h.below bz hbt
        have h2 := (HTs.out.2 _ h').2.1
        have := bb1.size
        omega
      have HG : Hid (GOk D t E b s) := hG
      have HRs : Hid (∀ B : World, Kp bt bb (u1.alloc (.cells #[.int .i64 (E : Int), .int .i64 (s : Int), .slice a m c] 203)) B → (∀ k, F k → B.heap[k]? = W.heap[k]?) ∧ Box B Br (rC dg Bk (E : Int) (S0 : Int) (t : Int)) 261 ∧ Tl n0 bt bb Br B ∧ W.heap.size ≤ B.heap.size ∧ Box B u1.heap.size #[.int .i64 (E : Int), .int .i64 (s : Int), .slice a m c] 203) := fun B hk => by
        refine ⟨fun k hF => ?_, box_kp (HBx.out.below bz) hk (fun h => (hTz.2 _ h).2.2 rfl), hTz.kp hk (by have := bz.size; omega), by have := bz.size; have := hk.size; omega, box_kp x5 hk hc5⟩
        obtain ⟨h1, o, h2, h3⟩ := HFc.out k hF
        have h4 : (u1.alloc (.cells #[.int .i64 (E : Int), .int .i64 (s : Int), .slice a m c] 203)).heap[k]? = some o := (bz.block k (by omega)).trans ((HFs.out k hF).trans h2)
        rw [hk.block k o h4 h3 (fun h => by have := (hTz.2 _ h).1; omega), h2]
      have cB := Rc.blocks_at (m : Int)
      have ebl : Rc.blocksN (m : Int) = ((m + 1 : Nat) : Int) := by
        unfold Rc.blocksN
        rw [if_pos (by omega)]
        omega
      rw [ebl] at cB
      clear ebl cG bb1 bz al hJz hTz hGA ho hj hps hG y0 y1 y2 y3 y4 y5 y6 y7 y8 y9 y10 y11
      have q0 := x5.cell 0
      have q1 := x5.cell 1
      have q2 := x5.cell 2
      simp at q0 q1 q2
      gi_wp2_with fail
      refine hR.mono ?_
      rintro e W3 ⟨rfl, hJ3, hk3⟩
      obtain ⟨f1, f2, f3, f4, f5⟩ := HRs.out W3 hk3
      have e2 := f5.cell 2
      simp at e2
      have HJ3 : Hid (J (xs ++ [⟨b, s, m, a, c, ps⟩]) W3) := hJ3
      have HF1 : Hid (∀ k, F k → W3.heap[k]? = W.heap[k]?) := f1
      have HF2 : Hid (Box W3 Br (rC dg Bk (E : Int) (S0 : Int) (t : Int)) 261) := f2
      have HF3 : Hid (Tl n0 bt bb Br W3) := f3
      clear hJ3 f1 f2 f3 hk3 hR q0 q1 q2 hy HRs
      gi_wp2_with fail
      refine ⟨trivial, ?_⟩
      refine ((callsIn_wide (n := n - 1)).2 (cB W3)).mono ?_
      rintro r W4 ⟨rfl, rfl⟩
      gi_wp2_with fail
      go_roundw
      case rel => exact ⟨b + (m + 1), s + 1, _, hfit, by omega, by push_cast; rfl, by push_cast; rfl, by have h := HU.out.snoc (x := ⟨b, s, m, a, c, ps⟩) ⟨rfl, rfl, HG.out, HM.out⟩; rw [← HM.out] at h; exact h, HJ3.out, HF1.out, HF2.out, HF3.out, f4⟩
      case measure => simp [intOf]; omega
    · have bz := bb1.alloc bb1.size (.cells #[.int .i64 0, .int .i64 0, .slice none 0 0] 203)
      have hJz := HJ.out xs wr _ HJs.out bz
      have hRun := HU.out.done hG
      clear cG bb1 bz y0 y1 y2 y3 y4 y5 y6 y7 y8 y9 y10 y11
      gi_wp2_with fail
      refine bodyPost_ret (results_none rfl _ _ _) rfl ?_
      exact ⟨⟨_, rfl⟩, xs, hRun, hJz⟩
end Go.Proofs.YtnldkpckojhbhaaGreat.S

/-
  The reader's groups as a function that is ranged over.
-/
namespace Go.Proofs.YtnldkpckojhbhaaGreat.S
open Go.RowKit Go.Shelf
open Go.Proofs.YtnldkpckojhbhaaGreat.Dk (Box)

theorem hands9 (n : Nat) (hn : 1 ≤ n) (Br bt bb dg n0 : Nat) (D : Dk.DS) (F : Nat → Prop) (t E S0 : Nat) (Bk : Int) (ht : t < 16) (hnb : D.nb = 64) (hgn : D.gone = false) (hlim : D.uf.length ≤ 1000000) (hS0 : S0 ≤ 549755813888) (w : World)
    (hd : Dk.IsDisk w dg D F) (hFc : ∀ k, F k → k < n0 ∧ ∃ o : Obj, w.heap[k]? = some o ∧ o.isCells = true) (hBr : Box w Br (rC dg Bk (E : Int) (S0 : Int) (t : Int)) 261) (hT : Tl n0 bt bb Br w) (hn0 : n0 ≤ w.heap.size) :
    Hands Fence.wide n Tryz.prog 239 #[.pointer (some ⟨Br, 0, none⟩)] (encG E) (fun pre x W => GA D t E x W ∧ pre.length < 16) (Kp bt bb) (Run D t E 0 S0) w := by
  intro l J W b hA hY h0
  refine prod_in n hn l Br bt bb dg n0 D F t E S0 Bk ht hnb hgn hlim hS0 J W (hd.below b) (fun k hk => ?_) (hBr.below b) (hT.below b) (by have := b.size; omega) (fun pre A B hs hb => ?_) (fun pre x W1 hj hg hp => hY pre x W1 hj ⟨hg, hp⟩) h0
  · obtain ⟨h1, o, h2, h3⟩ := hFc k hk
    exact ⟨h1, o, (b.block k (by omega)).trans h2, h3⟩
  · exact hA pre A B none hs ⟨hb.os, hb.tape, hb.output, hb.size, fun k hk _ => hb.block k hk⟩ (fun r e => by cases e)
theorem reader_at (w : World) (dg : Nat) (Bk E S t : Int) : Calls Tryz.prog 206 #[.agg (rC dg Bk E S t)] w fun r w' => r = .returned (.func (.func 239) #[] #[.pointer (some ⟨w.heap.size, 0, none⟩)]) ∧ Box w' w.heap.size (rC dg Bk E S t) 261 ∧ Below w.heap.size w w' := by
  have b := (Below.refl w.heap.size w).alloc (Nat.le_refl _) (.cells (rC dg Bk E S t) 261)
  have x := Dk.Box.new w (rC dg Bk E S t) 261
  unfold rC at b x ⊢
  go_enter Tryz.func206, Tryz.ntmps206
  go_wp2_with fail
  go_ret
  exact ⟨rfl, x, b⟩
/-- of a disk's own blocks those that hold cells are enough -/
theorem disk_cells {w : World} {g : Nat} {D : Dk.DS} {F : Nat → Prop} (h : Dk.IsDisk w g D F) : Dk.IsDisk w g D (fun k => F k ∧ ∃ o : Obj, w.heap[k]? = some o ∧ o.isCells = true) := by
  obtain ⟨gd, cd, vu, ps, h⟩ := h
  refine ⟨gd, cd, vu, ps, ⟨h.box, h.dur, h.row, h.len, fun k h1 h2 => ?_, ⟨h.fg, _, h.box, rfl⟩, ⟨h.fd, ?_⟩, fun k hk => ⟨h.fu k hk, ?_⟩, fun i hi => h.flt i hi.1, h.ok⟩⟩
  · obtain ⟨a, b, c, d⟩ := h.each k h1 h2
    refine ⟨a, b, c, d, ?_⟩
    obtain ⟨cur, hb, _⟩ := b
    exact ⟨_, hb, rfl⟩
  · obtain ⟨cur, hb, _⟩ := h.dur
    exact ⟨_, hb, rfl⟩
  · obtain ⟨_, cur, hb⟩ := Rc.owns_block h.row k hk
    exact ⟨_, hb, rfl⟩
end Go.Proofs.YtnldkpckojhbhaaGreat.S

/-
  What holds while Groups ranges over its groups.
-/
namespace Go.Proofs.YtnldkpckojhbhaaGreat.S
open Go.RowKit Go.Shelf
open Go.Proofs.YtnldkpckojhbhaaGreat.Dk (Box)

/-- how many places they take -/
def tot (xs : List Gx) : Nat := (xs.map fun x => x.m + 1).sum
/-- groups as cells -/
def gsC (E : Nat) (xs : List Gx) : List Value := xs.flatMap fun x => [.int .i64 (E : Int), .int .i64 (x.s : Int), .slice x.a x.m x.c]
theorem tot_snoc (xs : List Gx) (x : Gx) : tot (xs ++ [x]) = tot xs + (x.m + 1) := by simp [tot]
theorem gsC_snoc (E : Nat) (xs : List Gx) (x : Gx) : gsC E (xs ++ [x]) = gsC E xs ++ [.int .i64 (E : Int), .int .i64 (x.s : Int), .slice x.a x.m x.c] := by simp [gsC]

/-- cells stand but for those of k -/
theorem GA.kept {D : Dk.DS} {t E : Nat} {x : Gx} {W W' : World} (h : GA D t E x W) (hk : ∀ (k : Nat) (cs : Array Value) (ty : TypeId), Box W k cs ty → ty = 89 ∨ ty = 5 → W'.heap[k]? = W.heap[k]?) : GA D t E x W' := by
  obtain ⟨h1, h2, h3, h4, h5⟩ := h
  refine ⟨h1, h2, J.owns_kept h3 (fun k hk' => ?_), ⟨fun p hp => ?_, h4.apart⟩, h5⟩
  · obtain ⟨_, cur, hb⟩ := Rc.owns_block h3 k hk'
    exact hk k _ _ hb (.inl rfl)
  · obtain ⟨a1, a2⟩ := h4.rows p hp
    obtain ⟨cur, hb, rest⟩ := a1
    exact ⟨Rc.RowB.same ⟨cur, hb, rest⟩ (hk p.h _ _ hb (.inr rfl)), a2⟩

structure I9 (w : World) (D : Dk.DS) (t E S0 dg bt bb rd : Nat) (pre : List Gx) (W : World) : Prop where
  row : ∃ v, Box W bt #[v] 161 ∧ W.ownsRow w.heap.size 203 3 v pre.length (gsC E pre)
  sum : Box W bb #[.int .i64 (tot pre : Int)] 3
  all : ∀ x ∈ pre, GA D t E x W
  rdr : Box W rd (rC dg 64 (E : Int) (S0 : Int) (t : Int)) 261
  o2 : Box W (w.heap.size + 2) #[.slice none 0 0] 161
  o3 : Box W (w.heap.size + 3) #[.int .i64 0] 3
  o4 : Box W (w.heap.size + 4) #[.int .i64 0] 26
  bel : Below w.heap.size w W
section
variable {w W W' : World} {D : Dk.DS} {t E S0 dg bt bb rd : Nat} {pre : List Gx}
theorem I9.kept (h : I9 w D t E S0 dg bt bb rd pre W) (hk : ∀ (k : Nat) (cs : Array Value) (ty : TypeId), Box W k cs ty → W'.heap[k]? = W.heap[k]?) (b : Below w.heap.size w W') : I9 w D t E S0 dg bt bb rd pre W' := by
  obtain ⟨⟨v, h1, h2⟩, h3, h4, h5, h6, h7, h8, _⟩ := h
  refine ⟨⟨v, (hk _ _ _ h1).trans h1, J.owns_kept h2 (fun k hk' => ?_)⟩, (hk _ _ _ h3).trans h3, fun x hx => (h4 x hx).kept (fun k cs ty hb _ => hk k cs ty hb), (hk _ _ _ h5).trans h5, (hk _ _ _ h6).trans h6, (hk _ _ _ h7).trans h7, (hk _ _ _ h8).trans h8, b⟩
  obtain ⟨_, cur, hb⟩ := Rc.owns_block h2 k hk'
  exact hk k _ _ hb
theorem I9.own {B : Nat} (hB : w.heap.size ≤ B) : OwnFrom B (fun pre W => I9 w D t E S0 dg bt bb rd pre W) := fun pre A C row hs hg hr =>
  I9.kept hs (fun k cs ty hb => hg.block k hb.lt (fun e => by
    obtain ⟨_, o, ho, hc⟩ := hr k e.symm
    have hb' : A.heap[k]? = some (.cells cs ty) := hb
    rw [hb'] at ho
    cases ho
    cases hc)) (hs.bel.grown hg hs.bel.size (fun k e => Nat.le_trans hB (hr k e).1))
theorem I9.below (h : I9 w D t E S0 dg bt bb rd pre W) (b : Below W.heap.size W W') : I9 w D t E S0 dg bt bb rd pre W' := h.kept (fun k _ _ hb => b.block k hb.lt) (h.bel.trans (b.mono h.bel.size))
/-- one of the range's own objects is turned -/
theorem kp_put {B l : Nat} {o : Obj} (o' : Obj) (hbt : bt < B) (hl : B ≤ l) (ho : W.heap[l]? = some o) (hc : o.isCells = false) : Kp bt bb W (W.putObj l o') := by
  have hlt := (Array.getElem?_eq_some_iff.1 ho).1
  refine ⟨by simp [World.putObj], fun k o2 h2 c2 _ => ?_, fun k hk => .inl ?_⟩
  · by_cases hkl : k = l
    · subst hkl
      rw [ho] at h2
      cases h2
      rw [hc] at c2
      cases c2
    · exact (World.putObj_heap_other hkl).trans h2
  · rcases hk with h | h | ⟨v, h1, h2⟩
    · exact .inl h
    · exact .inr (.inl h)
    · refine .inr (.inr ⟨v, ?_, h2⟩)
      rw [← h1]
      exact (World.cell?_of_block (World.putObj_heap_other (by show bt ≠ l; omega))).symm
end
end Go.Proofs.YtnldkpckojhbhaaGreat.S

/-
  The law's images, made of a number; the layout of its disk.
-/
namespace Go.Proofs.YtnldkpckojhbhaaGreat.S
open Go.RowKit
open Go.Proofs.YtnldkpckojhbhaaGreat.Rc (GG GetJ imgC madeL RowB owns_below owns_shape owns_block)

/-- k images, made of z -/
def im9 (z : Int) (k : Nat) : List (Int × List UInt8) := (List.range k).map fun (i : Nat) => (30 + (i : Int), madeL (IntKind.i64.wrap (z + (i : Int))) 4096)
theorem im9_succ (z : Int) (k : Nat) : im9 z (k + 1) = im9 z k ++ [(30 + (k : Int), madeL (IntKind.i64.wrap (z + (k : Int))) 4096)] := by simp [im9, List.range_succ]
theorem im9_length (z : Int) (k : Nat) : (im9 z k).length = k := by simp [im9]

def lay : Array Value := #[.int .i64 64, .int .i64 2, .int .i64 16, .int .i64 18, .int .i64 19, .int .i64 4, .int .i64 23]
theorem lay64 : La.layA 64 = lay := by
  have hL : La.lgs 64 = 16 := by decide
  simp [La.layA, hL, lay]
theorem ref64 (w : World) : Calls Tryz.prog 105 #[.int .i64 64] w fun r w' => r = .returned (.tuple #[.agg lay, .int .i64 0]) ∧ Below w.heap.size w w' := by
  have c := La.ref_good 64 w (by decide) (by decide)
  rw [lay64] at c
  exact c
end Go.Proofs.YtnldkpckojhbhaaGreat.S

/-
  What goes wrong ahead of all reading: nothing, of a right disk, layout and start.
-/
namespace Go.Proofs.YtnldkpckojhbhaaGreat.S
open Go.RowKit
open Go.Proofs.YtnldkpckojhbhaaGreat.Dk (Box)

theorem neq41 (u : World) : (binOp .neq 57 (.agg lay) (.agg lay)).run Tryz.prog u = .ok (.bool false) u := by
  have h := J.neq40 u 64
  rw [lay64] at h
  exact h
theorem right_at (B E S t : Int) (w : World) (ht : 0 ≤ t ∧ t ≤ 15) (hE : 1 ≤ E ∧ E ≤ 8388608) (hS : 1 ≤ S ∧ S ≤ 549755813888) :
    Calls Tryz.prog 238 #[.agg lay, .agg #[.int .i64 B, .int .i64 E, .int .i64 S, .int .i64 t]] w fun r w' => r = .returned (.bool true) ∧ Below w.heap.size w w' := by
  have B0 := ((Below.refl w.heap.size w).alloc (Nat.le_refl _) (.cells lay 57)).alloc (by simp) (.cells #[.int .i64 B, .int .i64 E, .int .i64 S, .int .i64 t] 141)
  unfold lay at B0 ⊢
  go_enter Tryz.func238, Tryz.ntmps238
  go_wp2_with fail
  refine (within_at _ _ _ _).mono ?_
  rintro r u1 ⟨rfl, rfl⟩
  rw [decide_eq_true (by omega)]
  go_wp2_with fail
  refine (within_at _ _ _ _).mono ?_
  rintro r u1 ⟨rfl, rfl⟩
  rw [decide_eq_true hE]
  go_wp2_with fail
  refine (within_at _ _ _ _).mono ?_
  rintro r u1 ⟨rfl, rfl⟩
  rw [decide_eq_true hS]
  go_wp2_with fail
  go_ret
  exact ⟨rfl, B0⟩
theorem ahead_ok {w : World} {dg : Nat} {D : Dk.DS} {F : Nat → Prop} (hd : Dk.IsDisk w dg D F) (hnb : D.nb = 64) (E S t : Int) (ht : 0 ≤ t ∧ t ≤ 15) (hE : 1 ≤ E ∧ E ≤ 8388608) (hS : 1 ≤ S ∧ S ≤ 549755813888) :
    Calls Tryz.prog 205 #[.pointer (some ⟨dg, 0, none⟩), .agg lay, .agg #[.int .i64 64, .int .i64 E, .int .i64 S, .int .i64 t]] w fun r w' => r = .returned (.int .i64 0) ∧ Below w.heap.size w w' := by
  have hq := neq41
  have B0 := ((Below.refl w.heap.size w).alloc (Nat.le_refl _) (.cells lay 57)).alloc (by simp) (.cells #[.int .i64 64, .int .i64 E, .int .i64 S, .int .i64 t] 141)
  have l0 := (Dk.Box.new w lay 57).alloc (.cells #[.int .i64 64, .int .i64 E, .int .i64 S, .int .i64 t] 141)
  have l1 : Box ((w.alloc (.cells lay 57)).alloc (.cells #[.int .i64 64, .int .i64 E, .int .i64 S, .int .i64 t] 141)) (w.heap.size + 1) #[.int .i64 64, .int .i64 E, .int .i64 S, .int .i64 t] 141 := Rg.Box.next w _ _ 141
  have c1 : Calls Tryz.prog 88 #[.pointer (some ⟨dg, 0, none⟩)] ((w.alloc (.cells lay 57)).alloc (.cells #[.int .i64 64, .int .i64 E, .int .i64 S, .int .i64 t] 141)) fun e w' => e = .returned (.int .i64 (D.nb : Int)) ∧ ((w.alloc (.cells lay 57)).alloc (.cells #[.int .i64 64, .int .i64 E, .int .i64 S, .int .i64 t] 141)) = w' := by
    obtain ⟨gd, cd, vu, ps, h⟩ := hd
    exact Dk.size_at (h.kept (fun i hi => B0.block i (h.flt i hi)) B0.size)
  rw [hnb] at c1
  have c2 := fun u => La.of_good 64 u (by decide) (by decide)
  rw [lay64] at c2
  have c3 := fun u => right_at 64 E S t u ht hE hS
  clear hd
  unfold lay at *
  go_enter Tryz.func205, Tryz.ntmps205
  go_wp2_with fail
  refine Calls.mono c1 ?_
  rintro r u1 ⟨rfl, rfl⟩
  go_wp2_with fail
  refine Calls.mono (c2 _) ?_
  rintro r u1 ⟨rfl, b1⟩
  have B1 := B0.trans (b1.mono B0.size)
  have l2 := (l0.below b1).alloc (.cells #[.int .i64 64, .int .i64 2, .int .i64 16, .int .i64 18, .int .i64 19, .int .i64 4, .int .i64 23] 57)
  have l3 := (l1.below b1).alloc (.cells #[.int .i64 64, .int .i64 2, .int .i64 16, .int .i64 18, .int .i64 19, .int .i64 4, .int .i64 23] 57)
  have B2 := B1.alloc B1.size (.cells #[.int .i64 64, .int .i64 2, .int .i64 16, .int .i64 18, .int .i64 19, .int .i64 4, .int .i64 23] 57)
  clear b1 c1 c2 l0 l1
  have y0 := l2.cell 0
  have y1 := l2.cell 1
  have y2 := l2.cell 2
  have y3 := l2.cell 3
  have y4 := l2.cell 4
  have y5 := l2.cell 5
  have y6 := l2.cell 6
  have x0 := l3.cell 0
  have x1 := l3.cell 1
  have x2 := l3.cell 2
  have x3 := l3.cell 3
  simp at y0 y1 y2 y3 y4 y5 y6 x0 x1 x2 x3
  go_wp2_with fail
  refine Calls.mono (c3 _) ?_
  rintro r u2 ⟨rfl, b2⟩
  have B3 := B2.trans (b2.mono B2.size)
  go_wp2_with fail
  go_ret
  exact ⟨rfl, B3⟩
end Go.Proofs.YtnldkpckojhbhaaGreat.S

/-
  The law's disk with groups appended, as many as there is room for.
-/
namespace Go.Proofs.YtnldkpckojhbhaaGreat.S
open Go.RowKit
open Go.Proofs.YtnldkpckojhbhaaGreat.Dk (Box)
open Go.Proofs.YtnldkpckojhbhaaGreat.J (JD JTo ics grow owns_kept upd_below pk pk_in pick_eq)

/-- images whose memory is none of F -/
def ImF (F : Nat → Prop) (w : World) (al : Option Addr) (n cl : Nat) (is : List (Int × List UInt8)) : Prop :=
  ∃ qs : List Rc.GG, w.ownsRow 0 89 2 (.slice al n cl) n (Rc.imgC qs) ∧ Rc.GetJ 0 w qs ∧ qs.length = n ∧ qs.map (fun p => (p.b, p.xs)) = is ∧ (∀ k, (Value.slice al n cl).ownBlock = some k → ¬ F k) ∧ ∀ q ∈ qs, ¬ F q.h
section
variable {F F' : Nat → Prop} {w w' : World} {al : Option Addr} {n cl : Nat} {is : List (Int × List UInt8)}
theorem ImF.upd (h : ImF F w al n cl is) (u : Dk.Upd F w w') (hF : ∀ i, F' i → F i ∨ w.heap.size ≤ i) : ImF F' w' al n cl is := by
  obtain ⟨qs, h1, h2, h3, h4, h5, h6⟩ := h
  refine ⟨qs, owns_kept h1 (fun k hk => u.block k (h1.lt k hk).2 (h5 k hk)), ⟨fun p hp => ?_, h2.apart⟩, h3, h4, fun k hk hf => (hF k hf).elim (h5 k hk) (fun h => by have := (h1.lt k hk).2; omega), fun q hq hf => (hF q.h hf).elim (h6 q hq) (fun h => by have := (h2.rows q hq).1.lt; omega)⟩
  obtain ⟨a1, a2⟩ := h2.rows p hp
  exact ⟨a1.same (u.block p.h a1.lt (h6 p hp)), a2⟩
theorem ImF.keep (h : ImF F w al n cl is) (hk : ∀ k, k < w.heap.size → ¬ F k → w'.heap[k]? = w.heap[k]?) : ImF F w' al n cl is := by
  obtain ⟨qs, h1, h2, h3, h4, h5, h6⟩ := h
  refine ⟨qs, owns_kept h1 (fun k hk' => hk k (h1.lt k hk').2 (h5 k hk')), ⟨fun p hp => ?_, h2.apart⟩, h3, h4, h5, h6⟩
  obtain ⟨a1, a2⟩ := h2.rows p hp
  exact ⟨a1.same (hk p.h a1.lt (h6 p hp)), a2⟩
theorem ImF.below (h : ImF F w al n cl is) (b : Below w.heap.size w w') : ImF F w' al n cl is := h.upd (upd_below b) (fun _ h => .inl h)
theorem ImF.imgs (h : ImF F w al n cl is) : Rc.Imgs w al is := by
  obtain ⟨qs, h1, h2, h3, h4, _⟩ := h
  have := Rc.imgs_of h1 h2 h3
  rwa [h4] at this
theorem ImF.kept (h : ImF F w al n cl is) (hk : ∀ k, k < w.heap.size → (∀ cur, ¬ Box w k cur 29) → w'.heap[k]? = w.heap[k]?) : ImF F w' al n cl is := by
  obtain ⟨qs, h1, h2, h3, h4, h5, h6⟩ := h
  refine ⟨qs, owns_kept h1 (fun k hk' => hk k (h1.lt k hk').2 (fun cur hb => ?_)), ⟨fun p hp => ?_, h2.apart⟩, h3, h4, h5, h6⟩
  · obtain ⟨_, cur', hb'⟩ := Rc.owns_block h1 k hk'
    exact hb.ne hb' (by decide) rfl
  · obtain ⟨a1, a2⟩ := h2.rows p hp
    refine ⟨a1.same (hk p.h a1.lt (fun cur hb => ?_)), a2⟩
    obtain ⟨cur', hb', _⟩ := a1
    exact hb.ne hb' (by decide) rfl
end


/-- a group that was appended: how many images, what they were made of, where they lie -/
structure G9 where
  n : Nat
  z : Int
  al : Option Addr
  cl : Nat
/-- the law's disk and what was appended to it -/
structure W9 where
  D : Dk.DS
  U : Nat
  gs : List (Nat × Int)
/-- so many images are made of z -/
def n9 (z : Int) : Nat := 1 + (pk z 5).toNat
theorem n9_in (z : Int) : 1 ≤ n9 z ∧ n9 z ≤ 5 := by
  have := pk_in z 5 (by decide)
  unfold n9
  omega
open Classical in
/-- one more, if there is room -/
noncomputable def step9 (e t : Nat) (s : W9) (z : Int) : W9 :=
  if s.U + (n9 z + 1) ≤ 16 then ⟨grow s.D 16 ((t + s.U) % 16) (Rc.putL e (s.gs.length + 1) (im9 z (n9 z))) (n9 z + 1), s.U + (n9 z + 1), s.gs ++ [(n9 z, z)]⟩ else s
/-- behind the first k numbers -/
noncomputable def st9 (e t : Nat) (zs : List Int) (k : Nat) : W9 := (zs.take k).foldl (step9 e t) ⟨Dk.DS.new 64 (Dk.nought (64 * 4096)), 0, []⟩
theorem st9_succ (e t : Nat) (zs : List Int) (k : Nat) (h : k < zs.length) : st9 e t zs (k + 1) = step9 e t (st9 e t zs k) zs[k] := by
  unfold st9
  rw [List.take_succ_eq_append_getElem h, List.foldl_append]
  rfl
/-- what holds of each -/
def Ok9 (s : W9) (k : Nat) : Prop := J.Calm s.D ∧ s.D.nb = 64 ∧ s.D.uf.length ≤ 6 * k ∧ s.D.n ≤ 6 * k ∧ s.U ≤ 16 ∧ s.gs.length ≤ k ∧ ∀ q ∈ s.gs, 1 ≤ q.1 ∧ q.1 ≤ 5
theorem ok9_step {s : W9} {k : Nat} (h : Ok9 s k) (e t : Nat) (z : Int) : Ok9 (step9 e t s z) (k + 1) := by
  obtain ⟨h1, h2, h3, h4, h5, h6, h7⟩ := h
  have hn := n9_in z
  unfold step9
  split
  · rename_i hr
    refine ⟨h1, h2, ?_, ?_, hr, by simp; omega, fun q hq => ?_⟩
    · show (s.D.uf ++ J.wrs 16 _ _ (n9 z + 1)).length ≤ _
      rw [List.length_append, J.wrs_length]
      omega
    · show s.D.n + (n9 z + 1) ≤ _
      omega
    · rcases List.mem_append.1 hq with hq | hq
      · exact h7 q hq
      · obtain rfl : q = (n9 z, z) := by simpa using hq
        exact hn
  · exact ⟨h1, h2, by omega, by omega, h5, by omega, h7⟩
theorem ok9 (e t : Nat) (zs : List Int) : ∀ k, k ≤ zs.length → Ok9 (st9 e t zs k) k
  | 0, _ => ⟨J.calm_new _ _, rfl, Nat.le_refl _, Nat.le_refl _, Nat.zero_le _, Nat.le_refl _, fun q hq => (by cases hq)⟩
  | k + 1, h => by rw [st9_succ e t zs k (by omega)]; exact ok9_step (ok9 e t zs k (by omega)) e t _
/-- the groups' sizes -/
def sz9 (gs : List (Nat × Int)) : List Int := gs.map fun q => ((q.1 + 1 : Nat) : Int)
/-- the lists of images as cells -/
def alC (qs : List G9) : List Value := qs.map fun q => .slice q.al q.n q.cl
/-- all of it in memory -/
structure Sw (w : World) (g dg e t : Nat) (s : W9) (v : Value) (qs : List G9) (u : World) : Prop where
  ex : ∃ F, JD u g dg ⟨2, (e : Int), ((s.gs.length + 1 : Nat) : Int), 0, 16, (t : Int), (s.U : Int), 0, false⟩ (sz9 s.gs) s.D F ∧ (∀ q ∈ qs, ImF (fun k => F k ∨ k < w.heap.size) u q.al q.n q.cl (im9 q.z q.n)) ∧ (∀ k, v.ownBlock = some k → ¬ F k) ∧ (∀ k, F k → w.heap.size ≤ k)
  row : u.ownsRow w.heap.size 29 1 v qs.length (alC qs)
  same : qs.map (fun q => (q.n, q.z)) = s.gs
  bel : Below w.heap.size w u

theorem img_len9 (f : Nat → List UInt8) (n : Nat) (hf : ∀ i, (f i).length = 4096) : ∀ i ∈ (List.range n).map fun (i : Nat) => ((30 + (i : Int) : Int), f i), i.2.length = 4096 := by
  intro i hi
  obtain ⟨j, _, e⟩ := List.mem_map.1 hi
  rw [← e]
  exact hf j
theorem madeL_len (s : Int) (n : Nat) : (Rc.madeL s n).length = n := Rc.madeK_length s n n
/-- the images are right ones -/
theorem im9_ok (e s : Int) (z : Int) (n : Nat) (h1 : 1 ≤ n) (h2 : n ≤ 32) (hs : Rc.okStamp e s = true) : Rc.okGroup e s (im9 z n) := by
  have hf : (im9 z n).map (·.1) = (List.range n).map fun (i : Nat) => 30 + (i : Int) := by
    refine List.ext_getElem (by simp [im9]) fun i _ _ => ?_
    simp [im9]
  refine ⟨⟨hs, ?_, ?_⟩, fun i hi => ?_⟩
  · rw [hf]
    simpa using ⟨h1, h2⟩
  · rw [hf]
    intro j hj _
    simp only [List.length_map, List.length_range] at hj
    rw [List.getElem_map, List.getElem_range]
    refine ⟨by omega, fun hm => ?_⟩
    obtain ⟨i, hi, hie⟩ := List.getElem_of_mem hm
    have hi2 : i < j := by simp at hi; omega
    simp at hie
    omega
  · exact img_len9 (fun i => Rc.madeL (IntKind.i64.wrap (z + (i : Int))) 4096) n (fun i => madeL_len (IntKind.i64.wrap (z + (i : Int))) 4096) i hi

section
variable {w u u' : World} {g dg e t : Nat} {s : W9} {v : Value} {qs : List G9}
/-- beside it images that were made -/
structure SwI (w : World) (g dg e t : Nat) (s : W9) (v : Value) (qs : List G9) (q : G9) (u : World) : Prop where
  ex : ∃ F, (JD u g dg ⟨2, (e : Int), ((s.gs.length + 1 : Nat) : Int), 0, 16, (t : Int), (s.U : Int), 0, false⟩ (sz9 s.gs) s.D F ∧ (∀ q ∈ qs, ImF (fun k => F k ∨ k < w.heap.size) u q.al q.n q.cl (im9 q.z q.n)) ∧ (∀ k, v.ownBlock = some k → ¬ F k) ∧ (∀ k, F k → w.heap.size ≤ k)) ∧ ImF (fun k => F k ∨ k < w.heap.size) u q.al q.n q.cl (im9 q.z q.n)
  row : u.ownsRow w.heap.size 29 1 v qs.length (alC qs)
  same : qs.map (fun q => (q.n, q.z)) = s.gs
  bel : Below w.heap.size w u
theorem Sw.below (h : Sw w g dg e t s v qs u) (b : Below u.heap.size u u') : Sw w g dg e t s v qs u' := by
  obtain ⟨⟨F, j, im, hv, hF⟩, r, sm, bl⟩ := h
  exact ⟨⟨F, j.below j.flt b b.size, fun q hq => (im q hq).below b, hv, hF⟩, Rc.owns_below r b, sm, bl.trans (b.mono bl.size)⟩
theorem Sw.img {q : G9} (h : Sw w g dg e t s v qs u) (hI : ∀ F : Nat → Prop, (∀ k, F k → k < u.heap.size) → ImF F u' q.al q.n q.cl (im9 q.z q.n)) (b : Below u.heap.size u u') : SwI w g dg e t s v qs q u' := by
  obtain ⟨⟨F, j, im, hv, hF⟩, r, sm, bl⟩ := h
  exact ⟨⟨F, ⟨j.below j.flt b b.size, fun q hq => (im q hq).below b, hv, hF⟩, hI _ (fun k hk => hk.elim (j.flt k) (fun h => Nat.lt_of_lt_of_le h bl.size))⟩, Rc.owns_below r b, sm, bl.trans (b.mono bl.size)⟩
theorem SwI.sw {q : G9} (h : SwI w g dg e t s v qs q u) : Sw w g dg e t s v qs u := by
  obtain ⟨⟨F, x, _⟩, r, sm, bl⟩ := h
  exact ⟨⟨F, x⟩, r, sm, bl⟩
end
end Go.Proofs.YtnldkpckojhbhaaGreat.S
