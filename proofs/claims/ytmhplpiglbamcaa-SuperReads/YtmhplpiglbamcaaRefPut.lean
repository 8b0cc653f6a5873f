/-
  The document's own Puts.
-/
import Derived.Test.YtmhplpiglbamcaaRef
import Derived.Test.YtmhplpiglbamcaaSame
import Derived.Test.YtmhplpiglbamcaaLoads
namespace Go.Proofs.Ytmhplpiglbamcaa
open Go.RowKit

/-- add: a number, in so many bytes -/
theorem refadd_at (cap n N : Nat) (a : Option Addr) (xs : List UInt8) (v : Nat) (V S : Int) (w : World) (hV : V = (v : Int)) (hS : S = (N : Int)) (hl : xs.length = n) (hv : v < 9223372036854775808) (hN0 : 0 < N) (hN : N ≤ 8) (hn : n ≤ 140737488355300) (hr : Rd w a xs) (hnil : a = none → cap = 0) :
    Calls Try.prog 59 #[.slice a n cap, .int .i64 V, .int .i64 S] w fun e w' => ∃ v', e = .returned v' ∧ w'.ownsRow w.heap.size 5 1 v' (n + N) (bcs (xs ++ toBE N v)) ∧ Below w.heap.size w w' := by
  subst hV hS
  have c := refAdd_at cap n N a xs v v N w rfl rfl hl (by omega) hN0 hN hn hr hnil
  clear hl
  go_enter Try.func59, Try.ntmps59
  go_wp2_with fail
  refine c.mono ?_
  rintro e w1 ⟨v', rfl, ho, hb⟩
  go_wp2
  go_ret
  exact ⟨_, rfl, ho, hb⟩

/-- The class: these slots hold these values, and the box is there. -/
def SlotsBox (ps : List (Nat × Value)) (G : Nat) (cs : Array Value) (t : TypeId) (a : Act) (u : World) : Prop := (∀ p ∈ ps, a.eval (.tmp p.1) = p.2) ∧ Box u G cs t
theorem SlotsBox.put {ps : List (Nat × Value)} {G : Nat} {cs : Array Value} {t : TypeId} {a : Act} {u : World} (s : Nat) (v : Value) (hs : (ps.all fun p => p.1 != s) = true) :
    SlotsBox ps G cs t (a.put (some s) v) u ↔ SlotsBox ps G cs t a u := by
  have e : ∀ p ∈ ps, (a.put (some s) v).eval (.tmp p.1) = a.eval (.tmp p.1) := fun p hp => Act.eval_put (fun d hd => by
    have h1 := (List.all_eq_true.1 hs) p hp
    simp at h1 hd
    subst hd
    intro h
    injection h with h
    exact h1 h)
  constructor
  · rintro ⟨h, hb⟩
    exact ⟨fun p hp => (e p hp).symm.trans (h p hp), hb⟩
  · rintro ⟨h, hb⟩
    exact ⟨fun p hp => (e p hp).trans (h p hp), hb⟩

set_option maxRecDepth 100000 in
set_option maxHeartbeats 4000000 in
theorem refPutSuper_ok (b e q t : Nat) (w : World) (hb : 64 ≤ b ∧ b ≤ 512) (he : 1 ≤ e ∧ e ≤ 8388608) (hq : 1 ≤ q ∧ q ≤ 549755813888) (ht : 0 ≤ t ∧ t ≤ 511) :
    Calls Try.prog 22 #[.agg #[.int .i64 b, .int .i64 e, .int .i64 q, .int .i64 t]] w fun r w' => Puts w w' (some (superB b e q t)) r := by
  have B0 := (Below.refl w.heap.size w).alloc (Nat.le_refl _) (.cells #[.int .i64 b, .int .i64 e, .int .i64 q, .int .i64 t] 27)
  have x0 := Box.new w #[.int .i64 b, .int .i64 e, .int .i64 q, .int .i64 t] 27
  go_enter Try.func22, Try.ntmps22
  go_wp2_with fail
  obtain ⟨W, hW⟩ : ∃ W, W = w.alloc (.cells #[.int .i64 (b : Int), .int .i64 e, .int .i64 q, .int .i64 t] 27) := ⟨_, rfl⟩
  rw [← hW] at x0 B0 ⊢
  clear hW
  refine wp_region_any (by kernel_rfl) ?_
  change wpAny _ _ _ _ _ _ _ (World.drew _)
  -- the addresses first
  refine wpAny_take (i := 2) (v := ?_) rfl (by kernel_rfl) (by kernel_rfl) (by kernel_rfl) (fun _ _ _ h => h) (Or.inl ⟨by rfl, ?_⟩) ?_
  rotate_left
  · intro w
    go_simp
    with_reducible rfl
  refine wpAny_take (i := 5) (v := ?_) rfl (by kernel_rfl) (by kernel_rfl) (by kernel_rfl) (fun _ _ _ h => h) (Or.inl ⟨by rfl, ?_⟩) ?_
  rotate_left
  · intro w
    go_simp
    with_reducible rfl
  refine wpAny_take (i := 8) (v := ?_) rfl (by kernel_rfl) (by kernel_rfl) (by kernel_rfl) (fun _ _ _ h => h) (Or.inl ⟨by rfl, ?_⟩) ?_
  rotate_left
  · intro w
    go_simp
    with_reducible rfl
  refine wpAny_take (i := 11) (v := ?_) rfl (by kernel_rfl) (by kernel_rfl) (by kernel_rfl) (fun _ _ _ h => h) (Or.inl ⟨by rfl, ?_⟩) ?_
  rotate_left
  · intro w
    go_simp
    with_reducible rfl
  refine wpAny_of_class (C := SlotsBox [(45, .pointer (some ⟨w.heap.size, 0, none⟩)), (48, .pointer (some ⟨w.heap.size, 1, none⟩)), (51, .pointer (some ⟨w.heap.size, 2, none⟩)), (54, .pointer (some ⟨w.heap.size, 3, none⟩))] w.heap.size #[.int .i64 b, .int .i64 e, .int .i64 q, .int .i64 t] 27) _ _ _ _ ?_
  have hC0 : Box W.drew w.heap.size #[.int .i64 (b : Int), .int .i64 e, .int .i64 q, .int .i64 t] 27 := x0
  refine wpAnyC_take (i := 3) (v := .int .i64 b) rfl (by kernel_rfl) (by kernel_rfl) (by kernel_rfl) (fun _ _ _ h => h) ?_ (fun a u h => (SlotsBox.put 46 _ (by rfl)).1 h) (fun a u h => (SlotsBox.put 46 _ (by rfl)).2 h) ?_ ?_
  · rintro a u ⟨hs, hx⟩
    have h1 : a.tmps[45]?.getD undef = .pointer (some ⟨w.heap.size, 0, none⟩) := by
      have := hs (45, .pointer (some ⟨w.heap.size, 0, none⟩)) (by simp)
      simpa [Act.eval] using this
    have c := hx.cell 0
    simp at c
    refine ⟨rfl, ?_⟩
    simp [execOp, h1, go_sem, c]
  · refine ⟨fun p hp => ?_, hC0⟩
    simp at hp
    rcases hp with rfl | rfl | rfl | rfl <;> rfl
  refine wpAnyC_take (i := 6) (v := .int .i64 e) rfl (by kernel_rfl) (by kernel_rfl) (by kernel_rfl) (fun _ _ _ h => h) ?_ (fun a u h => (SlotsBox.put 49 _ (by rfl)).1 h) (fun a u h => (SlotsBox.put 49 _ (by rfl)).2 h) ?_ ?_
  · rintro a u ⟨hs, hx⟩
    have h1 : a.tmps[48]?.getD undef = .pointer (some ⟨w.heap.size, 1, none⟩) := by
      have := hs (48, .pointer (some ⟨w.heap.size, 1, none⟩)) (by simp)
      simpa [Act.eval] using this
    have c := hx.cell 1
    simp at c
    refine ⟨rfl, ?_⟩
    simp [execOp, h1, go_sem, c]
  · refine (SlotsBox.put 46 _ (by rfl)).2 ?_
    refine ⟨fun p hp => ?_, hC0⟩
    simp at hp
    rcases hp with rfl | rfl | rfl | rfl <;> rfl
  refine wpAnyC_take (i := 9) (v := .int .i64 q) rfl (by kernel_rfl) (by kernel_rfl) (by kernel_rfl) (fun _ _ _ h => h) ?_ (fun a u h => (SlotsBox.put 52 _ (by rfl)).1 h) (fun a u h => (SlotsBox.put 52 _ (by rfl)).2 h) ?_ ?_
  · rintro a u ⟨hs, hx⟩
    have h1 : a.tmps[51]?.getD undef = .pointer (some ⟨w.heap.size, 2, none⟩) := by
      have := hs (51, .pointer (some ⟨w.heap.size, 2, none⟩)) (by simp)
      simpa [Act.eval] using this
    have c := hx.cell 2
    simp at c
    refine ⟨rfl, ?_⟩
    simp [execOp, h1, go_sem, c]
  · refine (SlotsBox.put 49 _ (by rfl)).2 ?_
    refine (SlotsBox.put 46 _ (by rfl)).2 ?_
    refine ⟨fun p hp => ?_, hC0⟩
    simp at hp
    rcases hp with rfl | rfl | rfl | rfl <;> rfl
  refine wpAnyC_take (i := 12) (v := .int .i64 t) rfl (by kernel_rfl) (by kernel_rfl) (by kernel_rfl) (fun _ _ _ h => h) ?_ (fun a u h => (SlotsBox.put 55 _ (by rfl)).1 h) (fun a u h => (SlotsBox.put 55 _ (by rfl)).2 h) ?_ ?_
  · rintro a u ⟨hs, hx⟩
    have h1 : a.tmps[54]?.getD undef = .pointer (some ⟨w.heap.size, 3, none⟩) := by
      have := hs (54, .pointer (some ⟨w.heap.size, 3, none⟩)) (by simp)
      simpa [Act.eval] using this
    have c := hx.cell 3
    simp at c
    refine ⟨rfl, ?_⟩
    simp [execOp, h1, go_sem, c]
  · refine (SlotsBox.put 52 _ (by rfl)).2 ?_
    refine (SlotsBox.put 49 _ (by rfl)).2 ?_
    refine (SlotsBox.put 46 _ (by rfl)).2 ?_
    refine ⟨fun p hp => ?_, hC0⟩
    simp at hp
    rcases hp with rfl | rfl | rfl | rfl <;> rfl
  have kc : (convert 22 22 (.slice (some ⟨W.heap.size, 0, none⟩) 8 8)).run Try.prog ((W.alloc (.cells #[.int .u8 76, .int .u8 69, .int .u8 68, .int .u8 71, .int .u8 69, .int .u8 82, .int .u8 48, .int .u8 49] 5)).drew) = .ok (.slice (some ⟨W.heap.size, 0, none⟩) 8 8) ((W.alloc (.cells #[.int .u8 76, .int .u8 69, .int .u8 68, .int .u8 71, .int .u8 69, .int .u8 82, .int .u8 48, .int .u8 49] 5 (8, 9))).drew) := Lib.run_convert_bytes_const (P := Try.prog) W.drew 22 5 #[.int .u8 76, .int .u8 69, .int .u8 68, .int .u8 71, .int .u8 69, .int .u8 82, .int .u8 48, .int .u8 49] 8 8 Try.underlying22 Try.underlying5
  refine wpAnyC_one (i := 0) (by kernel_rfl) rfl (fun K hK => ?_)
  go_simp
  refine hK _ _ ⟨?_, ?_⟩
  · refine ⟨fun p hp => ?_, ?_⟩
    · simp at hp
      rcases hp with rfl | rfl | rfl | rfl <;> rfl
    · exact (Below.heap_alloc W _ _ x0.lt).trans x0
  clear hK K
  refine wpAnyC_one (i := 1) (by kernel_rfl) rfl (fun K hK => ?_)
  go_simp
  refine hK _ _ ⟨?_, ?_⟩
  · refine ⟨fun p hp => ?_, ?_⟩
    · simp at hp
      rcases hp with rfl | rfl | rfl | rfl <;> rfl
    · exact (Below.heap_alloc W _ _ x0.lt).trans x0
  clear hK K
  obtain ⟨V, hV⟩ : ∃ V, V = (W.alloc (.cells #[.int .u8 76, .int .u8 69, .int .u8 68, .int .u8 71, .int .u8 69, .int .u8 82, .int .u8 48, .int .u8 49] 5 (8, 9))).drew := ⟨_, rfl⟩
  have rL : Rd V (some ⟨W.heap.size, 0, none⟩) letters := by rw [hV]; exact rd_marked W (8, 9) letters
  have BV : Below w.heap.size w V := by rw [hV]; exact (B0.alloc B0.size _).drew
  have xV : Box V w.heap.size #[.int .i64 (b : Int), .int .i64 e, .int .i64 q, .int .i64 t] 27 := by rw [hV]; exact (Below.heap_alloc W _ _ x0.lt).trans x0
  rw [← hV]
  clear hV kc
  obtain ⟨L0, hL0⟩ : ∃ L, L = letters := ⟨_, rfl⟩
  obtain ⟨L1, hL1⟩ : ∃ L, L = L0 ++ toBE 8 b := ⟨_, rfl⟩
  obtain ⟨L2, hL2⟩ : ∃ L, L = L1 ++ toBE 8 e := ⟨_, rfl⟩
  obtain ⟨L3, hL3⟩ : ∃ L, L = L2 ++ toBE 8 q := ⟨_, rfl⟩
  obtain ⟨L4, hL4⟩ : ∃ L, L = L3 ++ toBE 8 t := ⟨_, rfl⟩
  have N0 : Hid (L0.length = 8) := by rw [hL0]; exact rfl
  have N1 : Hid (L1.length = 16) := by rw [hL1, List.length_append, toBE_length, N0.out]; exact rfl
  have N2 : Hid (L2.length = 24) := by rw [hL2, List.length_append, toBE_length, N1.out]; exact rfl
  have N3 : Hid (L3.length = 32) := by rw [hL3, List.length_append, toBE_length, N2.out]; exact rfl
  have N4 : Hid (L4.length = 40) := by rw [hL4, List.length_append, toBE_length, N3.out]; exact rfl
  have E4 : Hid (lead [b, e, q, t] = L4) := by show _ = _; rw [hL4, hL3, hL2, hL1, hL0]; simp [lead]
  rw [← hL0] at rL
  have U1 : Hid _ := hL1
  have U2 : Hid _ := hL2
  have U3 : Hid _ := hL3
  have U4 : Hid _ := hL4
  have n0 : (some (⟨W.heap.size, 0, none⟩ : Addr)) = none → 8 = 0 := fun h => by simp at h
  clear hL0 hL1 hL2 hL3 hL4
  refine wpAnyC_one (i := 4) (by kernel_rfl) rfl (fun K hK => ?_)
  go_simp
  refine (refadd_at 8 8 8 (some ⟨W.heap.size, 0, none⟩) L0 b _ 8 V rfl rfl N0.out (by omega) (by omega) (by omega) (by omega) rL n0).mono ?_
  rintro r w1 ⟨v1, rfl, o1, b1⟩
  rw [← U1.out] at o1
  obtain ⟨a1, c1, rfl, _, _, _, r1, n1, _⟩ := owns_parts o1
  have B1 := BV.trans (b1.mono BV.size)
  have x1 := xV.below b1
  refine hK _ _ ⟨?_, ?_⟩
  · refine ⟨fun p hp => ?_, x1⟩
    simp at hp
    rcases hp with rfl | rfl | rfl | rfl <;> rfl
  clear hK K b1 BV xV rL n0
  clear o1
  refine wpAnyC_one (i := 7) (by kernel_rfl) rfl (fun K hK => ?_)
  go_simp
  refine (refadd_at c1 16 8 a1 L1 e _ 8 w1 rfl rfl N1.out (by omega) (by omega) (by omega) (by omega) r1 n1).mono ?_
  rintro r w2 ⟨v2, rfl, o2, b2⟩
  rw [← U2.out] at o2
  obtain ⟨a2, c2, rfl, _, _, _, r2, n2, _⟩ := owns_parts o2
  have B2 := B1.trans (b2.mono B1.size)
  have x2 := x1.below b2
  refine hK _ _ ⟨?_, ?_⟩
  · refine ⟨fun p hp => ?_, x2⟩
    simp at hp
    rcases hp with rfl | rfl | rfl | rfl <;> rfl
  clear hK K b2 B1 x1 r1 n1
  clear o2
  refine wpAnyC_one (i := 10) (by kernel_rfl) rfl (fun K hK => ?_)
  go_simp
  refine (refadd_at c2 24 8 a2 L2 q _ 8 w2 rfl rfl N2.out (by omega) (by omega) (by omega) (by omega) r2 n2).mono ?_
  rintro r w3 ⟨v3, rfl, o3, b3⟩
  rw [← U3.out] at o3
  obtain ⟨a3, c3, rfl, _, _, _, r3, n3, _⟩ := owns_parts o3
  have B3 := B2.trans (b3.mono B2.size)
  have x3 := x2.below b3
  refine hK _ _ ⟨?_, ?_⟩
  · refine ⟨fun p hp => ?_, x3⟩
    simp at hp
    rcases hp with rfl | rfl | rfl | rfl <;> rfl
  clear hK K b3 B2 x2 r2 n2
  clear o3
  refine wpAnyC_one (i := 13) (by kernel_rfl) rfl (fun K hK => ?_)
  go_simp
  refine (refadd_at c3 32 8 a3 L3 t _ 8 w3 rfl rfl N3.out (by omega) (by omega) (by omega) (by omega) r3 n3).mono ?_
  rintro r w4 ⟨v4, rfl, o4, b4⟩
  rw [← U4.out] at o4
  obtain ⟨a4, c4, rfl, _, _, _, r4, n4, _⟩ := owns_parts o4
  have B4 := B3.trans (b4.mono B3.size)
  have x4 := x3.below b4
  refine hK _ _ ⟨?_, ?_⟩
  · refine ⟨fun p hp => ?_, x4⟩
    simp at hp
    rcases hp with rfl | rfl | rfl | rfl <;> rfl
  clear hK K b4 B3 x3 r3 n3
  refine wpAnyC_one (i := 14) (by kernel_rfl) rfl (fun K hK => ?_)
  go_simp
  refine hK _ _ ⟨?_, ?_⟩
  · refine ⟨fun p hp => ?_, x4⟩
    simp at hp
    rcases hp with rfl | rfl | rfl | rfl <;> rfl
  clear hK K
  refine wpAnyC_done (by kernel_rfl) ?_ _
  clear x4
  have hcl := crc_lt 0 L4
  have k5 := ref_at c4 40 a4 L4 0 0 w4 rfl N4.out (by omega) (by omega) r4
  obtain ⟨X, hX⟩ : ∃ X, X = crc 0 L4 := ⟨_, rfl⟩
  rw [← hX] at hcl k5
  have HX : Hid _ := hX
  clear hX
  go_wp2_with fail
  refine k5.mono ?_
  rintro r w5 ⟨rfl, rfl⟩
  go_wp2_with fail
  refine (refadd_at c4 40 4 a4 L4 X _ 4 w4 rfl rfl N4.out (by omega) (by omega) (by omega) (by omega) r4 n4).mono ?_
  rintro r w6 ⟨v6, rfl, o6, b6⟩
  have B6 := B4.trans (b6.mono B4.size)
  have z4 := B4.size
  have p6 : w6.ownsRow w.heap.size 5 1 v6 44 (bcs (headS b e q t ++ noughts 0)) := by
    have h : headS b e q t ++ noughts 0 = L4 ++ toBE 4 X := by unfold headS; rw [E4.out, ← HX.out]; simp [noughts]
    rw [h]
    exact ⟨o6.1, by
      rcases o6.2 with h | ⟨g', cap', cur, h1, h2, h3⟩
      · exact .inl h
      · exact .inr ⟨g', cap', cur, h1, Nat.le_trans z4 h2, h3⟩⟩
  clear o6 b6 o4 r4 n4 B4 k5 z4
  obtain ⟨i0, hi, hz0, hz1, hz2⟩ := info_parts info5
  go_wp2_with fail
  go_loopw [4] (fun v wr => ∃ k : Nat, k ≤ 4052 ∧ wr.ownsRow w.heap.size 5 1 v (44 + k) (bcs (headS b e q t ++ noughts k)) ∧ Below w.heap.size w wr) (fun v _ => match v with | .slice _ n _ => 4096 - n | _ => 0)
  case atStart => exact ⟨0, Nat.zero_le _, p6, B6⟩
  case round =>
    obtain ⟨k, hk, hown, hbel⟩ := hrel
    clear p6 B6
    obtain ⟨ak, ck, rfl, _, _, _, _, _, _⟩ := owns_parts hown
    by_cases hlt : k < 4052
    · have z3 := hbel.size
      have hlt2 : ((44 + k : Nat) : Int) < 4096 := by omega
      go_wp2_with (at_builtin; refine wpList_append_own _ rfl _ _ 22 rfl w.heap.size 5 i0 (.int .u8 0) 1 1 Try.underlying22 hi hz0 hz1 hz2 rfl (by decide) _ (44 + k) (bcs (headS b e q t ++ noughts k)) rfl (hown.alloc _) ⟨wr.heap.size, 0, none⟩ 1 1 [.int .u8 0] rfl rfl ?c1 ?c2 ?c3 ?c4 ?c5 ?_)
      case c1 =>
        intro i u hi'
        match i, hi' with
        | 0, hi' => simp at hi'; subst hi'; simp [Addr.add]
      case c2 => intro u hu; simp at hu; subst hu; rfl
      case c3 => unfold maxLen; omega
      case c4 => omega
      case c5 => simp; omega
      · intro v' w7 hown7 hgrow _
        have B7 : Below w.heap.size w w7 := (hbel.alloc z3 _).grown hgrow (by simp; omega) (fun k hk => (hown.lt k hk).1)
        have p7 : w7.ownsRow w.heap.size 5 1 v' (44 + (k + 1)) (bcs (headS b e q t ++ noughts (k + 1))) := by
          have h : headS b e q t ++ noughts (k + 1) = (headS b e q t ++ noughts k) ++ [0] := by simp [noughts, List.replicate_succ']
          rw [h, bcs_append]
          exact hown7
        obtain ⟨a7, c7, rfl, _, _, _, _, _, _⟩ := owns_parts p7
        clear hown hbel hgrow hown7
        go_wp2
        go_roundw
        case rel => exact ⟨k + 1, by omega, p7, B7⟩
        case measure => simp; omega
    · obtain rfl : k = 4052 := by omega
      go_wp2
      go_ret2
      refine ⟨_, rfl, ?_, hbel⟩
      show World.ownsRow _ _ _ _ _ (superB b e q t).length (bcs (superB b e q t))
      rw [superB_length]
      exact hown
end Go.Proofs.Ytmhplpiglbamcaa
