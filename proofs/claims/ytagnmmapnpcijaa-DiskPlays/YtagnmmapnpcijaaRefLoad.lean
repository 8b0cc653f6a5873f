/-
  The document's disk: Load, New.
-/
import Derived.Test.YtagnmmapnpcijaaRefCrash
namespace Go.Proofs.Ytagnmmapnpcijaa
open Go.RowKit

theorem CRow.o49 {w0 w w' : World} {Q : Nat → Prop} {g n c : Nat} {d : List UInt8} (h : CRow w0 w Q g n c d) (k : O49 w w') : CRow w0 w' Q g n c d := by
  obtain ⟨⟨cur, hb, h1, h2, h3, he⟩, hg⟩ := h
  refine ⟨⟨cur, k g cur 27 hb (by decide), h1, h2, h3, fun j hj => ?_⟩, hg⟩
  obtain ⟨u, hu, hB⟩ := he j hj
  exact ⟨u, hu, hB.move (fun i _ _ ⟨cur, t, hi, ht⟩ => (k i cur t hi ht).trans hi.symm) (fun _ _ h => h)⟩

set_option maxRecDepth 100000 in
set_option maxHeartbeats 8000000 in
theorem rload_at (nb : Nat) (a : Option Addr) (ca : Nat) (xs : List UInt8) (w : World) (Q : Nat → Prop) (hQ : ∀ i, w.heap.size ≤ i → Q i) (h1 : 1 ≤ nb) (h2 : nb ≤ 512) (hl : xs.length = nb * 4096) (hca : nb * 4096 ≤ ca) (hcm : ca ≤ maxLen) (hr : Rd w a xs) :
    Calls Try.prog 45 #[.slice a (nb * 4096) ca] w fun r w' => ∃ g c, r = .returned (.tuple #[.agg #[.slice (some ⟨g, 0, none⟩) nb c, .slice none 0 0, .int .i64 0, .bool false, .int .i64 (-1), .int .i64 (-1)], .int .i64 0]) ∧ CRow w w' Q g nb c xs ∧ Below w.heap.size w w' := by
  obtain ⟨b, o, rfl, hcell⟩ := hr (by omega)
  obtain ⟨i0, hi, hz0, hz1, hz2⟩ := info_parts info27'
  have B0 := ((Below.refl w.heap.size w).alloc (Nat.le_refl _) (.cells #[.slice none 0 0, .slice none 0 0, .int .i64 0, .bool false, .int .i64 0, .int .i64 0] 49)).alloc (by simp) (.cells #[.slice none 0 0, .slice none 0 0, .int .i64 0, .bool false, .int .i64 (-1), .int .i64 (-1)] 49)
  have y0 := (Box.new w #[.slice none 0 0, .slice none 0 0, .int .i64 0, .bool false, .int .i64 0, .int .i64 0] 49).alloc (.cells #[.slice none 0 0, .slice none 0 0, .int .i64 0, .bool false, .int .i64 (-1), .int .i64 (-1)] 49)
  have x0 := Box.new (w.alloc (.cells #[.slice none 0 0, .slice none 0 0, .int .i64 0, .bool false, .int .i64 0, .int .i64 0] 49)) #[.slice none 0 0, .slice none 0 0, .int .i64 0, .bool false, .int .i64 (-1), .int .i64 (-1)] 49
  have sz : (w.alloc (.cells #[.slice none 0 0, .slice none 0 0, .int .i64 0, .bool false, .int .i64 0, .int .i64 0] 49)).heap.size = w.heap.size + 1 := by simp
  rw [sz] at x0
  clear sz
  obtain ⟨N, hN⟩ : ∃ N : Nat, N = nb * 4096 := ⟨_, rfl⟩
  have hN1 : 4096 ≤ N := by omega
  have hN2 : N ≤ 2097152 := by omega
  have hN3 : (N : Int) % 4096 = 0 := by omega
  have hN0 : ((N : Int) == 0) = false := by simp; omega
  have hN5 : ¬ 2097152 < (N : Int) := by omega
  rw [← hN] at hl hca
  rw [← hN]
  have HN : Hid _ := hN
  have Hl : Hid _ := hl
  have Hcell : Hid _ := hcell
  have HQ : Hid _ := hQ
  have hcm2 : ca ≤ 9223372036854775807 := by unfold maxLen at hcm; omega
  clear hN hl hcell hQ hr
  go_enter Try.func45, Try.ntmps45
  go_wp2_with fail
  go_loopw [5] (fun i wr => ∃ (k : Nat) (v : Value) (ys : List Value), k ≤ nb ∧ i = .int .i64 (k * 4096 : Nat) ∧ (∃ a' c', v = .slice a' k c') ∧ wr.ownsRow w.heap.size 27 1 v k ys ∧ ys.length = k ∧ (∀ j, j < k → ∃ u, ys[j]? = some u ∧ BlkAt wr Q u (blk xs j)) ∧ Box wr (w.heap.size + 1) #[v, .slice none 0 0, .int .i64 0, .bool false, .int .i64 (-1), .int .i64 (-1)] 49 ∧ Box wr w.heap.size #[.slice none 0 0, .slice none 0 0, .int .i64 0, .bool false, .int .i64 0, .int .i64 0] 49 ∧ Below w.heap.size w wr) (fun i _ => N - (intOf i).toNat)
  case atStart => exact ⟨0, _, [], by omega, rfl, ⟨none, 0, rfl⟩, World.ownsRow_nil _ _ _ _, rfl, fun j hj => by omega, x0, y0, B0⟩
  case round =>
    clear x0 y0 B0
    obtain ⟨k, v, ys, hk, rfl, ⟨a', c', rfl⟩, ho, hyl, hys, x, y, B⟩ := hrel
    obtain ⟨K, hK⟩ : ∃ K : Nat, K = k * 4096 := ⟨_, rfl⟩
    rw [← hK]
    by_cases hlt : k < nb
    · have hKN : K + 4096 ≤ N := by have := HN.out; omega
      have hKN2 : (K : Int) < (N : Int) := by omega
      have HK : Hid _ := hK
      have hKw : IntKind.i64.wrap ((K : Int) + 4096) = (K : Int) + 4096 := IntWalk.i64_in _ (by omega)
      have Ho : Hid (wr.ownsRow w.heap.size 27 1 (.slice a' k c') k ys) := ho
      have Hys : Hid _ := hys
      have Hx : Hid _ := x
      have Hy : Hid _ := y
      have HB : Hid _ := B
      clear hK ho hys x y B
      go_upto_region 7 with fail
      refine wp_region_any (by kernel_rfl) ?_
      change wpAny _ _ _ _ _ _ _ (World.drew _)
      refine wpAny_take (i := 0) (v := ?_) rfl (by kernel_rfl) (by kernel_rfl) (by kernel_rfl) (fun _ _ _ h => h) (Or.inl ⟨by rfl, ?_⟩) ?_
      rotate_left
      · intro w
        go_simp
        with_reducible rfl
      refine wpAny_take (i := 2) (v := ?_) rfl (by kernel_rfl) (by kernel_rfl) (by kernel_rfl) (fun _ _ _ h => h) (Or.inl ⟨by rfl, ?_⟩) ?_
      rotate_left
      · intro w
        go_simp
        with_reducible rfl
      refine wpAny_take (i := 3) (v := ?_) rfl (by kernel_rfl) (by kernel_rfl) (by kernel_rfl) (fun _ _ _ h => h) (Or.inl ⟨by rfl, ?_⟩) ?_
      rotate_left
      · intro w
        go_simp
        with_reducible rfl
      refine wpAny_take (i := 4) (v := ?_) rfl (by kernel_rfl) (by kernel_rfl) (by kernel_rfl) (fun _ _ _ h => h) (Or.inl ⟨by rfl, ?_⟩) ?_
      rotate_left
      · intro w
        go_simp
        with_reducible rfl
      simp only [Act.put, List.setIfInBounds_toArray, List.set_cons_zero, List.set_cons_succ, List.getElem_toArray, List.getElem_cons_zero, List.getElem_cons_succ]
      refine wpAny_take (i := 5) (v := ?_) rfl (by kernel_rfl) (by kernel_rfl) (by kernel_rfl) (fun _ _ _ h => h) (Or.inl ⟨by rfl, ?_⟩) ?_
      rotate_left
      · intro w
        go_simp
        with_reducible rfl
      simp only [Act.put, List.setIfInBounds_toArray, List.set_cons_zero, List.set_cons_succ, List.getElem_toArray, List.getElem_cons_zero, List.getElem_cons_succ]
      obtain ⟨W, hW⟩ : ∃ W, W = wr.drew := ⟨_, rfl⟩
      have x1 : Box W (w.heap.size + 1) #[.slice a' k c', .slice none 0 0, .int .i64 0, .bool false, .int .i64 (-1), .int .i64 (-1)] 49 := by rw [hW]; exact Hx.out
      have y1 : Box W w.heap.size #[.slice none 0 0, .slice none 0 0, .int .i64 0, .bool false, .int .i64 0, .int .i64 0] 49 := by rw [hW]; exact Hy.out
      have bW : Below wr.heap.size wr W := by rw [hW]; exact (Below.refl _ _).drew
      have o1 : W.ownsRow w.heap.size 27 1 (.slice a' k c') k ys := by rw [hW]; exact World.ownsRow.drew Ho.out
      have B1 : Below w.heap.size w W := HB.out.trans (bW.mono HB.out.size)
      have hys1 : ∀ j, j < k → ∃ u, ys[j]? = some u ∧ BlkAt W Q u (blk xs j) := fun j hj => by
        obtain ⟨u, hu, hb⟩ := Hys.out j hj
        exact ⟨u, hu, hb.move (fun i hi _ _ => bW.block i hi) (fun _ _ h => h)⟩
      rw [← hW]
      clear hW Hx Hy Ho HB Hys bW
      have cx := x1.cell 0
      simp only [List.getElem?_toArray, List.getElem?_cons_zero] at cx
      refine wpAny_of_late (C := SlotsCells [(28, .pointer (some ⟨w.heap.size + 1, 0, none⟩))] [(⟨w.heap.size + 1, 0, none⟩, .slice a' k c')]) (late := [10, 11]) _ _ _ _ ?_
      refine wpAnyD_take (i := 1) (v := .slice a' k c') rfl (by kernel_rfl) (by kernel_rfl) (by kernel_rfl) (by kernel_rfl) (fun _ _ _ h => h) ?_ (fun fr u h => (SlotsCells.put 29 _ (by rfl)).1 h) (fun fr u h => (SlotsCells.put 29 _ (by rfl)).2 h) ?_ ?_
      · intro fr u hh
        obtain ⟨e1, e2⟩ := hh.load (s := 28) (p := ⟨w.heap.size + 1, 0, none⟩) (v := .slice a' k c') (by simp) (by simp)
        exact ⟨rfl, by simp [execOp, e1, go_sem, e2]⟩
      · refine ⟨fun p hp => ?_, fun q hq => ?_⟩
        · simp at hp
          subst hp
          rfl
        · simp at hq
          subst hq
          exact cx
      simp only [Act.put, List.setIfInBounds_toArray, List.set_cons_zero, List.set_cons_succ, List.getElem_toArray, List.getElem_cons_zero, List.getElem_cons_succ]
      refine wpAnyD_one (i := 6) (by kernel_rfl) rfl (fun K' hK' => ?_)
      go_simp
      rw [if_pos (by omega), if_pos (by omega), if_neg (by omega)]
      have e4 : ((K : Int) + 4096).toNat - K = 4096 := by omega
      rw [e4]
      refine hK' _ _ ⟨?_, ?_⟩
      · refine .inr ⟨fun p hp => ?_, fun q hq => ?_⟩
        · simp at hp
          subst hp
          rfl
        · simp at hq
          subst hq
          exact cx
      clear hK' K'
      have hKx : K + 4096 ≤ xs.length := by rw [Hl.out]; exact hKN
      have hblk : (blk xs k).length = 4096 := blk_length xs k (by rw [← HK.out]; exact hKx)
      have rdk : Rd W (some ⟨b, o + K, none⟩) (blk xs k) := fun _ => ⟨b, o + K, rfl, fun j hj => by
        have hj' : K + j < xs.length := by omega
        have c0 := Hcell.out (K + j) hj'
        rw [Nat.add_assoc, B1.cell (p := ⟨b, o + (K + j), none⟩) (block_lt_of_cell c0), c0]
        simp [blk, HK.out]⟩
      refine wpAnyD_one (i := 7) (by kernel_rfl) rfl (fun K' hK' => ?_)
      go_simp
      refine (copyBytes_at (ca - K) 4096 (some ⟨b, o + K, none⟩) (blk xs k) W hblk (by omega) rdk (fun h => by cases h)).mono ?_
      rintro e w3 ⟨v3, rfl, o3, b3⟩
      obtain ⟨gd, cd, rfl, hgd, r3⟩ := RowB.owns o3 (by omega)
      have cx3 := (b3.cell (p := ⟨w.heap.size + 1, 0, none⟩) x1.lt).trans cx
      refine hK' _ _ ⟨?_, ?_⟩
      · refine .inr ⟨fun p hp => ?_, fun q hq => ?_⟩
        · simp at hp
          subst hp
          rfl
        · simp at hq
          subst hq
          exact cx3
      clear hK' K'
      have A4 := (Below.refl w3.heap.size w3).alloc (Nat.le_refl _) (.cells #[.slice (some ⟨gd, 0, none⟩) 4096 cd] 27)
      have l4 := Box.new w3 #[.slice (some ⟨gd, 0, none⟩) 4096 cd] 27
      have cx4 := (A4.cell (p := ⟨w.heap.size + 1, 0, none⟩) (Nat.lt_of_lt_of_le x1.lt b3.size)).trans cx3
      refine wpAnyD_one (i := 8) (by kernel_rfl) rfl (fun K' hK' => ?_)
      go_simp
      refine hK' _ _ ⟨?_, ?_⟩
      · refine .inr ⟨fun p hp => ?_, fun q hq => ?_⟩
        · simp at hp
          subst hp
          rfl
        · simp at hq
          subst hq
          exact cx4
      clear hK' K'
      obtain ⟨gn, hgn⟩ : ∃ gn, gn = w3.heap.size := ⟨_, rfl⟩
      obtain ⟨w4, hw4⟩ : ∃ w4, w4 = w3.alloc (.cells #[.slice (some ⟨gd, 0, none⟩) 4096 cd] 27) := ⟨_, rfl⟩
      rw [← hw4] at A4 l4 cx4 ⊢
      rw [← hgn] at l4 ⊢
      have b34 := b3.trans (A4.mono b3.size)
      have o4 := World.ownsRow.kept (row := none) o1 ⟨b34.os, b34.tape, b34.output, b34.size, fun q hq _ => b34.block q hq⟩ (Classical.em _)
      have o40 : w4.ownsRow 0 27 1 (.slice a' k c') k ys := ⟨o4.1, by
        rcases o4.2 with h0 | ⟨g, cap, cur, hv, _, r⟩
        · exact .inl h0
        · exact .inr ⟨g, cap, cur, hv, Nat.zero_le _, r⟩⟩
      refine wpAnyD_one (i := 9) (by kernel_rfl) rfl (fun K' hK' => ?_)
      refine step_append_where rfl (.tmp 29) (.tmp 36) 46 rfl 27 i0 (.slice none 0 0) 1 24 Try.underlying46 hi hz0 hz1 hz2 rfl (by decide) (.slice a' k c') k ys rfl o40 ⟨gn, 0, none⟩ 1 1 [.slice (some ⟨gd, 0, none⟩) 4096 cd] rfl rfl ?_ ?_ (by unfold maxLen; omega) (by omega) ?_
      · intro j u hj
        match j, hj with
        | 0, hj => simp at hj; subst hj; rw [Addr.add_lit]; exact l4.cell 0
      · intro u hu
        simp at hu
        subst hu
        rfl
      intro v5 w5 o50 gr5 hwh
      obtain ⟨a5, c5, rfl⟩ : ∃ a c, v5 = .slice a (k + 1) c := by
        rcases o50.2 with ⟨_, h⟩ | ⟨g', c'', cur, hv, _⟩
        · omega
        · exact ⟨_, c'', hv⟩
      have o5 : w5.ownsRow w.heap.size 27 1 (.slice a5 (k + 1) c5) (k + 1) (ys ++ [.slice (some ⟨gd, 0, none⟩) 4096 cd]) := ⟨o50.1, by
        rcases o50.2 with h0 | ⟨g, cap, cur, hv, _, r⟩
        · exact .inl h0
        · refine .inr ⟨g, cap, cur, hv, ?_, r⟩
          rcases hwh g (by rw [hv]; rfl) with h | h
          · exact (World.ownsRow.lt o4 g h).1
          · exact Nat.le_trans B1.size (Nat.le_trans b34.size h)⟩
      have x4 := x1.below b34
      have y4 := y1.below b34
      have x5 : Box w5 (w.heap.size + 1) _ 49 := (gr5.block _ x4.lt (owns_ne o4 x4 (by decide))).trans x4
      have y5 : Box w5 w.heap.size _ 49 := (gr5.block _ y4.lt (owns_ne o4 y4 (by decide))).trans y4
      have B4 := B1.trans (b34.mono B1.size)
      have B5 : Below w.heap.size w w5 := B4.grown gr5 B4.size (fun q e => (World.ownsRow.lt o4 q e).1)
      have r4 := r3.same (A4.block gd r3.lt)
      have r5 : RowB w5 gd cd (blk xs k) := r4.same (gr5.block gd r4.lt (by obtain ⟨cur5, hb5, _⟩ := r4; exact owns_ne o4 hb5 (by decide)))
      have hu5 : BlkAt w5 Q (.slice (some ⟨gd, 0, none⟩) 4096 cd) (blk xs k) := BlkAt.of_row r5 hblk (HQ.out gd (Nat.le_trans B1.size hgd))
      have hys5 : ∀ j, j < k + 1 → ∃ u, (ys ++ [.slice (some ⟨gd, 0, none⟩) 4096 cd])[j]? = some u ∧ BlkAt w5 Q u (blk xs j) := fun j hj => by
        by_cases hjk : j < k
        · obtain ⟨u, hu, hb⟩ := hys1 j hjk
          have hb4 : BlkAt w4 Q u (blk xs j) := hb.move (fun i hi _ _ => b34.block i hi) (fun _ _ h => h)
          exact ⟨u, by rw [List.getElem?_append_left (by omega)]; exact hu, hb4.move5 (fun i cur hi => gr5.block i hi.lt (owns_ne o4 hi (by decide)))⟩
        · have hje : j = k := by omega
          subst hje
          exact ⟨_, by rw [List.getElem?_append_right (by omega), hyl, Nat.sub_self]; rfl, hu5⟩
      have cx5 := x5.cell 0
      have fx5 := x5.frozen 0
      simp only [List.getElem?_toArray, List.getElem?_cons_zero] at cx5
      refine hK' _ _ ⟨?_, ?_⟩
      · refine .inr ⟨fun p hp => ?_, fun q hq => ?_⟩
        · simp at hp
          subst hp
          rfl
        · simp at hq
          subst hq
          exact cx5
      clear hK' K'
      simp only [Act.put, List.setIfInBounds_toArray]
      refine wpAnyD_one (i := 10) (by kernel_rfl) rfl (fun K' hK' => ?_)
      go_simp
      refine hK' _ _ ⟨.inl rfl, ?_⟩
      clear hK' K'
      refine wpAnyD_one (i := 11) (by kernel_rfl) rfl (fun K' hK' => ?_)
      go_simp
      refine hK' _ _ ⟨.inl rfl, ?_⟩
      clear hK' K'
      refine wpAnyD_done (by kernel_rfl) ?_ _
      have x6 := x5.store 0 (.slice a5 (k + 1) c5)
      have y6 := y5.away (g' := w.heap.size + 1) (j := 0) (v := .slice a5 (k + 1) c5) (by omega)
      have B6 := B5.setCell (p := ⟨w.heap.size + 1, 0, none⟩) (by simp) (.slice a5 (k + 1) c5)
      have k6 := (O49.refl w5).set (j := 0) (v := .slice a5 (k + 1) c5) x5
      have o6 : (w5.setCell ⟨w.heap.size + 1, 0, none⟩ (.slice a5 (k + 1) c5)).ownsRow w.heap.size 27 1 (.slice a5 (k + 1) c5) (k + 1) (ys ++ [.slice (some ⟨gd, 0, none⟩) 4096 cd]) := o5.kept (grown_store w5 (w.heap.size + 1) 0 _) (.inr (owns_ne o5 x5 (by decide)).symm)
      have hys6 : ∀ j, j < k + 1 → ∃ u, (ys ++ [.slice (some ⟨gd, 0, none⟩) 4096 cd])[j]? = some u ∧ BlkAt (w5.setCell ⟨w.heap.size + 1, 0, none⟩ (.slice a5 (k + 1) c5)) Q u (blk xs j) := fun j hj => by
        obtain ⟨u, hu, hb⟩ := hys5 j hj
        exact ⟨u, hu, hb.move (fun i _ _ ⟨cur, t, hi, ht⟩ => (k6 i cur t hi ht).trans hi.symm) (fun _ _ h => h)⟩
      have hx6 : Box (w5.setCell ⟨w.heap.size + 1, 0, none⟩ (.slice a5 (k + 1) c5)) (w.heap.size + 1) #[.slice a5 (k + 1) c5, .slice none 0 0, .int .i64 0, .bool false, .int .i64 (-1), .int .i64 (-1)] 49 := x6
      generalize w5.setCell ⟨w.heap.size + 1, 0, none⟩ (.slice a5 (k + 1) c5) = X at hx6 y6 B6 o6 hys6 ⊢
      have Q1 : Hid _ := o6
      have Q2 : Hid _ := hys6
      clear o6 hys6 x6 x5 y5 B5 o5 o50 gr5 hwh hys5 hu5 r5 r4 r3 x4 y4 B4 o4 o40 b34 A4 l4 b3 o3 o1 x1 y1 B1 hys1 k6 cx cx3 cx4 cx5 fx5
      go_wp2
      go_roundw
      case rel => exact ⟨k + 1, _, _, by omega, by rw [show ((k + 1) * 4096 : Nat) = k * 4096 + 4096 by omega, ← HK.out]; rfl, ⟨_, _, rfl⟩, Q1.out, by simp [hyl], Q2.out, hx6, y6, B6⟩
      case measure => simp [intOf]; omega
    · have hkn : k = nb := by omega
      have hKN : K = N := by rw [hK, hkn]; exact HN.out.symm
      rw [hkn] at ho hys x
      obtain ⟨g6, c6, e6, C6⟩ := CRow.of_own (w0 := w) (d := xs) (Q := Q) ho (by omega) (Nat.le_refl _) hys
      cases e6
      rw [hKN]
      have HC : Hid (CRow w wr Q g6 nb c' xs) := C6
      have HB : Hid _ := B
      clear C6 B ho hys hK hKN hkn
      obtain ⟨p0, p1, p2, p3, p4, p5⟩ := x.all6
      obtain ⟨q0, q1, q2, q3, q4, q5⟩ := y.all6
      obtain ⟨g0, g1, g2, g3, g4, g5⟩ := y.fr6
      go_wp2_with fail
      have k9 := ((((((O49.refl wr).set (j := 0) (v := .slice (some ⟨g6, 0, none⟩) nb c') y).set (j := 1) (v := .slice none 0 0) (y.store 0 _)).set (j := 2) (v := .int .i64 0) ((y.store 0 _).store 1 _)).set (j := 3) (v := .bool false) (((y.store 0 _).store 1 _).store 2 _)).set (j := 4) (v := .int .i64 (-1)) ((((y.store 0 _).store 1 _).store 2 _).store 3 _)).set (j := 5) (v := .int .i64 (-1)) (((((y.store 0 _).store 1 _).store 2 _).store 3 _).store 4 _)
      refine bodyPost_ret (v := .tuple #[.agg #[.slice (some ⟨g6, 0, none⟩) nb c', .slice none 0 0, .int .i64 0, .bool false, .int .i64 (-1), .int .i64 (-1)], .int .i64 0]) ?_ rfl ⟨g6, c', rfl, HC.out.o49 k9, ?_⟩
      · simp [results, Try.results45, go_sem, q0, q1, q2, q3, q4, q5]
      · repeat (refine Below.setCell ?_ (by simp) _)
        exact HB.out

set_option maxRecDepth 100000 in
theorem rnew_at (nb : Nat) (w : World) (Q : Nat → Prop) (hQ : ∀ i, w.heap.size ≤ i → Q i) (h1 : 1 ≤ nb) (h2 : nb ≤ 512) :
    Calls Try.prog 27 #[.int .i64 (nb : Int)] w fun r w' => ∃ g c, r = .returned (.tuple #[.agg #[.slice (some ⟨g, 0, none⟩) nb c, .slice none 0 0, .int .i64 0, .bool false, .int .i64 (-1), .int .i64 (-1)], .int .i64 0]) ∧ RD w' Q (some ⟨g, 0, none⟩) none nb c 0 0 (DS.new nb (nought (nb * 4096))) ∧ Below w.heap.size w w' := by
  have hm : ∀ u : World, (Instr.makeSlice 27 (.int .i64 ((nb * 4096 : Nat) : Int)) (.int .i64 ((nb * 4096 : Nat) : Int))).run Try.prog u = .ok (.slice (some ⟨u.heap.size, 0, none⟩) (nb * 4096) (nb * 4096)) (u.alloc (.cells (bcs (nought (nb * 4096))).toArray 5)) := make_run (nb * 4096) (by omega)
  obtain ⟨N, hN⟩ : ∃ N : Nat, N = nb * 4096 := ⟨_, rfl⟩
  have hN2 : (nb : Int) * 4096 = (N : Int) := by omega
  obtain ⟨Z, hZ⟩ : ∃ Z, Z = nought N := ⟨_, rfl⟩
  rw [← hN, ← hZ] at hm
  have hzl : Z.length = N := by rw [hZ]; exact nought_length N
  have b0 := ((Below.refl w.heap.size w).alloc (Nat.le_refl _) (.cells #[.slice none 0 0, .slice none 0 0, .int .i64 0, .bool false, .int .i64 0, .int .i64 0] 49)).alloc (by simp) (.cells (bcs Z).toArray 5)
  have y0 := (Box.new w #[.slice none 0 0, .slice none 0 0, .int .i64 0, .bool false, .int .i64 0, .int .i64 0] 49).alloc (.cells (bcs Z).toArray 5)
  have o0 := own_lit (w.alloc (.cells #[.slice none 0 0, .slice none 0 0, .int .i64 0, .bool false, .int .i64 0, .int .i64 0] 49)) Z
  have sz : (w.alloc (.cells #[.slice none 0 0, .slice none 0 0, .int .i64 0, .bool false, .int .i64 0, .int .i64 0] 49)).heap.size = w.heap.size + 1 := by simp
  rw [sz] at o0
  clear sz
  have cL := rload_at nb (some ⟨w.heap.size + 1, 0, none⟩) (nb * 4096) Z ((w.alloc (.cells #[.slice none 0 0, .slice none 0 0, .int .i64 0, .bool false, .int .i64 0, .int .i64 0] 49)).alloc (.cells (bcs Z).toArray 5)) Q (fun i hi => hQ i (Nat.le_trans b0.size hi)) h1 h2 (by rw [hzl, hN]) (Nat.le_refl _) (by unfold maxLen; omega) o0.rd
  rw [← hN] at cL
  rw [← hN, ← hZ]
  have HZ : Hid _ := hZ
  have HN : Hid _ := hN
  have HL : Hid _ := hzl
  have HQ : Hid _ := hQ
  have hn1 : ¬ (nb : Int) < 1 := by omega
  have hn5 : ¬ 512 < (nb : Int) := by omega
  clear hZ hN hzl hQ o0
  go_enter Try.func27, Try.ntmps27
  go_wp2_with fail
  refine cL.mono ?_
  rintro r w1 ⟨g, c, rfl, C1, b1⟩
  have y1 := y0.below b1
  have B1 := b0.trans (b1.mono b0.size)
  have HC : Hid (CRow _ w1 Q g nb c Z) := C1
  clear cL C1 b1 y0 b0 hm
  obtain ⟨q0, q1, q2, q3, q4, q5⟩ := y1.all6
  obtain ⟨g0, g1, g2, g3, g4, g5⟩ := y1.fr6
  go_wp2_with fail
  have k9 := ((((((O49.refl w1).set (j := 0) (v := .slice (some ⟨g, 0, none⟩) nb c) y1).set (j := 1) (v := .slice none 0 0) (y1.store 0 _)).set (j := 2) (v := .int .i64 0) ((y1.store 0 _).store 1 _)).set (j := 3) (v := .bool false) (((y1.store 0 _).store 1 _).store 2 _)).set (j := 4) (v := .int .i64 (-1)) ((((y1.store 0 _).store 1 _).store 2 _).store 3 _)).set (j := 5) (v := .int .i64 (-1)) (((((y1.store 0 _).store 1 _).store 2 _).store 3 _).store 4 _)
  refine bodyPost_ret (v := .tuple #[.agg #[.slice (some ⟨g, 0, none⟩) nb c, .slice none 0 0, .int .i64 0, .bool false, .int .i64 (-1), .int .i64 (-1)], .int .i64 0]) ?_ rfl ⟨g, c, rfl, ⟨(HC.out.o49 k9).safe (by rw [safeOf_length]; rfl) (fun j hj => safeOf_get _ j hj) (fun i hi => HQ.out i (by simp at hi; omega)), ⟨rfl, Nat.le_refl _, by unfold maxLen; omega, fun _ => ⟨rfl, rfl⟩, fun h => by omega⟩, ⟨by show Z.length = nb * 4096; rw [HL.out, HN.out], h1, h2, fun p hp => (by cases hp), (by show (0 : Nat) < 9223372036854775808; omega), (by show (0 : Nat) < 9223372036854775808; omega)⟩⟩, ?_⟩
  · simp [results, Try.results27, go_sem, q0, q1, q2, q3, q4, q5]
  · repeat (refine Below.setCell ?_ (by simp) _)
    exact B1
end Go.Proofs.Ytagnmmapnpcijaa
