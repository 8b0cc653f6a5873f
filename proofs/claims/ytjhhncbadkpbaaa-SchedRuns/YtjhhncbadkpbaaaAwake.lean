/-
  awake: the chapter's example.
-/
import Derived.Test.YtjhhncbadkpbaaaAwk0
namespace Go.Proofs.Ytjhhncbadkpbaaa
open Go.RowKit
set_option maxRecDepth 20000 in
set_option maxHeartbeats 4000000 in
theorem awake_at (w : World) : Calls Try.prog 11 #[] w fun r w' => r = .returned (.bool true) ∧ Below w.heap.size w w' := by
  have cN := new_sit w w.heap.size (Nat.le_refl _)
  obtain ⟨s, hs⟩ : ∃ s, s = w.heap.size + 2 := ⟨_, rfl⟩
  obtain ⟨tb, htb⟩ : ∃ tb, tb = w.heap.size := ⟨_, rfl⟩
  obtain ⟨bb, hbb⟩ : ∃ bb, bb = w.heap.size + 1 := ⟨_, rfl⟩
  have cN' : Calls Try.prog 8 #[] ((w.alloc (.cells #[.slice none 0 0] 25)).alloc (.cells #[.bool false] 4)) fun r w' => r = .returned (ptr s) ∧ Sit w' w.heap.size s SS0 tb bb (.slice none 0 0) [] false [] ∧ Below w.heap.size w w' := by
    rw [hs, htb, hbb]; exact cN
  have Htb : Hid (tb = w.heap.size) := htb
  have Hbb : Hid (bb = w.heap.size + 1) := hbb
  obtain ⟨B, hB⟩ : ∃ B, B = w.heap.size := ⟨_, rfl⟩
  have HB : Hid (B = w.heap.size) := hB
  rw [← hB] at cN'
  clear cN hs htb hbb hB
  unfold ptr at *
  go_enter Try.func11, Try.ntmps11
  go_wp2_with fail
  refine Calls.mono cN' ?_
  rintro r w1 ⟨rfl, h1, b1⟩
  rw [← Hbb.out, ← Htb.out]
  have H1 : Hid (Sit w1 B s SS0 tb bb (.slice none 0 0) [] false []) := h1
  have B1 : Hid (Below B w w1) := b1
  have c2 := h1.addLit (by decide) (by decide) ⟨1, 0, false⟩ 1 rfl
  unfold litW doC tkC ptr at c2
  clear cN' h1 b1
  go_wp2_with fail
  refine Calls.mono c2 ?_
  rintro r w2 ⟨g1, rfl, h2, b2⟩
  obtain ⟨t1, ht1⟩ : ∃ t, t = w1.heap.size + 1 := ⟨_, rfl⟩
  obtain ⟨l1, hl1⟩ : ∃ l, l = w1.heap.size := ⟨_, rfl⟩
  have h2' : Sit w2 B s ⟨[g1], [⟨.iface 47 (ptr t1), 1, 0⟩], [0], none, false⟩ tb bb (.slice none 0 0) [] false [⟨t1, some ⟨l1, 0, none⟩, 1, [⟨1, 0, false⟩]⟩] := by rw [ht1, hl1]; exact h2
  have c3 := h2'.addLit (by show (alv [_] [g1]).length < 64; have := alv_le [(⟨.iface 47 (ptr t1), 1, 0⟩ : En)] [g1]; simp at this; omega) (by show 1 < 1000; decide) ⟨2, 0, false⟩ 2 rfl
  have B2 : Hid (Below B w w2) := B1.out.trans b2
  unfold litW doC tkC at c3
  clear c2 h2 b2 H1 B1 h2' ht1 hl1
  unfold ptr at *
  go_wp2_with fail
  refine Calls.mono c3 ?_
  rintro r w3 ⟨g2, rfl, h3, b3⟩
  obtain ⟨t2, ht2⟩ : ∃ t, t = w2.heap.size + 1 := ⟨_, rfl⟩
  obtain ⟨l2, hl2⟩ : ∃ l, l = w2.heap.size := ⟨_, rfl⟩
  obtain ⟨v1, hv1⟩ : ∃ v, v = Value.iface 47 (ptr t1) := ⟨_, rfl⟩
  obtain ⟨v2, hv2⟩ : ∃ v, v = Value.iface 47 (ptr t2) := ⟨_, rfl⟩
  obtain ⟨K, hK⟩ : ∃ K : List TK, K = [⟨t1, some ⟨l1, 0, none⟩, 1, [⟨1, 0, false⟩]⟩, ⟨t2, some ⟨l2, 0, none⟩, 1, [⟨2, 0, false⟩]⟩] := ⟨_, rfl⟩
  have h3' : Sit w3 B s ⟨[g1, g2], [⟨v1, 1, 0⟩, ⟨v2, 1, 0⟩], [0, 1], none, false⟩ tb bb (.slice none 0 0) [] false K := by rw [hK, hv1, hv2, ht2, hl2]; exact h3
  have k0 : K[0]? = some ⟨t1, some ⟨l1, 0, none⟩, 1, [⟨1, 0, false⟩]⟩ := by rw [hK]; rfl
  have k1 : K[1]? = some ⟨t2, some ⟨l2, 0, none⟩, 1, [⟨2, 0, false⟩]⟩ := by rw [hK]; rfl
  have B3 : Hid (Below B w w3) := B2.out.trans b3
  have K0 : Hid (K[0]? = some ⟨t1, some ⟨l1, 0, none⟩, 1, [⟨1, 0, false⟩]⟩) := k0
  have K1 : Hid (K[1]? = some ⟨t2, some ⟨l2, 0, none⟩, 1, [⟨2, 0, false⟩]⟩) := k1
  have c4 := h3'.pickN 0 1 1 0 0 _ _ ⟨[g1, g2], [⟨v1, 1, 1⟩, ⟨v2, 1, 0⟩], [1, 0], none, false⟩ [] (by decide) (by show 0 < 2; decide) (by show 2 < 1000; decide) (by decide) rfl k0 rfl (by show 0 < 100000; decide) rfl rfl rfl rfl rfl
  clear c3 h3 b3 B2 h3' ht2 hl2 hv1 hv2 hK k0 k1
  unfold ptr at *
  go_wp2_with fail
  refine Calls.mono c4 ?_
  rintro r w4 ⟨rfl, tv4, h4, b4⟩
  have B4 : Hid (Below B w w4) := B3.out.trans b4
  have c5 := h4.pickN 0 2 2 0 1 _ _ ⟨[g1, g2], [⟨v1, 1, 1⟩, ⟨v2, 2, 1⟩], [0], none, false⟩ [] (by decide) (by show 0 < 2; decide) (by show 2 < 1000; decide) (by decide) rfl K1.out rfl (by show 0 < 100000; decide) rfl rfl rfl rfl rfl
  clear c4 h4 b4 B3
  unfold ptr at *
  go_wp2_with fail
  refine Calls.mono c5 ?_
  rintro r w5 ⟨rfl, tv5, h5, b5⟩
  have B5 : Hid (Below B w w5) := B4.out.trans b5
  have c6 := ready_at h5.is (by show 1 < 100000; decide) (by show 2 < 100000; decide)
  have H5 : Hid (Sit w5 B s ⟨[g1, g2], [⟨v1, 1, 1⟩, ⟨v2, 2, 1⟩], [0], none, false⟩ tb bb tv5 [] false K) := h5
  clear c5 h5 b5 B4
  unfold ptr at *
  go_wp2_with fail
  refine Calls.mono c6 ?_
  rintro r w6 ⟨v6, rfl, o6, b6⟩
  have x6 := Box.new w6 #[.int .i64 1] 3
  have o6' : (w6.alloc (.cells #[.int .i64 1] 3)).ownsRow 0 3 1 (.slice (some ⟨w6.heap.size, 0, none⟩) 1 1) [1].length (ics [1]) := ⟨rfl, .inr ⟨w6.heap.size, 1, _, rfl, Nat.zero_le _, x6, Nat.le_refl _, by unfold maxLen; decide, rfl, rfl⟩⟩
  have c7 := same_ints (l := [1]) (o6.alloc (.cells #[.int .i64 1] 3)) o6' (by decide)
  have H6 : Hid (Sit w6 B s ⟨[g1, g2], [⟨v1, 1, 1⟩, ⟨v2, 2, 1⟩], [0], none, false⟩ tb bb tv5 [] false K) := H5.out.below b6
  have B6 : Hid (Below B w w6) := B5.out.trans (b6.mono H5.out.is.hB)
  obtain ⟨a6, n6, hv6⟩ := ownsRow_slice o6
  clear c6 o6 o6' x6 b6 H5 B5
  subst hv6
  go_wp2_with fail
  refine Calls.mono c7 ?_
  rintro r wx ⟨rfl, q7, rfl⟩
  have b7 : Below w6.heap.size w6 ((w6.alloc (.cells #[.int .i64 1] 3)).drewN q7) := Below.drewN ((Below.refl _ _).alloc (Nat.le_refl _) _) q7
  have H7 : Hid (Sit ((w6.alloc (.cells #[.int .i64 1] 3)).drewN q7) B s ⟨[g1, g2], [⟨v1, 1, 1⟩, ⟨v2, 2, 1⟩], [0], none, false⟩ tb bb tv5 [] false K) := H6.out.below b7
  have B7 : Hid (Below B w ((w6.alloc (.cells #[.int .i64 1] 3)).drewN q7)) := B6.out.trans (b7.mono H6.out.is.hB)
  clear b7 H6 B6 c7
  generalize ((w6.alloc (.cells #[.int .i64 1] 3)).drewN q7) = w7 at *
  have c8 := blocked_at H7.out.is H7.out.good.lt (by show 2 < 100000; decide)
  unfold ptr at *
  go_wp2_with fail
  refine Calls.mono c8 ?_
  rintro r w8 ⟨v8, rfl, o8, b8⟩
  have x8 := Box.new w8 #[.int .i64 2] 3
  have o8' : (w8.alloc (.cells #[.int .i64 2] 3)).ownsRow 0 3 1 (.slice (some ⟨w8.heap.size, 0, none⟩) 1 1) [2].length (ics [2]) := ⟨rfl, .inr ⟨w8.heap.size, 1, _, rfl, Nat.zero_le _, x8, Nat.le_refl _, by unfold maxLen; decide, rfl, rfl⟩⟩
  have c9 := same_ints (l := [2]) (o8.alloc (.cells #[.int .i64 2] 3)) o8' (by decide)
  have H8 : Hid (Sit w8 B s ⟨[g1, g2], [⟨v1, 1, 1⟩, ⟨v2, 2, 1⟩], [0], none, false⟩ tb bb tv5 [] false K) := H7.out.below b8
  have B8 : Hid (Below B w w8) := B7.out.trans (b8.mono H7.out.is.hB)
  obtain ⟨a8, n8, hv8⟩ := ownsRow_slice o8
  have hv8' : v8 = .slice a8 1 n8 := hv8
  clear c8 o8 o8' x8 b8 H7 B7 hv8
  subst hv8'
  go_wp2_with fail
  refine Calls.mono c9 ?_
  rintro r wx ⟨rfl, q9, rfl⟩
  have b9 : Below w8.heap.size w8 ((w8.alloc (.cells #[.int .i64 2] 3)).drewN q9) := Below.drewN ((Below.refl _ _).alloc (Nat.le_refl _) _) q9
  have H9 : Hid (Sit ((w8.alloc (.cells #[.int .i64 2] 3)).drewN q9) B s ⟨[g1, g2], [⟨v1, 1, 1⟩, ⟨v2, 2, 1⟩], [0], none, false⟩ tb bb tv5 [] false K) := H8.out.below b9
  have B9 : Hid (Below B w ((w8.alloc (.cells #[.int .i64 2] 3)).drewN q9)) := B8.out.trans (b9.mono H8.out.is.hB)
  clear b9 H8 B8 c9
  generalize ((w8.alloc (.cells #[.int .i64 2] 3)).drewN q9) = w9 at *
  have c10 := H9.out.wake (by show 2 < 1000; decide) 2
  change Calls Try.prog 14 #[ptr s, .int .i64 2] w9 fun r w' => r = .returned (.bool true) ∧ Sit w' B s ⟨[g1, g2], [⟨v1, 1, 1⟩, ⟨v2, 1, 1⟩], [0, 1], none, false⟩ tb bb tv5 [] false K ∧ Below B w9 w' ∧ Kt Oth w9 w' at c10
  unfold ptr at *
  go_wp2_with fail
  refine Calls.mono c10 ?_
  rintro r w10 ⟨rfl, h10, b10, _⟩
  have B10 : Hid (Below B w w10) := B9.out.trans b10
  have c11 := h10.pickN 1 2 3 1 1 _ _ ⟨[g1, g2], [⟨v1, 1, 1⟩, ⟨.nilIface, 3, 2⟩], [0], none, false⟩ [] (by decide) (by show 0 < 2; decide) (by show 2 < 1000; decide) (by decide) rfl K1.out rfl (by show 1 < 100000; decide) rfl rfl rfl rfl rfl
  clear c10 h10 b10 B9 H9
  unfold ptr at *
  go_wp2_with fail
  refine Calls.mono c11 ?_
  rintro r w11 ⟨rfl, tv11, h11, b11⟩
  have B11 : Hid (Below B w w11) := B10.out.trans b11
  have c12 := h11.pickN 0 1 3 0 0 _ _ ⟨[g1, g2], [⟨.nilIface, 3, 2⟩, ⟨.nilIface, 3, 2⟩], [], none, false⟩ [] (by decide) (by show 0 < 1; decide) (by show 2 < 1000; decide) (by decide) rfl K0.out rfl (by show 1 < 100000; decide) rfl rfl rfl rfl rfl
  clear c11 h11 b11 B10
  unfold ptr at *
  go_wp2_with fail
  refine Calls.mono c12 ?_
  rintro r w12 ⟨rfl, tv12, h12, b12⟩
  have B12 : Hid (Below B w w12) := B11.out.trans b12
  have c13 := h12.empty rfl 0
  have c14 := steps_in h12.is 1 _ rfl (by show 2 < 1000000; decide)
  change Calls Try.prog 22 #[ptr s, .int .i64 2] w12 fun r w' => r = .returned (.int .i64 2) ∧ w' = w12 at c14
  have f12 : w12.cell? ⟨bb, 0, none⟩ = some (.bool false) := h12.tw.bbox.cell 0
  clear c12 h12 b12 B11
  unfold ptr at *
  go_wp2_with fail
  refine Calls.mono c13 ?_
  rintro r wx ⟨rfl, hwx⟩
  subst wx
  clear c13
  go_wp2_with fail
  refine Calls.mono c14 ?_
  rintro r wx ⟨rfl, hwx⟩
  subst wx
  clear c14
  go_wp2_with fail
  go_ret
  exact ⟨rfl, by rw [← HB.out]; exact B12.out⟩
end Go.Proofs.Ytjhhncbadkpbaaa
