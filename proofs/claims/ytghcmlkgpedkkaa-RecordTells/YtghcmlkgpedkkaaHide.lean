/-
  hide.
-/
import Derived.Test.YtghcmlkgpedkkaaHideM
namespace Go.Proofs.Ytghcmlkgpedkkaa
open Go.RowKit Go.Shelf
attribute [local go_sem] Oper.semAt_some

set_option maxRecDepth 100000 in
set_option maxHeartbeats 4000000 in
theorem hide_in (g o cap gm : Nat) (xs M : List UInt8) (w : World) (hl : xs.length = 4096) (hr : Rd w (some ⟨g, o, none⟩) xs) (hml : M.length = 8) (hM : Rd w (some ⟨gm, 0, none⟩) M) :
    Calls Try.prog 30 #[.slice (some ⟨g, o, none⟩) 4096 cap, .slice (some ⟨gm, 0, none⟩) 8 8] w fun r w' => ∃ h c v, r = .returned (.tuple #[.slice (some ⟨h, 0, none⟩) 4096 c, v]) ∧ w.heap.size ≤ h ∧
      RowB w' h c (hideTo xs M (List.finRange 8)).1 ∧ w'.ownsRow (h + 1) 5 1 v 64 (bcs (hideTo xs M (List.finRange 8)).2) ∧ Below w.heap.size w w' := by
  refine (callsIn_wide (n := 3)).1 ?_
  have c1 : ∀ u, Below w.heap.size w u → _ := fun u hb => clone_at cap 4096 g o xs u hl (by omega) (by omega) (hr.below hb (Nat.le_refl _))
  refine callsIn_of_wp_marks Try.func30 rfl trivial ?_ rfl
  simp only [Try.ntmps30, List.size_toArray, List.length_cons, List.length_nil, Nat.reduceAdd, Nat.reduceSub, Array.replicate_succ, Array.replicate_zero, List.push_toArray, List.append_toArray, List.nil_append, List.cons_append]
  gi_wp2_with fail
  refine ⟨trivial, ?_⟩
  refine ((callsIn_wide (n := 2)).2 (c1 _ (((Below.refl _ w).alloc (Nat.le_refl _) _).alloc (by simp) _))).mono ?_
  rintro r w1 ⟨h, c, rfl, hh, hrow, hb1⟩
  gi_wp2_with fail
  refine ⟨trivial, ?_⟩
  refine (sectors_in 2 _ _ _ _).mono ?_
  rintro r w' ⟨rfl, rfl⟩
  gi_wp2_with fail
  have bN := Box.new w #[.slice (some ⟨gm, 0, none⟩) 8 8] 31
  have bR := Box.new (w.alloc (.cells #[.slice (some ⟨gm, 0, none⟩) 8 8] 31)) #[.slice none 0 0] 31
  have s1 : (w.alloc (.cells #[.slice (some ⟨gm, 0, none⟩) 8 8] 31)).heap.size = w.heap.size + 1 := by simp
  have s2 : ((w.alloc (.cells #[.slice (some ⟨gm, 0, none⟩) 8 8] 31)).alloc (.cells #[.slice none 0 0] 31)).heap.size = w.heap.size + 2 := by simp
  rw [s1] at bR
  rw [s2] at hh hb1
  have B0 := ((Below.refl w.heap.size w).alloc (Nat.le_refl _) (.cells #[.slice (some ⟨gm, 0, none⟩) 8 8] 31)).alloc (by simp) (.cells #[.slice none 0 0] 31)
  have B1 : Below w.heap.size w w1 := B0.trans (hb1.mono (by omega))
  have bN1 : Box w1 w.heap.size #[.slice (some ⟨gm, 0, none⟩) 8 8] 31 := (hb1.block _ (by omega)).trans (bN.alloc _)
  have bR1 : Box w1 (w.heap.size + 1) #[.slice none 0 0] 31 := (hb1.block _ (by omega)).trans bR
  have hlt := hrow.lt
  have hcm : 4096 ≤ c ∧ c ≤ 9223372036854775807 := by
    obtain ⟨cur, _, q1, q2, _⟩ := hrow
    unfold maxLen at q2
    omega
  have bS := Box.new w1 #[.slice (some ⟨h, 0, none⟩) 4096 c] 31
  have bN2 := bN1.alloc (.cells #[.slice (some ⟨h, 0, none⟩) 4096 c] 31)
  have bR2 := bR1.alloc (.cells #[.slice (some ⟨h, 0, none⟩) 4096 c] 31)
  have rw2 : RowB (w1.alloc (.cells #[.slice (some ⟨h, 0, none⟩) 4096 c] 31)) h c xs := hrow.same (Below.heap_alloc w1 _ h hlt)
  have B2 := B1.alloc B1.size (.cells #[.slice (some ⟨h, 0, none⟩) 4096 c] 31)
  obtain ⟨W0, hW0⟩ : ∃ W, W = w1.alloc (.cells #[.slice (some ⟨h, 0, none⟩) 4096 c] 31) := ⟨_, rfl⟩
  have s3 : W0.heap.size = w1.heap.size + 1 := by rw [hW0]; simp
  rw [← hW0] at bS bN2 bR2 rw2 B2 ⊢
  clear hW0 bN bR s1 s2 B0 hb1 bN1 bR1 hrow
  obtain ⟨k1, hk1⟩ : ∃ k, k = w1.heap.size := ⟨_, rfl⟩
  rw [← hk1] at bS s3 hlt ⊢
  clear hk1 B1 c1
  have hs3 : k1 + 1 ≤ W0.heap.size := by omega
  have hs4 : w.heap.size < W0.heap.size := by omega
  have S3 : Hid _ := s3
  clear s3
  have HML : Hid _ := hml
  have HL : Hid _ := hl
  clear hml hl
  have Hh : Hid _ := hh
  clear hh
  obtain ⟨hc1, hc2⟩ := hcm
  refine wpIn_rangeFunc_ownH (α := Fin 8) rfl (by omega) (gf := 56) (lb := #[.pointer (some ⟨k1, 0, none⟩)]) rfl trivial (enters_of Try.func56 (by kernel_rfl) rfl)
    (sect_stops (3 - 1) (by omega) k1 h 0 c hc1 hc2 W0 (by omega) (bS.cell 0)) cellK_t (cellK_b (by omega)) (Below.refl _ _) (fun _ => rfl)
    (fun pre W => HideI w h c gm k1 (hideTo xs M pre) W ∧ Below w.heap.size w W)
    (fun c _ W => False ∧ Below w.heap.size w W)
    (OwnFrom.and (Own.from (fun s A B row hs hg hr => by
      obtain ⟨a1, ⟨v, a2, a3⟩, a4, a5⟩ := hs
      exact ⟨a1.kept hg hr, ⟨v, a2.kept hg hr, owns_kept a3 hg hr⟩, a4.kept hg hr, Nat.le_trans a5 hg.size⟩) _) (ownFrom_below (Nat.le_refl _) (by omega)))
    (fun c => OwnFrom.and (Own.from (fun s A B row hs hg hr => hs) _) (ownFrom_below (Nat.le_refl _) (by omega)))
    ⟨⟨rw2, ⟨_, bR2, World.ownsRow_nil _ _ _ _⟩, bN2, hs3⟩, B2⟩
    (fun x a' _ => a' = { tmps := #[.slice (some ⟨g, o, none⟩) 4096 cap, .slice (some ⟨gm, 0, none⟩) 8 8, undef, .pointer (some ⟨w.heap.size, 0, none⟩), .slice (some ⟨h, 0, none⟩) 4096 c, .pointer (some ⟨w.heap.size + 1, 0, none⟩), .slice (some ⟨h, x.val * 512, none⟩) 512 512, .slice (some ⟨g, o, none⟩) 4096 cap, .slice (some ⟨h, 0, none⟩) 4096 c, .slice (some ⟨h, 0, none⟩) 4096 c, .func (.func 56) #[] #[.pointer (some ⟨k1, 0, none⟩)], .slice (some ⟨h, x.val * 512, none⟩) 512 512, undef, undef, undef, undef, undef, undef, undef, undef, undef], defers := [] })
    (fun x a' => ownFrom_pure _ _) ?assign ?body ?done ?stop
  case assign =>
    rintro l pre x W K hI hK
    dsimp only [encS]
    simp only [Nat.zero_add]
    gi_wp2
    exact hK _ _ (KeepsFrom.refl _ _) rfl hI rfl
  case body =>
    rintro l pre x a' W hlw ⟨r, hr1⟩ ⟨⟨q1, ⟨v, q2, q3⟩, q4, q5⟩, hB⟩ rfl hlt2
    obtain ⟨hd1, hd2⟩ := hideTo_length xs M HL.out HML.out pre
    obtain ⟨d, hd, hst⟩ : ∃ d hd, hideTo xs M pre = (d, hd) := ⟨_, _, rfl⟩
    rw [hst] at q1 q3 hd1 hd2
    dsimp only at q1 q3 hd1 hd2
    have HR : Hid _ := hide_round w W h c gm k1 d M hd v x (by have := Hh.out; omega) hlt hd1 HML.out hM hB q1 q2 q3 q4 q5
    have hown1 := q3
    have hsz1 : k1 + 1 ≤ W.drew.heap.size := q5
    have hs8 : ((sec d x.val).take 8).length = 8 := by have := sec_length d x.val hd1 x.isLt; simp [this]
    have hr8 : Rd W (some ⟨h, x.val * 512, none⟩) ((sec d x.val).take 8) := by
      have := (sec_part q1.rd x).part 0 8
      simpa using this
    have hn8 : hd.length + 8 ≤ 140737488355328 := by omega
    have d5 : W.drew.cell? ⟨w.heap.size + 1, 0, none⟩ = some v := q2.cell 0
    have HST : Hid _ := hst
    clear hst hd1 hd2 q1 q2 q3 q4 q5
    have hst := HST
    gi_wp2_with fail
    refine wpIn_region_any (by kernel_rfl) ?_
    change wpAnyIn _ _ _ _ _ _ _ _ _ (World.drew _)
    refine wpAnyIn_ready (rs := [0, 1]) (by kernel_rfl) (by simp) ?_
    refine AllReadyIn.cons rfl (fun K hK2 => ?_) ?_
    · skip
      go_simp
      refine hK2 _ _ ?_
      clear hK2 K
      refine wpAnyIn_ready (rs := [1]) (by kernel_rfl) (by simp) ?_
      refine AllReadyIn.cons rfl (fun K hK2 => ?_) ?_
      · skip
        go_simp
        refine hK2 _ _ ?_
        clear hK2 K
        refine wpAnyIn_ready (rs := [2]) (by kernel_rfl) (by simp) ?_
        refine AllReadyIn.cons rfl (fun K hK2 => ?_) ?_
        · skip
          go_simp
          refine hK2 _ _ ?_
          clear hK2 K
          refine wpAnyIn_ready (rs := [3]) (by kernel_rfl) (by simp) ?_
          refine AllReadyIn.cons rfl (fun K hK2 => ?_) ?_
          · skip
            refine wpIn_append_bytes rfl _ _ rfl (k1 + 1) v hd.length (bcs hd) rfl (show W.drew.ownsRow _ _ _ _ _ _ from hown1) h (x.val * 512) 8 512 ((sec d x.val).take 8) rfl hs8 (show Rd W.drew _ _ from hr8) hn8 hsz1 ?_
            intro v' w2 hown2 hg2
            refine hK2 _ _ ?_
            clear hK2 K
            obtain ⟨e1, e2, e3, W5, e4, e5, e6, e7, e8⟩ := HR.out v' w2 hown2 hg2
            obtain ⟨av, cv, rfl⟩ := owns_shape hown2
            refine wpAnyIn_ready (rs := [4]) (by kernel_rfl) (by simp) ?_
            refine AllReadyIn.cons rfl (fun K hK2 => ?_) ?_
            · skip
              go_simp
              refine hK2 _ _ ?_
              clear hK2 K
              refine wpAnyIn_done (by kernel_rfl) ?_ _
              gi_wp2
              exact ⟨e7.from _, World.cell?_of_block (a := ⟨k1, 0, none⟩) e8, by rw [hideTo_snoc]; rw [hst.out]; exact e5, e6⟩
            exact AllReadyIn.nil
          exact AllReadyIn.nil
        exact AllReadyIn.nil
      exact AllReadyIn.nil
    refine AllReadyIn.cons rfl (fun K hK2 => ?_) ?_
    · skip
      go_simp
      refine hK2 _ _ ?_
      clear hK2 K
      refine wpAnyIn_ready (rs := [0, 2]) (by kernel_rfl) (by simp) ?_
      refine AllReadyIn.cons rfl (fun K hK2 => ?_) ?_
      · skip
        go_simp
        refine hK2 _ _ ?_
        clear hK2 K
        refine wpAnyIn_ready (rs := [2]) (by kernel_rfl) (by simp) ?_
        refine AllReadyIn.cons rfl (fun K hK2 => ?_) ?_
        · skip
          go_simp
          refine hK2 _ _ ?_
          clear hK2 K
          refine wpAnyIn_ready (rs := [3]) (by kernel_rfl) (by simp) ?_
          refine AllReadyIn.cons rfl (fun K hK2 => ?_) ?_
          · skip
            refine wpIn_append_bytes rfl _ _ rfl (k1 + 1) v hd.length (bcs hd) rfl (show W.drew.ownsRow _ _ _ _ _ _ from hown1) h (x.val * 512) 8 512 ((sec d x.val).take 8) rfl hs8 (show Rd W.drew _ _ from hr8) hn8 hsz1 ?_
            intro v' w2 hown2 hg2
            refine hK2 _ _ ?_
            clear hK2 K
            obtain ⟨e1, e2, e3, W5, e4, e5, e6, e7, e8⟩ := HR.out v' w2 hown2 hg2
            obtain ⟨av, cv, rfl⟩ := owns_shape hown2
            refine wpAnyIn_ready (rs := [4]) (by kernel_rfl) (by simp) ?_
            refine AllReadyIn.cons rfl (fun K hK2 => ?_) ?_
            · skip
              go_simp
              refine hK2 _ _ ?_
              clear hK2 K
              refine wpAnyIn_done (by kernel_rfl) ?_ _
              gi_wp2
              exact ⟨e7.from _, World.cell?_of_block (a := ⟨k1, 0, none⟩) e8, by rw [hideTo_snoc]; rw [hst.out]; exact e5, e6⟩
            exact AllReadyIn.nil
          exact AllReadyIn.nil
        exact AllReadyIn.nil
      refine AllReadyIn.cons rfl (fun K hK2 => ?_) ?_
      · skip
        go_simp
        refine hK2 _ _ ?_
        clear hK2 K
        refine wpAnyIn_ready (rs := [0]) (by kernel_rfl) (by simp) ?_
        refine AllReadyIn.cons rfl (fun K hK2 => ?_) ?_
        · skip
          go_simp
          refine hK2 _ _ ?_
          clear hK2 K
          refine wpAnyIn_ready (rs := [3]) (by kernel_rfl) (by simp) ?_
          refine AllReadyIn.cons rfl (fun K hK2 => ?_) ?_
          · skip
            refine wpIn_append_bytes rfl _ _ rfl (k1 + 1) v hd.length (bcs hd) rfl (show W.drew.ownsRow _ _ _ _ _ _ from hown1) h (x.val * 512) 8 512 ((sec d x.val).take 8) rfl hs8 (show Rd W.drew _ _ from hr8) hn8 hsz1 ?_
            intro v' w2 hown2 hg2
            refine hK2 _ _ ?_
            clear hK2 K
            obtain ⟨e1, e2, e3, W5, e4, e5, e6, e7, e8⟩ := HR.out v' w2 hown2 hg2
            obtain ⟨av, cv, rfl⟩ := owns_shape hown2
            refine wpAnyIn_ready (rs := [4]) (by kernel_rfl) (by simp) ?_
            refine AllReadyIn.cons rfl (fun K hK2 => ?_) ?_
            · skip
              go_simp
              refine hK2 _ _ ?_
              clear hK2 K
              refine wpAnyIn_done (by kernel_rfl) ?_ _
              gi_wp2
              exact ⟨e7.from _, World.cell?_of_block (a := ⟨k1, 0, none⟩) e8, by rw [hideTo_snoc]; rw [hst.out]; exact e5, e6⟩
            exact AllReadyIn.nil
          exact AllReadyIn.nil
        exact AllReadyIn.nil
      exact AllReadyIn.nil
    exact AllReadyIn.nil
  case done =>
    rintro D' ys W hD rfl ⟨⟨q1, ⟨v, q2, q3⟩, q4, q5⟩, hB⟩ hK
    obtain ⟨hd1, hd2⟩ := hideTo_length xs M HL.out HML.out (List.finRange 8)
    have hd3 : (hideTo xs M (List.finRange 8)).2.length = 64 := by rw [hd2]; simp
    rw [hd3] at q3
    obtain ⟨av, cv, rfl⟩ := owns_shape q3
    have q3' : W.ownsRow (h + 1) 5 1 (.slice av 64 cv) 64 (bcs (hideTo xs M (List.finRange 8)).2) := by
      refine ⟨q3.1, ?_⟩
      rcases q3.2 with e | ⟨g', cap', cur, e1, e2, e3⟩
      · exact .inl e
      · exact .inr ⟨g', cap', cur, e1, by omega, e3⟩
    have d5 : W.drew.cell? ⟨w.heap.size + 1, 0, none⟩ = some (.slice av 64 cv) := q2.cell 0
    have f5 : W.drew.frozen? ⟨w.heap.size + 1, 0, none⟩ = false := q2.frozen 0
    obtain ⟨V, hV⟩ : ∃ V, V = W.drew := ⟨_, rfl⟩
    have hK0 : V.heap[D']? = some (.deferred (some [])) := by rw [hV]; exact hK
    have hbV : Box V (w.heap.size + 1) #[.slice av 64 cv] 31 := by rw [hV]; exact q2
    have rwV : RowB V h c (hideTo xs M (List.finRange 8)).1 := by rw [hV]; exact q1
    have owV : V.ownsRow (h + 1) 5 1 (.slice av 64 cv) 64 (bcs (hideTo xs M (List.finRange 8)).2) := by rw [hV]; exact q3'
    have hBV : Below w.heap.size w V := by rw [hV]; exact hB.drew
    have rwV2 := rowB_store (j := 0) rwV hbV (by decide) (.slice av 64 cv)
    have owV2 := owns_grown owV (grown_store V (w.heap.size + 1) 0 (.slice av 64 cv)) (fun g' e => by
      obtain ⟨q, _⟩ := owns_block owV g' e
      intro e2
      cases e2
      have := Hh.out
      omega)
    have hBV2 := hBV.setCell (p := ⟨w.heap.size + 1, 0, none⟩) (by simp) (.slice av 64 cv)
    have hbV2 : Box (V.setCell ⟨w.heap.size + 1, 0, none⟩ (.slice av 64 cv)) (w.heap.size + 1) #[.slice av 64 cv] 31 := by have := hbV.store 0 (.slice av 64 cv); simpa using this
    have hKV : (V.setCell ⟨w.heap.size + 1, 0, none⟩ (.slice av 64 cv)).heap[D']? = some (.deferred (some [])) := (KeepsOthers.setCell V ⟨w.heap.size + 1, 0, none⟩ (.slice av 64 cv)).same D' _ hK0 rfl
    rw [← hV] at d5 f5
    gi_wp2_with fail
    refine wpIn_region_any (by kernel_rfl) ?_
    change wpAnyIn _ _ _ _ _ _ _ _ _ (World.drew _)
    rw [← hV]
    clear hV q1 q2 q3 q3' hB hK
    refine wpAnyIn_ready (rs := [0, 1]) (by kernel_rfl) (by simp) ?_
    refine AllReadyIn.cons rfl (fun K hK2 => ?_) ?_
    · skip
      go_simp
      refine hK2 _ _ ?_
      clear hK2 K
      refine wpAnyIn_ready (rs := [1, 2]) (by kernel_rfl) (by simp) ?_
      refine AllReadyIn.cons rfl (fun K hK2 => ?_) ?_
      · skip
        go_simp
        refine hK2 _ _ ?_
        clear hK2 K
        refine wpAnyIn_ready (rs := [2]) (by kernel_rfl) (by simp) ?_
        refine AllReadyIn.cons rfl (fun K hK2 => ?_) ?_
        · skip
          go_simp
          refine hK2 _ _ ?_
          clear hK2 K
          refine wpAnyIn_ready (rs := [3]) (by kernel_rfl) (by simp) ?_
          refine AllReadyIn.cons rfl (fun K hK2 => ?_) ?_
          · skip
            go_simp
            refine hK2 _ _ ?_
            clear hK2 K
            refine wpAnyIn_done (by kernel_rfl) ?_ _
            gi_wp2
            have hc5 := (hbV2.kept (grownBy_putObj' _ D' (.deferred none)) (fun r e => by cases e; exact ⟨_, hKV, rfl⟩)).cell 0
            refine ⟨by simp, .inl ⟨_, _, rfl, run_takeDeferred hKV, ?_⟩⟩
            refine ⟨_, by simp [results, Try.f30, go_sem, hc5], h, c, _, rfl, by have := Hh.out; omega, rwV2.kept (grownBy_putObj' _ D' (.deferred none)) (fun r e => by cases e; exact ⟨_, hKV, rfl⟩), owns_kept owV2 (grownBy_putObj' _ D' (.deferred none)) (fun r e => by cases e; exact ⟨_, hKV, rfl⟩), hBV2.trans (belowK_b (w := w) (Nat.le_refl _) _ D' _ _ (by omega) hKV rfl rfl)⟩
          exact AllReadyIn.nil
        exact AllReadyIn.nil
      refine AllReadyIn.cons rfl (fun K hK2 => ?_) ?_
      · skip
        go_simp
        refine hK2 _ _ ?_
        clear hK2 K
        refine wpAnyIn_ready (rs := [1]) (by kernel_rfl) (by simp) ?_
        refine AllReadyIn.cons rfl (fun K hK2 => ?_) ?_
        · skip
          go_simp
          refine hK2 _ _ ?_
          clear hK2 K
          refine wpAnyIn_ready (rs := [3]) (by kernel_rfl) (by simp) ?_
          refine AllReadyIn.cons rfl (fun K hK2 => ?_) ?_
          · skip
            go_simp
            refine hK2 _ _ ?_
            clear hK2 K
            refine wpAnyIn_done (by kernel_rfl) ?_ _
            gi_wp2
            have hc5 := (hbV2.kept (grownBy_putObj' _ D' (.deferred none)) (fun r e => by cases e; exact ⟨_, hKV, rfl⟩)).cell 0
            refine ⟨by simp, .inl ⟨_, _, rfl, run_takeDeferred hKV, ?_⟩⟩
            refine ⟨_, by simp [results, Try.f30, go_sem, hc5], h, c, _, rfl, by have := Hh.out; omega, rwV2.kept (grownBy_putObj' _ D' (.deferred none)) (fun r e => by cases e; exact ⟨_, hKV, rfl⟩), owns_kept owV2 (grownBy_putObj' _ D' (.deferred none)) (fun r e => by cases e; exact ⟨_, hKV, rfl⟩), hBV2.trans (belowK_b (w := w) (Nat.le_refl _) _ D' _ _ (by omega) hKV rfl rfl)⟩
          exact AllReadyIn.nil
        exact AllReadyIn.nil
      exact AllReadyIn.nil
    refine AllReadyIn.cons rfl (fun K hK2 => ?_) ?_
    · skip
      go_simp
      refine hK2 _ _ ?_
      clear hK2 K
      refine wpAnyIn_ready (rs := [0]) (by kernel_rfl) (by simp) ?_
      refine AllReadyIn.cons rfl (fun K hK2 => ?_) ?_
      · skip
        go_simp
        refine hK2 _ _ ?_
        clear hK2 K
        refine wpAnyIn_ready (rs := [2]) (by kernel_rfl) (by simp) ?_
        refine AllReadyIn.cons rfl (fun K hK2 => ?_) ?_
        · skip
          go_simp
          refine hK2 _ _ ?_
          clear hK2 K
          refine wpAnyIn_ready (rs := [3]) (by kernel_rfl) (by simp) ?_
          refine AllReadyIn.cons rfl (fun K hK2 => ?_) ?_
          · skip
            go_simp
            refine hK2 _ _ ?_
            clear hK2 K
            refine wpAnyIn_done (by kernel_rfl) ?_ _
            gi_wp2
            have hc5 := (hbV2.kept (grownBy_putObj' _ D' (.deferred none)) (fun r e => by cases e; exact ⟨_, hKV, rfl⟩)).cell 0
            refine ⟨by simp, .inl ⟨_, _, rfl, run_takeDeferred hKV, ?_⟩⟩
            refine ⟨_, by simp [results, Try.f30, go_sem, hc5], h, c, _, rfl, by have := Hh.out; omega, rwV2.kept (grownBy_putObj' _ D' (.deferred none)) (fun r e => by cases e; exact ⟨_, hKV, rfl⟩), owns_kept owV2 (grownBy_putObj' _ D' (.deferred none)) (fun r e => by cases e; exact ⟨_, hKV, rfl⟩), hBV2.trans (belowK_b (w := w) (Nat.le_refl _) _ D' _ _ (by omega) hKV rfl rfl)⟩
          exact AllReadyIn.nil
        exact AllReadyIn.nil
      exact AllReadyIn.nil
    exact AllReadyIn.nil
  case stop =>
    rintro D' c pre W hD _ ⟨hf, _⟩ hK
    exact hf.elim
end Go.Proofs.Ytghcmlkgpedkkaa
