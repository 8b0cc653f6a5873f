/-
  RcHide, RcEntsOf, RcRightH, RcRightG, RcPutB, RcBodyOf, RcGetH: put together.
-/
import Derived.Test.YtkhejjddmbegaaaGreatG4
/-
  hide.
-/
namespace Go.Proofs.YtkhejjddmbegaaaGreat.Rc
open Go.RowKit Go.Shelf
attribute [local go_sem] Oper.semAt_some

set_option maxRecDepth 100000 in
set_option maxHeartbeats 4000000 in
theorem hide_in (g o cap gm : Nat) (xs M : List UInt8) (w : World) (hl : xs.length = 4096) (hr : Rd w (some ⟨g, o, none⟩) xs) (hml : M.length = 8) (hM : Rd w (some ⟨gm, 0, none⟩) M) :
    Calls Tryz.prog 76 #[.slice (some ⟨g, o, none⟩) 4096 cap, .slice (some ⟨gm, 0, none⟩) 8 8] w fun r w' => ∃ h c v, r = .returned (.tuple #[.slice (some ⟨h, 0, none⟩) 4096 c, v]) ∧ w.heap.size ≤ h ∧
      RowB w' h c (hideTo xs M (List.finRange 8)).1 ∧ w'.ownsRow (h + 1) 5 1 v 64 (bcs (hideTo xs M (List.finRange 8)).2) ∧ Below w.heap.size w w' := by
  refine (callsIn_wide (n := 3)).1 ?_
  have c1 : ∀ u, Below w.heap.size w u → _ := fun u hb => clone_at cap 4096 g o xs u hl (by omega) (by omega) (hr.below hb (Nat.le_refl _))
  refine callsIn_of_wp_marks Tryz.func76 rfl trivial ?_ rfl
  simp only [Tryz.ntmps76, List.size_toArray, List.length_cons, List.length_nil, Nat.reduceAdd, Nat.reduceSub, Array.replicate_succ, Array.replicate_zero, List.push_toArray, List.append_toArray, List.nil_append, List.cons_append]
  gi_wp2_with fail
  refine ⟨trivial, ?_⟩
  refine ((callsIn_wide (n := 2)).2 (c1 _ (((Below.refl _ w).alloc (Nat.le_refl _) _).alloc (by simp) _))).mono ?_
  rintro r w1 ⟨h, c, rfl, hh, hrow, hb1⟩
  gi_wp2_with fail
  refine ⟨trivial, ?_⟩
  refine (sectors_in 2 _ _ _ _).mono ?_
  rintro r w' ⟨rfl, rfl⟩
  gi_wp2_with fail
  have bN := Box.new w #[.slice (some ⟨gm, 0, none⟩) 8 8] 41
  have bR := Box.new (w.alloc (.cells #[.slice (some ⟨gm, 0, none⟩) 8 8] 41)) #[.slice none 0 0] 41
  have s1 : (w.alloc (.cells #[.slice (some ⟨gm, 0, none⟩) 8 8] 41)).heap.size = w.heap.size + 1 := by simp
  have s2 : ((w.alloc (.cells #[.slice (some ⟨gm, 0, none⟩) 8 8] 41)).alloc (.cells #[.slice none 0 0] 41)).heap.size = w.heap.size + 2 := by simp
  rw [s1] at bR
  rw [s2] at hh hb1
  have B0 := ((Below.refl w.heap.size w).alloc (Nat.le_refl _) (.cells #[.slice (some ⟨gm, 0, none⟩) 8 8] 41)).alloc (by simp) (.cells #[.slice none 0 0] 41)
  have B1 : Below w.heap.size w w1 := B0.trans (hb1.mono (by omega))
  have bN1 : Box w1 w.heap.size #[.slice (some ⟨gm, 0, none⟩) 8 8] 41 := (hb1.block _ (by omega)).trans (bN.alloc _)
  have bR1 : Box w1 (w.heap.size + 1) #[.slice none 0 0] 41 := (hb1.block _ (by omega)).trans bR
  have hlt := hrow.lt
  have hcm : 4096 ≤ c ∧ c ≤ 9223372036854775807 := by
    obtain ⟨cur, _, q1, q2, _⟩ := hrow
    unfold maxLen at q2
    omega
  have bS := Box.new w1 #[.slice (some ⟨h, 0, none⟩) 4096 c] 41
  have bN2 := bN1.alloc (.cells #[.slice (some ⟨h, 0, none⟩) 4096 c] 41)
  have bR2 := bR1.alloc (.cells #[.slice (some ⟨h, 0, none⟩) 4096 c] 41)
  have rw2 : RowB (w1.alloc (.cells #[.slice (some ⟨h, 0, none⟩) 4096 c] 41)) h c xs := hrow.same (Below.heap_alloc w1 _ h hlt)
  have B2 := B1.alloc B1.size (.cells #[.slice (some ⟨h, 0, none⟩) 4096 c] 41)
  obtain ⟨W0, hW0⟩ : ∃ W, W = w1.alloc (.cells #[.slice (some ⟨h, 0, none⟩) 4096 c] 41) := ⟨_, rfl⟩
  have s3 : W0.heap.size = w1.heap.size + 1 := by rw [hW0]; simp
  rw [← hW0] at bS bN2 bR2 rw2 B2 ⊢
  clear hW0 bN bR s1 s2 B0 hb1 bN1 bR1 hrow
  obtain ⟨k1, hk1⟩ : ∃ k, k = w1.heap.size := ⟨_, rfl⟩
  rw [← hk1] at bS s3 hlt ⊢
  clear hk1 B1 c1
  have hs3 : k1 + 1 ≤ W0.heap.size := by omega
  have hs4 : w.heap.size < W0.heap.size := by omega
  have S3 : Hid _ := s3
  clear s3
  have HML : Hid _ := hml
  have HL : Hid _ := hl
  clear hml hl
  have Hh : Hid _ := hh
  clear hh
  obtain ⟨hc1, hc2⟩ := hcm
  refine wpIn_rangeFunc_ownH (α := Fin 8) rfl (by omega) (gf := 105) (lb := #[.pointer (some ⟨k1, 0, none⟩)]) rfl trivial (enters_of Tryz.func105 (by kernel_rfl) rfl)
    (sect_stops (3 - 1) (by omega) k1 h 0 c hc1 hc2 W0 (by omega) (bS.cell 0)) cellK_t (cellK_b (by omega)) (Below.refl _ _) (fun _ => rfl)
    (fun pre W => HideI w h c gm k1 (hideTo xs M pre) W ∧ Below w.heap.size w W)
    (fun c _ W => False ∧ Below w.heap.size w W)
    (OwnFrom.and (Own.from (fun s A B row hs hg hr => by
      obtain ⟨a1, ⟨v, a2, a3⟩, a4, a5⟩ := hs
      exact ⟨a1.kept hg hr, ⟨v, a2.kept hg hr, owns_kept a3 hg hr⟩, a4.kept hg hr, Nat.le_trans a5 hg.size⟩) _) (ownFrom_below (Nat.le_refl _) (by omega)))
    (fun c => OwnFrom.and (Own.from (fun s A B row hs hg hr => hs) _) (ownFrom_below (Nat.le_refl _) (by omega)))
    ⟨⟨rw2, ⟨_, bR2, World.ownsRow_nil _ _ _ _⟩, bN2, hs3⟩, B2⟩
    (fun x a' _ => a' = { tmps := #[.slice (some ⟨g, o, none⟩) 4096 cap, .slice (some ⟨gm, 0, none⟩) 8 8, undef, .pointer (some ⟨w.heap.size, 0, none⟩), .slice (some ⟨h, 0, none⟩) 4096 c, .pointer (some ⟨w.heap.size + 1, 0, none⟩), .slice (some ⟨h, x.val * 512, none⟩) 512 512, .slice (some ⟨g, o, none⟩) 4096 cap, .slice (some ⟨h, 0, none⟩) 4096 c, .slice (some ⟨h, 0, none⟩) 4096 c, .func (.func 105) #[] #[.pointer (some ⟨k1, 0, none⟩)], .slice (some ⟨h, x.val * 512, none⟩) 512 512, undef, undef, undef, undef, undef, undef, undef, undef, undef], defers := [] })
    (fun x a' => ownFrom_pure _ _) ?assign ?body ?done ?stop
  case assign =>
    rintro l pre x W K hI hK
    dsimp only [encS]
    simp only [Nat.zero_add]
    gi_wp2
    exact hK _ _ (KeepsFrom.refl _ _) rfl hI rfl
  case body =>
    rintro l pre x a' W hlw ⟨r, hr1⟩ ⟨⟨q1, ⟨v, q2, q3⟩, q4, q5⟩, hB⟩ rfl hlt2
    obtain ⟨hd1, hd2⟩ := hideTo_length xs M HL.out HML.out pre
    obtain ⟨d, hd, hst⟩ : ∃ d hd, hideTo xs M pre = (d, hd) := ⟨_, _, rfl⟩
    rw [hst] at q1 q3 hd1 hd2
    dsimp only at q1 q3 hd1 hd2
    have HR : Hid _ := hide_round w W h c gm k1 d M hd v x (by have := Hh.out; omega) hlt hd1 HML.out hM hB q1 q2 q3 q4 q5
    have hown1 := q3
    have hsz1 : k1 + 1 ≤ W.drew.heap.size := q5
    have hs8 : ((sec d x.val).take 8).length = 8 := by have := sec_length d x.val hd1 x.isLt; simp [this]
    have hr8 : Rd W (some ⟨h, x.val * 512, none⟩) ((sec d x.val).take 8) := by
      have := (sec_part q1.rd x).part 0 8
      simpa using this
    have hn8 : hd.length + 8 ≤ 140737488355328 := by omega
    have d5 : W.drew.cell? ⟨w.heap.size + 1, 0, none⟩ = some v := q2.cell 0
    have HST : Hid _ := hst
    clear hst hd1 hd2 q1 q2 q3 q4 q5
    have hst := HST
    gi_wp2_with fail
    refine wpIn_region_any (by kernel_rfl) ?_
    change wpAnyIn _ _ _ _ _ _ _ _ _ (World.drew _)
    refine wpAnyIn_ready (rs := [0, 1]) (by kernel_rfl) (by simp) ?_
    refine AllReadyIn.cons rfl (fun K hK2 => ?_) ?_
    · skip
      go_simp
      refine hK2 _ _ ?_
      clear hK2 K
      refine wpAnyIn_ready (rs := [1]) (by kernel_rfl) (by simp) ?_
      refine AllReadyIn.cons rfl (fun K hK2 => ?_) ?_
      · skip
        go_simp
        refine hK2 _ _ ?_
        clear hK2 K
        refine wpAnyIn_ready (rs := [2]) (by kernel_rfl) (by simp) ?_
        refine AllReadyIn.cons rfl (fun K hK2 => ?_) ?_
        · skip
          go_simp
          refine hK2 _ _ ?_
          clear hK2 K
          refine wpAnyIn_ready (rs := [3]) (by kernel_rfl) (by simp) ?_
          refine AllReadyIn.cons rfl (fun K hK2 => ?_) ?_
          · skip
            refine wpIn_append_bytes rfl _ _ rfl (k1 + 1) v hd.length (bcs hd) rfl (show W.drew.ownsRow _ _ _ _ _ _ from hown1) h (x.val * 512) 8 512 ((sec d x.val).take 8) rfl hs8 (show Rd W.drew _ _ from hr8) hn8 hsz1 ?_
            intro v' w2 hown2 hg2
            refine hK2 _ _ ?_
            clear hK2 K
            obtain ⟨e1, e2, e3, W5, e4, e5, e6, e7, e8⟩ := HR.out v' w2 hown2 hg2
            obtain ⟨av, cv, rfl⟩ := owns_shape hown2
            refine wpAnyIn_ready (rs := [4]) (by kernel_rfl) (by simp) ?_
            refine AllReadyIn.cons rfl (fun K hK2 => ?_) ?_
            · skip
              go_simp
              refine hK2 _ _ ?_
              clear hK2 K
              refine wpAnyIn_done (by kernel_rfl) ?_ _
              gi_wp2
              exact ⟨e7.from _, World.cell?_of_block (a := ⟨k1, 0, none⟩) e8, by rw [hideTo_snoc]; rw [hst.out]; exact e5, e6⟩
            exact AllReadyIn.nil
          exact AllReadyIn.nil
        exact AllReadyIn.nil
      exact AllReadyIn.nil
    refine AllReadyIn.cons rfl (fun K hK2 => ?_) ?_
    · skip
      go_simp
      refine hK2 _ _ ?_
      clear hK2 K
      refine wpAnyIn_ready (rs := [0, 2]) (by kernel_rfl) (by simp) ?_
      refine AllReadyIn.cons rfl (fun K hK2 => ?_) ?_
      · skip
        go_simp
        refine hK2 _ _ ?_
        clear hK2 K
        refine wpAnyIn_ready (rs := [2]) (by kernel_rfl) (by simp) ?_
        refine AllReadyIn.cons rfl (fun K hK2 => ?_) ?_
        · skip
          go_simp
          refine hK2 _ _ ?_
          clear hK2 K
          refine wpAnyIn_ready (rs := [3]) (by kernel_rfl) (by simp) ?_
          refine AllReadyIn.cons rfl (fun K hK2 => ?_) ?_
          · skip
            refine wpIn_append_bytes rfl _ _ rfl (k1 + 1) v hd.length (bcs hd) rfl (show W.drew.ownsRow _ _ _ _ _ _ from hown1) h (x.val * 512) 8 512 ((sec d x.val).take 8) rfl hs8 (show Rd W.drew _ _ from hr8) hn8 hsz1 ?_
            intro v' w2 hown2 hg2
            refine hK2 _ _ ?_
            clear hK2 K
            obtain ⟨e1, e2, e3, W5, e4, e5, e6, e7, e8⟩ := HR.out v' w2 hown2 hg2
            obtain ⟨av, cv, rfl⟩ := owns_shape hown2
            refine wpAnyIn_ready (rs := [4]) (by kernel_rfl) (by simp) ?_
            refine AllReadyIn.cons rfl (fun K hK2 => ?_) ?_
            · skip
              go_simp
              refine hK2 _ _ ?_
              clear hK2 K
              refine wpAnyIn_done (by kernel_rfl) ?_ _
              gi_wp2
              exact ⟨e7.from _, World.cell?_of_block (a := ⟨k1, 0, none⟩) e8, by rw [hideTo_snoc]; rw [hst.out]; exact e5, e6⟩
            exact AllReadyIn.nil
          exact AllReadyIn.nil
        exact AllReadyIn.nil
      refine AllReadyIn.cons rfl (fun K hK2 => ?_) ?_
      · skip
        go_simp
        refine hK2 _ _ ?_
        clear hK2 K
        refine wpAnyIn_ready (rs := [0]) (by kernel_rfl) (by simp) ?_
        refine AllReadyIn.cons rfl (fun K hK2 => ?_) ?_
        · skip
          go_simp
          refine hK2 _ _ ?_
          clear hK2 K
          refine wpAnyIn_ready (rs := [3]) (by kernel_rfl) (by simp) ?_
          refine AllReadyIn.cons rfl (fun K hK2 => ?_) ?_
          · skip
            refine wpIn_append_bytes rfl _ _ rfl (k1 + 1) v hd.length (bcs hd) rfl (show W.drew.ownsRow _ _ _ _ _ _ from hown1) h (x.val * 512) 8 512 ((sec d x.val).take 8) rfl hs8 (show Rd W.drew _ _ from hr8) hn8 hsz1 ?_
            intro v' w2 hown2 hg2
            refine hK2 _ _ ?_
            clear hK2 K
            obtain ⟨e1, e2, e3, W5, e4, e5, e6, e7, e8⟩ := HR.out v' w2 hown2 hg2
            obtain ⟨av, cv, rfl⟩ := owns_shape hown2
            refine wpAnyIn_ready (rs := [4]) (by kernel_rfl) (by simp) ?_
            refine AllReadyIn.cons rfl (fun K hK2 => ?_) ?_
            · skip
              go_simp
              refine hK2 _ _ ?_
              clear hK2 K
              refine wpAnyIn_done (by kernel_rfl) ?_ _
              gi_wp2
              exact ⟨e7.from _, World.cell?_of_block (a := ⟨k1, 0, none⟩) e8, by rw [hideTo_snoc]; rw [hst.out]; exact e5, e6⟩
            exact AllReadyIn.nil
          exact AllReadyIn.nil
        exact AllReadyIn.nil
      exact AllReadyIn.nil
    exact AllReadyIn.nil
  case done =>
    rintro D' ys W hD rfl ⟨⟨q1, ⟨v, q2, q3⟩, q4, q5⟩, hB⟩ hK
    obtain ⟨hd1, hd2⟩ := hideTo_length xs M HL.out HML.out (List.finRange 8)
    have hd3 : (hideTo xs M (List.finRange 8)).2.length = 64 := by rw [hd2]; simp
    rw [hd3] at q3
    obtain ⟨av, cv, rfl⟩ := owns_shape q3
    have q3' : W.ownsRow (h + 1) 5 1 (.slice av 64 cv) 64 (bcs (hideTo xs M (List.finRange 8)).2) := by
      refine ⟨q3.1, ?_⟩
      rcases q3.2 with e | ⟨g', cap', cur, e1, e2, e3⟩
      · exact .inl e
      · exact .inr ⟨g', cap', cur, e1, by omega, e3⟩
    have d5 : W.drew.cell? ⟨w.heap.size + 1, 0, none⟩ = some (.slice av 64 cv) := q2.cell 0
    have f5 : W.drew.frozen? ⟨w.heap.size + 1, 0, none⟩ = false := q2.frozen 0
    obtain ⟨V, hV⟩ : ∃ V, V = W.drew := ⟨_, rfl⟩
    have hK0 : V.heap[D']? = some (.deferred (some [])) := by rw [hV]; exact hK
    have hbV : Box V (w.heap.size + 1) #[.slice av 64 cv] 41 := by rw [hV]; exact q2
    have rwV : RowB V h c (hideTo xs M (List.finRange 8)).1 := by rw [hV]; exact q1
    have owV : V.ownsRow (h + 1) 5 1 (.slice av 64 cv) 64 (bcs (hideTo xs M (List.finRange 8)).2) := by rw [hV]; exact q3'
    have hBV : Below w.heap.size w V := by rw [hV]; exact hB.drew
    have rwV2 := rowB_store (j := 0) rwV hbV (by decide) (.slice av 64 cv)
    have owV2 := owns_grown owV (grown_store V (w.heap.size + 1) 0 (.slice av 64 cv)) (fun g' e => by
      obtain ⟨q, _⟩ := owns_block owV g' e
      intro e2
      cases e2
      have := Hh.out
      omega)
    have hBV2 := hBV.setCell (p := ⟨w.heap.size + 1, 0, none⟩) (by simp) (.slice av 64 cv)
    have hbV2 : Box (V.setCell ⟨w.heap.size + 1, 0, none⟩ (.slice av 64 cv)) (w.heap.size + 1) #[.slice av 64 cv] 41 := by have := hbV.store 0 (.slice av 64 cv); simpa using this
    have hKV : (V.setCell ⟨w.heap.size + 1, 0, none⟩ (.slice av 64 cv)).heap[D']? = some (.deferred (some [])) := (KeepsOthers.setCell V ⟨w.heap.size + 1, 0, none⟩ (.slice av 64 cv)).same D' _ hK0 rfl
    rw [← hV] at d5 f5
    gi_wp2_with fail
    refine wpIn_region_any (by kernel_rfl) ?_
    change wpAnyIn _ _ _ _ _ _ _ _ _ (World.drew _)
    rw [← hV]
    clear hV q1 q2 q3 q3' hB hK
    refine wpAnyIn_ready (rs := [0, 1]) (by kernel_rfl) (by simp) ?_
    refine AllReadyIn.cons rfl (fun K hK2 => ?_) ?_
    · skip
      go_simp
      refine hK2 _ _ ?_
      clear hK2 K
      refine wpAnyIn_ready (rs := [1, 2]) (by kernel_rfl) (by simp) ?_
      refine AllReadyIn.cons rfl (fun K hK2 => ?_) ?_
      · skip
        go_simp
        refine hK2 _ _ ?_
        clear hK2 K
        refine wpAnyIn_ready (rs := [2]) (by kernel_rfl) (by simp) ?_
        refine AllReadyIn.cons rfl (fun K hK2 => ?_) ?_
        · skip
          go_simp
          refine hK2 _ _ ?_
          clear hK2 K
          refine wpAnyIn_ready (rs := [3]) (by kernel_rfl) (by simp) ?_
          refine AllReadyIn.cons rfl (fun K hK2 => ?_) ?_
          · skip
            go_simp
            refine hK2 _ _ ?_
            clear hK2 K
            refine wpAnyIn_done (by kernel_rfl) ?_ _
            gi_wp2
            have hc5 := (hbV2.kept (grownBy_putObj' _ D' (.deferred none)) (fun r e => by cases e; exact ⟨_, hKV, rfl⟩)).cell 0
            refine ⟨by simp, .inl ⟨_, _, rfl, run_takeDeferred hKV, ?_⟩⟩
            refine ⟨_, by simp [results, Tryz.f76, go_sem, hc5], h, c, _, rfl, by have := Hh.out; omega, rwV2.kept (grownBy_putObj' _ D' (.deferred none)) (fun r e => by cases e; exact ⟨_, hKV, rfl⟩), owns_kept owV2 (grownBy_putObj' _ D' (.deferred none)) (fun r e => by cases e; exact ⟨_, hKV, rfl⟩), hBV2.trans (belowK_b (w := w) (Nat.le_refl _) _ D' _ _ (by omega) hKV rfl rfl)⟩
          exact AllReadyIn.nil
        exact AllReadyIn.nil
      refine AllReadyIn.cons rfl (fun K hK2 => ?_) ?_
      · skip
        go_simp
        refine hK2 _ _ ?_
        clear hK2 K
        refine wpAnyIn_ready (rs := [1]) (by kernel_rfl) (by simp) ?_
        refine AllReadyIn.cons rfl (fun K hK2 => ?_) ?_
        · skip
          go_simp
          refine hK2 _ _ ?_
          clear hK2 K
          refine wpAnyIn_ready (rs := [3]) (by kernel_rfl) (by simp) ?_
          refine AllReadyIn.cons rfl (fun K hK2 => ?_) ?_
          · skip
            go_simp
            refine hK2 _ _ ?_
            clear hK2 K
            refine wpAnyIn_done (by kernel_rfl) ?_ _
            gi_wp2
            have hc5 := (hbV2.kept (grownBy_putObj' _ D' (.deferred none)) (fun r e => by cases e; exact ⟨_, hKV, rfl⟩)).cell 0
            refine ⟨by simp, .inl ⟨_, _, rfl, run_takeDeferred hKV, ?_⟩⟩
            refine ⟨_, by simp [results, Tryz.f76, go_sem, hc5], h, c, _, rfl, by have := Hh.out; omega, rwV2.kept (grownBy_putObj' _ D' (.deferred none)) (fun r e => by cases e; exact ⟨_, hKV, rfl⟩), owns_kept owV2 (grownBy_putObj' _ D' (.deferred none)) (fun r e => by cases e; exact ⟨_, hKV, rfl⟩), hBV2.trans (belowK_b (w := w) (Nat.le_refl _) _ D' _ _ (by omega) hKV rfl rfl)⟩
          exact AllReadyIn.nil
        exact AllReadyIn.nil
      exact AllReadyIn.nil
    refine AllReadyIn.cons rfl (fun K hK2 => ?_) ?_
    · skip
      go_simp
      refine hK2 _ _ ?_
      clear hK2 K
      refine wpAnyIn_ready (rs := [0]) (by kernel_rfl) (by simp) ?_
      refine AllReadyIn.cons rfl (fun K hK2 => ?_) ?_
      · skip
        go_simp
        refine hK2 _ _ ?_
        clear hK2 K
        refine wpAnyIn_ready (rs := [2]) (by kernel_rfl) (by simp) ?_
        refine AllReadyIn.cons rfl (fun K hK2 => ?_) ?_
        · skip
          go_simp
          refine hK2 _ _ ?_
          clear hK2 K
          refine wpAnyIn_ready (rs := [3]) (by kernel_rfl) (by simp) ?_
          refine AllReadyIn.cons rfl (fun K hK2 => ?_) ?_
          · skip
            go_simp
            refine hK2 _ _ ?_
            clear hK2 K
            refine wpAnyIn_done (by kernel_rfl) ?_ _
            gi_wp2
            have hc5 := (hbV2.kept (grownBy_putObj' _ D' (.deferred none)) (fun r e => by cases e; exact ⟨_, hKV, rfl⟩)).cell 0
            refine ⟨by simp, .inl ⟨_, _, rfl, run_takeDeferred hKV, ?_⟩⟩
            refine ⟨_, by simp [results, Tryz.f76, go_sem, hc5], h, c, _, rfl, by have := Hh.out; omega, rwV2.kept (grownBy_putObj' _ D' (.deferred none)) (fun r e => by cases e; exact ⟨_, hKV, rfl⟩), owns_kept owV2 (grownBy_putObj' _ D' (.deferred none)) (fun r e => by cases e; exact ⟨_, hKV, rfl⟩), hBV2.trans (belowK_b (w := w) (Nat.le_refl _) _ D' _ _ (by omega) hKV rfl rfl)⟩
          exact AllReadyIn.nil
        exact AllReadyIn.nil
      exact AllReadyIn.nil
    exact AllReadyIn.nil
  case stop =>
    rintro D' c pre W hD _ ⟨hf, _⟩ hK
    exact hf.elim
end Go.Proofs.YtkhejjddmbegaaaGreat.Rc

/-
  entriesOf.
-/
namespace Go.Proofs.YtkhejjddmbegaaaGreat.Rc
open Go.RowKit

theorem info62 : (Tryz.prog.info? 133).map (fun i => (i.zero, i.size, i.bytes)) = some (some (.agg #[.int .i64 0, .slice none 0 0]), 2, 32) := by kernel_rfl
theorem two_cells {w : World} {g : Nat} {c0 c1 : Value} {t : TypeId} (h : Box w g #[c0, c1] t) : ∀ j u, ([c0, c1] : List Value)[j]? = some u → w.cell? ((⟨g, 0, none⟩ : Addr).add j) = some u := fun j u hj => by
  rw [Addr.add_lit, Nat.zero_add, h.cell j]
  simpa using hj

/-- entry i of a body -/
def entOf (BB : List UInt8) (i : Nat) : Nat × List UInt8 := (beNat ((BB.drop (6 + i * 66)).take 2), (BB.drop (8 + i * 66)).take 64)
def entsOf (BB : List UInt8) (n : Nat) : List (Nat × List UInt8) := (List.range n).map (entOf BB)
theorem entsOf_length (BB : List UInt8) (n : Nat) : (entsOf BB n).length = n := by simp [entsOf]
def entCell (BB : List UInt8) (g o cap i : Nat) : List Value := [.int .i64 ((entOf BB i).1 : Int), .slice (some ⟨g, o + (8 + i * 66), none⟩) 64 (cap - (8 + i * 66))]
def entCells (BB : List UInt8) (g o cap n : Nat) : List Value := (List.range n).flatMap (entCell BB g o cap)
theorem entCells_succ (BB : List UInt8) (g o cap n : Nat) : entCells BB g o cap (n + 1) = entCells BB g o cap n ++ entCell BB g o cap n := by simp [entCells, List.range_succ]
theorem entCells_at (BB : List UInt8) (g o cap n i : Nat) (h : i < n) : (entCells BB g o cap n)[i * 2]? = some (.int .i64 ((entOf BB i).1 : Int)) ∧ (entCells BB g o cap n)[i * 2 + 1]? = some (.slice (some ⟨g, o + (8 + i * 66), none⟩) 64 (cap - (8 + i * 66))) := by
  have hl : ∀ n, (entCells BB g o cap n).length = n * 2 := by
    intro n
    induction n with
    | zero => rfl
    | succ n ih => rw [entCells_succ, List.length_append, ih]; simp [entCell]; omega
  induction n with
  | zero => omega
  | succ n ih =>
    rw [entCells_succ]
    by_cases hi : i < n
    · obtain ⟨a, b⟩ := ih hi
      rw [List.getElem?_append_left (by rw [hl]; omega), List.getElem?_append_left (by rw [hl]; omega)]
      exact ⟨a, b⟩
    · obtain rfl : i = n := by omega
      rw [List.getElem?_append_right (by rw [hl]; omega), List.getElem?_append_right (by rw [hl]; omega), hl]
      have e1 : i * 2 - i * 2 = 0 := by omega
      have e2 : i * 2 + 1 - i * 2 = 1 := by omega
      rw [e1, e2]
      exact ⟨rfl, rfl⟩

/-- how many a body says -/
def cntOf (BB : List UInt8) : Nat := beNat (BB.take 2)

theorem numAt_body (BB : List UInt8) (k : Nat) (hl : BB.length = 4032) (h : k + 2 ≤ 4032) : numAt BB (k : Int) 2 = some (beNat ((BB.drop k).take 2)) := numAt_some (by omega)
theorem be2_lt (l : List UInt8) : beNat (l.take 2) < 65536 := by
  have h := beNat_lt (l.take 2)
  have h2 : (l.take 2).length ≤ 2 := by simp; omega
  exact Nat.lt_of_lt_of_le h (by
    have : 256 ^ (l.take 2).length ≤ 256 ^ 2 := Nat.pow_le_pow_right (by omega) h2
    omega)

set_option maxRecDepth 100000 in
set_option maxHeartbeats 4000000 in
theorem entriesOf_in (g o cap : Nat) (BB : List UInt8) (w : World) (hl : BB.length = 4032) (hcap : 4032 ≤ cap) (hmax : cap ≤ 9223372036854775807) (hr : Rd w (some ⟨g, o, none⟩) BB) (hc : cntOf BB ≤ 32) :
    Calls Tryz.prog 99 #[.slice (some ⟨g, o, none⟩) 4032 cap] w fun r w' => ∃ v, r = .returned v ∧ w'.ownsRow w.heap.size 133 2 v (cntOf BB) (entCells BB g o cap (cntOf BB)) ∧ Below w.heap.size w w' := by
  obtain ⟨i0, hi, hz0, hz1, hz2⟩ := info_parts info62
  have n0 : numAt BB 0 2 = some (cntOf BB) := by have := numAt_body BB 0 hl (by omega); simpa [cntOf] using this
  have nk : Hid (∀ k : Nat, k < 32 → numAt BB ((6 + k * 66 : Nat) : Int) 2 = some (entOf BB k).1) := fun k hk => by have := numAt_body BB (6 + k * 66) hl (by omega); simpa [entOf] using this
  have el : Hid (∀ k, (entOf BB k).1 < 65536) := fun k => be2_lt _
  have c1 := u16_at cap 4032 (some ⟨g, o, none⟩) BB 0 (cntOf BB) _ w rfl hl (by omega) hr n0
  obtain ⟨n, hn⟩ : ∃ n, n = cntOf BB := ⟨_, rfl⟩
  rw [← hn] at hc c1 ⊢
  clear hn n0
  have hci : (n : Int) ≤ 32 := by omega
  go_enter Tryz.func99, Tryz.ntmps99
  go_wp2_with fail
  refine c1.mono ?_
  rintro r w' ⟨rfl, rfl⟩
  clear c1
  go_wp2_with fail
  go_loopw [5, 20] (fun v i wr => ∃ k : Nat, k ≤ n ∧ i = .int .i64 k ∧ wr.ownsRow w.heap.size 133 2 v k (entCells BB g o cap k) ∧ Below w.heap.size w wr) (fun _ i _ => n - (intOf i).toNat)
  case atStart => exact ⟨0, Nat.zero_le _, rfl, World.ownsRow_nil _ _ _ _, Below.refl _ _⟩
  case round =>
    obtain ⟨k, hk, rfl, hown, hB⟩ := hrel
    by_cases hlt : k < n
    · have hlt2 : (k : Int) < n := by omega
      have c2 := u16_at cap 4032 (some ⟨g, o, none⟩) BB ((6 + k * 66 : Nat) : Int) (entOf BB k).1 _ wr rfl hl (by omega) (hr.below hB (Nat.le_refl _)) (nk.out k (by omega))
      have hsucc := entCells_succ BB g o cap k
      have hcell : entCell BB g o cap k = [.int .i64 ((entOf BB k).1 : Int), .slice (some ⟨g, o + (8 + k * 66), none⟩) 64 (cap - (8 + k * 66))] := rfl
      have hE := el.out k
      obtain ⟨E, hEE⟩ : ∃ E, E = (entOf BB k).1 := ⟨_, rfl⟩
      rw [← hEE] at c2 hcell hE
      clear hEE
      obtain ⟨m, hm⟩ : ∃ m, m = 6 + k * 66 := ⟨_, rfl⟩
      have e0 : (6 : Int) + (k : Int) * 66 = (m : Int) := by omega
      have e1 : 8 + k * 66 = m + 2 := by omega
      rw [← hm] at c2
      rw [e1] at hcell
      have hm2 : m + 66 ≤ 4032 := by omega
      have hcap2 : m + 66 ≤ cap := by omega
      have hne : ¬ cap = m + 2 := by omega
      have e2 : m + 2 + 64 - (m + 2) = 64 := by omega
      have Hm : Hid _ := hm
      have HS : Hid _ := hsucc
      have HC : Hid _ := hcell
      clear hm hsucc hcell e1
      go_wp2_with fail
      refine c2.mono ?_
      rintro r w' ⟨rfl, rfl⟩
      clear c2
      have hBa := (Below.refl wr.heap.size wr).alloc (Nat.le_refl _) (.cells #[.int .i64 (E : Int), .slice (some ⟨g, o + (m + 2), none⟩) 64 (cap - (m + 2))] 133)
      have bx := Box.new wr #[.int .i64 (E : Int), .slice (some ⟨g, o + (m + 2), none⟩) 64 (cap - (m + 2))] 133
      have B1 := hB.trans (hBa.mono hB.size)
      have ow1 := hown.alloc (.cells #[.int .i64 (E : Int), .slice (some ⟨g, o + (m + 2), none⟩) 64 (cap - (m + 2))] 133)
      obtain ⟨av, cv, rfl⟩ := owns_shape hown
      go_wp2_with (at_builtin; refine wpList_append_own _ rfl _ _ 127 rfl w.heap.size 133 i0 (.agg #[.int .i64 0, .slice none 0 0]) 2 32 Tryz.underlying127 hi hz0 hz1 hz2 rfl (by decide) _ k (entCells BB g o cap k) rfl ow1 ⟨wr.heap.size, 0, none⟩ 1 1 [.int .i64 (E : Int), .slice (some ⟨g, o + (m + 2), none⟩) 64 (cap - (m + 2))] rfl rfl (two_cells bx) ?c2 ?c3 ?c4 B1.size ?_)
      case c2 => intro u hu; simp at hu; rcases hu with rfl | rfl <;> rfl
      case c3 => unfold maxLen; omega
      case c4 => omega
      · intro v' w4 hown4 hgrow _
        have B4 := B1.grown hgrow B1.size (fun j e => (owns_block hown j e).1)
        rw [← HC.out, ← HS.out] at hown4
        clear hgrow ow1 bx hBa B1 hown hB
        go_wp2
        go_roundw
        case rel => exact ⟨k + 1, by omega, by go_num, hown4, B4⟩
        case measure => simp [intOf]; omega
    · obtain rfl : k = n := by omega
      go_wp2
      go_ret
      exact ⟨_, rfl, hown, hB⟩

set_option maxRecDepth 100000 in
/-- .. too many -/
theorem entriesOf_many (g o cap : Nat) (BB : List UInt8) (w : World) (hl : BB.length = 4032) (hr : Rd w (some ⟨g, o, none⟩) BB) (hc : 32 < cntOf BB) :
    Calls Tryz.prog 99 #[.slice (some ⟨g, o, none⟩) 4032 cap] w fun r w' => r = .returned (.slice none 0 0) ∧ w = w' := by
  have n0 : numAt BB 0 2 = some (cntOf BB) := by have := numAt_body BB 0 hl (by omega); simpa [cntOf] using this
  have c1 := u16_at cap 4032 (some ⟨g, o, none⟩) BB 0 (cntOf BB) _ w rfl hl (by omega) hr n0
  obtain ⟨n, hn⟩ : ∃ n, n = cntOf BB := ⟨_, rfl⟩
  rw [← hn] at hc c1
  clear hn n0
  have hci : (32 : Int) < n := by omega
  go_enter Tryz.func99, Tryz.ntmps99
  go_wp2_with fail
  refine c1.mono ?_
  rintro r w' ⟨rfl, rfl⟩
  go_wp2
  go_ret
  exact ⟨rfl, rfl⟩

/-- the row as entries -/
theorem entsOf_ents {w w' : World} {g o cap : Nat} {BB : List UInt8} {v : Value} (hl : BB.length = 4032) (hcap : 4032 ≤ cap) (hmax : cap ≤ 9223372036854775807) (hr : Rd w' (some ⟨g, o, none⟩) BB) (hc : cntOf BB ≤ 32)
    (hown : w'.ownsRow w.heap.size 133 2 v (cntOf BB) (entCells BB g o cap (cntOf BB))) : ∃ a c, v = .slice a (cntOf BB) c ∧ Ents w' a (entsOf BB (cntOf BB)) := by
  obtain ⟨a, c, rfl⟩ := owns_shape hown
  refine ⟨a, c, rfl, fun hp => ?_⟩
  rw [entsOf_length] at hp
  rcases hown.2 with ⟨hv, hn⟩ | ⟨gv, cap', cur, hv, _⟩
  · omega
  · have ha : a = some ⟨gv, 0, none⟩ := by simpa using (Value.slice.inj hv).1
    subst ha
    refine ⟨gv, 0, rfl, fun j hj => ?_⟩
    rw [entsOf_length] at hj
    obtain ⟨e1, e2⟩ := entCells_at BB g o cap (cntOf BB) j hj
    have hb : (Value.slice (some ⟨gv, 0, none⟩) (cntOf BB) c).ownBlock = some gv := rfl
    have k1 := hown.cells hb _ _ e1
    have k2 := hown.cells hb _ _ e2
    rw [Addr.add_lit] at k1 k2
    have hx : (entsOf BB (cntOf BB))[j]'(by rw [entsOf_length]; exact hj) = entOf BB j := by simp [entsOf]
    rw [hx]
    refine ⟨k1, g, o + (8 + j * 66), cap - (8 + j * 66), ?_, by omega, by omega, by simp [entOf]; omega, hr.part (8 + j * 66) 64⟩
    rw [Nat.add_assoc]
    exact k2
end Go.Proofs.YtkhejjddmbegaaaGreat.Rc

/-
  rightHeading.
-/
namespace Go.Proofs.YtkhejjddmbegaaaGreat.Rc
open Go.RowKit

/-- the blocks of entries lie here -/
def Blks (w : World) (a : Option Addr) (bs : List Int) : Prop :=
  0 < bs.length → ∃ b o, a = some ⟨b, o, none⟩ ∧ ∀ j (h : j < bs.length), w.cell? ⟨b, o + j * 2, none⟩ = some (.int .i64 bs[j]) ∧ ∃ x l c, w.cell? ⟨b, o + j * 2 + 1, none⟩ = some (.slice x l c)
theorem Blks.below {w w' : World} {a : Option Addr} {bs : List Int} (h : Blks w a bs) (hb : Below w.heap.size w w') : Blks w' a bs := fun hp => by
  obtain ⟨b, o, ha, hc⟩ := h hp
  refine ⟨b, o, ha, fun j hj => ?_⟩
  obtain ⟨h1, x, l, c, h2⟩ := hc j hj
  have hlt : b < w.heap.size := block_lt_of_cell h1
  exact ⟨(hb.cell (p := ⟨b, o + j * 2, none⟩) hlt).trans h1, x, l, c, (hb.cell (p := ⟨b, o + j * 2 + 1, none⟩) hlt).trans h2⟩
theorem Ents.blks {w : World} {a : Option Addr} {es : List (Nat × List UInt8)} (h : Ents w a es) : Blks w a (es.map fun e => (e.1 : Int)) := fun hp => by
  rw [List.length_map] at hp
  obtain ⟨b, o, ha, hc⟩ := h hp
  refine ⟨b, o, ha, fun j hj => ?_⟩
  rw [List.length_map] at hj
  obtain ⟨h1, g, q, c, h2, _⟩ := hc j hj
  exact ⟨by rw [List.getElem_map]; exact h1, _, _, _, h2⟩

/-- unlike blocks of a disk -/
def okTo (bs : List Int) (k : Nat) : Prop := ∀ j (h : j < bs.length), j < k → (0 ≤ bs[j] ∧ bs[j] ≤ 511) ∧ bs[j] ∉ bs.take j
def okHead (e s : Int) (bs : List Int) : Prop := okStamp e s = true ∧ (1 ≤ bs.length ∧ bs.length ≤ 32) ∧ okTo bs bs.length

/-- which blocks were met -/
def tk (bs : List Int) (k : Nat) : List Bool := (List.range 512).map fun (i : Nat) => decide ((i : Int) ∈ bs.take k)
theorem tk_length (bs : List Int) (k : Nat) : (tk bs k).length = 512 := by simp [tk]
theorem tk_at (bs : List Int) (k m : Nat) (h : m < 512) : (tk bs k)[m]? = some (decide ((m : Int) ∈ bs.take k)) := by simp [tk, h]
theorem tk_set (bs : List Int) (k m : Nat) (hk : k < bs.length) (hm : bs[k] = (m : Int)) (h : m < 512) : (tk bs k).set m true = tk bs (k + 1) := by
  apply List.ext_getElem?
  intro i
  rw [List.getElem?_set]
  by_cases hi : i < 512
  · rw [tk_at bs (k + 1) i hi, tk_at bs k i hi, tk_length, List.take_succ_eq_append_getElem hk, hm]
    by_cases he : m = i
    · subst he
      simp [h]
    · simp [he]
      omega
  · rw [List.getElem?_eq_none (by rw [tk_length]; omega), List.getElem?_eq_none (by rw [tk_length]; omega)]
    split <;> simp_all
def tkc (bs : List Int) (k : Nat) : Array Value := ((tk bs k).map Value.bool).toArray
theorem tkc_zero (bs : List Int) : Tryz.zeroCells162 = tkc bs 0 := by
  have h : Tryz.zeroCells162 = (List.replicate 512 (Value.bool false)).toArray := by kernel_rfl
  rw [h]
  unfold tkc tk
  have e : (fun (i : Nat) => decide ((i : Int) ∈ bs.take 0)) = fun _ => false := by funext i; simp
  rw [e, List.map_const', List.length_range, List.map_replicate]

theorem okTo_succ {bs : List Int} {k : Nat} (hk : k < bs.length) (h : okTo bs k) (h1 : 0 ≤ bs[k] ∧ bs[k] ≤ 511) (h2 : bs[k] ∉ bs.take k) : okTo bs (k + 1) := fun j hj hlt => by
  by_cases he : j < k
  · exact h j hj he
  · obtain rfl : j = k := by omega
    exact ⟨h1, h2⟩

set_option maxRecDepth 100000 in
set_option maxHeartbeats 4000000 in
theorem rightHeading_in (e s : Int) (a : Option Addr) (n cap : Nat) (bs : List Int) (w : World) (hl : bs.length = n) (h1 : 1 ≤ n) (h2 : n ≤ 32) (hok : okStamp e s = true) (hB : Blks w a bs) :
    Calls Tryz.prog 93 #[.agg #[.int .i64 e, .int .i64 s, .slice a n cap]] w fun r w' => ∃ q : Bool, r = .returned (.bool q) ∧ (q = true ↔ okTo bs n) ∧ Below w.heap.size w w' := by
  have c1 : ∀ u, Calls Tryz.prog 103 #[.int .i64 e, .int .i64 s] u fun x w' => x = .returned (.bool true) ∧ u = w' := fun u => by have := rightStamp_at e s u; rw [hok] at this; exact this
  have c2 : ∀ u, Calls Tryz.prog 50 #[.int .i64 (n : Int), .int .i64 1, .int .i64 32] u fun x w' => x = .returned (.bool true) ∧ u = w' := fun u => by
    have := within_at (n : Int) 1 32 u
    have e : (decide ((1 : Int) ≤ n) && decide ((n : Int) ≤ 32)) = true := by simp; omega
    rw [e] at this
    exact this
  obtain ⟨b, o, rfl, hc⟩ := hB (by omega)
  have HC : Hid (∀ j (h : j < bs.length), w.cell? ⟨b, o + j * 2, none⟩ = some (.int .i64 bs[j]) ∧ ∃ x l c, w.cell? ⟨b, o + j * 2 + 1, none⟩ = some (.slice x l c)) := hc
  have hblt : b < w.heap.size := block_lt_of_cell (hc 0 (by omega)).1
  have HL : Hid _ := hl
  clear hc hl hB
  have hz := tkc_zero bs
  have B0 := ((Below.refl w.heap.size w).alloc (Nat.le_refl _) (.cells #[.int .i64 e, .int .i64 s, .slice (some ⟨b, o, none⟩) n cap] 129)).alloc (by simp) (.cells Tryz.zeroCells162 162)
  have bT := Box.new (w.alloc (.cells #[.int .i64 e, .int .i64 s, .slice (some ⟨b, o, none⟩) n cap] 129)) Tryz.zeroCells162 162
  have s1 : (w.alloc (.cells #[.int .i64 e, .int .i64 s, .slice (some ⟨b, o, none⟩) n cap] 129)).heap.size = w.heap.size + 1 := by simp
  rw [s1, hz] at bT
  rw [hz] at B0
  have HZ : Hid _ := hz
  clear hz s1
  go_enter Tryz.func93, Tryz.ntmps93
  go_wp2_with fail
  refine (c1 _).mono ?_
  rintro r w' ⟨rfl, rfl⟩
  go_wp2_with fail
  refine (c2 _).mono ?_
  rintro r w' ⟨rfl, rfl⟩
  go_wp2_with fail
  rw [HZ.out]
  go_loopw [22] (fun i wr => ∃ k : Nat, k ≤ n ∧ i = .int .i64 k ∧ okTo bs k ∧ Box wr (w.heap.size + 1) (tkc bs k) 162 ∧ Below w.heap.size w wr) (fun i _ => n - (intOf i).toNat)
  case atStart => exact ⟨0, Nat.zero_le _, rfl, fun j _ h => absurd h (by omega), bT, B0⟩
  case round =>
    obtain ⟨k, hk, rfl, hokk, hT, hB⟩ := hrel
    clear bT B0 c1 c2
    by_cases hlt : k < n
    · have hlt2 : (k : Int) < n := by omega
      have hkl : k < bs.length := by rw [HL.out]; exact hlt
      obtain ⟨q1, x, l, c, q2⟩ := HC.out k hkl
      replace q1 := (hB.cell (p := ⟨b, o + k * 2, none⟩) hblt).trans q1
      replace q2 := (hB.cell (p := ⟨b, o + k * 2 + 1, none⟩) hblt).trans q2
      obtain ⟨B, hBB⟩ : ∃ B, bs[k] = B := ⟨_, rfl⟩
      rw [hBB] at q1
      have HBB : Hid _ := hBB
      clear hBB
      have al := (Below.refl wr.heap.size wr).alloc (Nat.le_refl _) (.cells #[.int .i64 B, .slice x l c] 133)
      have bx := Box.new wr #[.int .i64 B, .slice x l c] 133
      have x0 := bx.cell 0
      have hT1 := hT.below al
      have B1 := hB.trans (al.mono hB.size)
      have HOK : Hid _ := hokk
      clear hT al hokk
      have cw := within_at B 0 511 (wr.alloc (.cells #[.int .i64 B, .slice x l c] 133))
      by_cases hin : 0 ≤ B ∧ B ≤ 511
      · have ein : (decide ((0 : Int) ≤ B) && decide (B ≤ 511)) = true := by simpa using hin
        rw [ein] at cw
        obtain ⟨m, rfl⟩ : ∃ m : Nat, B = (m : Int) := ⟨B.toNat, by omega⟩
        have hm5 : m < 512 := by omega
        have hm6 : (m : Int) < 512 := by omega
        have tc := hT1.cell m
        have ft := hT1.frozen m
        have hts := hT1.store m (.bool true)
        have etk : (tkc bs k)[m]? = some (.bool (decide ((m : Int) ∈ bs.take k))) := by
          unfold tkc
          rw [List.getElem?_toArray, List.getElem?_map, tk_at bs k m hm5]
          rfl
        rw [etk] at tc
        have ets : (tkc bs k).setIfInBounds m (.bool true) = tkc bs (k + 1) := by
          unfold tkc
          rw [List.setIfInBounds_toArray, ← List.map_set, tk_set bs k m hkl HBB.out hm5]
        rw [ets] at hts
        have B2 := B1.setCell (p := ⟨w.heap.size + 1, m, none⟩) (by simp) (.bool true)
        clear etk ets hT1
        by_cases hmem : (m : Int) ∈ bs.take k
        · have ed : decide ((m : Int) ∈ bs.take k) = true := by simpa using hmem
          rw [ed] at tc
          have hno : Hid (¬ okTo bs n) := fun h => (h k hkl hlt).2 (by rw [HBB.out]; exact hmem)
          clear hts B2 ed hmem hin ein
          go_wp2_with fail
          refine cw.mono ?_
          rintro r w' ⟨rfl, rfl⟩
          clear cw
          go_wp2
          go_ret
          exact ⟨false, rfl, ⟨fun h => (by cases h), fun h => (hno.out h).elim⟩, B1⟩
        · have ed : decide ((m : Int) ∈ bs.take k) = false := by simpa using hmem
          rw [ed] at tc
          have hok1 : Hid (okTo bs (k + 1)) := okTo_succ hkl HOK.out (by rw [HBB.out]; exact hin) (by rw [HBB.out]; exact hmem)
          clear ed hmem hin ein B1
          go_wp2_with fail
          refine cw.mono ?_
          rintro r w' ⟨rfl, rfl⟩
          clear cw
          go_wp2
          go_roundw
          case rel => exact ⟨k + 1, by omega, by go_num, hok1.out, hts, B2⟩
          case measure => simp [intOf]; omega
      · have ein : (decide ((0 : Int) ≤ B) && decide (B ≤ 511)) = false := by simpa using hin
        rw [ein] at cw
        have hno : Hid (¬ okTo bs n) := fun h => hin (by have := (h k hkl hlt).1; rw [HBB.out] at this; exact this)
        clear hT1 ein hin
        go_wp2_with fail
        refine cw.mono ?_
        rintro r w' ⟨rfl, rfl⟩
        clear cw
        go_wp2
        go_ret
        exact ⟨false, rfl, ⟨fun h => (by cases h), fun h => (hno.out h).elim⟩, B1⟩
    · obtain rfl : k = n := by omega
      go_wp2
      go_ret
      exact ⟨true, rfl, ⟨fun _ => hokk, fun _ => rfl⟩, hB⟩
end Go.Proofs.YtkhejjddmbegaaaGreat.Rc

/-
  rightHeading, of any heading; rightGroup.
-/
namespace Go.Proofs.YtkhejjddmbegaaaGreat.Rc
open Go.RowKit

theorem owns_belowH {w w' : World} {base e size n : Nat} {v : Value} {xs : List Value} (h : w.ownsRow base e size v n xs) (hb : Below w.heap.size w w') : w'.ownsRow base e size v n xs := by
  refine ⟨h.1, ?_⟩
  rcases h.2 with h | ⟨g, cap, cur, e1, e2, e3, e4⟩
  · exact .inl h
  · exact .inr ⟨g, cap, cur, e1, e2, (hb.block g (Array.getElem?_eq_some_iff.1 e3).1).trans e3, e4⟩

set_option maxRecDepth 100000 in
theorem rightHeading_at (e s : Int) (a : Option Addr) (n cap : Nat) (bs : List Int) (w : World) (hl : bs.length = n) (hB : Blks w a bs) :
    Calls Tryz.prog 93 #[.agg #[.int .i64 e, .int .i64 s, .slice a n cap]] w fun r w' => ∃ q : Bool, r = .returned (.bool q) ∧ (q = true ↔ okHead e s bs) ∧ Below w.heap.size w w' := by
  have B0 := (Below.refl w.heap.size w).alloc (Nat.le_refl _) (.cells #[.int .i64 e, .int .i64 s, .slice a n cap] 129)
  cases hok : okStamp e s with
  | false =>
    have c1 : ∀ u, Calls Tryz.prog 103 #[.int .i64 e, .int .i64 s] u fun x w' => x = .returned (.bool false) ∧ u = w' := fun u => by have := rightStamp_at e s u; rw [hok] at this; exact this
    have hno : Hid (¬ okHead e s bs) := fun h => by rw [h.1] at hok; cases hok
    clear hok hB
    go_enter Tryz.func93, Tryz.ntmps93
    go_wp2_with fail
    refine (c1 _).mono ?_
    rintro r w' ⟨rfl, rfl⟩
    go_wp2
    go_ret
    exact ⟨false, rfl, ⟨fun h => (by cases h), fun h => (hno.out h).elim⟩, B0⟩
  | true =>
    by_cases hn : 1 ≤ n ∧ n ≤ 32
    · refine (rightHeading_in e s a n cap bs w hl hn.1 hn.2 hok hB).mono ?_
      rintro r w' ⟨q, rfl, hq, hb⟩
      refine ⟨q, rfl, hq.trans ⟨fun h => ⟨hok, by rw [hl]; exact hn, by rw [hl]; exact h⟩, fun h => by have := h.2.2; rw [hl] at this; exact this⟩, hb⟩
    · have c1 : ∀ u, Calls Tryz.prog 103 #[.int .i64 e, .int .i64 s] u fun x w' => x = .returned (.bool true) ∧ u = w' := fun u => by have := rightStamp_at e s u; rw [hok] at this; exact this
      have c2 : ∀ u, Calls Tryz.prog 50 #[.int .i64 (n : Int), .int .i64 1, .int .i64 32] u fun x w' => x = .returned (.bool false) ∧ u = w' := fun u => by
        have := within_at (n : Int) 1 32 u
        have e : (decide ((1 : Int) ≤ n) && decide ((n : Int) ≤ 32)) = false := by simp; omega
        rw [e] at this
        exact this
      have hno : Hid (¬ okHead e s bs) := fun h => hn (by have := h.2.1; rw [hl] at this; exact this)
      clear hok hB hn
      go_enter Tryz.func93, Tryz.ntmps93
      go_wp2_with fail
      refine (c1 _).mono ?_
      rintro r w' ⟨rfl, rfl⟩
      go_wp2_with fail
      refine (c2 _).mono ?_
      rintro r w' ⟨rfl, rfl⟩
      go_wp2
      go_ret
      exact ⟨false, rfl, ⟨fun h => (by cases h), fun h => (hno.out h).elim⟩, B0⟩

/-- an image lies here -/
def ImgAt (w : World) (b o : Nat) (i : Int × List UInt8) : Prop :=
  w.cell? ⟨b, o, none⟩ = some (.int .i64 i.1) ∧ ∃ x c, w.cell? ⟨b, o + 1, none⟩ = some (.slice x i.2.length c) ∧ i.2.length ≤ c ∧ c ≤ 9223372036854775807 ∧ (x = none → c = 0) ∧ Rd w x i.2
/-- images, one behind the other -/
def Imgs (w : World) (a : Option Addr) (is : List (Int × List UInt8)) : Prop :=
  0 < is.length → ∃ b o, a = some ⟨b, o, none⟩ ∧ ∀ j (h : j < is.length), ImgAt w b (o + j * 2) is[j]
theorem ImgAt.below {w w' : World} {b o : Nat} {i : Int × List UInt8} (h : ImgAt w b o i) (hb : Below w.heap.size w w') : ImgAt w' b o i := by
  obtain ⟨h1, x, c, h2, h3, h4, h5, h6⟩ := h
  have hlt : b < w.heap.size := block_lt_of_cell h1
  exact ⟨(hb.cell (p := ⟨b, o, none⟩) hlt).trans h1, x, c, (hb.cell (p := ⟨b, o + 1, none⟩) hlt).trans h2, h3, h4, h5, h6.below hb (Nat.le_refl _)⟩
theorem Imgs.below {w w' : World} {a : Option Addr} {is : List (Int × List UInt8)} (h : Imgs w a is) (hb : Below w.heap.size w w') : Imgs w' a is := fun hp => by
  obtain ⟨b, o, ha, hc⟩ := h hp
  exact ⟨b, o, ha, fun j hj => (hc j hj).below hb⟩

def blkCells (bs : List Int) : List Value := bs.flatMap fun b => [.int .i64 b, .slice none 0 0]
theorem blkCells_at (bs : List Int) (i : Nat) (h : i < bs.length) : (blkCells bs)[i * 2]? = some (.int .i64 bs[i]) ∧ (blkCells bs)[i * 2 + 1]? = some (.slice none 0 0) := by
  induction bs generalizing i with
  | nil => simp at h
  | cons b bs ih =>
    cases i with
    | zero => exact ⟨rfl, rfl⟩
    | succ i =>
      obtain ⟨p, q⟩ := ih i (by simpa using h)
      have e1 : (i + 1) * 2 = i * 2 + 1 + 1 := by omega
      simp only [blkCells, List.flatMap_cons, e1, List.cons_append, List.nil_append, List.getElem?_cons_succ, List.getElem_cons_succ]
      exact ⟨p, q⟩

def okGroup (e s : Int) (is : List (Int × List UInt8)) : Prop := okHead e s (is.map (·.1)) ∧ ∀ i ∈ is, i.2.length = 4096

set_option maxRecDepth 100000 in
set_option maxHeartbeats 4000000 in
theorem rightGroup_at (e s : Int) (a : Option Addr) (n cap : Nat) (is : List (Int × List UInt8)) (w : World) (hl : is.length = n) (hn : n * 32 ≤ 140737488355328) (hI : Imgs w a is) :
    Calls Tryz.prog 75 #[.agg #[.int .i64 e, .int .i64 s, .slice a n cap]] w fun r w' => ∃ q : Bool, r = .returned (.bool q) ∧ (q = true ↔ okGroup e s is) ∧ Below w.heap.size w w' := by
  obtain ⟨i0, hi, hz0, hz1, hz2⟩ := info_parts info62
  have HL : Hid _ := hl
  have HI : Hid _ := hI
  clear hl hI
  have b0 := Box.new (w.alloc (.cells #[.int .i64 e, .int .i64 s, .slice a n cap] 40)) #[.int .i64 e, .int .i64 s, .slice none 0 0] 129
  have s1 : (w.alloc (.cells #[.int .i64 e, .int .i64 s, .slice a n cap] 40)).heap.size = w.heap.size + 1 := by simp
  rw [s1] at b0
  have B0 := ((Below.refl w.heap.size w).alloc (Nat.le_refl _) (.cells #[.int .i64 e, .int .i64 s, .slice a n cap] 40)).alloc (by simp) (.cells #[.int .i64 e, .int .i64 s, .slice none 0 0] 129)
  clear s1
  go_enter Tryz.func75, Tryz.ntmps75
  go_wp2_with fail
  go_loopw [14] (fun i wr => ∃ k : Nat, k ≤ n ∧ i = .int .i64 k ∧ (∀ x ∈ is.take k, x.2.length = 4096) ∧ (∃ v, Box wr (w.heap.size + 1) #[.int .i64 e, .int .i64 s, v] 129 ∧ wr.ownsRow w.heap.size 133 2 v k (blkCells ((is.take k).map (·.1)))) ∧ Below w.heap.size w wr) (fun i _ => n - (intOf i).toNat)
  case atStart => exact ⟨0, Nat.zero_le _, rfl, by simp, ⟨_, b0, World.ownsRow_nil _ _ _ _⟩, B0⟩
  case round =>
    obtain ⟨k, hk, rfl, hall, ⟨v, bv, hown⟩, hB⟩ := hrel
    clear b0 B0
    by_cases hlt : k < n
    · have hlt2 : (k : Int) < n := by omega
      have hkl : k < is.length := by rw [HL.out]; exact hlt
      obtain ⟨b, o, rfl, hc⟩ := HI.out (by omega)
      obtain ⟨q1, x, c, q2, q3, q4, q5, q6⟩ := (hc k hkl).below hB
      have htk := List.take_succ_eq_append_getElem hkl
      generalize is[k] = I at q1 q2 q3 q6 htk
      obtain ⟨ib, dat⟩ := I
      dsimp only at q1 q2 q3 q6
      have HT : Hid _ := htk
      clear htk hc q5 q6
      obtain ⟨L, hLL⟩ : ∃ L, L = dat.length := ⟨_, rfl⟩
      rw [← hLL] at q2 q3
      have HLL : Hid _ := hLL
      clear hLL
      have al := (Below.refl wr.heap.size wr).alloc (Nat.le_refl _) (.cells #[.int .i64 ib, .slice x L c] 108)
      have bx := Box.new wr #[.int .i64 ib, .slice x L c] 108
      have x0 := bx.cell 0
      have x1 := bx.cell 1
      have bv1 := bv.below al
      have own1 := owns_belowH hown al
      have B1 := hB.trans (al.mono hB.size)
      obtain ⟨av, cv, rfl⟩ := owns_shape hown
      by_cases hL : L = 4096
      · have hne : ((L : Int) != 4096) = false := by rw [hL]; rfl
        have HL4 : Hid _ := hL
        have y2w := bv.cell 2
        have ltw := bv.lt
        clear hL bv hown hB
        have y2 : (wr.alloc (.cells #[.int .i64 ib, .slice x L c] 108)).cell? ⟨w.heap.size + 1, 2, none⟩ = some (.slice av k cv) := bv1.cell 2
        have bA := (Below.refl _ (wr.alloc (.cells #[.int .i64 ib, .slice x L c] 108))).alloc (Nat.le_refl _) (.cells #[.int .i64 ib, .slice none 0 0] 133)
        have bE := Box.new (wr.alloc (.cells #[.int .i64 ib, .slice x L c] 108)) #[.int .i64 ib, .slice none 0 0] 133
        have sE : (wr.alloc (.cells #[.int .i64 ib, .slice x L c] 108)).heap.size = wr.heap.size + 1 := by simp
        rw [sE] at bE
        have own2 := owns_belowH own1 bA
        have bv2 := bv1.below bA
        have B2 := B1.trans (bA.mono B1.size)
        go_wp2_with (at_builtin; refine wpList_append_own _ rfl _ _ 127 rfl w.heap.size 133 i0 (.agg #[.int .i64 0, .slice none 0 0]) 2 32 Tryz.underlying127 hi hz0 hz1 hz2 rfl (by decide) _ k _ rfl own2 ⟨wr.heap.size + 1, 0, none⟩ 1 1 [.int .i64 ib, .slice none 0 0] rfl rfl (two_cells bE) ?c2 ?c3 ?c4 B2.size ?_)
        case c2 => intro u hu; simp at hu; rcases hu with rfl | rfl <;> rfl
        case c3 => unfold maxLen; omega
        case c4 => omega
        · intro v' w4 hown4 hgrow _
          have B4 := B2.grown hgrow B2.size (fun j e => (owns_block own2 j e).1)
          have bv4 : Box w4 (w.heap.size + 1) _ 129 := bv2.grown hgrow (fun e => by
            obtain ⟨_, cur, q⟩ := owns_block own2 _ e
            exact q.ne bv2 (by decide) rfl)
          have f4 := bv4.frozen 2
          have y4 := bv4.cell 2
          have bv5 := bv4.store 2 v'
          have B5 := B4.setCell (p := ⟨w.heap.size + 1, 2, none⟩) (by simp) v'
          have hown5 : (w4.setCell ⟨w.heap.size + 1, 2, none⟩ v').ownsRow w.heap.size 133 2 v' (k + 1) _ := owns_grown hown4 (grown_store w4 (w.heap.size + 1) 2 v') (fun g' e => by
            obtain ⟨_, cur, q⟩ := owns_block hown4 g' e
            intro e2
            cases e2
            exact q.ne bv4 (by decide) rfl)
          obtain ⟨av', cv', rfl⟩ := owns_shape hown4
          clear hgrow own1 own2 bx x0 bv1 bv2 bv4 B1 B2 B4 al bA bE hown4
          go_wp2
          go_roundw
          case rel =>
            refine ⟨k + 1, by omega, by go_num, ?_, ⟨_, by simpa using bv5, ?_⟩, B5⟩
            · rw [HT.out]
              intro z hz
              rcases List.mem_append.1 hz with h | h
              · exact hall z h
              · simp at h
                subst h
                show dat.length = 4096
                rw [← HLL.out]
                exact HL4.out
            · rw [HT.out]
              have e : blkCells ((is.take k ++ [(ib, dat)]).map (·.1)) = blkCells ((is.take k).map (·.1)) ++ [.int .i64 ib, .slice none 0 0] := by simp [blkCells]
              rw [e]
              simpa [List.map_take] using hown5
          case measure => simp [intOf]; omega
      · have hne : ((L : Int) != 4096) = true := by simp; omega
        have hno : Hid (¬ okGroup e s is) := fun h => hL (by
          have := h.2 (ib, dat) (by
            have h2 : (ib, dat) ∈ is.take (k + 1) := by rw [HT.out]; simp
            exact List.mem_of_mem_take h2)
          rw [HLL.out]
          exact this)
        clear hL bv hown hB own1 bv1
        go_wp2
        go_ret
        exact ⟨false, rfl, ⟨fun h => (by cases h), fun h => (hno.out h).elim⟩, B1⟩
    · obtain rfl : k = n := by omega
      have htk : is.take k = is := List.take_of_length_le (by rw [HL.out]; omega)
      rw [htk] at hall hown
      obtain ⟨av, cv, rfl⟩ := owns_shape hown
      have y0 := bv.cell 0
      have y1 := bv.cell 1
      have y2 := bv.cell 2
      have hbk : Blks wr av (is.map (·.1)) := fun hp => by
        rw [List.length_map] at hp
        rcases hown.2 with ⟨hv, hn⟩ | ⟨gv, cap', cur, hv, _⟩
        · have := HL.out; omega
        · have ha : av = some ⟨gv, 0, none⟩ := by simpa using (Value.slice.inj hv).1
          subst ha
          refine ⟨gv, 0, rfl, fun j hj => ?_⟩
          obtain ⟨e1, e2⟩ := blkCells_at (is.map (·.1)) j hj
          have hb : (Value.slice (some ⟨gv, 0, none⟩) k cv).ownBlock = some gv := rfl
          have k1 := hown.cells hb _ _ e1
          have k2 := hown.cells hb _ _ e2
          rw [Addr.add_lit] at k1 k2
          exact ⟨k1, _, _, _, by rw [Nat.add_assoc]; exact k2⟩
      have cH := rightHeading_at e s av k cv (is.map (·.1)) wr (by rw [List.length_map]; exact HL.out) hbk
      clear hown bv hbk htk
      go_wp2_with fail
      refine cH.mono ?_
      rintro r w' ⟨q, rfl, hq, hb⟩
      go_wp2
      go_ret
      exact ⟨q, rfl, hq.trans ⟨fun h => ⟨h, hall⟩, fun h => h.1⟩, hB.trans (hb.mono hB.size)⟩
end Go.Proofs.YtkhejjddmbegaaaGreat.Rc

/-
  Put.
-/
namespace Go.Proofs.YtkhejjddmbegaaaGreat.Rc
open Go.RowKit

theorem info31 : (Tryz.prog.info? 41).map (fun i => (i.zero, i.size, i.bytes)) = some (some (.slice none 0 0), 1, 24) := by kernel_rfl

/-- what was made of an image: its block (h, c), what is hidden (q, d) -/
structure PP where
  b : Int
  xs : List UInt8
  h : Nat
  c : Nat
  q : Nat
  d : Nat
def stB (M xs : List UInt8) : List UInt8 := (hideTo xs M (List.finRange 8)).1
def hdB (M xs : List UInt8) : List UInt8 := (hideTo xs M (List.finRange 8)).2
def rowC (ps : List PP) : List Value := ps.map fun p => .slice (some ⟨p.h, 0, none⟩) 4096 p.c
def entC (ps : List PP) : List Value := ps.flatMap fun p => [.int .i64 p.b, .slice (some ⟨p.q, 0, none⟩) 64 p.d]
theorem entC_length (ps : List PP) : (entC ps).length = ps.length * 2 := by
  induction ps with
  | nil => rfl
  | cons p ps ih => simp only [entC, List.flatMap_cons, List.length_append, List.length_cons, List.length_nil] at ih ⊢; omega
theorem entC_at (ps : List PP) (i : Nat) (h : i < ps.length) : (entC ps)[i * 2]? = some (.int .i64 ps[i].b) ∧ (entC ps)[i * 2 + 1]? = some (.slice (some ⟨ps[i].q, 0, none⟩) 64 ps[i].d) := by
  induction ps generalizing i with
  | nil => simp at h
  | cons p ps ih =>
    cases i with
    | zero => exact ⟨rfl, rfl⟩
    | succ i =>
      obtain ⟨u, v⟩ := ih i (by simpa using h)
      have e1 : (i + 1) * 2 = i * 2 + 1 + 1 := by omega
      simp only [entC, List.flatMap_cons, e1, List.cons_append, List.nil_append, List.getElem?_cons_succ, List.getElem_cons_succ]
      exact ⟨u, v⟩

/-- their entries -/
def esOf (M : List UInt8) (ps : List PP) : List (Nat × List UInt8) := ps.map fun p => (p.b.toNat, hdB M p.xs)

/-- all of them in memory -/
structure PutJ (M : List UInt8) (B : Nat) (W : World) (ps : List PP) : Prop where
  rows : ∀ p ∈ ps, RowB W p.h p.c (stB M p.xs) ∧ RowB W p.q p.d (hdB M p.xs) ∧ B ≤ p.h ∧ B ≤ p.q
  apart : (ps.map PP.h).Nodup
theorem PutJ.mono {M : List UInt8} {B : Nat} {W W' : World} {ps : List PP} (h : PutJ M B W ps) (hk : ∀ g cur, Box W g cur 5 → W'.heap[g]? = W.heap[g]?) : PutJ M B W' ps :=
  ⟨fun p hp => by
    obtain ⟨a1, a2, a3⟩ := h.rows p hp
    refine ⟨a1.same ?_, a2.same ?_, a3⟩
    · obtain ⟨cur, q, _⟩ := a1; exact hk _ _ q
    · obtain ⟨cur, q, _⟩ := a2; exact hk _ _ q, h.apart⟩
theorem PutJ.below {M : List UInt8} {B : Nat} {W W' : World} {ps : List PP} (h : PutJ M B W ps) (hb : Below W.heap.size W W') : PutJ M B W' ps := h.mono fun g _ q => hb.block g q.lt
theorem PutJ.grown {M : List UInt8} {B base e size n : Nat} {W W' : World} {ps : List PP} {v : Value} {xs : List Value} (h : PutJ M B W ps) (ho : W.ownsRow base e size v n xs) (he : (5 : TypeId) ≠ e) (hg : W.grownBy W' v.ownBlock) : PutJ M B W' ps := h.mono fun g cur q => hg.block g q.lt (fun eq => by
  obtain ⟨_, c2, q2⟩ := owns_block ho g eq.symm
  exact q.ne q2 he rfl)
theorem PutJ.store {M : List UInt8} {B b j : Nat} {W : World} {ps : List PP} {cs : Array Value} {t : TypeId} (h : PutJ M B W ps) (hb : Box W b cs t) (ht : (5 : TypeId) ≠ t) (u : Value) : PutJ M B (W.setCell ⟨b, j, none⟩ u) ps := h.mono fun g _ q => heap_setCell_other W ⟨b, j, none⟩ g u (q.ne hb ht)
theorem PutJ.snoc {M : List UInt8} {B : Nat} {W W' : World} {ps : List PP} (h : PutJ M B W ps) (hb : Below W.heap.size W W') (p : PP) (h1 : RowB W' p.h p.c (stB M p.xs)) (h2 : RowB W' p.q p.d (hdB M p.xs)) (h3 : W.heap.size ≤ p.h) (h4 : W.heap.size ≤ p.q) (hB : B ≤ W.heap.size) : PutJ M B W' (ps ++ [p]) :=
  ⟨fun x hx => by
    rcases List.mem_append.1 hx with hx | hx
    · exact (h.below hb).rows x hx
    · simp at hx
      subst hx
      exact ⟨h1, h2, by omega, by omega⟩, by
    rw [List.map_append, List.nodup_append]
    refine ⟨h.apart, by simp, fun x hx y hy => ?_⟩
    obtain ⟨z, hz, rfl⟩ := List.mem_map.1 hx
    simp at hy
    subst hy
    have := (h.rows z hz).1.lt
    omega⟩

set_option maxRecDepth 100000 in
set_option maxHeartbeats 4000000 in
theorem put_in (e s : Nat) (a : Option Addr) (n cap : Nat) (is : List (Int × List UInt8)) (w : World) (hl : is.length = n) (hI : Imgs w a is) (hok : okGroup e s is) (h1 : 1 ≤ n) (h2 : n ≤ 32) :
    Calls Tryz.prog 55 #[.agg #[.int .i64 (e : Int), .int .i64 (s : Int), .slice a n cap]] w fun r w' => ∃ gl cl h0 ps, r = .returned (.tuple #[.slice (some ⟨gl, 0, none⟩) (n + 1) cl, .int .i64 0]) ∧ w.heap.size ≤ gl ∧ w'.ownsRow w.heap.size 41 1 (.slice (some ⟨gl, 0, none⟩) (n + 1) cl) (n + 1) (.slice (some ⟨h0, 0, none⟩) 4096 4096 :: rowC ps) ∧
      RowB w' h0 4096 (headB e s (esOf (mark e s) ps)) ∧ h0 ∉ ps.map PP.h ∧ w.heap.size ≤ h0 ∧ PutJ (mark e s) w.heap.size w' ps ∧ ps.map (fun p => (p.b, p.xs)) = is ∧ Below w.heap.size w w' := by
  obtain ⟨i0, hi, hz0, hz1, hz2⟩ := info_parts info62
  obtain ⟨j0, ji, jz0, jz1, jz2⟩ := info_parts info31
  have B0 := (Below.refl w.heap.size w).alloc (Nat.le_refl _) (.cells #[.int .i64 (e : Int), .int .i64 (s : Int), .slice a n cap] 40)
  have c1 := rightGroup_at e s a n cap is _ hl (by omega) (hI.below B0)
  have HOK : Hid _ := hok
  have HL : Hid _ := hl
  have hbn : blocksN (n : Int) = (n : Int) + 1 := by unfold blocksN; rw [if_pos (by omega)]
  clear hok hl
  go_enter Tryz.func55, Tryz.ntmps55
  go_wp2_with fail
  refine c1.mono ?_
  rintro r w1 ⟨q, rfl, hq, hb1⟩
  have eq1 : q = true := hq.2 HOK.out
  clear hq c1
  subst eq1
  have bG : Box w1 w.heap.size #[.int .i64 (e : Int), .int .i64 (s : Int), .slice a n cap] 40 := (Box.new w _ 40).below hb1
  have B1 := B0.trans (hb1.mono B0.size)
  have g0 := bG.cell 0
  have g1 := bG.cell 1
  have g2 := bG.cell 2
  clear B0 hb1
  have bH := Box.new w1 #[.int .i64 (e : Int), .int .i64 (s : Int), .slice none 0 0] 129
  have bG2 := bG.alloc (.cells #[.int .i64 (e : Int), .int .i64 (s : Int), .slice none 0 0] 129)
  have B2 := B1.alloc B1.size (.cells #[.int .i64 (e : Int), .int .i64 (s : Int), .slice none 0 0] 129)
  have g22 : (w1.alloc (.cells #[.int .i64 (e : Int), .int .i64 (s : Int), .slice none 0 0] 129)).cell? ⟨w.heap.size, 2, none⟩ = some (.slice a n cap) := bG2.cell 2
  obtain ⟨u0, hu0⟩ : ∃ u, u = w1.alloc (.cells #[.int .i64 (e : Int), .int .i64 (s : Int), .slice none 0 0] 129) := ⟨_, rfl⟩
  have HU0 : Hid _ := hu0
  rw [← hu0] at bH bG2 B2
  obtain ⟨bh, hbh⟩ : ∃ b, b = w1.heap.size := ⟨_, rfl⟩
  have hbh1 : w.heap.size < bh := by rw [hbh]; exact bG.lt
  have HBH : Hid _ := hbh
  rw [← hbh] at bH
  clear hu0 hbh bG B1
  go_wp2_with fail
  rw [← HU0.out, ← HBH.out]
  clear g0 g1 g2 g22
  refine (blocks_at (n : Int) _).mono ?_
  rintro r w' ⟨rfl, rfl⟩
  rw [hbn]
  obtain ⟨u1, hm, ow1, hg1⟩ : ∃ u', (Instr.makeSlice 52 (.int .i64 1) (.int .i64 ((n : Int) + 1))).run Tryz.prog u0 = .ok (.slice (some ⟨u0.heap.size, 0, none⟩) 1 (n + 1)) u' ∧ u'.ownsRow u0.heap.size 41 1 (.slice (some ⟨u0.heap.size, 0, none⟩) 1 (n + 1)) 1 [.slice none 0 0] ∧ u0.grownBy u' none := by
    have h := run_make (P := Tryz.prog) u0 52 41 j0 (.slice none 0 0) Tryz.underlying52 ji jz0 .i64 .i64 1 ((n : Int) + 1) (by omega) (by omega) (by rw [jz2]; omega) (by omega)
    have e1 : ((n : Int) + 1).toNat = n + 1 := by omega
    rw [e1, jz1] at h
    refine ⟨_, h, ⟨rfl, .inr ⟨u0.heap.size, n + 1, _, rfl, Nat.le_refl _, heap_alloc_new u0 _, by omega, by unfold maxLen; omega, ?_, ?_⟩⟩, World.grownBy_alloc u0 _ none⟩
    · simp [madeCells, Value.cells]
    · apply List.ext_getElem
      · simp [madeCells, Value.cells]
      · intro i h1 h2
        simp [madeCells, Value.cells, Nat.mod_one]
  have bH1 : Box u1 bh _ 129 := bH.grown hg1 (by simp)
  have bG1 : Box u1 w.heap.size _ 40 := bG2.grown hg1 (by simp)
  have B3 := B2.grown hg1 B2.size (fun k e => by cases e)
  have x2 := bG1.cell 2
  have su : w.heap.size ≤ u0.heap.size := B2.size
  clear bH bG2 B2 hg1
  obtain ⟨M, hM⟩ : ∃ M, M = mark e s := ⟨_, rfl⟩
  have HM : Hid _ := hM
  have hML : M.length = 8 := by rw [hM]; exact mark_length _ _
  clear hM
  go_wp2_with fail
  go_loopw [5, 26] (fun v i wr => ∃ (k : Nat) (ps : List PP), k ≤ n ∧ i = .int .i64 k ∧ ps.map (fun p => (p.b, p.xs)) = is.take k ∧ wr.ownsRow w.heap.size 41 1 v (k + 1) (.slice none 0 0 :: rowC ps) ∧ (∃ ve, Box wr bh #[.int .i64 (e : Int), .int .i64 (s : Int), ve] 129 ∧ wr.ownsRow w.heap.size 133 2 ve k (entC ps)) ∧ PutJ M w.heap.size wr ps ∧ Box wr w.heap.size #[.int .i64 (e : Int), .int .i64 (s : Int), .slice a n cap] 40 ∧ Below w.heap.size w wr) (fun _ i _ => n - (intOf i).toNat)
  case atStart => exact ⟨0, [], Nat.zero_le _, rfl, rfl, owns_base ow1 su, ⟨_, bH1, World.ownsRow_nil _ _ _ _⟩, ⟨fun p hp => by simp at hp, by simp⟩, bG1, B3⟩
  case round =>
    obtain ⟨k, ps, hk, rfl, hps, hown, ⟨ve, bH, hent⟩, hJ, bG, hB⟩ := hrel
    clear bH1 bG1 B3 ow1 x2 hm
    by_cases hlt : k < n
    · have hlt2 : (k : Int) < n := by omega
      have hkl : k < is.length := by rw [HL.out]; exact hlt
      obtain ⟨b, o, rfl, hc⟩ := hI (by omega)
      obtain ⟨q1, x, c, q2, q3, q4, q5, q6⟩ := (hc k hkl).below hB
      have htk := List.take_succ_eq_append_getElem hkl
      have h4 : is[k].2.length = 4096 := HOK.out.2 _ (List.getElem_mem hkl)
      generalize is[k] = I at q1 q2 q3 q6 htk h4
      obtain ⟨ib, dat⟩ := I
      dsimp only at q1 q2 q3 q6 h4
      rw [h4] at q2 q3
      obtain ⟨gx, ox, rfl, _⟩ := q6 (by omega)
      have HT : Hid _ := htk
      have HPS : Hid _ := hps
      clear htk hc q5 hps
      have al := (Below.refl wr.heap.size wr).alloc (Nat.le_refl _) (.cells #[.int .i64 ib, .slice (some ⟨gx, ox, none⟩) 4096 c] 108)
      have bx := Box.new wr #[.int .i64 ib, .slice (some ⟨gx, ox, none⟩) 4096 c] 108
      have bH1 := bH.below al
      have bG1 := bG.below al
      have own1 := owns_below hown al
      have ent1 := owns_below hent al
      have J1 := hJ.below al
      have B1 := hB.trans (al.mono hB.size)
      have rd1 := q6.below al (Nat.le_refl _)
      obtain ⟨av, cv, rfl⟩ := owns_shape hown
      obtain ⟨ae, ce, rfl⟩ := owns_shape hent
      have zz : wr.heap.size + 1 = (wr.alloc (.cells #[.int .i64 ib, .slice (some ⟨gx, ox, none⟩) 4096 c] 108)).heap.size := by simp
      obtain ⟨V, hV⟩ : ∃ V, V = wr.alloc (.cells #[.int .i64 ib, .slice (some ⟨gx, ox, none⟩) 4096 c] 108) := ⟨_, rfl⟩
      have hsz : wr.heap.size < V.heap.size := by rw [hV]; omega
      have HV : Hid _ := hV
      rw [← hV] at bx bH1 bG1 own1 ent1 J1 B1 rd1
      clear hV al bH bG hown hent hJ hB zz
      obtain ⟨bi, hbi⟩ : ∃ b, b = wr.heap.size := ⟨_, rfl⟩
      have HBI : Hid _ := hbi
      rw [← hbi] at bx hsz
      clear hbi
      have hE : True ∧ e ≤ 8388608 ∧ s ≤ 549755813888 := by
        have := (okStamp_iff _ _).1 HOK.out.1.1
        exact ⟨trivial, by omega, by omega⟩
      go_wp2_with fail
      rw [← HV.out, ← HBI.out]
      refine wp_mono (Q := (fun x A W => x = .normal ∧ ∃ g4 h ch q dq, A = { tmps := #[.agg #[.int .i64 (e : Int), .int .i64 (s : Int), .slice (some ⟨b, o, none⟩) n cap], .pointer (some ⟨w.heap.size, 0, none⟩), .slice none 0 0, .int .i64 0, .pointer (some ⟨bh, 0, none⟩), .slice av (k + 1) cv, undef, .pointer (some ⟨bi, 0, none⟩), .slice (some ⟨h, 0, none⟩) 4096 ch, .slice (some ⟨q, 0, none⟩) 64 dq, .agg #[.int .i64 (e : Int), .int .i64 (s : Int), .slice (some ⟨b, o, none⟩) n cap], .bool true, .bool false, .pointer (some ⟨w.heap.size, 0, none⟩), .int .i64 (e : Int), .pointer (some ⟨w.heap.size, 1, none⟩), .int .i64 (s : Int), .agg #[.int .i64 (e : Int), .int .i64 (s : Int), .slice none 0 0], .pointer (some ⟨w.heap.size, 2, none⟩), .slice (some ⟨b, o, none⟩) n cap, .int .i64 (n : Int), .int .i64 ((n : Int) + 1), .slice (some ⟨u0.heap.size, 0, none⟩) 1 (n + 1), .pointer (some ⟨w.heap.size, 2, none⟩), .slice (some ⟨b, o, none⟩) n cap, .int .i64 (n : Int), .int .i64 (k : Int), .bool true, .pointer (some ⟨b, o + k * 2, none⟩), .agg #[.int .i64 ib, .slice (some ⟨gx, ox, none⟩) 4096 c], .tuple #[.slice (some ⟨h, 0, none⟩) 4096 ch, .slice (some ⟨q, 0, none⟩) 64 dq], .pointer (some ⟨bi, 1, none⟩), .slice (some ⟨gx, ox, none⟩) 4096 c, .pointer (some ⟨w.heap.size, 0, none⟩), .int .i64 (e : Int), .pointer (some ⟨w.heap.size, 1, none⟩), .int .i64 (s : Int), .slice (some ⟨g4, 0, none⟩) 8 8, .tuple #[.slice (some ⟨h, 0, none⟩) 4096 ch, .slice (some ⟨q, 0, none⟩) 64 dq], .slice (some ⟨h, 0, none⟩) 4096 ch, .slice (some ⟨q, 0, none⟩) 64 dq, u41, u42, u43, u44, u45, u46, u47, u48, u49, u50, u51, u52, u53, u54, undef, undef, undef, undef, undef], defers := [] } ∧ RowB W h ch (stB M dat) ∧ RowB W q dq (hdB M dat) ∧ V.heap.size ≤ h ∧ V.heap.size ≤ q ∧ Below V.heap.size V W)) ?reg ?tail
      case reg =>
        refine wp_region_any (by kernel_rfl) ?_
        change wpAny _ _ _ _ _ _ _ (World.drew _)
        have bI : Box V.drew bi _ 108 := bx
        replace bG1 : Box V.drew w.heap.size _ 40 := bG1
        have rdV : Rd V (some ⟨gx, ox, none⟩) dat := rd1
        have BV : Below V.heap.size V V.drew := (Below.refl _ _).drew
        clear own1 ent1 J1 B1 bH1 bx q1 q2 q6
        generalize V.drew = V' at bI bG1 BV ⊢
        refine wpAny_take (i := 0) (v := ?_) rfl (by kernel_rfl) (by kernel_rfl) (by kernel_rfl) (fun _ _ _ h => nomatch h.1) (Or.inl ⟨by rfl, ?_⟩) ?_
        rotate_left
        · intro w
          go_simp
          with_reducible rfl
        refine wpAny_take (i := 2) (v := ?_) rfl (by kernel_rfl) (by kernel_rfl) (by kernel_rfl) (fun _ _ _ h => nomatch h.1) (Or.inl ⟨by rfl, ?_⟩) ?_
        rotate_left
        · intro w
          go_simp
          with_reducible rfl
        refine wpAny_take (i := 4) (v := ?_) rfl (by kernel_rfl) (by kernel_rfl) (by kernel_rfl) (fun _ _ _ h => nomatch h.1) (Or.inl ⟨by rfl, ?_⟩) ?_
        rotate_left
        · intro w
          go_simp
          with_reducible rfl
        simp only [Act.put, List.setIfInBounds_toArray, List.set_cons_zero, List.set_cons_succ, List.getElem_toArray, List.getElem_cons_zero, List.getElem_cons_succ]
        refine wpAny_of_late (C := SB [(31, .pointer (some ⟨bi, 1, none⟩)), (33, .pointer (some ⟨w.heap.size, 0, none⟩)), (35, .pointer (some ⟨w.heap.size, 1, none⟩))] [(bi, #[.int .i64 ib, .slice (some ⟨gx, ox, none⟩) 4096 c], 108), (w.heap.size, #[.int .i64 (e : Int), .int .i64 (s : Int), .slice (some ⟨b, o, none⟩) n cap], 40)]) (late := []) _ _ _ _ ?_
        refine wpAnyD_take (i := 1) (v := .slice (some ⟨gx, ox, none⟩) 4096 c) rfl (by kernel_rfl) (by kernel_rfl) (by kernel_rfl) (by kernel_rfl) (fun _ _ _ h => nomatch h.1) ?_ (fun fr u h => (SB.put 32 _ (by rfl)).1 h) (fun fr u h => (SB.put 32 _ (by rfl)).2 h) ?_ ?_
        · intro fr u hh
          obtain ⟨e1, e2⟩ := hh.load (s := 31) (b := bi) (j := 1) (cs := #[.int .i64 ib, .slice (some ⟨gx, ox, none⟩) 4096 c]) (t := 108) (v := .slice (some ⟨gx, ox, none⟩) 4096 c) (by simp) (by simp) (by rfl)
          exact ⟨rfl, by simp [execOp, e1, go_sem, e2]⟩
        · exact ⟨fun p hp => by simp at hp; rcases hp with rfl | rfl | rfl <;> rfl, fun q hq => by simp at hq; rcases hq with rfl | rfl <;> first | exact bI | exact bG1⟩
        simp only [Act.put, List.setIfInBounds_toArray, List.set_cons_zero, List.set_cons_succ, List.getElem_toArray, List.getElem_cons_zero, List.getElem_cons_succ]
        refine wpAnyD_take (i := 3) (v := .int .i64 (e : Int)) rfl (by kernel_rfl) (by kernel_rfl) (by kernel_rfl) (by kernel_rfl) (fun _ _ _ h => nomatch h.1) ?_ (fun fr u h => (SB.put 34 _ (by rfl)).1 h) (fun fr u h => (SB.put 34 _ (by rfl)).2 h) ?_ ?_
        · intro fr u hh
          obtain ⟨e1, e2⟩ := hh.load (s := 33) (b := w.heap.size) (j := 0) (cs := #[.int .i64 (e : Int), .int .i64 (s : Int), .slice (some ⟨b, o, none⟩) n cap]) (t := 40) (v := .int .i64 (e : Int)) (by simp) (by simp) (by rfl)
          exact ⟨rfl, by simp [execOp, e1, go_sem, e2]⟩
        · exact ⟨fun p hp => by simp at hp; rcases hp with rfl | rfl | rfl <;> rfl, fun q hq => by simp at hq; rcases hq with rfl | rfl <;> first | exact bI | exact bG1⟩
        simp only [Act.put, List.setIfInBounds_toArray, List.set_cons_zero, List.set_cons_succ, List.getElem_toArray, List.getElem_cons_zero, List.getElem_cons_succ]
        refine wpAnyD_take (i := 5) (v := .int .i64 (s : Int)) rfl (by kernel_rfl) (by kernel_rfl) (by kernel_rfl) (by kernel_rfl) (fun _ _ _ h => nomatch h.1) ?_ (fun fr u h => (SB.put 36 _ (by rfl)).1 h) (fun fr u h => (SB.put 36 _ (by rfl)).2 h) ?_ ?_
        · intro fr u hh
          obtain ⟨e1, e2⟩ := hh.load (s := 35) (b := w.heap.size) (j := 1) (cs := #[.int .i64 (e : Int), .int .i64 (s : Int), .slice (some ⟨b, o, none⟩) n cap]) (t := 40) (v := .int .i64 (s : Int)) (by simp) (by simp) (by rfl)
          exact ⟨rfl, by simp [execOp, e1, go_sem, e2]⟩
        · exact ⟨fun p hp => by simp at hp; rcases hp with rfl | rfl | rfl <;> rfl, fun q hq => by simp at hq; rcases hq with rfl | rfl <;> first | exact bI | exact bG1⟩
        simp only [Act.put, List.setIfInBounds_toArray, List.set_cons_zero, List.set_cons_succ, List.getElem_toArray, List.getElem_cons_zero, List.getElem_cons_succ]
        refine wpAnyD_ready (rs := [6]) (by kernel_rfl) (by simp) ?_
        refine AllD.cons rfl (fun K hK2 => ?_) ?_
        · skip
          go_simp
          refine (stamp_at e s _ _ V' rfl rfl hE.2.1 hE.2.2).mono ?_
          rintro x V2 ⟨rfl, ho, hb2⟩
          replace bI := bI.below hb2
          replace bG1 := bG1.below hb2
          have BV2 := BV.trans (hb2.mono BV.size)
          refine hK2 _ _ ⟨.inr ⟨fun p hp => by simp at hp; rcases hp with rfl | rfl | rfl <;> rfl, fun q hq => by simp at hq; rcases hq with rfl | rfl <;> first | exact bI | exact bG1⟩, ?_⟩
          clear hK2 K
          rw [← HM.out] at ho
          obtain ⟨g4, hg4⟩ : ∃ g, g = V'.heap.size := ⟨_, rfl⟩
          rw [← hg4] at ho ⊢
          clear hg4
          refine wpAnyD_ready (rs := [7]) (by kernel_rfl) (by simp) ?_
          refine AllD.cons rfl (fun K hK2 => ?_) ?_
          · skip
            go_simp
            refine (hide_in gx ox c g4 dat M V2 h4 (rdV.below BV2 (Nat.le_refl _)) hML ho.rd).mono ?_
            rintro x V3 ⟨h, ch, v9, rfl, hh, r1, r2, hb3⟩
            replace bI := bI.below hb3
            replace bG1 := bG1.below hb3
            have BV3 := BV2.trans (hb3.mono BV2.size)
            obtain ⟨q, dq, rfl, hq, r3⟩ := RowB.owns r2 (by omega)
            refine hK2 _ _ ⟨.inr ⟨fun p hp => by simp at hp; rcases hp with rfl | rfl | rfl <;> rfl, fun q hq => by simp at hq; rcases hq with rfl | rfl <;> first | exact bI | exact bG1⟩, ?_⟩
            clear hK2 K
            refine wpAnyD_ready (rs := [8]) (by kernel_rfl) (by simp) ?_
            refine AllD.cons rfl (fun K hK2 => ?_) ?_
            · skip
              go_simp
              refine hK2 _ _ ⟨.inr ⟨fun p hp => by simp at hp; rcases hp with rfl | rfl | rfl <;> rfl, fun q hq => by simp at hq; rcases hq with rfl | rfl <;> first | exact bI | exact bG1⟩, ?_⟩
              clear hK2 K
              refine wpAnyD_ready (rs := [9, 10]) (by kernel_rfl) (by simp) ?_
              refine AllD.cons rfl (fun K hK2 => ?_) ?_
              · skip
                go_simp
                refine hK2 _ _ ⟨.inr ⟨fun p hp => by simp at hp; rcases hp with rfl | rfl | rfl <;> rfl, fun q hq => by simp at hq; rcases hq with rfl | rfl <;> first | exact bI | exact bG1⟩, ?_⟩
                clear hK2 K
                refine wpAnyD_ready (rs := [10, 11]) (by kernel_rfl) (by simp) ?_
                refine AllD.cons rfl (fun K hK2 => ?_) ?_
                · skip
                  go_simp
                  refine hK2 _ _ ⟨.inr ⟨fun p hp => by simp at hp; rcases hp with rfl | rfl | rfl <;> rfl, fun q hq => by simp at hq; rcases hq with rfl | rfl <;> first | exact bI | exact bG1⟩, ?_⟩
                  clear hK2 K
                  refine wpAnyD_ready (rs := [11]) (by kernel_rfl) (by simp) ?_
                  refine AllD.cons rfl (fun K hK2 => ?_) ?_
                  · skip
                    go_simp
                    refine hK2 _ _ ⟨.inr ⟨fun p hp => by simp at hp; rcases hp with rfl | rfl | rfl <;> rfl, fun q hq => by simp at hq; rcases hq with rfl | rfl <;> first | exact bI | exact bG1⟩, ?_⟩
                    clear hK2 K
                    refine wpAnyD_ready (rs := [12]) (by kernel_rfl) (by simp) ?_
                    refine AllD.cons rfl (fun K hK2 => ?_) ?_
                    · skip
                      go_simp
                      refine hK2 _ _ ⟨.inr ⟨fun p hp => by simp at hp; rcases hp with rfl | rfl | rfl <;> rfl, fun q hq => by simp at hq; rcases hq with rfl | rfl <;> first | exact bI | exact bG1⟩, ?_⟩
                      clear hK2 K
                      refine wpAnyD_done (by kernel_rfl) ?_ _
                      exact ⟨rfl, g4, h, ch, q, dq, rfl, r1, r3, by have := BV2.size; omega, by have := BV2.size; omega, BV3⟩
                    exact AllD.nil
                  exact AllD.nil
                refine AllD.cons rfl (fun K hK2 => ?_) ?_
                · skip
                  go_simp
                  refine hK2 _ _ ⟨.inr ⟨fun p hp => by simp at hp; rcases hp with rfl | rfl | rfl <;> rfl, fun q hq => by simp at hq; rcases hq with rfl | rfl <;> first | exact bI | exact bG1⟩, ?_⟩
                  clear hK2 K
                  refine wpAnyD_ready (rs := [10]) (by kernel_rfl) (by simp) ?_
                  refine AllD.cons rfl (fun K hK2 => ?_) ?_
                  · skip
                    go_simp
                    refine hK2 _ _ ⟨.inr ⟨fun p hp => by simp at hp; rcases hp with rfl | rfl | rfl <;> rfl, fun q hq => by simp at hq; rcases hq with rfl | rfl <;> first | exact bI | exact bG1⟩, ?_⟩
                    clear hK2 K
                    refine wpAnyD_ready (rs := [12]) (by kernel_rfl) (by simp) ?_
                    refine AllD.cons rfl (fun K hK2 => ?_) ?_
                    · skip
                      go_simp
                      refine hK2 _ _ ⟨.inr ⟨fun p hp => by simp at hp; rcases hp with rfl | rfl | rfl <;> rfl, fun q hq => by simp at hq; rcases hq with rfl | rfl <;> first | exact bI | exact bG1⟩, ?_⟩
                      clear hK2 K
                      refine wpAnyD_done (by kernel_rfl) ?_ _
                      exact ⟨rfl, g4, h, ch, q, dq, rfl, r1, r3, by have := BV2.size; omega, by have := BV2.size; omega, BV3⟩
                    exact AllD.nil
                  exact AllD.nil
                exact AllD.nil
              refine AllD.cons rfl (fun K hK2 => ?_) ?_
              · skip
                go_simp
                refine hK2 _ _ ⟨.inr ⟨fun p hp => by simp at hp; rcases hp with rfl | rfl | rfl <;> rfl, fun q hq => by simp at hq; rcases hq with rfl | rfl <;> first | exact bI | exact bG1⟩, ?_⟩
                clear hK2 K
                refine wpAnyD_ready (rs := [9]) (by kernel_rfl) (by simp) ?_
                refine AllD.cons rfl (fun K hK2 => ?_) ?_
                · skip
                  go_simp
                  refine hK2 _ _ ⟨.inr ⟨fun p hp => by simp at hp; rcases hp with rfl | rfl | rfl <;> rfl, fun q hq => by simp at hq; rcases hq with rfl | rfl <;> first | exact bI | exact bG1⟩, ?_⟩
                  clear hK2 K
                  refine wpAnyD_ready (rs := [11]) (by kernel_rfl) (by simp) ?_
                  refine AllD.cons rfl (fun K hK2 => ?_) ?_
                  · skip
                    go_simp
                    refine hK2 _ _ ⟨.inr ⟨fun p hp => by simp at hp; rcases hp with rfl | rfl | rfl <;> rfl, fun q hq => by simp at hq; rcases hq with rfl | rfl <;> first | exact bI | exact bG1⟩, ?_⟩
                    clear hK2 K
                    refine wpAnyD_ready (rs := [12]) (by kernel_rfl) (by simp) ?_
                    refine AllD.cons rfl (fun K hK2 => ?_) ?_
                    · skip
                      go_simp
                      refine hK2 _ _ ⟨.inr ⟨fun p hp => by simp at hp; rcases hp with rfl | rfl | rfl <;> rfl, fun q hq => by simp at hq; rcases hq with rfl | rfl <;> first | exact bI | exact bG1⟩, ?_⟩
                      clear hK2 K
                      refine wpAnyD_done (by kernel_rfl) ?_ _
                      exact ⟨rfl, g4, h, ch, q, dq, rfl, r1, r3, by have := BV2.size; omega, by have := BV2.size; omega, BV3⟩
                    exact AllD.nil
                  exact AllD.nil
                exact AllD.nil
              exact AllD.nil
            exact AllD.nil
          exact AllD.nil
        exact AllD.nil
      case tail =>
        rintro x A W ⟨rfl, g4, h, ch, q, dq, rfl, r1, r3, hh1, hh2, hbW⟩
        have J2 := J1.snoc hbW ⟨ib, dat, h, ch, q, dq⟩ r1 r3 hh1 hh2 B1.size
        replace own1 := owns_below own1 hbW
        replace ent1 := owns_below ent1 hbW
        replace bx := bx.below hbW
        replace bH1 := bH1.below hbW
        replace bG1 := bG1.below hbW
        replace B1 := B1.trans (hbW.mono B1.size)
        clear hbW J1 r1 r3 hh1 hh2 rd1 q6 q1 q2 hsz
        have al := (Below.refl W.heap.size W).alloc (Nat.le_refl _) (.cells #[.slice (some ⟨h, 0, none⟩) 4096 ch] 41)
        have bN := Box.new W #[.slice (some ⟨h, 0, none⟩) 4096 ch] 41
        replace own1 := owns_below own1 al
        replace ent1 := owns_below ent1 al
        replace bx := bx.below al
        replace bH1 := bH1.below al
        replace bG1 := bG1.below al
        replace J2 := J2.below al
        replace B1 := B1.trans (al.mono B1.size)
        have hcN : ∀ j u, ([.slice (some ⟨h, 0, none⟩) 4096 ch] : List Value)[j]? = some u → (W.alloc (.cells #[.slice (some ⟨h, 0, none⟩) 4096 ch] 41)).cell? ((⟨W.heap.size, 0, none⟩ : Addr).add j) = some u := fun j u hj => by
          rw [Addr.add_lit, Nat.zero_add, bN.cell j]
          simpa using hj
        go_wp2_with (at_builtin; refine wpList_append_own _ rfl _ _ 52 rfl w.heap.size 41 j0 (.slice none 0 0) 1 24 Tryz.underlying52 ji jz0 jz1 jz2 rfl (by decide) _ (k + 1) _ rfl own1 ⟨W.heap.size, 0, none⟩ 1 1 [.slice (some ⟨h, 0, none⟩) 4096 ch] rfl rfl hcN ?c2 ?c3 ?c4 B1.size ?_)
        case c2 => intro u hu; simp at hu; subst hu; rfl
        case c3 => unfold maxLen; omega
        case c4 => omega
        intro v' w4 own4 hg4 _
        have hnx : ∀ {g : Nat} {cs : Array Value} {t : TypeId}, Box _ g cs t → (41 : TypeId) ≠ t → Box w4 g cs t := fun hb ht => hb.grown hg4 (fun e => by
          obtain ⟨_, cur, q⟩ := owns_block own1 _ e
          exact q.ne hb ht rfl)
        have bx4 := hnx bx (by decide)
        have bH4 := hnx bH1 (by decide)
        have bG4 := hnx bG1 (by decide)
        have ent4 : w4.ownsRow w.heap.size 133 2 (.slice ae k ce) k (entC ps) := owns_grown ent1 hg4 (fun g eg e => by
          obtain ⟨_, cur, q⟩ := owns_block own1 _ e
          obtain ⟨_, cur2, q2⟩ := owns_block ent1 _ eg
          exact q.ne q2 (by decide) rfl)
        have J4 := J2.grown own1 (by decide) hg4
        have B4 := B1.grown hg4 B1.size (fun j e => (owns_block own1 j e).1)
        obtain ⟨av4, cv4, rfl⟩ := owns_shape own4
        clear hnx own1 ent1 bx bH1 bG1 J2 B1 bN al hcN hg4
        have y2 := bH4.cell 2
        have y0 := bx4.cell 0
        have al := (Below.refl w4.heap.size w4).alloc (Nat.le_refl _) (.cells #[.int .i64 ib, .slice (some ⟨q, 0, none⟩) 64 dq] 133)
        have bE := Box.new w4 #[.int .i64 ib, .slice (some ⟨q, 0, none⟩) 64 dq] 133
        have ent5 := owns_below ent4 al
        have own5 := owns_below own4 al
        have bH5 := bH4.below al
        have bG5 := bG4.below al
        have J5 := J4.below al
        have B5 := B4.trans (al.mono B4.size)
        go_wp2_with (at_builtin; refine wpList_append_own _ rfl _ _ 127 rfl w.heap.size 133 i0 (.agg #[.int .i64 0, .slice none 0 0]) 2 32 Tryz.underlying127 hi hz0 hz1 hz2 rfl (by decide) _ k _ rfl ent5 ⟨w4.heap.size, 0, none⟩ 1 1 [.int .i64 ib, .slice (some ⟨q, 0, none⟩) 64 dq] rfl rfl (two_cells bE) ?d2 ?d3 ?d4 B5.size ?_)
        case d2 => intro u hu; simp at hu; rcases hu with rfl | rfl <;> rfl
        case d3 => unfold maxLen; omega
        case d4 => omega
        intro v6 w6 ent6 hg6 _
        have hnx : ∀ {g : Nat} {cs : Array Value} {t : TypeId}, Box _ g cs t → (133 : TypeId) ≠ t → Box w6 g cs t := fun hb ht => hb.grown hg6 (fun e => by
          obtain ⟨_, cur, q⟩ := owns_block ent5 _ e
          exact q.ne hb ht rfl)
        have bH6 := hnx bH5 (by decide)
        have bG6 := hnx bG5 (by decide)
        have own6 : w6.ownsRow w.heap.size 41 1 (.slice av4 (k + 1 + 1) cv4) (k + 1 + 1) _ := owns_grown own5 hg6 (fun g eg e => by
          obtain ⟨_, cur, q⟩ := owns_block ent5 _ e
          obtain ⟨_, cur2, q2⟩ := owns_block own5 _ eg
          exact q.ne q2 (by decide) rfl)
        have J6 := J5.grown ent5 (by decide) hg6
        have B6 := B5.grown hg6 B5.size (fun j e => (owns_block ent5 j e).1)
        obtain ⟨av6, cv6, rfl⟩ := owns_shape ent6
        have f6 := bH6.frozen 2
        have z6 := bH6.cell 2
        have bH7 := bH6.store 2 (.slice av6 (k + 1) cv6)
        have bG7 : Box (w6.setCell ⟨bh, 2, none⟩ (.slice av6 (k + 1) cv6)) w.heap.size _ 40 := (heap_setCell_other w6 ⟨bh, 2, none⟩ w.heap.size _ (by show w.heap.size ≠ bh; omega)).trans bG6
        have J7 := J6.store (j := 2) bH6 (by decide) (.slice av6 (k + 1) cv6)
        have B7 := B6.setCell (p := ⟨bh, 2, none⟩) (by show w.heap.size ≤ bh; omega) (.slice av6 (k + 1) cv6)
        have ent7 : (w6.setCell ⟨bh, 2, none⟩ (.slice av6 (k + 1) cv6)).ownsRow w.heap.size 133 2 (.slice av6 (k + 1) cv6) (k + 1) _ := owns_grown ent6 (grown_store w6 bh 2 _) (fun g eg e => by
          cases e
          obtain ⟨_, cur2, q2⟩ := owns_block ent6 _ eg
          exact q2.ne bH6 (by decide) rfl)
        have own7 : (w6.setCell ⟨bh, 2, none⟩ (.slice av6 (k + 1) cv6)).ownsRow w.heap.size 41 1 (.slice av4 (k + 1 + 1) cv4) (k + 1 + 1) _ := owns_grown own6 (grown_store w6 bh 2 _) (fun g eg e => by
          cases e
          obtain ⟨_, cur2, q2⟩ := owns_block own6 _ eg
          exact q2.ne bH6 (by decide) rfl)
        clear hnx own4 own5 own6 ent4 ent5 ent6 bx4 bH4 bH5 bG4 bG5 bG6 J4 J5 J6 B4 B5 B6 bE al hg6 y2 y0
        go_wp2
        go_roundw
        case rel =>
          refine ⟨k + 1, ps ++ [⟨ib, dat, h, ch, q, dq⟩], by omega, by go_num, ?_, ?_, ⟨_, by simpa using bH7, ?_⟩, J7, bG7, B7⟩
          · rw [HT.out, List.map_append, HPS.out]
            rfl
          · have e1 : (.slice none 0 0 :: rowC (ps ++ [⟨ib, dat, h, ch, q, dq⟩])) = .slice none 0 0 :: rowC ps ++ [.slice (some ⟨h, 0, none⟩) 4096 ch] := by simp [rowC]
            rw [e1]
            exact own7
          · have e1 : entC (ps ++ [⟨ib, dat, h, ch, q, dq⟩]) = entC ps ++ [.int .i64 ib, .slice (some ⟨q, 0, none⟩) 64 dq] := by simp [entC]
            rw [e1]
            exact ent7
        case measure => simp [intOf]; omega
    · obtain rfl : k = n := by omega
      have htk : is.take k = is := List.take_of_length_le (by rw [HL.out]; omega)
      rw [htk] at hps
      have hpl : ps.length = k := by
        have := congrArg List.length hps
        rw [List.length_map] at this
        rw [this]
        exact HL.out
      have hxs : ∀ p ∈ ps, p.xs.length = 4096 ∧ 0 ≤ p.b ∧ p.b ≤ 511 := fun p hp => by
        have h5 : (p.b, p.xs) ∈ is := by rw [← hps]; exact List.mem_map_of_mem hp
        obtain ⟨j, hj, hje⟩ := List.getElem_of_mem h5
        have h6 := HOK.out.2 _ h5
        have h7 := (HOK.out.1.2.2 j (by simpa using hj) (by simpa using hj)).1
        rw [List.getElem_map, hje] at h7
        exact ⟨h6, h7⟩
      obtain ⟨av, cv, rfl⟩ := owns_shape hown
      obtain ⟨ae, ce, rfl⟩ := owns_shape hent
      have hE : e ≤ 8388608 ∧ s ≤ 549755813888 := by
        have := (okStamp_iff _ _).1 HOK.out.1.1
        exact ⟨by omega, by omega⟩
      have hes : Ents wr ae (esOf M ps) := fun hp => by
        have hel : (esOf M ps).length = ps.length := by simp [esOf]
        rw [hel] at hp
        rcases hent.2 with ⟨hv, hn⟩ | ⟨gv, cap', cur, hv, _⟩
        · omega
        · have ha : ae = some ⟨gv, 0, none⟩ := by simpa using (Value.slice.inj hv).1
          subst ha
          refine ⟨gv, 0, rfl, fun j hj => ?_⟩
          rw [hel] at hj
          obtain ⟨e1, e2⟩ := entC_at ps j hj
          have hb : (Value.slice (some ⟨gv, 0, none⟩) k ce).ownBlock = some gv := rfl
          have k1 := hent.cells hb _ _ e1
          have k2 := hent.cells hb _ _ e2
          rw [Addr.add_lit] at k1 k2
          have hm := List.getElem_mem hj
          obtain ⟨a1, a2, a3⟩ := hJ.rows _ hm
          have hx : (esOf M ps)[j]'(by rw [hel]; exact hj) = (ps[j].b.toNat, hdB M ps[j].xs) := by simp [esOf]
          obtain ⟨x1, x2, x3⟩ := hxs _ hm
          have hlen64 : (hdB M ps[j].xs).length = 64 := by
            have := (hideTo_length ps[j].xs M x1 hML (List.finRange 8)).2
            unfold hdB
            rw [this]
            simp
          have hd : 64 ≤ ps[j].d ∧ ps[j].d ≤ 9223372036854775807 := by
            obtain ⟨cur2, _, y1, y2, _⟩ := a2
            unfold maxLen at y2
            omega
          rw [hx]
          have eb : ((ps[j].b.toNat : Nat) : Int) = ps[j].b := by omega
          exact ⟨by dsimp only; rw [eb]; exact k1, _, _, _, by rw [Nat.add_assoc]; exact k2, hd.1, hd.2, hlen64, a2.rd⟩
      have hbl : ∀ x ∈ esOf M ps, x.1 ≤ 511 := fun x hx => by
        obtain ⟨p, hp, rfl⟩ := List.mem_map.1 hx
        have := hxs p hp
        show p.b.toNat ≤ 511
        omega
      have cH := putHeading_in e s ae k ce (esOf M ps) wr hE.1 hE.2 (by simp [esOf, hpl]) (by omega) h2 hes hbl
      have HBL : Hid _ := hbl
      have HES : Hid _ := hes
      have HXS : Hid (∀ p ∈ ps, p.xs.length = 4096 ∧ 0 ≤ p.b ∧ p.b ≤ 511) := hxs
      clear hbl hes hxs
      have y0 := bH.cell 0
      have y1 := bH.cell 1
      have y2 := bH.cell 2
      go_wp2_with fail
      refine cH.mono ?_
      rintro r W ⟨h0, rfl, hh0, r0, hbW⟩
      replace hown := owns_below hown hbW
      have hap : h0 ∉ ps.map PP.h := fun hm => by
        obtain ⟨p, hp, he⟩ := List.mem_map.1 hm
        have := (hJ.rows p hp).1.lt
        omega
      replace hJ := hJ.below hbW
      have hw0 := hB.size
      replace hB := hB.trans (hbW.mono hB.size)
      have hown0 := hown
      rcases hown.2 with ⟨_, hv⟩ | ⟨gv, cap', cur, hv, hgv, hbox, hc1, hc2, hc3, hc4⟩
      · omega
      · obtain ⟨rfl, _, rfl⟩ : av = some ⟨gv, 0, none⟩ ∧ k + 1 = k + 1 ∧ cv = cap' := by simpa using hv
        have hbx : Box W gv cur 41 := hbox
        have t0 : W.cell? ⟨gv, 0, none⟩ = some (.slice none 0 0) := by
          have := hown0.cells (g := gv) rfl 0 (.slice none 0 0) rfl
          rwa [Addr.add_lit] at this
        have f0 := hbx.frozen 0
        have hst := hbx.store 0 (.slice (some ⟨h0, 0, none⟩) 4096 4096)
        have J2 := hJ.store (j := 0) hbx (by decide) (.slice (some ⟨h0, 0, none⟩) 4096 4096)
        have r02 := rowB_store (j := 0) r0 hbx (by decide) (.slice (some ⟨h0, 0, none⟩) 4096 4096)
        have B2 := hB.setCell (p := ⟨gv, 0, none⟩) hgv (.slice (some ⟨h0, 0, none⟩) 4096 4096)
        have own2 : (W.setCell ⟨gv, 0, none⟩ (.slice (some ⟨h0, 0, none⟩) 4096 4096)).ownsRow w.heap.size 41 1 (.slice (some ⟨gv, 0, none⟩) (k + 1) cv) (k + 1) (.slice (some ⟨h0, 0, none⟩) 4096 4096 :: rowC ps) := by
          refine ⟨by simp [rowC, hpl], .inr ⟨gv, cv, cur.setIfInBounds 0 (.slice (some ⟨h0, 0, none⟩) 4096 4096), rfl, hgv, hst, hc1, hc2, by simpa using hc3, ?_⟩⟩
          have e5 : (cur.setIfInBounds 0 (.slice (some ⟨h0, 0, none⟩) 4096 4096)).toList = cur.toList.set 0 (.slice (some ⟨h0, 0, none⟩) 4096 4096) := by simp
          rw [e5, List.take_set, hc4]
          rfl
        clear hown hown0 hbox hst hbx hv cH hJ r0 hB bH bG hent
        go_wp2
        go_ret2
        exact ⟨gv, cv, h0, ps, rfl, hgv, own2, by rw [HM.out] at r02; exact r02, hap, by omega, by rw [HM.out] at J2; exact J2, hps, B2⟩
end Go.Proofs.YtkhejjddmbegaaaGreat.Rc

/-
  bodyOf.
-/
namespace Go.Proofs.YtkhejjddmbegaaaGreat.Rc
open Go.RowKit Go.Shelf
attribute [local go_sem] Oper.semAt_some

/-- what stands behind the stamps of these sectors -/
def bodyTo (xs : List UInt8) (pre : List (Fin 8)) : List UInt8 := pre.flatMap fun x => (sec xs x.val).drop 8
theorem bodyTo_snoc (xs : List UInt8) (pre : List (Fin 8)) (x : Fin 8) : bodyTo xs (pre ++ [x]) = bodyTo xs pre ++ (sec xs x.val).drop 8 := by simp [bodyTo]

/-- one round's work on memory -/
theorem bodyOf_round (w W : World) (k0 k1 : Nat) (cs : Array Value) (xs : List UInt8) (pre : List (Fin 8)) (v : Value) (x : Fin 8) (h01 : k0 < k1) (hw : w.heap.size < k0) (hB : Below w.heap.size w W)
    (hv : Box W k0 #[v] 41) (hown : W.ownsRow w.heap.size 5 1 v (pre.length * 504) (bcs (bodyTo xs pre))) (hk : Box W k1 cs 41)
    (v' : Value) (w2 : World) (hown2 : w2.ownsRow w.heap.size 5 1 v' (pre.length * 504 + 504) (bcs (bodyTo xs pre) ++ bcs ((sec xs x.val).drop 8))) (hg2 : W.drew.grownBy w2 v.ownBlock) :
    w2.cell? ⟨k0, 0, none⟩ = some v ∧ w2.frozen? ⟨k0, 0, none⟩ = false ∧ KeepsOthers W (w2.setCell ⟨k0, 0, none⟩ v') ∧ (w2.setCell ⟨k0, 0, none⟩ v').heap[k1]? = W.heap[k1]? ∧
      Box (w2.setCell ⟨k0, 0, none⟩ v') k0 #[v'] 41 ∧ ((w2.setCell ⟨k0, 0, none⟩ v').ownsRow w.heap.size 5 1 v' ((pre ++ [x]).length * 504) (bcs (bodyTo xs (pre ++ [x]))) ∧ Box (w2.setCell ⟨k0, 0, none⟩ v') k1 cs 41) ∧ Below w.heap.size w (w2.setCell ⟨k0, 0, none⟩ v') := by
  have hne : ∀ g', v.ownBlock = some g' → w.heap.size ≤ g' ∧ g' ≠ k0 ∧ g' ≠ k1 := fun g' e => by
    obtain ⟨q1, cur, q2⟩ := owns_block hown g' e
    exact ⟨q1, q2.ne hv (by decide), q2.ne hk (by decide)⟩
  have hv2 : Box w2 k0 #[v] 41 := Box.grown (w := W.drew) hv hg2 (fun e => (hne _ e).2.1 rfl)
  have hk2 : Box w2 k1 cs 41 := Box.grown (w := W.drew) hk hg2 (fun e => (hne _ e).2.2 rfl)
  have hB2 : Below w.heap.size w w2 := (hB.drew).grown hg2 hB.size (fun k e => (hne _ e).1)
  have a1 : w2.heap[k1]? = W.heap[k1]? := hg2.block k1 hk.lt (fun e => (hne _ e.symm).2.2 rfl)
  have a2 : (w2.setCell ⟨k0, 0, none⟩ v').heap[k1]? = w2.heap[k1]? := heap_setCell_other w2 ⟨k0, 0, none⟩ k1 v' (by show k1 ≠ k0; omega)
  refine ⟨hv2.cell 0, hv2.frozen 0, ((KeepsOthers.drew W).trans (keeps_owns (w := W.drew) hown hg2)).trans (KeepsOthers.setCell w2 _ _), a2.trans a1, ?_, ⟨?_, a2.trans hk2⟩, hB2.setCell (p := ⟨k0, 0, none⟩) (by show w.heap.size ≤ k0; omega) v'⟩
  · have := hv2.store 0 v'; simpa using this
  · have e1 : (pre ++ [x]).length * 504 = pre.length * 504 + 504 := by simp; omega
    rw [e1, bodyTo_snoc, bcs_append]
    refine owns_grown hown2 (grown_store w2 k0 0 v') (fun g' e => ?_)
    obtain ⟨_, cur, q⟩ := owns_block hown2 g' e
    intro e2
    cases e2
    exact q.ne hv2 (by decide) rfl

set_option maxRecDepth 100000 in
set_option maxHeartbeats 4000000 in
theorem bodyOf_in (g o cap : Nat) (xs : List UInt8) (w : World) (hl : xs.length = 4096) (hcap : 4096 ≤ cap) (hmax : cap ≤ 9223372036854775807) (hr : Rd w (some ⟨g, o, none⟩) xs) :
    Calls Tryz.prog 100 #[.slice (some ⟨g, o, none⟩) 4096 cap] w fun r w' => ∃ v, r = .returned v ∧ w'.ownsRow w.heap.size 5 1 v 4032 (bcs (bodyTo xs (List.finRange 8))) ∧ Below w.heap.size w w' := by
  refine (callsIn_wide (n := 3)).1 ?_
  obtain ⟨i0, hi, hz0, hz1, hz2⟩ := info_parts info5
  obtain ⟨w1, hmk, ow1, hg1⟩ := run_makeSlice_owned (P := Tryz.prog) w w.heap.size 41 5 i0 (.int .u8 0) 1 Tryz.underlying41 hi hz0 hz1 .i64 .i64 4032 (by omega) (by rw [hz2]; omega) (by unfold maxLen; omega) (Nat.le_refl _)
  have hmk' : (Instr.makeSlice 41 (.int .i64 0) (.int .i64 4032)).run Tryz.prog w = .ok (.slice (some ⟨w.heap.size, 0, none⟩) 0 4032) w1 := hmk
  clear hmk hi hz0 hz1 hz2
  have B1 : Below w.heap.size w w1 := (Below.refl _ _).grown hg1 (Nat.le_refl _) (fun k e => by cases e)
  refine callsIn_of_wp_marks Tryz.func100 rfl trivial ?_ rfl
  simp only [Tryz.ntmps100, List.size_toArray, List.length_cons, List.length_nil, Nat.reduceAdd, Nat.reduceSub, Array.replicate_succ, Array.replicate_zero, List.push_toArray, List.append_toArray, List.nil_append, List.cons_append]
  gi_wp2_with fail
  refine ⟨trivial, ?_⟩
  refine (sectors_in 2 _ _ _ _).mono ?_
  rintro r w' ⟨rfl, rfl⟩
  gi_wp2_with fail
  have hlt : w.heap.size < w1.heap.size := by
    obtain ⟨_, cur, q⟩ := owns_block ow1 w.heap.size rfl
    exact q.lt
  have b0 := (Box.new w1 #[.slice (some ⟨w.heap.size, 0, none⟩) 0 4032] 41)
  have b0' := b0.alloc (.cells #[.slice (some ⟨g, o, none⟩) 4096 cap] 41)
  have b1 := Box.new (w1.alloc (.cells #[.slice (some ⟨w.heap.size, 0, none⟩) 0 4032] 41)) #[.slice (some ⟨g, o, none⟩) 4096 cap] 41
  have s1 : (w1.alloc (.cells #[.slice (some ⟨w.heap.size, 0, none⟩) 0 4032] 41)).heap.size = w1.heap.size + 1 := by simp
  rw [s1] at b1
  have B2 := (B1.alloc B1.size (.cells #[.slice (some ⟨w.heap.size, 0, none⟩) 0 4032] 41)).alloc (by simp; omega) (.cells #[.slice (some ⟨g, o, none⟩) 4096 cap] 41)
  have ow2 := owns_grown (owns_grown ow1 (World.grownBy_alloc w1 (.cells #[.slice (some ⟨w.heap.size, 0, none⟩) 0 4032] 41) none) (fun _ _ e => by cases e)) (World.grownBy_alloc _ (.cells #[.slice (some ⟨g, o, none⟩) 4096 cap] 41) none) (fun _ _ e => by cases e)
  obtain ⟨W0, hW0⟩ : ∃ W, W = (w1.alloc (.cells #[.slice (some ⟨w.heap.size, 0, none⟩) 0 4032] 41)).alloc (.cells #[.slice (some ⟨g, o, none⟩) 4096 cap] 41) := ⟨_, rfl⟩
  have s3 : W0.heap.size = w1.heap.size + 2 := by rw [hW0]; simp
  rw [← hW0] at b0' b1 B2 ow2 ⊢
  clear hW0 b0 s1 B1 hmk' ow1 hg1
  obtain ⟨k0, hk0⟩ : ∃ k, k = w1.heap.size := ⟨_, rfl⟩
  rw [← hk0] at b0' b1 s3 hlt ⊢
  clear hk0
  obtain ⟨k1, hk1⟩ : ∃ k, k = k0 + 1 := ⟨_, rfl⟩
  rw [← hk1] at b1 ⊢
  have h01 : k0 < k1 := by omega
  have hs3 : k1 + 1 ≤ W0.heap.size := by omega
  have hs4 : w.heap.size < W0.heap.size := by omega
  clear s3 hk1
  have HL : Hid _ := hl
  clear hl
  refine wpIn_rangeFunc_ownH (α := Fin 8) rfl (by omega) (gf := 105) (lb := #[.pointer (some ⟨k1, 0, none⟩)]) rfl trivial (enters_of Tryz.func105 (by kernel_rfl) rfl)
    (sect_stops (3 - 1) (by omega) k1 g o cap hcap hmax W0 (by omega) (b1.cell 0)) cellK_t (cellK_b (by omega)) (Below.refl _ _) (fun _ => rfl)
    (fun pre W => (∃ v, Box W k0 #[v] 41 ∧ W.ownsRow w.heap.size 5 1 v (pre.length * 504) (bcs (bodyTo xs pre)) ∧ Box W k1 #[.slice (some ⟨g, o, none⟩) 4096 cap] 41) ∧ Below w.heap.size w W)
    (fun c _ W => False ∧ Below w.heap.size w W)
    (OwnFrom.and (Own.from (fun s A B row hs hg hr => by
      obtain ⟨v, a1, a2, a3⟩ := hs
      exact ⟨v, a1.kept hg hr, owns_kept a2 hg hr, a3.kept hg hr⟩) _) (ownFrom_below (Nat.le_refl _) (by omega)))
    (fun c => OwnFrom.and (Own.from (fun s A B row hs hg hr => hs) _) (ownFrom_below (Nat.le_refl _) (by omega)))
    ⟨⟨_, b0', by simpa [bodyTo, bcs] using ow2, b1⟩, B2⟩
    (fun x a' _ => a' = { tmps := #[.slice (some ⟨g, o, none⟩) 4096 cap, undef, .slice none 0 0, .pointer (some ⟨k0, 0, none⟩), .slice (some ⟨g, o + x.val * 512, none⟩) 512 512, .slice (some ⟨w.heap.size, 0, none⟩) 0 4032, .slice (some ⟨g, o, none⟩) 4096 cap, .func (.func 105) #[] #[.pointer (some ⟨k1, 0, none⟩)], .slice (some ⟨g, o + x.val * 512, none⟩) 512 512, undef, undef, undef, undef, undef], defers := [] })
    (fun x a' => ownFrom_pure _ _) ?assign ?body ?done ?stop
  case assign =>
    rintro l pre x W K hI hK
    dsimp only [encS]
    gi_wp2
    exact hK _ _ (KeepsFrom.refl _ _) rfl hI rfl
  case body =>
    rintro l pre x a' W hlw ⟨r, hr1⟩ ⟨⟨v, q2, q3, q4⟩, hB⟩ rfl hlt2
    have HR : Hid _ := bodyOf_round w W k0 k1 _ xs pre v x h01 hlt hB q2 q3 q4
    have hsz1 : w.heap.size ≤ W.drew.heap.size := hB.size
    have hs8 : ((sec xs x.val).drop 8).length = 504 := by have := sec_length xs x.val HL.out x.isLt; simp [this]
    have hr8 : Rd W (some ⟨g, o + x.val * 512 + 8, none⟩) ((sec xs x.val).drop 8) := by
      have := (sec_part (hr.below hB (Nat.le_refl _)) x).part 8 504
      have e : ((sec xs x.val).drop 8).take 504 = (sec xs x.val).drop 8 := List.take_of_length_le (by omega)
      rw [e] at this
      exact this
    have d5 : W.drew.cell? ⟨k0, 0, none⟩ = some v := q2.cell 0
    clear q2 q4
    gi_wp2_with fail
    refine wpIn_region_any (by kernel_rfl) ?_
    change wpAnyIn _ _ _ _ _ _ _ _ _ (World.drew _)
    refine wpAnyIn_ready (rs := [0, 1]) (by kernel_rfl) (by simp) ?_
    refine AllReadyIn.cons rfl (fun K hK2 => ?_) ?_
    · skip
      go_simp
      refine hK2 _ _ ?_
      clear hK2 K
      refine wpAnyIn_ready (rs := [1]) (by kernel_rfl) (by simp) ?_
      refine AllReadyIn.cons rfl (fun K hK2 => ?_) ?_
      · skip
        go_simp
        refine hK2 _ _ ?_
        clear hK2 K
        refine wpAnyIn_ready (rs := [2]) (by kernel_rfl) (by simp) ?_
        refine AllReadyIn.cons rfl (fun K hK2 => ?_) ?_
        · skip
          go_simp
          refine hK2 _ _ ?_
          clear hK2 K
          refine wpAnyIn_ready (rs := [3]) (by kernel_rfl) (by simp) ?_
          refine AllReadyIn.cons rfl (fun K hK2 => ?_) ?_
          · skip
            refine wpIn_append_bytes rfl _ _ rfl w.heap.size v (pre.length * 504) _ rfl (show W.drew.ownsRow _ _ _ _ _ _ from q3) g (o + x.val * 512 + 8) 504 504 ((sec xs x.val).drop 8) rfl hs8 (show Rd W.drew _ _ from hr8) (by omega) hsz1 ?_
            intro v' w2 hown2 hg2
            refine hK2 _ _ ?_
            clear hK2 K
            obtain ⟨e1, e2, e3, e4, e5, e6, e7⟩ := HR.out v' w2 hown2 hg2
            obtain ⟨av, cv, rfl⟩ := owns_shape hown2
            refine wpAnyIn_ready (rs := [4]) (by kernel_rfl) (by simp) ?_
            refine AllReadyIn.cons rfl (fun K hK2 => ?_) ?_
            · skip
              go_simp
              refine hK2 _ _ ?_
              clear hK2 K
              refine wpAnyIn_done (by kernel_rfl) ?_ _
              gi_wp2
              exact ⟨e3.from _, World.cell?_of_block (a := ⟨k1, 0, none⟩) e4, ⟨⟨_, e5, e6⟩, e7⟩⟩
            exact AllReadyIn.nil
          exact AllReadyIn.nil
        exact AllReadyIn.nil
      exact AllReadyIn.nil
    refine AllReadyIn.cons rfl (fun K hK2 => ?_) ?_
    · skip
      go_simp
      refine hK2 _ _ ?_
      clear hK2 K
      refine wpAnyIn_ready (rs := [0, 2]) (by kernel_rfl) (by simp) ?_
      refine AllReadyIn.cons rfl (fun K hK2 => ?_) ?_
      · skip
        go_simp
        refine hK2 _ _ ?_
        clear hK2 K
        refine wpAnyIn_ready (rs := [2]) (by kernel_rfl) (by simp) ?_
        refine AllReadyIn.cons rfl (fun K hK2 => ?_) ?_
        · skip
          go_simp
          refine hK2 _ _ ?_
          clear hK2 K
          refine wpAnyIn_ready (rs := [3]) (by kernel_rfl) (by simp) ?_
          refine AllReadyIn.cons rfl (fun K hK2 => ?_) ?_
          · skip
            refine wpIn_append_bytes rfl _ _ rfl w.heap.size v (pre.length * 504) _ rfl (show W.drew.ownsRow _ _ _ _ _ _ from q3) g (o + x.val * 512 + 8) 504 504 ((sec xs x.val).drop 8) rfl hs8 (show Rd W.drew _ _ from hr8) (by omega) hsz1 ?_
            intro v' w2 hown2 hg2
            refine hK2 _ _ ?_
            clear hK2 K
            obtain ⟨e1, e2, e3, e4, e5, e6, e7⟩ := HR.out v' w2 hown2 hg2
            obtain ⟨av, cv, rfl⟩ := owns_shape hown2
            refine wpAnyIn_ready (rs := [4]) (by kernel_rfl) (by simp) ?_
            refine AllReadyIn.cons rfl (fun K hK2 => ?_) ?_
            · skip
              go_simp
              refine hK2 _ _ ?_
              clear hK2 K
              refine wpAnyIn_done (by kernel_rfl) ?_ _
              gi_wp2
              exact ⟨e3.from _, World.cell?_of_block (a := ⟨k1, 0, none⟩) e4, ⟨⟨_, e5, e6⟩, e7⟩⟩
            exact AllReadyIn.nil
          exact AllReadyIn.nil
        exact AllReadyIn.nil
      refine AllReadyIn.cons rfl (fun K hK2 => ?_) ?_
      · skip
        go_simp
        refine hK2 _ _ ?_
        clear hK2 K
        refine wpAnyIn_ready (rs := [0]) (by kernel_rfl) (by simp) ?_
        refine AllReadyIn.cons rfl (fun K hK2 => ?_) ?_
        · skip
          go_simp
          refine hK2 _ _ ?_
          clear hK2 K
          refine wpAnyIn_ready (rs := [3]) (by kernel_rfl) (by simp) ?_
          refine AllReadyIn.cons rfl (fun K hK2 => ?_) ?_
          · skip
            refine wpIn_append_bytes rfl _ _ rfl w.heap.size v (pre.length * 504) _ rfl (show W.drew.ownsRow _ _ _ _ _ _ from q3) g (o + x.val * 512 + 8) 504 504 ((sec xs x.val).drop 8) rfl hs8 (show Rd W.drew _ _ from hr8) (by omega) hsz1 ?_
            intro v' w2 hown2 hg2
            refine hK2 _ _ ?_
            clear hK2 K
            obtain ⟨e1, e2, e3, e4, e5, e6, e7⟩ := HR.out v' w2 hown2 hg2
            obtain ⟨av, cv, rfl⟩ := owns_shape hown2
            refine wpAnyIn_ready (rs := [4]) (by kernel_rfl) (by simp) ?_
            refine AllReadyIn.cons rfl (fun K hK2 => ?_) ?_
            · skip
              go_simp
              refine hK2 _ _ ?_
              clear hK2 K
              refine wpAnyIn_done (by kernel_rfl) ?_ _
              gi_wp2
              exact ⟨e3.from _, World.cell?_of_block (a := ⟨k1, 0, none⟩) e4, ⟨⟨_, e5, e6⟩, e7⟩⟩
            exact AllReadyIn.nil
          exact AllReadyIn.nil
        exact AllReadyIn.nil
      exact AllReadyIn.nil
    exact AllReadyIn.nil
  case done =>
    rintro D' ys W hD rfl ⟨⟨v, q2, q3, q4⟩, hB⟩ hK
    have d0 := q2.cell 0
    have e8 : (List.finRange 8).length * 504 = 4032 := by simp
    rw [e8] at q3
    obtain ⟨av, cv, rfl⟩ := owns_shape q3
    gi_wp2
    refine ⟨by simp, .inl ⟨_, _, rfl, run_takeDeferred hK, ?_⟩⟩
    exact ⟨_, by simp [results, Tryz.f100, go_sem], _, rfl, owns_kept q3 (grownBy_putObj' _ D' (.deferred none)) (fun r e => by cases e; exact ⟨_, hK, rfl⟩), hB.trans (belowK_b (w := w) (Nat.le_refl _) _ D' _ _ (by omega) hK rfl rfl)⟩
  case stop =>
    rintro D' c pre W hD _ ⟨hf, _⟩ hK
    exact hf.elim
end Go.Proofs.YtkhejjddmbegaaaGreat.Rc

/-
  getHeading.
-/
namespace Go.Proofs.YtkhejjddmbegaaaGreat.Rc
open Go.RowKit

/-- what a block says, were it a head -/
def saidE (xs : List UInt8) : Nat := beNat (xs.take 8) / 1099511627776
def saidS (xs : List UInt8) : Nat := beNat (xs.take 8) % 1099511627776
def bodyX (xs : List UInt8) : List UInt8 := bodyTo xs (List.finRange 8)
def saidEs (xs : List UInt8) : List (Nat × List UInt8) := if cntOf (bodyX xs) ≤ 32 then entsOf (bodyX xs) (cntOf (bodyX xs)) else []
/-- is it a head? -/
def isHead (xs : List UInt8) : Prop := xs.length = 4096 ∧ okHead (saidE xs) (saidS xs) ((saidEs xs).map fun e => (e.1 : Int)) ∧ xs = headB (saidE xs) (saidS xs) (saidEs xs)

theorem bodyX_length (xs : List UInt8) (hl : xs.length = 4096) : (bodyX xs).length = 4032 := by
  unfold bodyX bodyTo
  have : ∀ pre : List (Fin 8), (pre.flatMap fun x => (sec xs x.val).drop 8).length = pre.length * 504 := by
    intro pre
    induction pre with
    | nil => rfl
    | cons x pre ih =>
      have := sec_length xs x.val hl x.isLt
      rw [List.flatMap_cons, List.length_append, ih, List.length_drop, this, List.length_cons]
      omega
  rw [this]
  simp

theorem be8_lt (l : List UInt8) : beNat (l.take 8) < 18446744073709551616 := beNat_take_lt l 8 (by omega)

/-- entries that lie in blocks from B on -/
def EntsB (B : Nat) (w : World) (a : Option Addr) (es : List (Nat × List UInt8)) : Prop :=
  Ents w a es ∧ (0 < es.length → ∀ b o, a = some ⟨b, o, none⟩ → B ≤ b ∧ ∀ j, j < es.length → ∀ g q c, w.cell? ⟨b, o + j * 2 + 1, none⟩ = some (.slice (some ⟨g, q, none⟩) 64 c) → B ≤ g)
theorem EntsB.below {B : Nat} {w w' : World} {a : Option Addr} {es : List (Nat × List UInt8)} (h : EntsB B w a es) (hb : Below w.heap.size w w') : EntsB B w' a es := by
  refine ⟨h.1.below hb, fun hp b o ha => ?_⟩
  obtain ⟨h1, h2⟩ := h.2 hp b o ha
  refine ⟨h1, fun j hj g q c hc => h2 j hj g q c ?_⟩
  obtain ⟨b', o', ha', hc'⟩ := h.1 hp
  rw [ha] at ha'
  cases ha'
  have hlt : b < w.heap.size := block_lt_of_cell (hc' j hj).1
  rw [← hb.cell (p := ⟨b, o + j * 2 + 1, none⟩) hlt]
  exact hc
theorem EntsB.store {B x i : Nat} {w : World} {a : Option Addr} {es : List (Nat × List UInt8)} {u : Value} (h : EntsB B w a es) (hx : x < B) : EntsB B (w.setCell ⟨x, i, none⟩ u) a es := by
  have hup : Upd (fun k => k = x) w (w.setCell ⟨x, i, none⟩ u) := Upd.setCell (g := x) (Upd.refl (fun k => k = x) w) (.inl rfl) u
  have hcell : ∀ b k, B ≤ b → (w.setCell ⟨x, i, none⟩ u).cell? ⟨b, k, none⟩ = w.cell? ⟨b, k, none⟩ := fun b k hb => World.cell?_of_block (a := ⟨b, k, none⟩) (heap_setCell_other w ⟨x, i, none⟩ b u (by show b ≠ x; omega))
  refine ⟨fun hp => ?_, fun hp b o ha => ?_⟩
  · obtain ⟨b, o, ha, hc⟩ := h.1 hp
    obtain ⟨h1, h2⟩ := h.2 hp b o ha
    refine ⟨b, o, ha, fun j hj => ?_⟩
    obtain ⟨q1, g, q, c, q2, q3, q4, q5, q6⟩ := hc j hj
    have hg := h2 j hj g q c q2
    exact ⟨(hcell _ _ h1).trans q1, g, q, c, (hcell _ _ h1).trans q2, q3, q4, q5, q6.upd hup (by show ¬ g = x; omega)⟩
  · obtain ⟨h1, h2⟩ := h.2 hp b o ha
    exact ⟨h1, fun j hj g q c hc => h2 j hj g q c ((hcell _ _ h1).symm.trans hc)⟩

/-- what getHeading tells -/
def GetH (w : World) (xs : List UInt8) (r : Ending) (w' : World) : Prop :=
  (isHead xs ∧ ∃ a c, r = .returned (.tuple #[.agg #[.int .i64 (saidE xs : Int), .int .i64 (saidS xs : Int), .slice a (saidEs xs).length c], .bool true]) ∧ Ents w' a (saidEs xs) ∧ Below w.heap.size w w') ∨
  (¬ isHead xs ∧ r = .returned (.tuple #[.agg #[.int .i64 0, .int .i64 0, .slice none 0 0], .bool false]) ∧ Below w.heap.size w w')

set_option maxRecDepth 100000 in
theorem getHeading_short (a : Option Addr) (n cap : Nat) (xs : List UInt8) (w : World) (hl : xs.length = n) (hn : n ≠ 4096) :
    Calls Tryz.prog 90 #[.slice a n cap] w (GetH w xs) := by
  have hne : ((n : Int) != 4096) = true := by simp; omega
  have hno : Hid (¬ isHead xs) := fun h => hn (by rw [← hl]; exact h.1)
  have b0 := Box.new w #[.int .i64 0, .int .i64 0, .slice none 0 0] 129
  have y0 := b0.cell 0
  have y1 := b0.cell 1
  have y2 := b0.cell 2
  have B0 := (Below.refl w.heap.size w).alloc (Nat.le_refl _) (.cells #[.int .i64 0, .int .i64 0, .slice none 0 0] 129)
  clear hl
  go_enter Tryz.func90, Tryz.ntmps90
  go_wp2
  refine bodyPost_ret (v := .tuple #[.agg #[.int .i64 0, .int .i64 0, .slice none 0 0], .bool false]) (by simp [results, Tryz.results90, go_sem]) rfl ?_
  exact .inr ⟨hno.out, rfl, B0⟩

set_option maxRecDepth 100000 in
set_option maxHeartbeats 4000000 in
theorem getHeading_in (g o cap : Nat) (xs : List UInt8) (w : World) (hl : xs.length = 4096) (hcap : 4096 ≤ cap) (hmax : cap ≤ 9223372036854775807) (hr : Rd w (some ⟨g, o, none⟩) xs) :
    Calls Tryz.prog 90 #[.slice (some ⟨g, o, none⟩) 4096 cap] w (GetH w xs) := by
  have n8 : numAt xs 0 8 = some (beNat (xs.take 8)) := by have := numAt_some (xs := xs) (k := 0) (size := 8) (by omega); simpa using this
  have B0 := (Below.refl w.heap.size w).alloc (Nat.le_refl _) (.cells #[.int .i64 0, .int .i64 0, .slice none 0 0] 129)
  have b0 := Box.new w #[.int .i64 0, .int .i64 0, .slice none 0 0] 129
  have cU : ∀ u, Below w.heap.size w u → _ := fun u hb => u64_at cap 4096 (some ⟨g, o, none⟩) xs 0 (beNat (xs.take 8)) _ u rfl hl (by omega) (hr.below hb (Nat.le_refl _)) n8
  have cB : ∀ u, Below w.heap.size w u → _ := fun u hb => bodyOf_in g o cap xs u hl hcap hmax (hr.below hb (Nat.le_refl _))
  have hv := be8_lt xs
  have cS : ∀ u, _ := fun u => unstamp_at (beNat (xs.take 8)) _ u rfl hv
  have HE : Hid (saidE xs = beNat (xs.take 8) / 1099511627776) := rfl
  have HS : Hid (saidS xs = beNat (xs.take 8) % 1099511627776) := rfl
  rw [← HE.out, ← HS.out] at cS
  have hbl := bodyX_length xs hl
  have HBX : Hid (bodyTo xs (List.finRange 8) = bodyX xs) := rfl
  rw [HBX.out] at cB
  have HEs : Hid (saidEs xs = if cntOf (bodyX xs) ≤ 32 then entsOf (bodyX xs) (cntOf (bodyX xs)) else []) := rfl
  have HIS : Hid (isHead xs ↔ okHead (saidE xs) (saidS xs) ((saidEs xs).map fun e => (e.1 : Int)) ∧ xs = headB (saidE xs) (saidS xs) (saidEs xs)) := ⟨fun h => h.2, fun h => ⟨hl, h⟩⟩
  have HL : Hid _ := hl
  unfold GetH
  generalize isHead xs = IS at HIS ⊢
  generalize saidE xs = E at cS HIS HE ⊢
  generalize saidS xs = S at cS HIS HS ⊢
  generalize saidEs xs = es at HIS HEs ⊢
  generalize bodyX xs = BB at cB hbl HEs
  generalize beNat (xs.take 8) = v at cU cS hv
  clear n8 hl HBX
  go_enter Tryz.func90, Tryz.ntmps90
  go_wp2_with fail
  refine (cU _ B0).mono ?_
  rintro r w' ⟨rfl, rfl⟩
  clear cU
  go_wp2_with fail
  refine (cB _ B0).mono ?_
  rintro r w1 ⟨vb, rfl, ob, hb1⟩
  clear cB
  replace b0 := b0.below hb1
  have B1 := B0.trans (hb1.mono B0.size)
  obtain ⟨gb, cb, rfl, hgb, rb⟩ := RowB.owns ob (by omega)
  have hgb1 : w.heap.size + 1 ≤ gb := by have : (w.alloc (.cells #[.int .i64 0, .int .i64 0, .slice none 0 0] 129)).heap.size = w.heap.size + 1 := by simp
                                         omega
  have hw11 : w.heap.size + 1 ≤ w1.heap.size := by have : (w.alloc (.cells #[.int .i64 0, .int .i64 0, .slice none 0 0] 129)).heap.size = w.heap.size + 1 := by simp
                                                   have := hb1.size
                                                   omega
  have hcb : 4032 ≤ cb ∧ cb ≤ 9223372036854775807 := by
    obtain ⟨cur, _, q1, q2, _⟩ := rb
    unfold maxLen at q2
    omega
  have c52 : Calls Tryz.prog 99 #[.slice (some ⟨gb, 0, none⟩) 4032 cb] w1 fun r w' => ∃ a c, r = .returned (.slice a es.length c) ∧ EntsB (w.heap.size + 1) w' a es ∧ Below w1.heap.size w1 w' := by
    by_cases hc : cntOf BB ≤ 32
    · refine (entriesOf_in gb 0 cb BB w1 hbl hcb.1 hcb.2 rb.rd hc).mono ?_
      rintro r w' ⟨v', rfl, ow, hb'⟩
      obtain ⟨a, c, rfl, hE⟩ := entsOf_ents hbl hcb.1 hcb.2 (rb.rd.below hb' (Nat.le_refl _)) hc ow
      have e1 : es = entsOf BB (cntOf BB) := by rw [HEs.out, if_pos hc]
      refine ⟨a, c, by rw [e1, entsOf_length], ⟨by rw [e1]; exact hE, fun hp b o ha => ?_⟩, hb'⟩
      subst ha
      obtain ⟨z1, _⟩ := owns_block ow b rfl
      refine ⟨by omega, fun j hj g' q c' hc' => ?_⟩
      rw [e1, entsOf_length] at hj
      obtain ⟨_, y2⟩ := entCells_at BB gb 0 cb (cntOf BB) j hj
      have k2 := ow.cells (g := b) rfl _ _ y2
      rw [Addr.add_lit] at k2
      have ho0 : o = 0 := by
        rcases ow.2 with ⟨hv, _⟩ | ⟨gv, cap', cur, hv, _⟩
        · simp at hv
        · have := (Value.slice.inj hv).1
          simp at this
          exact this.2
      subst ho0
      rw [Nat.add_assoc, k2] at hc'
      simp at hc'
      omega
    · refine (entriesOf_many gb 0 cb BB w1 hbl rb.rd (by omega)).mono ?_
      rintro r w' ⟨rfl, rfl⟩
      have e1 : es = [] := by rw [HEs.out, if_neg hc]
      exact ⟨none, 0, by rw [e1]; rfl, ⟨by rw [e1]; intro h; simp at h, by rw [e1]; intro h; simp at h⟩, Below.refl _ _⟩
  clear ob hcb hgb rb
  go_wp2_with fail
  refine c52.mono ?_
  rintro r w2 ⟨a, c, rfl, hEn, hb2⟩
  clear c52
  replace b0 := b0.below hb2
  have B2 := B1.trans (hb2.mono B1.size)
  have hlt2 := b0.lt
  have bh := Box.new w2 #[.int .i64 0, .int .i64 0, .slice a es.length c] 129
  have al := (Below.refl w2.heap.size w2).alloc (Nat.le_refl _) (.cells #[.int .i64 0, .int .i64 0, .slice a es.length c] 129)
  obtain ⟨w3, hw3⟩ : ∃ x, x = w2.alloc (.cells #[.int .i64 0, .int .i64 0, .slice a es.length c] 129) := ⟨_, rfl⟩
  have HW3 : Hid _ := hw3
  obtain ⟨hb, hhb⟩ : ∃ x, x = w2.heap.size := ⟨_, rfl⟩
  have HHB : Hid _ := hhb
  rw [← hw3] at bh al
  rw [← hhb] at bh
  have hbge : w2.heap.size ≤ hb := Nat.le_of_eq hhb.symm
  clear hw3 hhb
  go_wp2_with fail
  rw [← HW3.out, ← HHB.out]
  refine (cS w3).mono ?_
  rintro r w' ⟨rfl, rfl⟩
  clear cS
  have d0 := bh.cell 0
  have f0 := bh.frozen 0
  have bh1 : Box (w3.setCell ⟨hb, 0, none⟩ (.int .i64 (E : Int))) hb #[.int .i64 (E : Int), .int .i64 0, .slice a es.length c] 129 := by have := bh.store 0 (.int .i64 (E : Int)); simpa using this
  have d1 := bh1.cell 1
  have f1 := bh1.frozen 1
  have bh2 : Box ((w3.setCell ⟨hb, 0, none⟩ (.int .i64 (E : Int))).setCell ⟨hb, 1, none⟩ (.int .i64 (S : Int))) hb #[.int .i64 (E : Int), .int .i64 (S : Int), .slice a es.length c] 129 := by have := bh1.store 1 (.int .i64 (S : Int)); simpa using this
  have al2 := (al.setCell (p := ⟨hb, 0, none⟩) hbge (.int .i64 (E : Int))).setCell (p := ⟨hb, 1, none⟩) hbge (.int .i64 (S : Int))
  obtain ⟨w4, hw4⟩ : ∃ x, x = (w3.setCell ⟨hb, 0, none⟩ (.int .i64 (E : Int))).setCell ⟨hb, 1, none⟩ (.int .i64 (S : Int)) := ⟨_, rfl⟩
  have HW4 : Hid _ := hw4
  rw [← hw4] at bh2 al2
  clear hw4 al bh
  have c0 := bh2.cell 0
  have c1 := bh2.cell 1
  have c2 := bh2.cell 2
  have c0' : ((w3.setCell ⟨hb, 0, none⟩ (.int .i64 (E : Int))).setCell ⟨hb, 1, none⟩ (.int .i64 (S : Int))).cell? ⟨hb, 0, none⟩ = some (.int .i64 (E : Int)) := by rw [← HW4.out]; exact c0
  have c1' : ((w3.setCell ⟨hb, 0, none⟩ (.int .i64 (E : Int))).setCell ⟨hb, 1, none⟩ (.int .i64 (S : Int))).cell? ⟨hb, 1, none⟩ = some (.int .i64 (S : Int)) := by rw [← HW4.out]; exact c1
  have c2' : ((w3.setCell ⟨hb, 0, none⟩ (.int .i64 (E : Int))).setCell ⟨hb, 1, none⟩ (.int .i64 (S : Int))).cell? ⟨hb, 2, none⟩ = some (.slice a es.length c) := by rw [← HW4.out]; exact c2
  have cR := rightHeading_at (E : Int) (S : Int) a es.length c (es.map fun e => (e.1 : Int)) w4 (by simp) (hEn.below al2).1.blks
  go_wp2_with fail
  rw [← HW4.out]
  refine cR.mono ?_
  rintro r w5 ⟨q, rfl, hq, hb5⟩
  clear cR c0' c1' c2' d0 f0 d1 f1 bh1
  have bh5 := bh2.below hb5
  have al5 := al2.trans (hb5.mono al2.size)
  have b05 := b0.below al5
  have hE5 := hEn.below al5
  have B5 := B2.trans (al5.mono B2.size)
  have e0 := bh5.cell 0
  have e1 := bh5.cell 1
  have e2 := bh5.cell 2
  have r0 := b05.cell 0
  have r1 := b05.cell 1
  have r2 := b05.cell 2
  cases q with
  | false =>
    have hno : Hid (¬ IS) := fun h => by
      have := hq.2 (HIS.out.1 h).1
      cases this
    clear hq
    have fr0 := b05.frozen 0
    have fr1 := b05.frozen 1
    have fr2 := b05.frozen 2
    go_wp2
    refine bodyPost_ret (v := .tuple #[.agg #[.int .i64 0, .int .i64 0, .slice none 0 0], .bool false]) (by simp [results, Tryz.results90, go_sem, r0, r1, r2]) rfl ?_
    exact .inr ⟨hno.out, rfl, ((B5.setCell (p := ⟨w.heap.size, 0, none⟩) (by simp) _).setCell (p := ⟨w.heap.size, 1, none⟩) (by simp) _).setCell (p := ⟨w.heap.size, 2, none⟩) (by simp) _⟩
  | true =>
    have hok := hq.1 rfl
    clear hq
    obtain ⟨hk1, hk2, hk3⟩ := hok
    have hEb := (okStamp_iff _ _).1 hk1
    have hln : 0 < es.length ∧ es.length ≤ 32 := by have := hk2; rw [List.length_map] at this; omega
    have hbl5 : ∀ x ∈ es, x.1 ≤ 511 := fun x hx => by
      obtain ⟨j, hj, rfl⟩ := List.getElem_of_mem hx
      have h7 := (hk3 j (by simpa using hj) (by simpa using hj)).1
      rw [List.getElem_map] at h7
      have := h7.2
      omega
    have cP := putHeading_in E S a es.length c es w5 (by omega) (by omega) rfl hln.1 hln.2 hE5.1 hbl5
    have HOK : Hid _ := (⟨hk1, hk2, hk3⟩ : okHead (E : Int) (S : Int) (es.map fun e => (e.1 : Int)))
    have HB5 : Hid _ := hbl5
    clear hk1 hk2 hk3 hEb hln hbl5
    go_wp2_with fail
    refine cP.mono ?_
    rintro r w6 ⟨h, rfl, hh, rh, hb6⟩
    clear cP
    have B6 := B5.trans (hb6.mono B5.size)
    have hHl : (headB E S es).length = 4096 := by
      obtain ⟨cur, _, _, _, _, ht⟩ := rh
      unfold headB
      refine putTo_length _ _ _ (nought_length _) (mark_length _ _) ?_ _ (by simp)
      exact bodyB_length es (fun x hx => by
        obtain ⟨j, hj, rfl⟩ := List.getElem_of_mem hx
        obtain ⟨b, o, _, hc⟩ := hE5.1 (by omega)
        obtain ⟨_, _, _, _, _, _, _, q, _⟩ := hc j hj
        exact q) (by have := HOK.out.2.1.2; simpa using this)
    have cQ := equal_at cap 4096 4096 4096 (some ⟨g, o, none⟩) (some ⟨h, 0, none⟩) xs (headB E S es) w6 HL.out hHl (hr.below B6 (Nat.le_refl _)) rh.rd
    have b06 := b05.below hb6
    have bh6 := bh5.below hb6
    have hE6 := hE5.below hb6
    clear rh hh
    have r0' := b06.cell 0
    have r1' := b06.cell 1
    have r2' := b06.cell 2
    have fr0 := b06.frozen 0
    have fr1 := b06.frozen 1
    have fr2 := b06.frozen 2
    have z0 := bh6.cell 0
    have z1 := bh6.cell 1
    have z2 := bh6.cell 2
    by_cases hx : xs = headB E S es
    · have hqq : (xs == headB E S es) = true := by simpa using hx
      rw [hqq] at cQ
      have hyes : Hid IS := HIS.out.2 ⟨HOK.out, hx⟩
      clear hqq hx
      have st0 : Box (w6.setCell ⟨w.heap.size, 0, none⟩ (.int .i64 (E : Int))) w.heap.size #[.int .i64 (E : Int), .int .i64 0, .slice none 0 0] 129 := by have := b06.store 0 (.int .i64 (E : Int)); simpa using this
      have st1 : Box ((w6.setCell ⟨w.heap.size, 0, none⟩ (.int .i64 (E : Int))).setCell ⟨w.heap.size, 1, none⟩ (.int .i64 (S : Int))) w.heap.size #[.int .i64 (E : Int), .int .i64 (S : Int), .slice none 0 0] 129 := by have := st0.store 1 (.int .i64 (S : Int)); simpa using this
      have st2 : Box (((w6.setCell ⟨w.heap.size, 0, none⟩ (.int .i64 (E : Int))).setCell ⟨w.heap.size, 1, none⟩ (.int .i64 (S : Int))).setCell ⟨w.heap.size, 2, none⟩ (.slice a es.length c)) w.heap.size #[.int .i64 (E : Int), .int .i64 (S : Int), .slice a es.length c] 129 := by have := st1.store 2 (.slice a es.length c); simpa using this
      have g1 := st0.frozen 1
      have g2 := st1.frozen 2
      have g1c := st0.cell 1
      have g2c := st1.cell 2
      have m0 := st2.cell 0
      have m1 := st2.cell 1
      have m2 := st2.cell 2
      have B7 := ((B6.setCell (p := ⟨w.heap.size, 0, none⟩) (by simp) (.int .i64 (E : Int))).setCell (p := ⟨w.heap.size, 1, none⟩) (by simp) (.int .i64 (S : Int))).setCell (p := ⟨w.heap.size, 2, none⟩) (by simp) (.slice a es.length c)
      go_wp2_with fail
      refine cQ.mono ?_
      rintro r w' ⟨rfl, rfl⟩
      clear cQ
      have hE7 : Ents _ a es := (((hE6.store (x := w.heap.size) (i := 0) (u := .int .i64 (E : Int)) (by omega)).store (x := w.heap.size) (i := 1) (u := .int .i64 (S : Int)) (by omega)).store (x := w.heap.size) (i := 2) (u := .slice a es.length c) (by omega)).1
      go_wp2
      refine bodyPost_ret (v := .tuple #[.agg #[.int .i64 (E : Int), .int .i64 (S : Int), .slice a es.length c], .bool true]) (by simp [results, Tryz.results90, go_sem, m0, m1, m2]) rfl ?_
      exact .inl ⟨hyes.out, a, c, rfl, hE7, B7⟩
    · have hqq : (xs == headB E S es) = false := by simpa using hx
      rw [hqq] at cQ
      have hno : Hid (¬ IS) := fun h => hx (HIS.out.1 h).2
      clear hqq hx
      go_wp2_with fail
      refine cQ.mono ?_
      rintro r w' ⟨rfl, rfl⟩
      clear cQ
      go_wp2
      refine bodyPost_ret (v := .tuple #[.agg #[.int .i64 0, .int .i64 0, .slice none 0 0], .bool false]) (by simp [results, Tryz.results90, go_sem, r0', r1', r2']) rfl ?_
      exact .inr ⟨hno.out, rfl, ((B6.setCell (p := ⟨w.heap.size, 0, none⟩) (by simp) _).setCell (p := ⟨w.heap.size, 1, none⟩) (by simp) _).setCell (p := ⟨w.heap.size, 2, none⟩) (by simp) _⟩
end Go.Proofs.YtkhejjddmbegaaaGreat.Rc
