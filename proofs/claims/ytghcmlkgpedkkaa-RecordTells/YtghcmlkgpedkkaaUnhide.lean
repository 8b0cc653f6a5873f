/-
  unhide.
-/
import Derived.Test.YtghcmlkgpedkkaaHideM
namespace Go.Proofs.Ytghcmlkgpedkkaa
open Go.RowKit Go.Shelf
attribute [local go_sem] Oper.semAt_some

/-- what was hidden laid back, sector by sector -/
def unhideStep (H : List UInt8) (st : List UInt8 × Nat) (x : Fin 8) : List UInt8 × Nat := (over st.1 (x.val * 512) ((H.drop (st.2 * 8)).take 8), st.2 + 1)
def unhideTo (xs H : List UInt8) (pre : List (Fin 8)) : List UInt8 × Nat := pre.foldl (unhideStep H) (xs, 0)
theorem unhideTo_snoc (xs H : List UInt8) (pre : List (Fin 8)) (x : Fin 8) : unhideTo xs H (pre ++ [x]) = unhideStep H (unhideTo xs H pre) x := by simp [unhideTo]
theorem unhideTo_two (xs H : List UInt8) (pre : List (Fin 8)) : (unhideTo xs H pre).2 = pre.length := by
  unfold unhideTo
  have : ∀ (pre : List (Fin 8)) (st : List UInt8 × Nat), (pre.foldl (unhideStep H) st).2 = st.2 + pre.length := by
    intro pre
    induction pre with
    | nil => intro st; rfl
    | cons x pre ih =>
      intro st
      rw [List.foldl_cons, ih]
      simp [unhideStep]
      omega
  rw [this]
  simp
theorem unhideTo_length (xs H : List UInt8) (hl : xs.length = 4096) (pre : List (Fin 8)) : (unhideTo xs H pre).1.length = 4096 := by
  unfold unhideTo
  have : ∀ (pre : List (Fin 8)) (st : List UInt8 × Nat), st.1.length = 4096 → (pre.foldl (unhideStep H) st).1.length = 4096 := by
    intro pre
    induction pre with
    | nil => intro st h; exact h
    | cons x pre ih =>
      intro st h
      have hx := x.isLt
      rw [List.foldl_cons]
      refine ih _ ?_
      unfold unhideStep
      rw [over_length _ _ _ (by rw [h]; simp; omega)]
      exact h
  exact this pre _ hl

/-- what stands in memory while the sectors come -/
def UnhideI (w : World) (h c gm om cm : Nat) (d : List UInt8) (k : Nat) (W : World) : Prop :=
  RowB W h c d ∧ (∃ o', Box W w.heap.size #[.slice (some ⟨gm, o', none⟩) (64 - k * 8) (cm - k * 8)] 31 ∧ (k < 8 → o' = om + k * 8))

set_option maxRecDepth 100000 in
set_option maxHeartbeats 4000000 in
theorem unhide_in (g o cap gm om cm : Nat) (xs H : List UInt8) (w : World) (hl : xs.length = 4096) (hr : Rd w (some ⟨g, o, none⟩) xs) (hHl : H.length = 64) (hcm0 : 64 ≤ cm) (hcmax : cm ≤ 9223372036854775807) (hH : Rd w (some ⟨gm, om, none⟩) H) :
    Calls Try.prog 35 #[.slice (some ⟨g, o, none⟩) 4096 cap, .slice (some ⟨gm, om, none⟩) 64 cm] w fun r w' => ∃ h c, r = .returned (.slice (some ⟨h, 0, none⟩) 4096 c) ∧ w.heap.size ≤ h ∧
      RowB w' h c (unhideTo xs H (List.finRange 8)).1 ∧ Below w.heap.size w w' := by
  refine (callsIn_wide (n := 3)).1 ?_
  have c1 : ∀ u, Below w.heap.size w u → _ := fun u hb => clone_at cap 4096 g o xs u hl (by omega) (by omega) (hr.below hb (Nat.le_refl _))
  refine callsIn_of_wp_marks Try.func35 rfl trivial ?_ rfl
  simp only [Try.ntmps35, List.size_toArray, List.length_cons, List.length_nil, Nat.reduceAdd, Nat.reduceSub, Array.replicate_succ, Array.replicate_zero, List.push_toArray, List.append_toArray, List.nil_append, List.cons_append]
  gi_wp2_with fail
  refine ⟨trivial, ?_⟩
  refine ((callsIn_wide (n := 2)).2 (c1 _ ((Below.refl _ w).alloc (Nat.le_refl _) _))).mono ?_
  rintro r w1 ⟨h, c, rfl, hh, hrow, hb1⟩
  gi_wp2_with fail
  refine ⟨trivial, ?_⟩
  refine (sectors_in 2 _ _ _ _).mono ?_
  rintro r w' ⟨rfl, rfl⟩
  gi_wp2_with fail
  have bN := Box.new w #[.slice (some ⟨gm, om, none⟩) 64 cm] 31
  have s1 : (w.alloc (.cells #[.slice (some ⟨gm, om, none⟩) 64 cm] 31)).heap.size = w.heap.size + 1 := by simp
  rw [s1] at hh hb1
  have B0 := (Below.refl w.heap.size w).alloc (Nat.le_refl _) (.cells #[.slice (some ⟨gm, om, none⟩) 64 cm] 31)
  have B1 : Below w.heap.size w w1 := B0.trans (hb1.mono (by omega))
  have bN1 : Box w1 w.heap.size #[.slice (some ⟨gm, om, none⟩) 64 cm] 31 := (hb1.block _ (by omega)).trans bN
  have hlt := hrow.lt
  have hcm : 4096 ≤ c ∧ c ≤ 9223372036854775807 := by
    obtain ⟨cur, _, q1, q2, _⟩ := hrow
    unfold maxLen at q2
    omega
  have bS := Box.new w1 #[.slice (some ⟨h, 0, none⟩) 4096 c] 31
  have bN2 := bN1.alloc (.cells #[.slice (some ⟨h, 0, none⟩) 4096 c] 31)
  have rw2 : RowB (w1.alloc (.cells #[.slice (some ⟨h, 0, none⟩) 4096 c] 31)) h c xs := hrow.same (Below.heap_alloc w1 _ h hlt)
  have B2 := B1.alloc B1.size (.cells #[.slice (some ⟨h, 0, none⟩) 4096 c] 31)
  obtain ⟨W0, hW0⟩ : ∃ W, W = w1.alloc (.cells #[.slice (some ⟨h, 0, none⟩) 4096 c] 31) := ⟨_, rfl⟩
  have s3 : W0.heap.size = w1.heap.size + 1 := by rw [hW0]; simp
  rw [← hW0] at bS bN2 rw2 B2 ⊢
  clear hW0 bN s1 B0 hb1 bN1 hrow
  obtain ⟨k1, hk1⟩ : ∃ k, k = w1.heap.size := ⟨_, rfl⟩
  rw [← hk1] at bS s3 hlt ⊢
  clear hk1 B1 c1
  have hs3 : k1 + 1 ≤ W0.heap.size := by omega
  have hs4 : w.heap.size < W0.heap.size := by omega
  have S3 : Hid _ := s3
  clear s3
  have HHL : Hid _ := hHl
  have HL : Hid _ := hl
  clear hHl hl
  have Hh : Hid _ := hh
  clear hh
  obtain ⟨hc1, hc2⟩ := hcm
  have z1 : 64 - 0 * 8 = 64 := rfl
  have z2 : cm - 0 * 8 = cm := by omega
  refine wpIn_rangeFunc_ownH (α := Fin 8) rfl (by omega) (gf := 56) (lb := #[.pointer (some ⟨k1, 0, none⟩)]) rfl trivial (enters_of Try.func56 (by kernel_rfl) rfl)
    (sect_stops (3 - 1) (by omega) k1 h 0 c hc1 hc2 W0 (by omega) (bS.cell 0)) cellK_t (cellK_b (by omega)) (Below.refl _ _) (fun _ => rfl)
    (fun pre W => (UnhideI w h c gm om cm (unhideTo xs H pre).1 pre.length W ∧ k1 + 1 ≤ W.heap.size) ∧ Below w.heap.size w W)
    (fun c _ W => False ∧ Below w.heap.size w W)
    (OwnFrom.and (Own.from (fun s A B row hs hg hr => by
      obtain ⟨⟨a1, o', a2, a3⟩, a5⟩ := hs
      exact ⟨⟨a1.kept hg hr, o', a2.kept hg hr, a3⟩, Nat.le_trans a5 hg.size⟩) _) (ownFrom_below (Nat.le_refl _) (by omega)))
    (fun c => OwnFrom.and (Own.from (fun s A B row hs hg hr => hs) _) (ownFrom_below (Nat.le_refl _) (by omega)))
    ⟨⟨⟨rw2, om, by rw [List.length_nil, z1, z2]; exact bN2, fun _ => by simp⟩, hs3⟩, B2⟩
    (fun x a' _ => a' = { tmps := #[.slice (some ⟨g, o, none⟩) 4096 cap, .slice (some ⟨gm, om, none⟩) 64 cm, undef, .pointer (some ⟨w.heap.size, 0, none⟩), .slice none 0 0, .slice (some ⟨h, 0, none⟩) 4096 c, .slice (some ⟨h, x.val * 512, none⟩) 512 512, .slice (some ⟨g, o, none⟩) 4096 cap, .slice (some ⟨h, 0, none⟩) 4096 c, .slice (some ⟨h, 0, none⟩) 4096 c, .func (.func 56) #[] #[.pointer (some ⟨k1, 0, none⟩)], .slice (some ⟨h, x.val * 512, none⟩) 512 512, undef, undef, undef, undef, undef, undef, undef], defers := [] })
    (fun x a' => ownFrom_pure _ _) ?assign ?body ?done ?stop
  case assign =>
    rintro l pre x W K hI hK
    dsimp only [encS]
    simp only [Nat.zero_add]
    gi_wp2
    exact hK _ _ (KeepsFrom.refl _ _) rfl hI rfl
  case body =>
    rintro l pre x a' W hlw ⟨r, hr1⟩ ⟨⟨⟨q1, o', q2, q3⟩, q5⟩, hB⟩ rfl hlt2
    have hx8 := x.isLt
    have hd1 := unhideTo_length xs H HL.out pre
    have hd2 := unhideTo_two xs H pre
    obtain ⟨k, hk⟩ : ∃ k, pre.length = k := ⟨_, rfl⟩
    rw [hk] at q2 q3 hlt2 hd2
    obtain rfl := q3 hlt2
    obtain ⟨d, hd⟩ : ∃ d, (unhideTo xs H pre).1 = d := ⟨_, rfl⟩
    rw [hd] at q1 hd1
    have hsnoc : Hid ((unhideTo xs H (pre ++ [x])).1 = over d (x.val * 512) ((H.drop (k * 8)).take 8)) := by
      show _ = _
      rw [unhideTo_snoc]
      unfold unhideStep
      rw [hd, hd2]
    have hlen : Hid ((pre ++ [x]).length = k + 1) := by show _ = _; simp [hk]
    clear q3 hk hd hd2
    have h8 : ((H.drop (k * 8)).take 8).length = 8 := by have := HHL.out; simp; omega
    have hr8 : Rd W (some ⟨gm, om + k * 8, none⟩) ((H.drop (k * 8)).take 8) := (hH.below hB (Nat.le_refl _)).part (k * 8) 8
    obtain ⟨W5, hrun, hrow5, hg5⟩ := copy_row h c (x.val * 512) 512 512 (some ⟨gm, om + k * 8, none⟩) (cm - k * 8) _ d W q1 hr8 (by omega) (by omega) (by omega)
    rw [h8] at hrun
    have hB5 := hB.grown hg5 hB.size (fun k e => by cases e; have := Hh.out; omega)
    have q25 : Box W5 w.heap.size _ 31 := q2.grown hg5 (fun e => by cases e; have := Hh.out; omega)
    have d3 := q2.cell 0
    have d5 := q25.cell 0
    have f5 := q25.frozen 0
    have keep5 : KeepsOthers W W5 := by obtain ⟨cur, hc, _⟩ := q1; exact keeps_grown hc hg5
    have bk1 : W5.heap[k1]? = W.heap[k1]? := hg5.block k1 (by omega) (fun e => by cases e; omega)
    have hs5 := hg5.size
    have m1 : 8 ≤ 64 - k * 8 := by omega
    have m2 : 8 ≤ cm - k * 8 := by omega
    have e1 : 64 - (k + 1) * 8 = 64 - k * 8 - 8 := by omega
    have e2 : cm - (k + 1) * 8 = cm - k * 8 - 8 := by omega
    have e3 : 64 - k * 8 ≤ cm - k * 8 := by omega
    have m4 : cm - k * 8 ≤ 9223372036854775807 := by omega
    obtain ⟨L, hL⟩ : ∃ L, L = 64 - k * 8 := ⟨_, rfl⟩
    obtain ⟨C, hC⟩ : ∃ C, C = cm - k * 8 := ⟨_, rfl⟩
    rw [← hL] at d3 d5 q2 q25 m1 e1 e3
    rw [← hC] at d3 d5 q2 q25 m2 e2 e3 m4 hrun
    have e6 : (k + 1 < 8 → C ≠ 8) := by omega
    have HE : Hid (64 - (k + 1) * 8 = L - 8 ∧ cm - (k + 1) * 8 = C - 8 ∧ (k + 1 < 8 → C ≠ 8)) := ⟨e1, e2, e6⟩
    clear hL hC e1 e2 e6
    by_cases hC8 : C = 8
    · subst hC8
      gi_wp2
      refine ⟨(keep5.trans (KeepsOthers.setCell _ _ _)).from _, ?_, ⟨⟨?_, om + k * 8, ?_, ?_⟩, ?_⟩, hB5.setCell (p := ⟨w.heap.size, 0, none⟩) (by simp) _⟩
      · exact (World.cell?_of_block (a := ⟨k1, 0, none⟩) (heap_setCell_other W5 ⟨w.heap.size, 0, none⟩ k1 _ (by show k1 ≠ w.heap.size; have := Hh.out; omega))).trans (World.cell?_of_block (a := ⟨k1, 0, none⟩) bk1)
      · rw [hsnoc.out]; exact rowB_store (j := 0) hrow5 q25 (by decide) _
      · obtain ⟨a1, a2, a3⟩ := HE.out
        rw [hlen.out, a1, a2]
        have hL8 : L - 8 = 0 := by omega
        rw [hL8]
        have := q25.store 0 (.slice (some ⟨gm, om + k * 8, none⟩) 0 0)
        simpa using this
      · rw [hlen.out]
        intro hk8
        exact absurd rfl (HE.out.2.2 hk8)
      · simp; omega
    · have hC9 : ¬ C = 8 := hC8
      have hC7 : 8 < C := by omega
      gi_wp2
      refine ⟨(keep5.trans (KeepsOthers.setCell _ _ _)).from _, ?_, ⟨⟨?_, om + k * 8 + 8, ?_, ?_⟩, ?_⟩, hB5.setCell (p := ⟨w.heap.size, 0, none⟩) (by simp) _⟩
      · exact (World.cell?_of_block (a := ⟨k1, 0, none⟩) (heap_setCell_other W5 ⟨w.heap.size, 0, none⟩ k1 _ (by show k1 ≠ w.heap.size; have := Hh.out; omega))).trans (World.cell?_of_block (a := ⟨k1, 0, none⟩) bk1)
      · rw [hsnoc.out]; exact rowB_store (j := 0) hrow5 q25 (by decide) _
      · obtain ⟨a1, a2, a3⟩ := HE.out
        rw [hlen.out, a1, a2]
        have := q25.store 0 (.slice (some ⟨gm, om + k * 8 + 8, none⟩) (L - 8) (C - 8))
        simpa using this
      · rw [hlen.out]
        intro hk8
        omega
      · simp; omega
  case done =>
    rintro D' ys W hD rfl ⟨⟨⟨q1, o', q2, q3⟩, q5⟩, hB⟩ hK
    gi_wp2
    refine ⟨by simp, .inl ⟨_, _, rfl, run_takeDeferred hK, ?_⟩⟩
    exact ⟨_, by simp [results, Try.f35, go_sem], h, c, rfl, by have := Hh.out; omega, q1.kept (grownBy_putObj' _ D' (.deferred none)) (fun r e => by cases e; exact ⟨_, hK, rfl⟩), hB.trans (belowK_b (w := w) (Nat.le_refl _) _ D' _ _ (by omega) hK rfl rfl)⟩
  case stop =>
    rintro D' c pre W hD _ ⟨hf, _⟩ hK
    exact hf.elim
end Go.Proofs.Ytghcmlkgpedkkaa
