/-
  RcPutHb, RcHide, RcEntsOf: put together.
-/
import Derived.Test.YtnldkpckojhbhaaGreatG1
/-
  putHeading.
-/
namespace Go.Proofs.YtnldkpckojhbhaaGreat.Rc
open Go.RowKit Go.Shelf
attribute [local go_sem] Oper.semAt_some

def headB (e s : Nat) (es : List (Nat × List UInt8)) : List UInt8 := (putTo (nought 4096) (mark e s) (bodyB es) (List.finRange 8)).1

set_option maxRecDepth 100000 in
set_option maxHeartbeats 8000000 in
theorem putHeading_in (e s : Nat) (a : Option Addr) (n cap : Nat) (es : List (Nat × List UInt8)) (w : World) (he : e ≤ 8388608) (hs : s ≤ 549755813888) (hl : es.length = n) (h0 : 0 < n) (hn : n ≤ 32) (hEs : Ents w a es) (hbl : ∀ x ∈ es, x.1 ≤ 511) :
    Calls Tryz.prog 198 #[.agg #[.int .i64 (e : Int), .int .i64 (s : Int), .slice a n cap]] w fun r w' => ∃ h, r = .returned (.slice (some ⟨h, 0, none⟩) 4096 4096) ∧ w.heap.size ≤ h ∧ RowB w' h 4096 (headB e s es) ∧ Below w.heap.size w w' := by
  have h64 : ∀ x ∈ es, x.2.length = 64 := fun x hx => by
    obtain ⟨j, hj, rfl⟩ := List.getElem_of_mem hx
    obtain ⟨b, o, _, hc⟩ := hEs (by omega)
    obtain ⟨_, _, _, _, _, _, _, q, _⟩ := hc j hj
    exact q
  have H64 : Hid (∀ x ∈ es, x.2.length = 64) := h64
  clear h64
  unfold headB
  refine (callsIn_wide (n := 3)).1 ?_
  have hm : ∀ u : World, (Instr.makeSlice 37 (.int .i64 4096) (.int .i64 4096)).run Tryz.prog u = .ok (.slice (some ⟨u.heap.size, 0, none⟩) 4096 4096) (u.alloc (.cells (bcs (nought 4096)).toArray 5)) := make_run 4096 (by omega)
  obtain ⟨Z, hZ⟩ : ∃ Z, Z = nought 4096 := ⟨_, rfl⟩
  rw [← hZ] at hm
  have HZ : Hid _ := hZ
  clear hZ
  obtain ⟨M, hM⟩ : ∃ M, M = mark e s := ⟨_, rfl⟩
  obtain ⟨BB, hBB⟩ : ∃ B, B = bodyB es := ⟨_, rfl⟩
  have HM : Hid _ := hM
  have HBB : Hid _ := hBB
  clear hM hBB
  refine callsIn_of_wp_marks Tryz.func198 rfl trivial ?_ rfl
  simp only [Tryz.ntmps198, List.size_toArray, List.length_cons, List.length_nil, Nat.reduceAdd, Nat.reduceSub, Array.replicate_succ, Array.replicate_zero, List.push_toArray, List.append_toArray, List.nil_append, List.cons_append]
  gi_wp2_with fail
  refine wpIn_mono (Q := (fun x A W => x = .normal ∧ ∃ g4 av cv b8 b9, A = { tmps := #[.agg #[.int .i64 (e : Int), .int .i64 (s : Int), .slice a n cap], .pointer (some ⟨w.heap.size, 0, none⟩), .slice none 0 0, .slice (some ⟨w.heap.size + 1, 0, none⟩) 4096 4096, .pointer (some ⟨b8, 0, none⟩), .pointer (some ⟨b9, 0, none⟩), undef, .slice (some ⟨w.heap.size + 1, 0, none⟩) 4096 4096, .pointer (some ⟨w.heap.size, 0, none⟩), .int .i64 (e : Int), .pointer (some ⟨w.heap.size, 1, none⟩), .int .i64 (s : Int), .slice (some ⟨g4, 0, none⟩) 8 8, .pointer (some ⟨w.heap.size, 2, none⟩), .slice a n cap, .slice av 4032 cv, undef, undef, undef, undef, undef, undef, undef, undef, undef, undef, undef, undef, undef], defers := [] } ∧ PutHI (w.heap.size + 2) g4 b8 b9 av cv M BB W ∧ Own W (w.heap.size + 1) Z ∧ Below w.heap.size w W)) ?reg ?tail
  case reg =>
    have b0 := (Box.new w #[.int .i64 (e : Int), .int .i64 (s : Int), .slice a n cap] 250).alloc (.cells (bcs Z).toArray 5)
    have o0 := own_lit (w.alloc (.cells #[.int .i64 (e : Int), .int .i64 (s : Int), .slice a n cap] 250)) Z
    have s1 : (w.alloc (.cells #[.int .i64 (e : Int), .int .i64 (s : Int), .slice a n cap] 250)).heap.size = w.heap.size + 1 := by simp
    rw [s1] at o0
    have B0 := ((Below.refl w.heap.size w).alloc (Nat.le_refl _) (.cells #[.int .i64 (e : Int), .int .i64 (s : Int), .slice a n cap] 250)).alloc (by simp) (.cells (bcs Z).toArray 5)
    have s2 : ((w.alloc (.cells #[.int .i64 (e : Int), .int .i64 (s : Int), .slice a n cap] 250)).alloc (.cells (bcs Z).toArray 5)).heap.size = w.heap.size + 2 := by simp
    generalize (w.alloc (.cells #[.int .i64 (e : Int), .int .i64 (s : Int), .slice a n cap] 250)).alloc (.cells (bcs Z).toArray 5) = U at b0 o0 B0 s2 ⊢
    refine wpIn_wide.2 ?_
    refine wp_region_any (by kernel_rfl) ?_
    change wpAny _ _ _ _ _ _ _ (World.drew _)
    have bx : Box U.drew w.heap.size _ 250 := b0
    have zo : Own U.drew (w.heap.size + 1) Z := o0
    have B : Below w.heap.size w U.drew := B0.drew
    have hz : w.heap.size + 2 ≤ U.drew.heap.size := by show _ ≤ U.heap.size; omega
    generalize U.drew = V at bx zo B hz ⊢
    clear b0 o0 B0 s1 s2 U hm
    refine wpAny_take (i := 0) (v := ?_) rfl (by kernel_rfl) (by kernel_rfl) (by kernel_rfl) (fun _ _ _ h => nomatch h.1) (Or.inl ⟨by rfl, ?_⟩) ?_
    rotate_left
    · intro w
      go_simp
      with_reducible rfl
    refine wpAny_take (i := 2) (v := ?_) rfl (by kernel_rfl) (by kernel_rfl) (by kernel_rfl) (fun _ _ _ h => nomatch h.1) (Or.inl ⟨by rfl, ?_⟩) ?_
    rotate_left
    · intro w
      go_simp
      with_reducible rfl
    refine wpAny_take (i := 5) (v := ?_) rfl (by kernel_rfl) (by kernel_rfl) (by kernel_rfl) (fun _ _ _ h => nomatch h.1) (Or.inl ⟨by rfl, ?_⟩) ?_
    rotate_left
    · intro w
      go_simp
      with_reducible rfl
    simp only [Act.put, List.setIfInBounds_toArray, List.set_cons_zero, List.set_cons_succ, List.getElem_toArray, List.getElem_cons_zero, List.getElem_cons_succ]
    refine wpAny_of_late (C := SB [(8, .pointer (some ⟨w.heap.size, 0, none⟩)), (10, .pointer (some ⟨w.heap.size, 1, none⟩)), (13, .pointer (some ⟨w.heap.size, 2, none⟩))] [(w.heap.size, #[.int .i64 (e : Int), .int .i64 (s : Int), .slice a n cap], 250)]) (late := [11]) _ _ _ _ ?_
    refine wpAnyD_take (i := 1) (v := .int .i64 (e : Int)) rfl (by kernel_rfl) (by kernel_rfl) (by kernel_rfl) (by kernel_rfl) (fun _ _ _ h => nomatch h.1) ?_ (fun fr u h => (SB.put 9 _ (by rfl)).1 h) (fun fr u h => (SB.put 9 _ (by rfl)).2 h) ?_ ?_
    · intro fr u hh
      obtain ⟨e1, e2⟩ := hh.load (s := 8) (b := w.heap.size) (j := 0) (cs := #[.int .i64 (e : Int), .int .i64 (s : Int), .slice a n cap]) (t := 250) (v := .int .i64 (e : Int)) (by simp) (by simp) (by rfl)
      exact ⟨rfl, by simp [execOp, e1, go_sem, e2]⟩
    · exact ⟨fun p hp => by simp at hp; rcases hp with rfl | rfl | rfl <;> rfl, fun q hq => by simp at hq; subst hq; exact bx⟩
    simp only [Act.put, List.setIfInBounds_toArray, List.set_cons_zero, List.set_cons_succ, List.getElem_toArray, List.getElem_cons_zero, List.getElem_cons_succ]
    refine wpAnyD_take (i := 3) (v := .int .i64 (s : Int)) rfl (by kernel_rfl) (by kernel_rfl) (by kernel_rfl) (by kernel_rfl) (fun _ _ _ h => nomatch h.1) ?_ (fun fr u h => (SB.put 11 _ (by rfl)).1 h) (fun fr u h => (SB.put 11 _ (by rfl)).2 h) ?_ ?_
    · intro fr u hh
      obtain ⟨e1, e2⟩ := hh.load (s := 10) (b := w.heap.size) (j := 1) (cs := #[.int .i64 (e : Int), .int .i64 (s : Int), .slice a n cap]) (t := 250) (v := .int .i64 (s : Int)) (by simp) (by simp) (by rfl)
      exact ⟨rfl, by simp [execOp, e1, go_sem, e2]⟩
    · exact ⟨fun p hp => by simp at hp; rcases hp with rfl | rfl | rfl <;> rfl, fun q hq => by simp at hq; subst hq; exact bx⟩
    simp only [Act.put, List.setIfInBounds_toArray, List.set_cons_zero, List.set_cons_succ, List.getElem_toArray, List.getElem_cons_zero, List.getElem_cons_succ]
    refine wpAnyD_take (i := 6) (v := .slice a n cap) rfl (by kernel_rfl) (by kernel_rfl) (by kernel_rfl) (by kernel_rfl) (fun _ _ _ h => nomatch h.1) ?_ (fun fr u h => (SB.put 14 _ (by rfl)).1 h) (fun fr u h => (SB.put 14 _ (by rfl)).2 h) ?_ ?_
    · intro fr u hh
      obtain ⟨e1, e2⟩ := hh.load (s := 13) (b := w.heap.size) (j := 2) (cs := #[.int .i64 (e : Int), .int .i64 (s : Int), .slice a n cap]) (t := 250) (v := .slice a n cap) (by simp) (by simp) (by rfl)
      exact ⟨rfl, by simp [execOp, e1, go_sem, e2]⟩
    · exact ⟨fun p hp => by simp at hp; rcases hp with rfl | rfl | rfl <;> rfl, fun q hq => by simp at hq; subst hq; exact bx⟩
    simp only [Act.put, List.setIfInBounds_toArray, List.set_cons_zero, List.set_cons_succ, List.getElem_toArray, List.getElem_cons_zero, List.getElem_cons_succ]
    refine wpAnyD_ready (rs := [4, 8, 9]) (by kernel_rfl) (by simp) ?_
    refine AllD.cons rfl (fun K hK2 => ?_) ?_
    · skip
      go_simp
      refine (stamp_at e s _ _ V rfl rfl he hs).mono ?_
      rintro x V' ⟨rfl, ho, hb'⟩
      replace zo := zo.below hb' zo.lt
      replace bx := bx.below hb'
      replace B := B.trans (hb'.mono B.size)
      refine hK2 _ _ ⟨.inr ⟨fun p hp => by simp at hp; rcases hp with rfl | rfl | rfl <;> rfl, fun q hq => by simp at hq; subst hq; exact bx⟩, ?_⟩
      clear hK2 K
      have z4 : w.heap.size + 2 ≤ V.heap.size := hz
      replace hz := Nat.le_trans hz hb'.size
      have m4 := ho
      obtain ⟨g4, hg4⟩ : ∃ g, g = V.heap.size := ⟨_, rfl⟩
      rw [← hg4] at m4 z4 ⊢
      clear ho hb' hg4 V
      obtain ⟨V, rfl⟩ : ∃ V, V = V' := ⟨_, rfl⟩
      refine wpAnyD_ready (rs := [7, 8, 9]) (by kernel_rfl) (by simp) ?_
      refine AllD.cons rfl (fun K hK2 => ?_) ?_
      · skip
        go_simp
        refine (body_at a n cap es V hl h0 hn (hEs.below B) hbl).mono ?_
        rintro x V' ⟨v7, rfl, ow, hb'⟩
        replace zo := zo.below hb' zo.lt
        replace bx := bx.below hb'
        replace m4 := m4.below hb' m4.lt
        replace B := B.trans (hb'.mono B.size)
        refine hK2 _ _ ⟨.inr ⟨fun p hp => by simp at hp; rcases hp with rfl | rfl | rfl <;> rfl, fun q hq => by simp at hq; subst hq; exact bx⟩, ?_⟩
        clear hK2 K
        have r7 := owns_base ow hz
        replace hz := Nat.le_trans hz hb'.size
        obtain ⟨av, cv, rfl⟩ := owns_shape r7
        clear ow hb' V
        obtain ⟨V, rfl⟩ : ∃ V, V = V' := ⟨_, rfl⟩
        refine wpAnyD_ready (rs := [8, 9]) (by kernel_rfl) (by simp) ?_
        refine AllD.cons rfl (fun K hK2 => ?_) ?_
        · skip
          go_simp
          have hb' := (Below.refl V.heap.size V).alloc (Nat.le_refl _) (.cells #[.slice none 0 0] 37)
          have hnew := Box.new V #[.slice none 0 0] 37
          replace zo := zo.below hb' zo.lt
          replace bx := bx.below hb'
          replace m4 := m4.below hb' m4.lt
          replace r7 := owns_below r7 hb'
          replace B := B.trans (hb'.mono B.size)
          refine hK2 _ _ ⟨.inr ⟨fun p hp => by simp at hp; rcases hp with rfl | rfl | rfl <;> rfl, fun q hq => by simp at hq; subst hq; exact bx⟩, ?_⟩
          clear hK2 K
          have z8 : w.heap.size + 2 ≤ V.heap.size := hz
          replace hz := Nat.le_trans hz hb'.size
          obtain ⟨b8, hb8⟩ : ∃ g, g = V.heap.size := ⟨_, rfl⟩
          rw [← hb8] at hnew z8 ⊢
          clear hb'
          have p8 := hnew
          clear hnew
          generalize V.alloc (.cells #[.slice none 0 0] 37) = V' at zo bx B hz p8 m4 r7 ⊢
          clear hb8 V
          obtain ⟨V, rfl⟩ : ∃ V, V = V' := ⟨_, rfl⟩
          refine wpAnyD_ready (rs := [9]) (by kernel_rfl) (by simp) ?_
          refine AllD.cons rfl (fun K hK2 => ?_) ?_
          · skip
            go_simp
            have hb' := (Below.refl V.heap.size V).alloc (Nat.le_refl _) (.cells #[.slice none 0 0] 37)
            have hnew := Box.new V #[.slice none 0 0] 37
            have q8 := p8.lt
            replace zo := zo.below hb' zo.lt
            replace bx := bx.below hb'
            replace m4 := m4.below hb' m4.lt
            replace r7 := owns_below r7 hb'
            replace p8 := p8.below hb'
            replace B := B.trans (hb'.mono B.size)
            refine hK2 _ _ ⟨.inr ⟨fun p hp => by simp at hp; rcases hp with rfl | rfl | rfl <;> rfl, fun q hq => by simp at hq; subst hq; exact bx⟩, ?_⟩
            clear hK2 K
            have z9 : w.heap.size + 2 ≤ V.heap.size := hz
            replace hz := Nat.le_trans hz hb'.size
            obtain ⟨b9, hb9⟩ : ∃ g, g = V.heap.size := ⟨_, rfl⟩
            rw [← hb9] at hnew z9 q8 ⊢
            have h98 : b9 ≠ b8 := by omega
            clear q8
            clear hb'
            have p9 := hnew
            clear hnew
            generalize V.alloc (.cells #[.slice none 0 0] 37) = V' at zo bx B hz p9 m4 r7 p8 ⊢
            clear hb9 V
            obtain ⟨V, rfl⟩ : ∃ V, V = V' := ⟨_, rfl⟩
            refine wpAnyD_ready (rs := [10]) (by kernel_rfl) (by simp) (AllD.cons rfl (fun K hK2 => ?_) AllD.nil)
            have d8 := p8.cell 0
            have f8 := p8.frozen 0
            have bx' : Box (V.setCell ⟨b8, 0, none⟩ (.slice (some ⟨g4, 0, none⟩) 8 8)) w.heap.size _ 250 := (heap_setCell_other V ⟨b8, 0, none⟩ w.heap.size _ (by show w.heap.size ≠ b8; omega)).trans bx
            go_simp
            refine hK2 _ _ ⟨.inr ⟨fun p hp => by simp at hp; rcases hp with rfl | rfl | rfl <;> rfl, fun q hq => by simp at hq; subst hq; exact bx'⟩, ?_⟩
            clear hK2 K
            have hne : b9 ≠ b8 := h98
            have p9' : Box (V.setCell ⟨b8, 0, none⟩ (.slice (some ⟨g4, 0, none⟩) 8 8)) b9 #[.slice none 0 0] 37 := (heap_setCell_other V ⟨b8, 0, none⟩ b9 _ hne).trans p9
            have d9 := p9'.cell 0
            have f9 := p9'.frozen 0
            refine wpAnyD_ready (rs := [11]) (by kernel_rfl) (by simp) (AllD.cons rfl (fun K hK2 => ?_) AllD.nil)
            go_simp
            refine hK2 _ _ ⟨.inl rfl, ?_⟩
            clear hK2 K
            refine wpAnyD_done (by kernel_rfl) ?_ _
            exact ⟨rfl, g4, av, cv, b8, b9, rfl, putHI_end hne z8 z9 z4 (by rw [HM.out]; exact m4) (by rw [HBB.out]; exact r7) p8 p9, ((Own.other (Own.other zo (by omega)) (by omega))), (B.setCell (p := ⟨b8, 0, none⟩) (by show w.heap.size ≤ b8; omega) _).setCell (p := ⟨b9, 0, none⟩) (by show w.heap.size ≤ b9; omega) _⟩
          exact AllD.nil
        refine AllD.cons rfl (fun K hK2 => ?_) ?_
        · skip
          go_simp
          have hb' := (Below.refl V.heap.size V).alloc (Nat.le_refl _) (.cells #[.slice none 0 0] 37)
          have hnew := Box.new V #[.slice none 0 0] 37
          replace zo := zo.below hb' zo.lt
          replace bx := bx.below hb'
          replace m4 := m4.below hb' m4.lt
          replace r7 := owns_below r7 hb'
          replace B := B.trans (hb'.mono B.size)
          refine hK2 _ _ ⟨.inr ⟨fun p hp => by simp at hp; rcases hp with rfl | rfl | rfl <;> rfl, fun q hq => by simp at hq; subst hq; exact bx⟩, ?_⟩
          clear hK2 K
          have z9 : w.heap.size + 2 ≤ V.heap.size := hz
          replace hz := Nat.le_trans hz hb'.size
          obtain ⟨b9, hb9⟩ : ∃ g, g = V.heap.size := ⟨_, rfl⟩
          rw [← hb9] at hnew z9 ⊢
          clear hb'
          have p9 := hnew
          clear hnew
          generalize V.alloc (.cells #[.slice none 0 0] 37) = V' at zo bx B hz p9 m4 r7 ⊢
          clear hb9 V
          obtain ⟨V, rfl⟩ : ∃ V, V = V' := ⟨_, rfl⟩
          refine wpAnyD_ready (rs := [8]) (by kernel_rfl) (by simp) ?_
          refine AllD.cons rfl (fun K hK2 => ?_) ?_
          · skip
            go_simp
            have hb' := (Below.refl V.heap.size V).alloc (Nat.le_refl _) (.cells #[.slice none 0 0] 37)
            have hnew := Box.new V #[.slice none 0 0] 37
            have q9 := p9.lt
            replace zo := zo.below hb' zo.lt
            replace bx := bx.below hb'
            replace m4 := m4.below hb' m4.lt
            replace r7 := owns_below r7 hb'
            replace p9 := p9.below hb'
            replace B := B.trans (hb'.mono B.size)
            refine hK2 _ _ ⟨.inr ⟨fun p hp => by simp at hp; rcases hp with rfl | rfl | rfl <;> rfl, fun q hq => by simp at hq; subst hq; exact bx⟩, ?_⟩
            clear hK2 K
            have z8 : w.heap.size + 2 ≤ V.heap.size := hz
            replace hz := Nat.le_trans hz hb'.size
            obtain ⟨b8, hb8⟩ : ∃ g, g = V.heap.size := ⟨_, rfl⟩
            rw [← hb8] at hnew z8 q9 ⊢
            have h98 : b9 ≠ b8 := by omega
            clear q9
            clear hb'
            have p8 := hnew
            clear hnew
            generalize V.alloc (.cells #[.slice none 0 0] 37) = V' at zo bx B hz p8 m4 r7 p9 ⊢
            clear hb8 V
            obtain ⟨V, rfl⟩ : ∃ V, V = V' := ⟨_, rfl⟩
            refine wpAnyD_ready (rs := [10]) (by kernel_rfl) (by simp) (AllD.cons rfl (fun K hK2 => ?_) AllD.nil)
            have d8 := p8.cell 0
            have f8 := p8.frozen 0
            have bx' : Box (V.setCell ⟨b8, 0, none⟩ (.slice (some ⟨g4, 0, none⟩) 8 8)) w.heap.size _ 250 := (heap_setCell_other V ⟨b8, 0, none⟩ w.heap.size _ (by show w.heap.size ≠ b8; omega)).trans bx
            go_simp
            refine hK2 _ _ ⟨.inr ⟨fun p hp => by simp at hp; rcases hp with rfl | rfl | rfl <;> rfl, fun q hq => by simp at hq; subst hq; exact bx'⟩, ?_⟩
            clear hK2 K
            have hne : b9 ≠ b8 := h98
            have p9' : Box (V.setCell ⟨b8, 0, none⟩ (.slice (some ⟨g4, 0, none⟩) 8 8)) b9 #[.slice none 0 0] 37 := (heap_setCell_other V ⟨b8, 0, none⟩ b9 _ hne).trans p9
            have d9 := p9'.cell 0
            have f9 := p9'.frozen 0
            refine wpAnyD_ready (rs := [11]) (by kernel_rfl) (by simp) (AllD.cons rfl (fun K hK2 => ?_) AllD.nil)
            go_simp
            refine hK2 _ _ ⟨.inl rfl, ?_⟩
            clear hK2 K
            refine wpAnyD_done (by kernel_rfl) ?_ _
            exact ⟨rfl, g4, av, cv, b8, b9, rfl, putHI_end hne z8 z9 z4 (by rw [HM.out]; exact m4) (by rw [HBB.out]; exact r7) p8 p9, ((Own.other (Own.other zo (by omega)) (by omega))), (B.setCell (p := ⟨b8, 0, none⟩) (by show w.heap.size ≤ b8; omega) _).setCell (p := ⟨b9, 0, none⟩) (by show w.heap.size ≤ b9; omega) _⟩
          exact AllD.nil
        exact AllD.nil
      refine AllD.cons rfl (fun K hK2 => ?_) ?_
      · skip
        go_simp
        have hb' := (Below.refl V.heap.size V).alloc (Nat.le_refl _) (.cells #[.slice none 0 0] 37)
        have hnew := Box.new V #[.slice none 0 0] 37
        replace zo := zo.below hb' zo.lt
        replace bx := bx.below hb'
        replace m4 := m4.below hb' m4.lt
        replace B := B.trans (hb'.mono B.size)
        refine hK2 _ _ ⟨.inr ⟨fun p hp => by simp at hp; rcases hp with rfl | rfl | rfl <;> rfl, fun q hq => by simp at hq; subst hq; exact bx⟩, ?_⟩
        clear hK2 K
        have z8 : w.heap.size + 2 ≤ V.heap.size := hz
        replace hz := Nat.le_trans hz hb'.size
        obtain ⟨b8, hb8⟩ : ∃ g, g = V.heap.size := ⟨_, rfl⟩
        rw [← hb8] at hnew z8 ⊢
        clear hb'
        have p8 := hnew
        clear hnew
        generalize V.alloc (.cells #[.slice none 0 0] 37) = V' at zo bx B hz p8 m4 ⊢
        clear hb8 V
        obtain ⟨V, rfl⟩ : ∃ V, V = V' := ⟨_, rfl⟩
        refine wpAnyD_ready (rs := [7, 9]) (by kernel_rfl) (by simp) ?_
        refine AllD.cons rfl (fun K hK2 => ?_) ?_
        · skip
          go_simp
          refine (body_at a n cap es V hl h0 hn (hEs.below B) hbl).mono ?_
          rintro x V' ⟨v7, rfl, ow, hb'⟩
          replace zo := zo.below hb' zo.lt
          replace bx := bx.below hb'
          replace m4 := m4.below hb' m4.lt
          replace p8 := p8.below hb'
          replace B := B.trans (hb'.mono B.size)
          refine hK2 _ _ ⟨.inr ⟨fun p hp => by simp at hp; rcases hp with rfl | rfl | rfl <;> rfl, fun q hq => by simp at hq; subst hq; exact bx⟩, ?_⟩
          clear hK2 K
          have r7 := owns_base ow hz
          replace hz := Nat.le_trans hz hb'.size
          obtain ⟨av, cv, rfl⟩ := owns_shape r7
          clear ow hb' V
          obtain ⟨V, rfl⟩ : ∃ V, V = V' := ⟨_, rfl⟩
          refine wpAnyD_ready (rs := [9]) (by kernel_rfl) (by simp) ?_
          refine AllD.cons rfl (fun K hK2 => ?_) ?_
          · skip
            go_simp
            have hb' := (Below.refl V.heap.size V).alloc (Nat.le_refl _) (.cells #[.slice none 0 0] 37)
            have hnew := Box.new V #[.slice none 0 0] 37
            have q8 := p8.lt
            replace zo := zo.below hb' zo.lt
            replace bx := bx.below hb'
            replace m4 := m4.below hb' m4.lt
            replace r7 := owns_below r7 hb'
            replace p8 := p8.below hb'
            replace B := B.trans (hb'.mono B.size)
            refine hK2 _ _ ⟨.inr ⟨fun p hp => by simp at hp; rcases hp with rfl | rfl | rfl <;> rfl, fun q hq => by simp at hq; subst hq; exact bx⟩, ?_⟩
            clear hK2 K
            have z9 : w.heap.size + 2 ≤ V.heap.size := hz
            replace hz := Nat.le_trans hz hb'.size
            obtain ⟨b9, hb9⟩ : ∃ g, g = V.heap.size := ⟨_, rfl⟩
            rw [← hb9] at hnew z9 q8 ⊢
            have h98 : b9 ≠ b8 := by omega
            clear q8
            clear hb'
            have p9 := hnew
            clear hnew
            generalize V.alloc (.cells #[.slice none 0 0] 37) = V' at zo bx B hz p9 m4 p8 r7 ⊢
            clear hb9 V
            obtain ⟨V, rfl⟩ : ∃ V, V = V' := ⟨_, rfl⟩
            refine wpAnyD_ready (rs := [10]) (by kernel_rfl) (by simp) (AllD.cons rfl (fun K hK2 => ?_) AllD.nil)
            have d8 := p8.cell 0
            have f8 := p8.frozen 0
            have bx' : Box (V.setCell ⟨b8, 0, none⟩ (.slice (some ⟨g4, 0, none⟩) 8 8)) w.heap.size _ 250 := (heap_setCell_other V ⟨b8, 0, none⟩ w.heap.size _ (by show w.heap.size ≠ b8; omega)).trans bx
            go_simp
            refine hK2 _ _ ⟨.inr ⟨fun p hp => by simp at hp; rcases hp with rfl | rfl | rfl <;> rfl, fun q hq => by simp at hq; subst hq; exact bx'⟩, ?_⟩
            clear hK2 K
            have hne : b9 ≠ b8 := h98
            have p9' : Box (V.setCell ⟨b8, 0, none⟩ (.slice (some ⟨g4, 0, none⟩) 8 8)) b9 #[.slice none 0 0] 37 := (heap_setCell_other V ⟨b8, 0, none⟩ b9 _ hne).trans p9
            have d9 := p9'.cell 0
            have f9 := p9'.frozen 0
            refine wpAnyD_ready (rs := [11]) (by kernel_rfl) (by simp) (AllD.cons rfl (fun K hK2 => ?_) AllD.nil)
            go_simp
            refine hK2 _ _ ⟨.inl rfl, ?_⟩
            clear hK2 K
            refine wpAnyD_done (by kernel_rfl) ?_ _
            exact ⟨rfl, g4, av, cv, b8, b9, rfl, putHI_end hne z8 z9 z4 (by rw [HM.out]; exact m4) (by rw [HBB.out]; exact r7) p8 p9, ((Own.other (Own.other zo (by omega)) (by omega))), (B.setCell (p := ⟨b8, 0, none⟩) (by show w.heap.size ≤ b8; omega) _).setCell (p := ⟨b9, 0, none⟩) (by show w.heap.size ≤ b9; omega) _⟩
          exact AllD.nil
        refine AllD.cons rfl (fun K hK2 => ?_) ?_
        · skip
          go_simp
          have hb' := (Below.refl V.heap.size V).alloc (Nat.le_refl _) (.cells #[.slice none 0 0] 37)
          have hnew := Box.new V #[.slice none 0 0] 37
          have q8 := p8.lt
          replace zo := zo.below hb' zo.lt
          replace bx := bx.below hb'
          replace m4 := m4.below hb' m4.lt
          replace p8 := p8.below hb'
          replace B := B.trans (hb'.mono B.size)
          refine hK2 _ _ ⟨.inr ⟨fun p hp => by simp at hp; rcases hp with rfl | rfl | rfl <;> rfl, fun q hq => by simp at hq; subst hq; exact bx⟩, ?_⟩
          clear hK2 K
          have z9 : w.heap.size + 2 ≤ V.heap.size := hz
          replace hz := Nat.le_trans hz hb'.size
          obtain ⟨b9, hb9⟩ : ∃ g, g = V.heap.size := ⟨_, rfl⟩
          rw [← hb9] at hnew z9 q8 ⊢
          have h98 : b9 ≠ b8 := by omega
          clear q8
          clear hb'
          have p9 := hnew
          clear hnew
          generalize V.alloc (.cells #[.slice none 0 0] 37) = V' at zo bx B hz p9 m4 p8 ⊢
          clear hb9 V
          obtain ⟨V, rfl⟩ : ∃ V, V = V' := ⟨_, rfl⟩
          refine wpAnyD_ready (rs := [7]) (by kernel_rfl) (by simp) ?_
          refine AllD.cons rfl (fun K hK2 => ?_) ?_
          · skip
            go_simp
            refine (body_at a n cap es V hl h0 hn (hEs.below B) hbl).mono ?_
            rintro x V' ⟨v7, rfl, ow, hb'⟩
            replace zo := zo.below hb' zo.lt
            replace bx := bx.below hb'
            replace m4 := m4.below hb' m4.lt
            replace p8 := p8.below hb'
            replace p9 := p9.below hb'
            replace B := B.trans (hb'.mono B.size)
            refine hK2 _ _ ⟨.inr ⟨fun p hp => by simp at hp; rcases hp with rfl | rfl | rfl <;> rfl, fun q hq => by simp at hq; subst hq; exact bx⟩, ?_⟩
            clear hK2 K
            have r7 := owns_base ow hz
            replace hz := Nat.le_trans hz hb'.size
            obtain ⟨av, cv, rfl⟩ := owns_shape r7
            clear ow hb' V
            obtain ⟨V, rfl⟩ : ∃ V, V = V' := ⟨_, rfl⟩
            refine wpAnyD_ready (rs := [10]) (by kernel_rfl) (by simp) (AllD.cons rfl (fun K hK2 => ?_) AllD.nil)
            have d8 := p8.cell 0
            have f8 := p8.frozen 0
            have bx' : Box (V.setCell ⟨b8, 0, none⟩ (.slice (some ⟨g4, 0, none⟩) 8 8)) w.heap.size _ 250 := (heap_setCell_other V ⟨b8, 0, none⟩ w.heap.size _ (by show w.heap.size ≠ b8; omega)).trans bx
            go_simp
            refine hK2 _ _ ⟨.inr ⟨fun p hp => by simp at hp; rcases hp with rfl | rfl | rfl <;> rfl, fun q hq => by simp at hq; subst hq; exact bx'⟩, ?_⟩
            clear hK2 K
            have hne : b9 ≠ b8 := h98
            have p9' : Box (V.setCell ⟨b8, 0, none⟩ (.slice (some ⟨g4, 0, none⟩) 8 8)) b9 #[.slice none 0 0] 37 := (heap_setCell_other V ⟨b8, 0, none⟩ b9 _ hne).trans p9
            have d9 := p9'.cell 0
            have f9 := p9'.frozen 0
            refine wpAnyD_ready (rs := [11]) (by kernel_rfl) (by simp) (AllD.cons rfl (fun K hK2 => ?_) AllD.nil)
            go_simp
            refine hK2 _ _ ⟨.inl rfl, ?_⟩
            clear hK2 K
            refine wpAnyD_done (by kernel_rfl) ?_ _
            exact ⟨rfl, g4, av, cv, b8, b9, rfl, putHI_end hne z8 z9 z4 (by rw [HM.out]; exact m4) (by rw [HBB.out]; exact r7) p8 p9, ((Own.other (Own.other zo (by omega)) (by omega))), (B.setCell (p := ⟨b8, 0, none⟩) (by show w.heap.size ≤ b8; omega) _).setCell (p := ⟨b9, 0, none⟩) (by show w.heap.size ≤ b9; omega) _⟩
          exact AllD.nil
        exact AllD.nil
      refine AllD.cons rfl (fun K hK2 => ?_) ?_
      · skip
        go_simp
        have hb' := (Below.refl V.heap.size V).alloc (Nat.le_refl _) (.cells #[.slice none 0 0] 37)
        have hnew := Box.new V #[.slice none 0 0] 37
        replace zo := zo.below hb' zo.lt
        replace bx := bx.below hb'
        replace m4 := m4.below hb' m4.lt
        replace B := B.trans (hb'.mono B.size)
        refine hK2 _ _ ⟨.inr ⟨fun p hp => by simp at hp; rcases hp with rfl | rfl | rfl <;> rfl, fun q hq => by simp at hq; subst hq; exact bx⟩, ?_⟩
        clear hK2 K
        have z9 : w.heap.size + 2 ≤ V.heap.size := hz
        replace hz := Nat.le_trans hz hb'.size
        obtain ⟨b9, hb9⟩ : ∃ g, g = V.heap.size := ⟨_, rfl⟩
        rw [← hb9] at hnew z9 ⊢
        clear hb'
        have p9 := hnew
        clear hnew
        generalize V.alloc (.cells #[.slice none 0 0] 37) = V' at zo bx B hz p9 m4 ⊢
        clear hb9 V
        obtain ⟨V, rfl⟩ : ∃ V, V = V' := ⟨_, rfl⟩
        refine wpAnyD_ready (rs := [7, 8]) (by kernel_rfl) (by simp) ?_
        refine AllD.cons rfl (fun K hK2 => ?_) ?_
        · skip
          go_simp
          refine (body_at a n cap es V hl h0 hn (hEs.below B) hbl).mono ?_
          rintro x V' ⟨v7, rfl, ow, hb'⟩
          replace zo := zo.below hb' zo.lt
          replace bx := bx.below hb'
          replace m4 := m4.below hb' m4.lt
          replace p9 := p9.below hb'
          replace B := B.trans (hb'.mono B.size)
          refine hK2 _ _ ⟨.inr ⟨fun p hp => by simp at hp; rcases hp with rfl | rfl | rfl <;> rfl, fun q hq => by simp at hq; subst hq; exact bx⟩, ?_⟩
          clear hK2 K
          have r7 := owns_base ow hz
          replace hz := Nat.le_trans hz hb'.size
          obtain ⟨av, cv, rfl⟩ := owns_shape r7
          clear ow hb' V
          obtain ⟨V, rfl⟩ : ∃ V, V = V' := ⟨_, rfl⟩
          refine wpAnyD_ready (rs := [8]) (by kernel_rfl) (by simp) ?_
          refine AllD.cons rfl (fun K hK2 => ?_) ?_
          · skip
            go_simp
            have hb' := (Below.refl V.heap.size V).alloc (Nat.le_refl _) (.cells #[.slice none 0 0] 37)
            have hnew := Box.new V #[.slice none 0 0] 37
            have q9 := p9.lt
            replace zo := zo.below hb' zo.lt
            replace bx := bx.below hb'
            replace m4 := m4.below hb' m4.lt
            replace r7 := owns_below r7 hb'
            replace p9 := p9.below hb'
            replace B := B.trans (hb'.mono B.size)
            refine hK2 _ _ ⟨.inr ⟨fun p hp => by simp at hp; rcases hp with rfl | rfl | rfl <;> rfl, fun q hq => by simp at hq; subst hq; exact bx⟩, ?_⟩
            clear hK2 K
            have z8 : w.heap.size + 2 ≤ V.heap.size := hz
            replace hz := Nat.le_trans hz hb'.size
            obtain ⟨b8, hb8⟩ : ∃ g, g = V.heap.size := ⟨_, rfl⟩
            rw [← hb8] at hnew z8 q9 ⊢
            have h98 : b9 ≠ b8 := by omega
            clear q9
            clear hb'
            have p8 := hnew
            clear hnew
            generalize V.alloc (.cells #[.slice none 0 0] 37) = V' at zo bx B hz p8 m4 p9 r7 ⊢
            clear hb8 V
            obtain ⟨V, rfl⟩ : ∃ V, V = V' := ⟨_, rfl⟩
            refine wpAnyD_ready (rs := [10]) (by kernel_rfl) (by simp) (AllD.cons rfl (fun K hK2 => ?_) AllD.nil)
            have d8 := p8.cell 0
            have f8 := p8.frozen 0
            have bx' : Box (V.setCell ⟨b8, 0, none⟩ (.slice (some ⟨g4, 0, none⟩) 8 8)) w.heap.size _ 250 := (heap_setCell_other V ⟨b8, 0, none⟩ w.heap.size _ (by show w.heap.size ≠ b8; omega)).trans bx
            go_simp
            refine hK2 _ _ ⟨.inr ⟨fun p hp => by simp at hp; rcases hp with rfl | rfl | rfl <;> rfl, fun q hq => by simp at hq; subst hq; exact bx'⟩, ?_⟩
            clear hK2 K
            have hne : b9 ≠ b8 := h98
            have p9' : Box (V.setCell ⟨b8, 0, none⟩ (.slice (some ⟨g4, 0, none⟩) 8 8)) b9 #[.slice none 0 0] 37 := (heap_setCell_other V ⟨b8, 0, none⟩ b9 _ hne).trans p9
            have d9 := p9'.cell 0
            have f9 := p9'.frozen 0
            refine wpAnyD_ready (rs := [11]) (by kernel_rfl) (by simp) (AllD.cons rfl (fun K hK2 => ?_) AllD.nil)
            go_simp
            refine hK2 _ _ ⟨.inl rfl, ?_⟩
            clear hK2 K
            refine wpAnyD_done (by kernel_rfl) ?_ _
            exact ⟨rfl, g4, av, cv, b8, b9, rfl, putHI_end hne z8 z9 z4 (by rw [HM.out]; exact m4) (by rw [HBB.out]; exact r7) p8 p9, ((Own.other (Own.other zo (by omega)) (by omega))), (B.setCell (p := ⟨b8, 0, none⟩) (by show w.heap.size ≤ b8; omega) _).setCell (p := ⟨b9, 0, none⟩) (by show w.heap.size ≤ b9; omega) _⟩
          exact AllD.nil
        refine AllD.cons rfl (fun K hK2 => ?_) ?_
        · skip
          go_simp
          have hb' := (Below.refl V.heap.size V).alloc (Nat.le_refl _) (.cells #[.slice none 0 0] 37)
          have hnew := Box.new V #[.slice none 0 0] 37
          have q9 := p9.lt
          replace zo := zo.below hb' zo.lt
          replace bx := bx.below hb'
          replace m4 := m4.below hb' m4.lt
          replace p9 := p9.below hb'
          replace B := B.trans (hb'.mono B.size)
          refine hK2 _ _ ⟨.inr ⟨fun p hp => by simp at hp; rcases hp with rfl | rfl | rfl <;> rfl, fun q hq => by simp at hq; subst hq; exact bx⟩, ?_⟩
          clear hK2 K
          have z8 : w.heap.size + 2 ≤ V.heap.size := hz
          replace hz := Nat.le_trans hz hb'.size
          obtain ⟨b8, hb8⟩ : ∃ g, g = V.heap.size := ⟨_, rfl⟩
          rw [← hb8] at hnew z8 q9 ⊢
          have h98 : b9 ≠ b8 := by omega
          clear q9
          clear hb'
          have p8 := hnew
          clear hnew
          generalize V.alloc (.cells #[.slice none 0 0] 37) = V' at zo bx B hz p8 m4 p9 ⊢
          clear hb8 V
          obtain ⟨V, rfl⟩ : ∃ V, V = V' := ⟨_, rfl⟩
          refine wpAnyD_ready (rs := [7]) (by kernel_rfl) (by simp) ?_
          refine AllD.cons rfl (fun K hK2 => ?_) ?_
          · skip
            go_simp
            refine (body_at a n cap es V hl h0 hn (hEs.below B) hbl).mono ?_
            rintro x V' ⟨v7, rfl, ow, hb'⟩
            replace zo := zo.below hb' zo.lt
            replace bx := bx.below hb'
            replace m4 := m4.below hb' m4.lt
            replace p8 := p8.below hb'
            replace p9 := p9.below hb'
            replace B := B.trans (hb'.mono B.size)
            refine hK2 _ _ ⟨.inr ⟨fun p hp => by simp at hp; rcases hp with rfl | rfl | rfl <;> rfl, fun q hq => by simp at hq; subst hq; exact bx⟩, ?_⟩
            clear hK2 K
            have r7 := owns_base ow hz
            replace hz := Nat.le_trans hz hb'.size
            obtain ⟨av, cv, rfl⟩ := owns_shape r7
            clear ow hb' V
            obtain ⟨V, rfl⟩ : ∃ V, V = V' := ⟨_, rfl⟩
            refine wpAnyD_ready (rs := [10]) (by kernel_rfl) (by simp) (AllD.cons rfl (fun K hK2 => ?_) AllD.nil)
            have d8 := p8.cell 0
            have f8 := p8.frozen 0
            have bx' : Box (V.setCell ⟨b8, 0, none⟩ (.slice (some ⟨g4, 0, none⟩) 8 8)) w.heap.size _ 250 := (heap_setCell_other V ⟨b8, 0, none⟩ w.heap.size _ (by show w.heap.size ≠ b8; omega)).trans bx
            go_simp
            refine hK2 _ _ ⟨.inr ⟨fun p hp => by simp at hp; rcases hp with rfl | rfl | rfl <;> rfl, fun q hq => by simp at hq; subst hq; exact bx'⟩, ?_⟩
            clear hK2 K
            have hne : b9 ≠ b8 := h98
            have p9' : Box (V.setCell ⟨b8, 0, none⟩ (.slice (some ⟨g4, 0, none⟩) 8 8)) b9 #[.slice none 0 0] 37 := (heap_setCell_other V ⟨b8, 0, none⟩ b9 _ hne).trans p9
            have d9 := p9'.cell 0
            have f9 := p9'.frozen 0
            refine wpAnyD_ready (rs := [11]) (by kernel_rfl) (by simp) (AllD.cons rfl (fun K hK2 => ?_) AllD.nil)
            go_simp
            refine hK2 _ _ ⟨.inl rfl, ?_⟩
            clear hK2 K
            refine wpAnyD_done (by kernel_rfl) ?_ _
            exact ⟨rfl, g4, av, cv, b8, b9, rfl, putHI_end hne z8 z9 z4 (by rw [HM.out]; exact m4) (by rw [HBB.out]; exact r7) p8 p9, ((Own.other (Own.other zo (by omega)) (by omega))), (B.setCell (p := ⟨b8, 0, none⟩) (by show w.heap.size ≤ b8; omega) _).setCell (p := ⟨b9, 0, none⟩) (by show w.heap.size ≤ b9; omega) _⟩
          exact AllD.nil
        exact AllD.nil
      exact AllD.nil
    refine AllD.cons rfl (fun K hK2 => ?_) ?_
    · skip
      go_simp
      have hb' := (Below.refl V.heap.size V).alloc (Nat.le_refl _) (.cells #[.slice none 0 0] 37)
      have hnew := Box.new V #[.slice none 0 0] 37
      replace zo := zo.below hb' zo.lt
      replace bx := bx.below hb'
      replace B := B.trans (hb'.mono B.size)
      refine hK2 _ _ ⟨.inr ⟨fun p hp => by simp at hp; rcases hp with rfl | rfl | rfl <;> rfl, fun q hq => by simp at hq; subst hq; exact bx⟩, ?_⟩
      clear hK2 K
      have z8 : w.heap.size + 2 ≤ V.heap.size := hz
      replace hz := Nat.le_trans hz hb'.size
      obtain ⟨b8, hb8⟩ : ∃ g, g = V.heap.size := ⟨_, rfl⟩
      rw [← hb8] at hnew z8 ⊢
      clear hb'
      have p8 := hnew
      clear hnew
      generalize V.alloc (.cells #[.slice none 0 0] 37) = V' at zo bx B hz p8 ⊢
      clear hb8 V
      obtain ⟨V, rfl⟩ : ∃ V, V = V' := ⟨_, rfl⟩
      refine wpAnyD_ready (rs := [4, 9]) (by kernel_rfl) (by simp) ?_
      refine AllD.cons rfl (fun K hK2 => ?_) ?_
      · skip
        go_simp
        refine (stamp_at e s _ _ V rfl rfl he hs).mono ?_
        rintro x V' ⟨rfl, ho, hb'⟩
        replace zo := zo.below hb' zo.lt
        replace bx := bx.below hb'
        replace p8 := p8.below hb'
        replace B := B.trans (hb'.mono B.size)
        refine hK2 _ _ ⟨.inr ⟨fun p hp => by simp at hp; rcases hp with rfl | rfl | rfl <;> rfl, fun q hq => by simp at hq; subst hq; exact bx⟩, ?_⟩
        clear hK2 K
        have z4 : w.heap.size + 2 ≤ V.heap.size := hz
        replace hz := Nat.le_trans hz hb'.size
        have m4 := ho
        obtain ⟨g4, hg4⟩ : ∃ g, g = V.heap.size := ⟨_, rfl⟩
        rw [← hg4] at m4 z4 ⊢
        clear ho hb' hg4 V
        obtain ⟨V, rfl⟩ : ∃ V, V = V' := ⟨_, rfl⟩
        refine wpAnyD_ready (rs := [7, 9]) (by kernel_rfl) (by simp) ?_
        refine AllD.cons rfl (fun K hK2 => ?_) ?_
        · skip
          go_simp
          refine (body_at a n cap es V hl h0 hn (hEs.below B) hbl).mono ?_
          rintro x V' ⟨v7, rfl, ow, hb'⟩
          replace zo := zo.below hb' zo.lt
          replace bx := bx.below hb'
          replace m4 := m4.below hb' m4.lt
          replace p8 := p8.below hb'
          replace B := B.trans (hb'.mono B.size)
          refine hK2 _ _ ⟨.inr ⟨fun p hp => by simp at hp; rcases hp with rfl | rfl | rfl <;> rfl, fun q hq => by simp at hq; subst hq; exact bx⟩, ?_⟩
          clear hK2 K
          have r7 := owns_base ow hz
          replace hz := Nat.le_trans hz hb'.size
          obtain ⟨av, cv, rfl⟩ := owns_shape r7
          clear ow hb' V
          obtain ⟨V, rfl⟩ : ∃ V, V = V' := ⟨_, rfl⟩
          refine wpAnyD_ready (rs := [9]) (by kernel_rfl) (by simp) ?_
          refine AllD.cons rfl (fun K hK2 => ?_) ?_
          · skip
            go_simp
            have hb' := (Below.refl V.heap.size V).alloc (Nat.le_refl _) (.cells #[.slice none 0 0] 37)
            have hnew := Box.new V #[.slice none 0 0] 37
            have q8 := p8.lt
            replace zo := zo.below hb' zo.lt
            replace bx := bx.below hb'
            replace m4 := m4.below hb' m4.lt
            replace r7 := owns_below r7 hb'
            replace p8 := p8.below hb'
            replace B := B.trans (hb'.mono B.size)
            refine hK2 _ _ ⟨.inr ⟨fun p hp => by simp at hp; rcases hp with rfl | rfl | rfl <;> rfl, fun q hq => by simp at hq; subst hq; exact bx⟩, ?_⟩
            clear hK2 K
            have z9 : w.heap.size + 2 ≤ V.heap.size := hz
            replace hz := Nat.le_trans hz hb'.size
            obtain ⟨b9, hb9⟩ : ∃ g, g = V.heap.size := ⟨_, rfl⟩
            rw [← hb9] at hnew z9 q8 ⊢
            have h98 : b9 ≠ b8 := by omega
            clear q8
            clear hb'
            have p9 := hnew
            clear hnew
            generalize V.alloc (.cells #[.slice none 0 0] 37) = V' at zo bx B hz p9 p8 m4 r7 ⊢
            clear hb9 V
            obtain ⟨V, rfl⟩ : ∃ V, V = V' := ⟨_, rfl⟩
            refine wpAnyD_ready (rs := [10]) (by kernel_rfl) (by simp) (AllD.cons rfl (fun K hK2 => ?_) AllD.nil)
            have d8 := p8.cell 0
            have f8 := p8.frozen 0
            have bx' : Box (V.setCell ⟨b8, 0, none⟩ (.slice (some ⟨g4, 0, none⟩) 8 8)) w.heap.size _ 250 := (heap_setCell_other V ⟨b8, 0, none⟩ w.heap.size _ (by show w.heap.size ≠ b8; omega)).trans bx
            go_simp
            refine hK2 _ _ ⟨.inr ⟨fun p hp => by simp at hp; rcases hp with rfl | rfl | rfl <;> rfl, fun q hq => by simp at hq; subst hq; exact bx'⟩, ?_⟩
            clear hK2 K
            have hne : b9 ≠ b8 := h98
            have p9' : Box (V.setCell ⟨b8, 0, none⟩ (.slice (some ⟨g4, 0, none⟩) 8 8)) b9 #[.slice none 0 0] 37 := (heap_setCell_other V ⟨b8, 0, none⟩ b9 _ hne).trans p9
            have d9 := p9'.cell 0
            have f9 := p9'.frozen 0
            refine wpAnyD_ready (rs := [11]) (by kernel_rfl) (by simp) (AllD.cons rfl (fun K hK2 => ?_) AllD.nil)
            go_simp
            refine hK2 _ _ ⟨.inl rfl, ?_⟩
            clear hK2 K
            refine wpAnyD_done (by kernel_rfl) ?_ _
            exact ⟨rfl, g4, av, cv, b8, b9, rfl, putHI_end hne z8 z9 z4 (by rw [HM.out]; exact m4) (by rw [HBB.out]; exact r7) p8 p9, ((Own.other (Own.other zo (by omega)) (by omega))), (B.setCell (p := ⟨b8, 0, none⟩) (by show w.heap.size ≤ b8; omega) _).setCell (p := ⟨b9, 0, none⟩) (by show w.heap.size ≤ b9; omega) _⟩
          exact AllD.nil
        refine AllD.cons rfl (fun K hK2 => ?_) ?_
        · skip
          go_simp
          have hb' := (Below.refl V.heap.size V).alloc (Nat.le_refl _) (.cells #[.slice none 0 0] 37)
          have hnew := Box.new V #[.slice none 0 0] 37
          have q8 := p8.lt
          replace zo := zo.below hb' zo.lt
          replace bx := bx.below hb'
          replace m4 := m4.below hb' m4.lt
          replace p8 := p8.below hb'
          replace B := B.trans (hb'.mono B.size)
          refine hK2 _ _ ⟨.inr ⟨fun p hp => by simp at hp; rcases hp with rfl | rfl | rfl <;> rfl, fun q hq => by simp at hq; subst hq; exact bx⟩, ?_⟩
          clear hK2 K
          have z9 : w.heap.size + 2 ≤ V.heap.size := hz
          replace hz := Nat.le_trans hz hb'.size
          obtain ⟨b9, hb9⟩ : ∃ g, g = V.heap.size := ⟨_, rfl⟩
          rw [← hb9] at hnew z9 q8 ⊢
          have h98 : b9 ≠ b8 := by omega
          clear q8
          clear hb'
          have p9 := hnew
          clear hnew
          generalize V.alloc (.cells #[.slice none 0 0] 37) = V' at zo bx B hz p9 p8 m4 ⊢
          clear hb9 V
          obtain ⟨V, rfl⟩ : ∃ V, V = V' := ⟨_, rfl⟩
          refine wpAnyD_ready (rs := [7]) (by kernel_rfl) (by simp) ?_
          refine AllD.cons rfl (fun K hK2 => ?_) ?_
          · skip
            go_simp
            refine (body_at a n cap es V hl h0 hn (hEs.below B) hbl).mono ?_
            rintro x V' ⟨v7, rfl, ow, hb'⟩
            replace zo := zo.below hb' zo.lt
            replace bx := bx.below hb'
            replace m4 := m4.below hb' m4.lt
            replace p8 := p8.below hb'
            replace p9 := p9.below hb'
            replace B := B.trans (hb'.mono B.size)
            refine hK2 _ _ ⟨.inr ⟨fun p hp => by simp at hp; rcases hp with rfl | rfl | rfl <;> rfl, fun q hq => by simp at hq; subst hq; exact bx⟩, ?_⟩
            clear hK2 K
            have r7 := owns_base ow hz
            replace hz := Nat.le_trans hz hb'.size
            obtain ⟨av, cv, rfl⟩ := owns_shape r7
            clear ow hb' V
            obtain ⟨V, rfl⟩ : ∃ V, V = V' := ⟨_, rfl⟩
            refine wpAnyD_ready (rs := [10]) (by kernel_rfl) (by simp) (AllD.cons rfl (fun K hK2 => ?_) AllD.nil)
            have d8 := p8.cell 0
            have f8 := p8.frozen 0
            have bx' : Box (V.setCell ⟨b8, 0, none⟩ (.slice (some ⟨g4, 0, none⟩) 8 8)) w.heap.size _ 250 := (heap_setCell_other V ⟨b8, 0, none⟩ w.heap.size _ (by show w.heap.size ≠ b8; omega)).trans bx
            go_simp
            refine hK2 _ _ ⟨.inr ⟨fun p hp => by simp at hp; rcases hp with rfl | rfl | rfl <;> rfl, fun q hq => by simp at hq; subst hq; exact bx'⟩, ?_⟩
            clear hK2 K
            have hne : b9 ≠ b8 := h98
            have p9' : Box (V.setCell ⟨b8, 0, none⟩ (.slice (some ⟨g4, 0, none⟩) 8 8)) b9 #[.slice none 0 0] 37 := (heap_setCell_other V ⟨b8, 0, none⟩ b9 _ hne).trans p9
            have d9 := p9'.cell 0
            have f9 := p9'.frozen 0
            refine wpAnyD_ready (rs := [11]) (by kernel_rfl) (by simp) (AllD.cons rfl (fun K hK2 => ?_) AllD.nil)
            go_simp
            refine hK2 _ _ ⟨.inl rfl, ?_⟩
            clear hK2 K
            refine wpAnyD_done (by kernel_rfl) ?_ _
            exact ⟨rfl, g4, av, cv, b8, b9, rfl, putHI_end hne z8 z9 z4 (by rw [HM.out]; exact m4) (by rw [HBB.out]; exact r7) p8 p9, ((Own.other (Own.other zo (by omega)) (by omega))), (B.setCell (p := ⟨b8, 0, none⟩) (by show w.heap.size ≤ b8; omega) _).setCell (p := ⟨b9, 0, none⟩) (by show w.heap.size ≤ b9; omega) _⟩
          exact AllD.nil
        exact AllD.nil
      refine AllD.cons rfl (fun K hK2 => ?_) ?_
      · skip
        go_simp
        have hb' := (Below.refl V.heap.size V).alloc (Nat.le_refl _) (.cells #[.slice none 0 0] 37)
        have hnew := Box.new V #[.slice none 0 0] 37
        have q8 := p8.lt
        replace zo := zo.below hb' zo.lt
        replace bx := bx.below hb'
        replace p8 := p8.below hb'
        replace B := B.trans (hb'.mono B.size)
        refine hK2 _ _ ⟨.inr ⟨fun p hp => by simp at hp; rcases hp with rfl | rfl | rfl <;> rfl, fun q hq => by simp at hq; subst hq; exact bx⟩, ?_⟩
        clear hK2 K
        have z9 : w.heap.size + 2 ≤ V.heap.size := hz
        replace hz := Nat.le_trans hz hb'.size
        obtain ⟨b9, hb9⟩ : ∃ g, g = V.heap.size := ⟨_, rfl⟩
        rw [← hb9] at hnew z9 q8 ⊢
        have h98 : b9 ≠ b8 := by omega
        clear q8
        clear hb'
        have p9 := hnew
        clear hnew
        generalize V.alloc (.cells #[.slice none 0 0] 37) = V' at zo bx B hz p9 p8 ⊢
        clear hb9 V
        obtain ⟨V, rfl⟩ : ∃ V, V = V' := ⟨_, rfl⟩
        refine wpAnyD_ready (rs := [4]) (by kernel_rfl) (by simp) ?_
        refine AllD.cons rfl (fun K hK2 => ?_) ?_
        · skip
          go_simp
          refine (stamp_at e s _ _ V rfl rfl he hs).mono ?_
          rintro x V' ⟨rfl, ho, hb'⟩
          replace zo := zo.below hb' zo.lt
          replace bx := bx.below hb'
          replace p8 := p8.below hb'
          replace p9 := p9.below hb'
          replace B := B.trans (hb'.mono B.size)
          refine hK2 _ _ ⟨.inr ⟨fun p hp => by simp at hp; rcases hp with rfl | rfl | rfl <;> rfl, fun q hq => by simp at hq; subst hq; exact bx⟩, ?_⟩
          clear hK2 K
          have z4 : w.heap.size + 2 ≤ V.heap.size := hz
          replace hz := Nat.le_trans hz hb'.size
          have m4 := ho
          obtain ⟨g4, hg4⟩ : ∃ g, g = V.heap.size := ⟨_, rfl⟩
          rw [← hg4] at m4 z4 ⊢
          clear ho hb' hg4 V
          obtain ⟨V, rfl⟩ : ∃ V, V = V' := ⟨_, rfl⟩
          refine wpAnyD_ready (rs := [7]) (by kernel_rfl) (by simp) ?_
          refine AllD.cons rfl (fun K hK2 => ?_) ?_
          · skip
            go_simp
            refine (body_at a n cap es V hl h0 hn (hEs.below B) hbl).mono ?_
            rintro x V' ⟨v7, rfl, ow, hb'⟩
            replace zo := zo.below hb' zo.lt
            replace bx := bx.below hb'
            replace m4 := m4.below hb' m4.lt
            replace p8 := p8.below hb'
            replace p9 := p9.below hb'
            replace B := B.trans (hb'.mono B.size)
            refine hK2 _ _ ⟨.inr ⟨fun p hp => by simp at hp; rcases hp with rfl | rfl | rfl <;> rfl, fun q hq => by simp at hq; subst hq; exact bx⟩, ?_⟩
            clear hK2 K
            have r7 := owns_base ow hz
            replace hz := Nat.le_trans hz hb'.size
            obtain ⟨av, cv, rfl⟩ := owns_shape r7
            clear ow hb' V
            obtain ⟨V, rfl⟩ : ∃ V, V = V' := ⟨_, rfl⟩
            refine wpAnyD_ready (rs := [10]) (by kernel_rfl) (by simp) (AllD.cons rfl (fun K hK2 => ?_) AllD.nil)
            have d8 := p8.cell 0
            have f8 := p8.frozen 0
            have bx' : Box (V.setCell ⟨b8, 0, none⟩ (.slice (some ⟨g4, 0, none⟩) 8 8)) w.heap.size _ 250 := (heap_setCell_other V ⟨b8, 0, none⟩ w.heap.size _ (by show w.heap.size ≠ b8; omega)).trans bx
            go_simp
            refine hK2 _ _ ⟨.inr ⟨fun p hp => by simp at hp; rcases hp with rfl | rfl | rfl <;> rfl, fun q hq => by simp at hq; subst hq; exact bx'⟩, ?_⟩
            clear hK2 K
            have hne : b9 ≠ b8 := h98
            have p9' : Box (V.setCell ⟨b8, 0, none⟩ (.slice (some ⟨g4, 0, none⟩) 8 8)) b9 #[.slice none 0 0] 37 := (heap_setCell_other V ⟨b8, 0, none⟩ b9 _ hne).trans p9
            have d9 := p9'.cell 0
            have f9 := p9'.frozen 0
            refine wpAnyD_ready (rs := [11]) (by kernel_rfl) (by simp) (AllD.cons rfl (fun K hK2 => ?_) AllD.nil)
            go_simp
            refine hK2 _ _ ⟨.inl rfl, ?_⟩
            clear hK2 K
            refine wpAnyD_done (by kernel_rfl) ?_ _
            exact ⟨rfl, g4, av, cv, b8, b9, rfl, putHI_end hne z8 z9 z4 (by rw [HM.out]; exact m4) (by rw [HBB.out]; exact r7) p8 p9, ((Own.other (Own.other zo (by omega)) (by omega))), (B.setCell (p := ⟨b8, 0, none⟩) (by show w.heap.size ≤ b8; omega) _).setCell (p := ⟨b9, 0, none⟩) (by show w.heap.size ≤ b9; omega) _⟩
          exact AllD.nil
        exact AllD.nil
      exact AllD.nil
    refine AllD.cons rfl (fun K hK2 => ?_) ?_
    · skip
      go_simp
      have hb' := (Below.refl V.heap.size V).alloc (Nat.le_refl _) (.cells #[.slice none 0 0] 37)
      have hnew := Box.new V #[.slice none 0 0] 37
      replace zo := zo.below hb' zo.lt
      replace bx := bx.below hb'
      replace B := B.trans (hb'.mono B.size)
      refine hK2 _ _ ⟨.inr ⟨fun p hp => by simp at hp; rcases hp with rfl | rfl | rfl <;> rfl, fun q hq => by simp at hq; subst hq; exact bx⟩, ?_⟩
      clear hK2 K
      have z9 : w.heap.size + 2 ≤ V.heap.size := hz
      replace hz := Nat.le_trans hz hb'.size
      obtain ⟨b9, hb9⟩ : ∃ g, g = V.heap.size := ⟨_, rfl⟩
      rw [← hb9] at hnew z9 ⊢
      clear hb'
      have p9 := hnew
      clear hnew
      generalize V.alloc (.cells #[.slice none 0 0] 37) = V' at zo bx B hz p9 ⊢
      clear hb9 V
      obtain ⟨V, rfl⟩ : ∃ V, V = V' := ⟨_, rfl⟩
      refine wpAnyD_ready (rs := [4, 8]) (by kernel_rfl) (by simp) ?_
      refine AllD.cons rfl (fun K hK2 => ?_) ?_
      · skip
        go_simp
        refine (stamp_at e s _ _ V rfl rfl he hs).mono ?_
        rintro x V' ⟨rfl, ho, hb'⟩
        replace zo := zo.below hb' zo.lt
        replace bx := bx.below hb'
        replace p9 := p9.below hb'
        replace B := B.trans (hb'.mono B.size)
        refine hK2 _ _ ⟨.inr ⟨fun p hp => by simp at hp; rcases hp with rfl | rfl | rfl <;> rfl, fun q hq => by simp at hq; subst hq; exact bx⟩, ?_⟩
        clear hK2 K
        have z4 : w.heap.size + 2 ≤ V.heap.size := hz
        replace hz := Nat.le_trans hz hb'.size
        have m4 := ho
        obtain ⟨g4, hg4⟩ : ∃ g, g = V.heap.size := ⟨_, rfl⟩
        rw [← hg4] at m4 z4 ⊢
        clear ho hb' hg4 V
        obtain ⟨V, rfl⟩ : ∃ V, V = V' := ⟨_, rfl⟩
        refine wpAnyD_ready (rs := [7, 8]) (by kernel_rfl) (by simp) ?_
        refine AllD.cons rfl (fun K hK2 => ?_) ?_
        · skip
          go_simp
          refine (body_at a n cap es V hl h0 hn (hEs.below B) hbl).mono ?_
          rintro x V' ⟨v7, rfl, ow, hb'⟩
          replace zo := zo.below hb' zo.lt
          replace bx := bx.below hb'
          replace m4 := m4.below hb' m4.lt
          replace p9 := p9.below hb'
          replace B := B.trans (hb'.mono B.size)
          refine hK2 _ _ ⟨.inr ⟨fun p hp => by simp at hp; rcases hp with rfl | rfl | rfl <;> rfl, fun q hq => by simp at hq; subst hq; exact bx⟩, ?_⟩
          clear hK2 K
          have r7 := owns_base ow hz
          replace hz := Nat.le_trans hz hb'.size
          obtain ⟨av, cv, rfl⟩ := owns_shape r7
          clear ow hb' V
          obtain ⟨V, rfl⟩ : ∃ V, V = V' := ⟨_, rfl⟩
          refine wpAnyD_ready (rs := [8]) (by kernel_rfl) (by simp) ?_
          refine AllD.cons rfl (fun K hK2 => ?_) ?_
          · skip
            go_simp
            have hb' := (Below.refl V.heap.size V).alloc (Nat.le_refl _) (.cells #[.slice none 0 0] 37)
            have hnew := Box.new V #[.slice none 0 0] 37
            have q9 := p9.lt
            replace zo := zo.below hb' zo.lt
            replace bx := bx.below hb'
            replace m4 := m4.below hb' m4.lt
            replace r7 := owns_below r7 hb'
            replace p9 := p9.below hb'
            replace B := B.trans (hb'.mono B.size)
            refine hK2 _ _ ⟨.inr ⟨fun p hp => by simp at hp; rcases hp with rfl | rfl | rfl <;> rfl, fun q hq => by simp at hq; subst hq; exact bx⟩, ?_⟩
            clear hK2 K
            have z8 : w.heap.size + 2 ≤ V.heap.size := hz
            replace hz := Nat.le_trans hz hb'.size
            obtain ⟨b8, hb8⟩ : ∃ g, g = V.heap.size := ⟨_, rfl⟩
            rw [← hb8] at hnew z8 q9 ⊢
            have h98 : b9 ≠ b8 := by omega
            clear q9
            clear hb'
            have p8 := hnew
            clear hnew
            generalize V.alloc (.cells #[.slice none 0 0] 37) = V' at zo bx B hz p8 p9 m4 r7 ⊢
            clear hb8 V
            obtain ⟨V, rfl⟩ : ∃ V, V = V' := ⟨_, rfl⟩
            refine wpAnyD_ready (rs := [10]) (by kernel_rfl) (by simp) (AllD.cons rfl (fun K hK2 => ?_) AllD.nil)
            have d8 := p8.cell 0
            have f8 := p8.frozen 0
            have bx' : Box (V.setCell ⟨b8, 0, none⟩ (.slice (some ⟨g4, 0, none⟩) 8 8)) w.heap.size _ 250 := (heap_setCell_other V ⟨b8, 0, none⟩ w.heap.size _ (by show w.heap.size ≠ b8; omega)).trans bx
            go_simp
            refine hK2 _ _ ⟨.inr ⟨fun p hp => by simp at hp; rcases hp with rfl | rfl | rfl <;> rfl, fun q hq => by simp at hq; subst hq; exact bx'⟩, ?_⟩
            clear hK2 K
            have hne : b9 ≠ b8 := h98
            have p9' : Box (V.setCell ⟨b8, 0, none⟩ (.slice (some ⟨g4, 0, none⟩) 8 8)) b9 #[.slice none 0 0] 37 := (heap_setCell_other V ⟨b8, 0, none⟩ b9 _ hne).trans p9
            have d9 := p9'.cell 0
            have f9 := p9'.frozen 0
            refine wpAnyD_ready (rs := [11]) (by kernel_rfl) (by simp) (AllD.cons rfl (fun K hK2 => ?_) AllD.nil)
            go_simp
            refine hK2 _ _ ⟨.inl rfl, ?_⟩
            clear hK2 K
            refine wpAnyD_done (by kernel_rfl) ?_ _
            exact ⟨rfl, g4, av, cv, b8, b9, rfl, putHI_end hne z8 z9 z4 (by rw [HM.out]; exact m4) (by rw [HBB.out]; exact r7) p8 p9, ((Own.other (Own.other zo (by omega)) (by omega))), (B.setCell (p := ⟨b8, 0, none⟩) (by show w.heap.size ≤ b8; omega) _).setCell (p := ⟨b9, 0, none⟩) (by show w.heap.size ≤ b9; omega) _⟩
          exact AllD.nil
        refine AllD.cons rfl (fun K hK2 => ?_) ?_
        · skip
          go_simp
          have hb' := (Below.refl V.heap.size V).alloc (Nat.le_refl _) (.cells #[.slice none 0 0] 37)
          have hnew := Box.new V #[.slice none 0 0] 37
          have q9 := p9.lt
          replace zo := zo.below hb' zo.lt
          replace bx := bx.below hb'
          replace m4 := m4.below hb' m4.lt
          replace p9 := p9.below hb'
          replace B := B.trans (hb'.mono B.size)
          refine hK2 _ _ ⟨.inr ⟨fun p hp => by simp at hp; rcases hp with rfl | rfl | rfl <;> rfl, fun q hq => by simp at hq; subst hq; exact bx⟩, ?_⟩
          clear hK2 K
          have z8 : w.heap.size + 2 ≤ V.heap.size := hz
          replace hz := Nat.le_trans hz hb'.size
          obtain ⟨b8, hb8⟩ : ∃ g, g = V.heap.size := ⟨_, rfl⟩
          rw [← hb8] at hnew z8 q9 ⊢
          have h98 : b9 ≠ b8 := by omega
          clear q9
          clear hb'
          have p8 := hnew
          clear hnew
          generalize V.alloc (.cells #[.slice none 0 0] 37) = V' at zo bx B hz p8 p9 m4 ⊢
          clear hb8 V
          obtain ⟨V, rfl⟩ : ∃ V, V = V' := ⟨_, rfl⟩
          refine wpAnyD_ready (rs := [7]) (by kernel_rfl) (by simp) ?_
          refine AllD.cons rfl (fun K hK2 => ?_) ?_
          · skip
            go_simp
            refine (body_at a n cap es V hl h0 hn (hEs.below B) hbl).mono ?_
            rintro x V' ⟨v7, rfl, ow, hb'⟩
            replace zo := zo.below hb' zo.lt
            replace bx := bx.below hb'
            replace m4 := m4.below hb' m4.lt
            replace p8 := p8.below hb'
            replace p9 := p9.below hb'
            replace B := B.trans (hb'.mono B.size)
            refine hK2 _ _ ⟨.inr ⟨fun p hp => by simp at hp; rcases hp with rfl | rfl | rfl <;> rfl, fun q hq => by simp at hq; subst hq; exact bx⟩, ?_⟩
            clear hK2 K
            have r7 := owns_base ow hz
            replace hz := Nat.le_trans hz hb'.size
            obtain ⟨av, cv, rfl⟩ := owns_shape r7
            clear ow hb' V
            obtain ⟨V, rfl⟩ : ∃ V, V = V' := ⟨_, rfl⟩
            refine wpAnyD_ready (rs := [10]) (by kernel_rfl) (by simp) (AllD.cons rfl (fun K hK2 => ?_) AllD.nil)
            have d8 := p8.cell 0
            have f8 := p8.frozen 0
            have bx' : Box (V.setCell ⟨b8, 0, none⟩ (.slice (some ⟨g4, 0, none⟩) 8 8)) w.heap.size _ 250 := (heap_setCell_other V ⟨b8, 0, none⟩ w.heap.size _ (by show w.heap.size ≠ b8; omega)).trans bx
            go_simp
            refine hK2 _ _ ⟨.inr ⟨fun p hp => by simp at hp; rcases hp with rfl | rfl | rfl <;> rfl, fun q hq => by simp at hq; subst hq; exact bx'⟩, ?_⟩
            clear hK2 K
            have hne : b9 ≠ b8 := h98
            have p9' : Box (V.setCell ⟨b8, 0, none⟩ (.slice (some ⟨g4, 0, none⟩) 8 8)) b9 #[.slice none 0 0] 37 := (heap_setCell_other V ⟨b8, 0, none⟩ b9 _ hne).trans p9
            have d9 := p9'.cell 0
            have f9 := p9'.frozen 0
            refine wpAnyD_ready (rs := [11]) (by kernel_rfl) (by simp) (AllD.cons rfl (fun K hK2 => ?_) AllD.nil)
            go_simp
            refine hK2 _ _ ⟨.inl rfl, ?_⟩
            clear hK2 K
            refine wpAnyD_done (by kernel_rfl) ?_ _
            exact ⟨rfl, g4, av, cv, b8, b9, rfl, putHI_end hne z8 z9 z4 (by rw [HM.out]; exact m4) (by rw [HBB.out]; exact r7) p8 p9, ((Own.other (Own.other zo (by omega)) (by omega))), (B.setCell (p := ⟨b8, 0, none⟩) (by show w.heap.size ≤ b8; omega) _).setCell (p := ⟨b9, 0, none⟩) (by show w.heap.size ≤ b9; omega) _⟩
          exact AllD.nil
        exact AllD.nil
      refine AllD.cons rfl (fun K hK2 => ?_) ?_
      · skip
        go_simp
        have hb' := (Below.refl V.heap.size V).alloc (Nat.le_refl _) (.cells #[.slice none 0 0] 37)
        have hnew := Box.new V #[.slice none 0 0] 37
        have q9 := p9.lt
        replace zo := zo.below hb' zo.lt
        replace bx := bx.below hb'
        replace p9 := p9.below hb'
        replace B := B.trans (hb'.mono B.size)
        refine hK2 _ _ ⟨.inr ⟨fun p hp => by simp at hp; rcases hp with rfl | rfl | rfl <;> rfl, fun q hq => by simp at hq; subst hq; exact bx⟩, ?_⟩
        clear hK2 K
        have z8 : w.heap.size + 2 ≤ V.heap.size := hz
        replace hz := Nat.le_trans hz hb'.size
        obtain ⟨b8, hb8⟩ : ∃ g, g = V.heap.size := ⟨_, rfl⟩
        rw [← hb8] at hnew z8 q9 ⊢
        have h98 : b9 ≠ b8 := by omega
        clear q9
        clear hb'
        have p8 := hnew
        clear hnew
        generalize V.alloc (.cells #[.slice none 0 0] 37) = V' at zo bx B hz p8 p9 ⊢
        clear hb8 V
        obtain ⟨V, rfl⟩ : ∃ V, V = V' := ⟨_, rfl⟩
        refine wpAnyD_ready (rs := [4]) (by kernel_rfl) (by simp) ?_
        refine AllD.cons rfl (fun K hK2 => ?_) ?_
        · skip
          go_simp
          refine (stamp_at e s _ _ V rfl rfl he hs).mono ?_
          rintro x V' ⟨rfl, ho, hb'⟩
          replace zo := zo.below hb' zo.lt
          replace bx := bx.below hb'
          replace p8 := p8.below hb'
          replace p9 := p9.below hb'
          replace B := B.trans (hb'.mono B.size)
          refine hK2 _ _ ⟨.inr ⟨fun p hp => by simp at hp; rcases hp with rfl | rfl | rfl <;> rfl, fun q hq => by simp at hq; subst hq; exact bx⟩, ?_⟩
          clear hK2 K
          have z4 : w.heap.size + 2 ≤ V.heap.size := hz
          replace hz := Nat.le_trans hz hb'.size
          have m4 := ho
          obtain ⟨g4, hg4⟩ : ∃ g, g = V.heap.size := ⟨_, rfl⟩
          rw [← hg4] at m4 z4 ⊢
          clear ho hb' hg4 V
          obtain ⟨V, rfl⟩ : ∃ V, V = V' := ⟨_, rfl⟩
          refine wpAnyD_ready (rs := [7]) (by kernel_rfl) (by simp) ?_
          refine AllD.cons rfl (fun K hK2 => ?_) ?_
          · skip
            go_simp
            refine (body_at a n cap es V hl h0 hn (hEs.below B) hbl).mono ?_
            rintro x V' ⟨v7, rfl, ow, hb'⟩
            replace zo := zo.below hb' zo.lt
            replace bx := bx.below hb'
            replace m4 := m4.below hb' m4.lt
            replace p8 := p8.below hb'
            replace p9 := p9.below hb'
            replace B := B.trans (hb'.mono B.size)
            refine hK2 _ _ ⟨.inr ⟨fun p hp => by simp at hp; rcases hp with rfl | rfl | rfl <;> rfl, fun q hq => by simp at hq; subst hq; exact bx⟩, ?_⟩
            clear hK2 K
            have r7 := owns_base ow hz
            replace hz := Nat.le_trans hz hb'.size
            obtain ⟨av, cv, rfl⟩ := owns_shape r7
            clear ow hb' V
            obtain ⟨V, rfl⟩ : ∃ V, V = V' := ⟨_, rfl⟩
            refine wpAnyD_ready (rs := [10]) (by kernel_rfl) (by simp) (AllD.cons rfl (fun K hK2 => ?_) AllD.nil)
            have d8 := p8.cell 0
            have f8 := p8.frozen 0
            have bx' : Box (V.setCell ⟨b8, 0, none⟩ (.slice (some ⟨g4, 0, none⟩) 8 8)) w.heap.size _ 250 := (heap_setCell_other V ⟨b8, 0, none⟩ w.heap.size _ (by show w.heap.size ≠ b8; omega)).trans bx
            go_simp
            refine hK2 _ _ ⟨.inr ⟨fun p hp => by simp at hp; rcases hp with rfl | rfl | rfl <;> rfl, fun q hq => by simp at hq; subst hq; exact bx'⟩, ?_⟩
            clear hK2 K
            have hne : b9 ≠ b8 := h98
            have p9' : Box (V.setCell ⟨b8, 0, none⟩ (.slice (some ⟨g4, 0, none⟩) 8 8)) b9 #[.slice none 0 0] 37 := (heap_setCell_other V ⟨b8, 0, none⟩ b9 _ hne).trans p9
            have d9 := p9'.cell 0
            have f9 := p9'.frozen 0
            refine wpAnyD_ready (rs := [11]) (by kernel_rfl) (by simp) (AllD.cons rfl (fun K hK2 => ?_) AllD.nil)
            go_simp
            refine hK2 _ _ ⟨.inl rfl, ?_⟩
            clear hK2 K
            refine wpAnyD_done (by kernel_rfl) ?_ _
            exact ⟨rfl, g4, av, cv, b8, b9, rfl, putHI_end hne z8 z9 z4 (by rw [HM.out]; exact m4) (by rw [HBB.out]; exact r7) p8 p9, ((Own.other (Own.other zo (by omega)) (by omega))), (B.setCell (p := ⟨b8, 0, none⟩) (by show w.heap.size ≤ b8; omega) _).setCell (p := ⟨b9, 0, none⟩) (by show w.heap.size ≤ b9; omega) _⟩
          exact AllD.nil
        exact AllD.nil
      exact AllD.nil
    exact AllD.nil
  case tail =>
    rintro x A W ⟨rfl, g4, av, cv, b8, b9, rfl, hI, zo, B⟩
    clear hm
    gi_wp2_with fail
    refine ⟨trivial, ?_⟩
    refine (sectors_in 2 _ _ _ _).mono ?_
    rintro r w' ⟨rfl, rfl⟩
    gi_wp2_with fail
    obtain ⟨⟨z8, z9, hne⟩, p8, p9, ⟨z4, m4⟩, r7⟩ := hI
    obtain ⟨gr, cv', hcv, _, hgr, hrow⟩ : ∃ gr cv', Value.slice av 4032 cv = .slice (some ⟨gr, 0, none⟩) 4032 cv' ∧ 0 < 1 ∧ w.heap.size + 2 ≤ gr ∧ RowB W gr cv' BB := by
      obtain ⟨gr, c', h1, h2, h3⟩ := RowB.owns r7 (by omega)
      exact ⟨gr, c', h1, by omega, h2, h3⟩
    obtain ⟨rfl, _, rfl⟩ : av = some ⟨gr, 0, none⟩ ∧ 4032 = 4032 ∧ cv = cv' := by simpa using hcv
    clear hcv r7
    have hcl : BB.length = 4032 := by rw [HBB.out]; exact bodyB_length es (H64.out) (by rw [hl]; exact hn)
    have hcvb : 4032 ≤ cv ∧ cv ≤ 9223372036854775807 := by
      obtain ⟨cur, _, q1, q2, _⟩ := hrow
      unfold maxLen at q2
      omega
    have hML : M.length = 8 := by rw [HM.out]; exact mark_length _ _
    have hZL : Z.length = 4096 := by rw [HZ.out]; exact nought_length _
    have hz0 := RowB.own zo (by rw [hZL]; unfold maxLen; omega)
    rw [hZL] at hz0
    have al := (Below.refl W.heap.size W).alloc (Nat.le_refl _) (.cells #[.slice (some ⟨w.heap.size + 1, 0, none⟩) 4096 4096] 37)
    have bS := Box.new W #[.slice (some ⟨w.heap.size + 1, 0, none⟩) 4096 4096] 37
    have q9 := p9.lt
    replace p8 := p8.below al
    replace p9 := p9.below al
    replace m4 := m4.below al m4.lt
    replace hrow := hrow.same (al.block _ hrow.lt)
    replace hz0 := hz0.same (al.block _ hz0.lt)
    replace B := B.trans (al.mono B.size)
    have s3 : (W.alloc (.cells #[.slice (some ⟨w.heap.size + 1, 0, none⟩) 4096 4096] 37)).heap.size = W.heap.size + 1 := by simp
    generalize W.alloc (.cells #[.slice (some ⟨w.heap.size + 1, 0, none⟩) 4096 4096] 37) = W0 at *
    have l8 := zo.lt
    obtain ⟨k1, hk1⟩ : ∃ k, k = W.heap.size := ⟨_, rfl⟩
    rw [← hk1] at bS s3 l8 q9 ⊢
    have nk9 : b9 ≠ k1 := by have := q9; omega
    clear al zo hk1 q9
    have hs3 : k1 + 1 ≤ W0.heap.size := by omega
    have hs4 : w.heap.size < W0.heap.size := by omega
    clear s3
    obtain ⟨hc1, hc2⟩ := hcvb
    have HCL : Hid _ := hcl
    have HML : Hid _ := hML
    have HZL : Hid _ := hZL
    clear hcl hML hZL
    have y1 : 4032 - 0 * 504 = 4032 := rfl
    have y2 : cv - 0 * 504 = cv := by omega
    refine wpIn_rangeFunc_ownH (α := Fin 8) rfl (by omega) (gf := 268) (lb := #[.pointer (some ⟨k1, 0, none⟩)]) rfl trivial (enters_of Tryz.func268 (by kernel_rfl) rfl)
      (sect_stops (3 - 1) (by omega) k1 (w.heap.size + 1) 0 4096 (Nat.le_refl _) (by omega) W0 (by omega) (bS.cell 0)) cellK_t (cellK_b (by omega)) (Below.refl _ _) (fun _ => rfl)
      (fun pre W => PutI (w.heap.size + 1) g4 gr cv b8 b9 k1 M BB (putTo Z M BB pre).1 pre.length W ∧ Below w.heap.size w W)
      (fun c _ W => False ∧ Below w.heap.size w W)
      (OwnFrom.and (Own.from (fun s A B row hs hg hr => hs.kept hg hr) _) (ownFrom_below (Nat.le_refl _) (by omega)))
      (fun c => OwnFrom.and (Own.from (fun s A B row hs hg hr => hs) _) (ownFrom_below (Nat.le_refl _) (by omega)))
      ⟨⟨hz0, p8, ⟨0, by rw [List.length_nil, y1, y2]; exact p9, fun _ => by simp⟩, m4, hrow, ⟨_, bS⟩⟩, B⟩
      (fun x a' _ => a' = { tmps := #[.agg #[.int .i64 (e : Int), .int .i64 (s : Int), .slice a n cap], .pointer (some ⟨w.heap.size, 0, none⟩), .slice none 0 0, .slice (some ⟨w.heap.size + 1, 0, none⟩) 4096 4096, .pointer (some ⟨b8, 0, none⟩), .pointer (some ⟨b9, 0, none⟩), .slice (some ⟨w.heap.size + 1, x.val * 512, none⟩) 512 512, .slice (some ⟨w.heap.size + 1, 0, none⟩) 4096 4096, .pointer (some ⟨w.heap.size, 0, none⟩), .int .i64 (e : Int), .pointer (some ⟨w.heap.size, 1, none⟩), .int .i64 (s : Int), .slice (some ⟨g4, 0, none⟩) 8 8, .pointer (some ⟨w.heap.size, 2, none⟩), .slice a n cap, .slice (some ⟨gr, 0, none⟩) 4032 cv, .slice (some ⟨w.heap.size + 1, 0, none⟩) 4096 4096, .func (.func 268) #[] #[.pointer (some ⟨k1, 0, none⟩)], .slice (some ⟨w.heap.size + 1, x.val * 512, none⟩) 512 512, undef, undef, undef, undef, undef, undef, undef, undef, undef, undef], defers := [] })
      (fun x a' => ownFrom_pure _ _) ?assign ?body ?done ?stop
    case assign =>
      rintro l pre x W K hI hK
      dsimp only [encS]
      simp only [Nat.zero_add]
      gi_wp2
      exact hK _ _ (KeepsFrom.refl _ _) rfl hI rfl
    case body =>
      rintro l pre x a' W hlw ⟨r, hr1⟩ ⟨hI, hB⟩ rfl hlt2
      have hx8 := x.isLt
      have hd1 := putTo_length Z M BB HZL.out HML.out HCL.out pre (by omega)
      have hd2 := putTo_two Z M BB pre
      obtain ⟨k, hk⟩ : ∃ k, pre.length = k := ⟨_, rfl⟩
      rw [hk] at hI hlt2 hd2
      obtain ⟨d, hd⟩ : ∃ d, (putTo Z M BB pre).1 = d := ⟨_, rfl⟩
      rw [hd] at hI hd1
      have hsnoc : Hid ((putTo Z M BB (pre ++ [x])).1 = over (over d (x.val * 512) M) (x.val * 512 + 8) ((BB.drop (k * 504)).take 504)) := by
        show _ = _
        rw [putTo_snoc]
        unfold putStep
        rw [hd, hd2]
      have hlen : Hid ((pre ++ [x]).length = k + 1) := by show _ = _; simp [hk]
      clear hk hd hd2
      obtain ⟨W5, W6, L, C, hr5, hr6, e8, e9, e9b, f9, hLC, hF⟩ := puth_round w W (w.heap.size + 1) g4 gr cv b8 b9 k1 k M BB d x z8 z9 nk9 hne hlt2 hd1 HML.out HCL.out hc1 hc2 rfl (by omega) (by omega) hI hB
      obtain ⟨m1, m2, m3, m4', m5⟩ := hLC
      have HF : Hid _ := hF
      have HO : Hid _ := m5
      clear hF m5 hI
      have e9c : W5.drew.cell? ⟨b9, 0, none⟩ = some (.slice (some ⟨gr, k * 504, none⟩) L C) := e9
      have hr6' : ∀ ty, (Builtin.copy_ #[37, 37] ty #[.slice (some ⟨w.heap.size + 1, x.val * 512 + 8, none⟩) 504 504, .slice (some ⟨gr, k * 504, none⟩) L C]).run Tryz.prog W5.drew = .ok (.int .i64 504) W6 := hr6
      by_cases hC : C = 504
      · subst hC
        obtain rfl : L = 504 := by omega
        gi_wp2_with fail
        refine wpIn_region_any (by kernel_rfl) ?_
        change wpAnyIn _ _ _ _ _ _ _ _ _ (World.drew _)
        refine wpAnyIn_ready (rs := [0, 1, 3]) (by kernel_rfl) (by simp) ?_
        refine AllReadyIn.cons rfl (fun K hK2 => ?_) ?_
        · skip
          go_simp
          refine hK2 _ _ ?_
          clear hK2 K
          refine wpAnyIn_ready (rs := [1, 3]) (by kernel_rfl) (by simp) ?_
          refine AllReadyIn.cons rfl (fun K hK2 => ?_) ?_
          · skip
            go_simp
            refine hK2 _ _ ?_
            clear hK2 K
            refine wpAnyIn_ready (rs := [2, 3]) (by kernel_rfl) (by simp) ?_
            refine AllReadyIn.cons rfl (fun K hK2 => ?_) ?_
            · skip
              go_simp
              refine hK2 _ _ ?_
              clear hK2 K
              refine wpAnyIn_ready (rs := [3]) (by kernel_rfl) (by simp) ?_
              refine AllReadyIn.cons rfl (fun K hK2 => ?_) ?_
              · skip
                go_simp
                refine hK2 _ _ ?_
                clear hK2 K
                refine wpAnyIn_ready (rs := [4]) (by kernel_rfl) (by simp) ?_
                refine AllReadyIn.cons rfl (fun K hK2 => ?_) ?_
                · skip
                  go_simp
                  refine hK2 _ _ ?_
                  clear hK2 K
                  refine wpAnyIn_ready (rs := [5]) (by kernel_rfl) (by simp) ?_
                  refine AllReadyIn.cons rfl (fun K hK2 => ?_) ?_
                  · skip
                    go_simp
                    refine hK2 _ _ ?_
                    clear hK2 K
                    refine wpAnyIn_ready (rs := [6]) (by kernel_rfl) (by simp) ?_
                    refine AllReadyIn.cons rfl (fun K hK2 => ?_) ?_
                    · skip
                      go_simp
                      refine hK2 _ _ ?_
                      clear hK2 K
                      refine wpAnyIn_done (by kernel_rfl) ?_ _
                      gi_wp2
                      obtain ⟨x1, x2, x3, x4⟩ := HF.out (.slice (some ⟨gr, k * 504, none⟩) 0 0) ⟨k * 504, rfl, fun h => absurd rfl (HO.out h)⟩
                      exact ⟨x1.from _, x2, by rw [hsnoc.out, hlen.out]; exact x3, x4⟩
                    exact AllReadyIn.nil
                  exact AllReadyIn.nil
                exact AllReadyIn.nil
              exact AllReadyIn.nil
            refine AllReadyIn.cons rfl (fun K hK2 => ?_) ?_
            · skip
              go_simp
              refine hK2 _ _ ?_
              clear hK2 K
              refine wpAnyIn_ready (rs := [2]) (by kernel_rfl) (by simp) ?_
              refine AllReadyIn.cons rfl (fun K hK2 => ?_) ?_
              · skip
                go_simp
                refine hK2 _ _ ?_
                clear hK2 K
                refine wpAnyIn_ready (rs := [4]) (by kernel_rfl) (by simp) ?_
                refine AllReadyIn.cons rfl (fun K hK2 => ?_) ?_
                · skip
                  go_simp
                  refine hK2 _ _ ?_
                  clear hK2 K
                  refine wpAnyIn_ready (rs := [5]) (by kernel_rfl) (by simp) ?_
                  refine AllReadyIn.cons rfl (fun K hK2 => ?_) ?_
                  · skip
                    go_simp
                    refine hK2 _ _ ?_
                    clear hK2 K
                    refine wpAnyIn_ready (rs := [6]) (by kernel_rfl) (by simp) ?_
                    refine AllReadyIn.cons rfl (fun K hK2 => ?_) ?_
                    · skip
                      go_simp
                      refine hK2 _ _ ?_
                      clear hK2 K
                      refine wpAnyIn_done (by kernel_rfl) ?_ _
                      gi_wp2
                      obtain ⟨x1, x2, x3, x4⟩ := HF.out (.slice (some ⟨gr, k * 504, none⟩) 0 0) ⟨k * 504, rfl, fun h => absurd rfl (HO.out h)⟩
                      exact ⟨x1.from _, x2, by rw [hsnoc.out, hlen.out]; exact x3, x4⟩
                    exact AllReadyIn.nil
                  exact AllReadyIn.nil
                exact AllReadyIn.nil
              exact AllReadyIn.nil
            exact AllReadyIn.nil
          refine AllReadyIn.cons rfl (fun K hK2 => ?_) ?_
          · skip
            go_simp
            refine hK2 _ _ ?_
            clear hK2 K
            refine wpAnyIn_ready (rs := [1]) (by kernel_rfl) (by simp) ?_
            refine AllReadyIn.cons rfl (fun K hK2 => ?_) ?_
            · skip
              go_simp
              refine hK2 _ _ ?_
              clear hK2 K
              refine wpAnyIn_ready (rs := [2]) (by kernel_rfl) (by simp) ?_
              refine AllReadyIn.cons rfl (fun K hK2 => ?_) ?_
              · skip
                go_simp
                refine hK2 _ _ ?_
                clear hK2 K
                refine wpAnyIn_ready (rs := [4]) (by kernel_rfl) (by simp) ?_
                refine AllReadyIn.cons rfl (fun K hK2 => ?_) ?_
                · skip
                  go_simp
                  refine hK2 _ _ ?_
                  clear hK2 K
                  refine wpAnyIn_ready (rs := [5]) (by kernel_rfl) (by simp) ?_
                  refine AllReadyIn.cons rfl (fun K hK2 => ?_) ?_
                  · skip
                    go_simp
                    refine hK2 _ _ ?_
                    clear hK2 K
                    refine wpAnyIn_ready (rs := [6]) (by kernel_rfl) (by simp) ?_
                    refine AllReadyIn.cons rfl (fun K hK2 => ?_) ?_
                    · skip
                      go_simp
                      refine hK2 _ _ ?_
                      clear hK2 K
                      refine wpAnyIn_done (by kernel_rfl) ?_ _
                      gi_wp2
                      obtain ⟨x1, x2, x3, x4⟩ := HF.out (.slice (some ⟨gr, k * 504, none⟩) 0 0) ⟨k * 504, rfl, fun h => absurd rfl (HO.out h)⟩
                      exact ⟨x1.from _, x2, by rw [hsnoc.out, hlen.out]; exact x3, x4⟩
                    exact AllReadyIn.nil
                  exact AllReadyIn.nil
                exact AllReadyIn.nil
              exact AllReadyIn.nil
            exact AllReadyIn.nil
          exact AllReadyIn.nil
        refine AllReadyIn.cons rfl (fun K hK2 => ?_) ?_
        · skip
          go_simp
          refine hK2 _ _ ?_
          clear hK2 K
          refine wpAnyIn_ready (rs := [0, 2, 3]) (by kernel_rfl) (by simp) ?_
          refine AllReadyIn.cons rfl (fun K hK2 => ?_) ?_
          · skip
            go_simp
            refine hK2 _ _ ?_
            clear hK2 K
            refine wpAnyIn_ready (rs := [2, 3]) (by kernel_rfl) (by simp) ?_
            refine AllReadyIn.cons rfl (fun K hK2 => ?_) ?_
            · skip
              go_simp
              refine hK2 _ _ ?_
              clear hK2 K
              refine wpAnyIn_ready (rs := [3]) (by kernel_rfl) (by simp) ?_
              refine AllReadyIn.cons rfl (fun K hK2 => ?_) ?_
              · skip
                go_simp
                refine hK2 _ _ ?_
                clear hK2 K
                refine wpAnyIn_ready (rs := [4]) (by kernel_rfl) (by simp) ?_
                refine AllReadyIn.cons rfl (fun K hK2 => ?_) ?_
                · skip
                  go_simp
                  refine hK2 _ _ ?_
                  clear hK2 K
                  refine wpAnyIn_ready (rs := [5]) (by kernel_rfl) (by simp) ?_
                  refine AllReadyIn.cons rfl (fun K hK2 => ?_) ?_
                  · skip
                    go_simp
                    refine hK2 _ _ ?_
                    clear hK2 K
                    refine wpAnyIn_ready (rs := [6]) (by kernel_rfl) (by simp) ?_
                    refine AllReadyIn.cons rfl (fun K hK2 => ?_) ?_
                    · skip
                      go_simp
                      refine hK2 _ _ ?_
                      clear hK2 K
                      refine wpAnyIn_done (by kernel_rfl) ?_ _
                      gi_wp2
                      obtain ⟨x1, x2, x3, x4⟩ := HF.out (.slice (some ⟨gr, k * 504, none⟩) 0 0) ⟨k * 504, rfl, fun h => absurd rfl (HO.out h)⟩
                      exact ⟨x1.from _, x2, by rw [hsnoc.out, hlen.out]; exact x3, x4⟩
                    exact AllReadyIn.nil
                  exact AllReadyIn.nil
                exact AllReadyIn.nil
              exact AllReadyIn.nil
            refine AllReadyIn.cons rfl (fun K hK2 => ?_) ?_
            · skip
              go_simp
              refine hK2 _ _ ?_
              clear hK2 K
              refine wpAnyIn_ready (rs := [2]) (by kernel_rfl) (by simp) ?_
              refine AllReadyIn.cons rfl (fun K hK2 => ?_) ?_
              · skip
                go_simp
                refine hK2 _ _ ?_
                clear hK2 K
                refine wpAnyIn_ready (rs := [4]) (by kernel_rfl) (by simp) ?_
                refine AllReadyIn.cons rfl (fun K hK2 => ?_) ?_
                · skip
                  go_simp
                  refine hK2 _ _ ?_
                  clear hK2 K
                  refine wpAnyIn_ready (rs := [5]) (by kernel_rfl) (by simp) ?_
                  refine AllReadyIn.cons rfl (fun K hK2 => ?_) ?_
                  · skip
                    go_simp
                    refine hK2 _ _ ?_
                    clear hK2 K
                    refine wpAnyIn_ready (rs := [6]) (by kernel_rfl) (by simp) ?_
                    refine AllReadyIn.cons rfl (fun K hK2 => ?_) ?_
                    · skip
                      go_simp
                      refine hK2 _ _ ?_
                      clear hK2 K
                      refine wpAnyIn_done (by kernel_rfl) ?_ _
                      gi_wp2
                      obtain ⟨x1, x2, x3, x4⟩ := HF.out (.slice (some ⟨gr, k * 504, none⟩) 0 0) ⟨k * 504, rfl, fun h => absurd rfl (HO.out h)⟩
                      exact ⟨x1.from _, x2, by rw [hsnoc.out, hlen.out]; exact x3, x4⟩
                    exact AllReadyIn.nil
                  exact AllReadyIn.nil
                exact AllReadyIn.nil
              exact AllReadyIn.nil
            exact AllReadyIn.nil
          refine AllReadyIn.cons rfl (fun K hK2 => ?_) ?_
          · skip
            go_simp
            refine hK2 _ _ ?_
            clear hK2 K
            refine wpAnyIn_ready (rs := [0, 3]) (by kernel_rfl) (by simp) ?_
            refine AllReadyIn.cons rfl (fun K hK2 => ?_) ?_
            · skip
              go_simp
              refine hK2 _ _ ?_
              clear hK2 K
              refine wpAnyIn_ready (rs := [3]) (by kernel_rfl) (by simp) ?_
              refine AllReadyIn.cons rfl (fun K hK2 => ?_) ?_
              · skip
                go_simp
                refine hK2 _ _ ?_
                clear hK2 K
                refine wpAnyIn_ready (rs := [4]) (by kernel_rfl) (by simp) ?_
                refine AllReadyIn.cons rfl (fun K hK2 => ?_) ?_
                · skip
                  go_simp
                  refine hK2 _ _ ?_
                  clear hK2 K
                  refine wpAnyIn_ready (rs := [5]) (by kernel_rfl) (by simp) ?_
                  refine AllReadyIn.cons rfl (fun K hK2 => ?_) ?_
                  · skip
                    go_simp
                    refine hK2 _ _ ?_
                    clear hK2 K
                    refine wpAnyIn_ready (rs := [6]) (by kernel_rfl) (by simp) ?_
                    refine AllReadyIn.cons rfl (fun K hK2 => ?_) ?_
                    · skip
                      go_simp
                      refine hK2 _ _ ?_
                      clear hK2 K
                      refine wpAnyIn_done (by kernel_rfl) ?_ _
                      gi_wp2
                      obtain ⟨x1, x2, x3, x4⟩ := HF.out (.slice (some ⟨gr, k * 504, none⟩) 0 0) ⟨k * 504, rfl, fun h => absurd rfl (HO.out h)⟩
                      exact ⟨x1.from _, x2, by rw [hsnoc.out, hlen.out]; exact x3, x4⟩
                    exact AllReadyIn.nil
                  exact AllReadyIn.nil
                exact AllReadyIn.nil
              exact AllReadyIn.nil
            refine AllReadyIn.cons rfl (fun K hK2 => ?_) ?_
            · skip
              go_simp
              refine hK2 _ _ ?_
              clear hK2 K
              refine wpAnyIn_ready (rs := [0, 4]) (by kernel_rfl) (by simp) ?_
              refine AllReadyIn.cons rfl (fun K hK2 => ?_) ?_
              · skip
                go_simp
                refine hK2 _ _ ?_
                clear hK2 K
                refine wpAnyIn_ready (rs := [4]) (by kernel_rfl) (by simp) ?_
                refine AllReadyIn.cons rfl (fun K hK2 => ?_) ?_
                · skip
                  go_simp
                  refine hK2 _ _ ?_
                  clear hK2 K
                  refine wpAnyIn_ready (rs := [5]) (by kernel_rfl) (by simp) ?_
                  refine AllReadyIn.cons rfl (fun K hK2 => ?_) ?_
                  · skip
                    go_simp
                    refine hK2 _ _ ?_
                    clear hK2 K
                    refine wpAnyIn_ready (rs := [6]) (by kernel_rfl) (by simp) ?_
                    refine AllReadyIn.cons rfl (fun K hK2 => ?_) ?_
                    · skip
                      go_simp
                      refine hK2 _ _ ?_
                      clear hK2 K
                      refine wpAnyIn_done (by kernel_rfl) ?_ _
                      gi_wp2
                      obtain ⟨x1, x2, x3, x4⟩ := HF.out (.slice (some ⟨gr, k * 504, none⟩) 0 0) ⟨k * 504, rfl, fun h => absurd rfl (HO.out h)⟩
                      exact ⟨x1.from _, x2, by rw [hsnoc.out, hlen.out]; exact x3, x4⟩
                    exact AllReadyIn.nil
                  exact AllReadyIn.nil
                exact AllReadyIn.nil
              refine AllReadyIn.cons rfl (fun K hK2 => ?_) ?_
              · skip
                go_simp
                refine hK2 _ _ ?_
                clear hK2 K
                refine wpAnyIn_ready (rs := [0]) (by kernel_rfl) (by simp) ?_
                refine AllReadyIn.cons rfl (fun K hK2 => ?_) ?_
                · skip
                  go_simp
                  refine hK2 _ _ ?_
                  clear hK2 K
                  refine wpAnyIn_ready (rs := [5]) (by kernel_rfl) (by simp) ?_
                  refine AllReadyIn.cons rfl (fun K hK2 => ?_) ?_
                  · skip
                    go_simp
                    refine hK2 _ _ ?_
                    clear hK2 K
                    refine wpAnyIn_ready (rs := [6]) (by kernel_rfl) (by simp) ?_
                    refine AllReadyIn.cons rfl (fun K hK2 => ?_) ?_
                    · skip
                      go_simp
                      refine hK2 _ _ ?_
                      clear hK2 K
                      refine wpAnyIn_done (by kernel_rfl) ?_ _
                      gi_wp2
                      obtain ⟨x1, x2, x3, x4⟩ := HF.out (.slice (some ⟨gr, k * 504, none⟩) 0 0) ⟨k * 504, rfl, fun h => absurd rfl (HO.out h)⟩
                      exact ⟨x1.from _, x2, by rw [hsnoc.out, hlen.out]; exact x3, x4⟩
                    exact AllReadyIn.nil
                  exact AllReadyIn.nil
                exact AllReadyIn.nil
              exact AllReadyIn.nil
            exact AllReadyIn.nil
          refine AllReadyIn.cons rfl (fun K hK2 => ?_) ?_
          · skip
            go_simp
            refine hK2 _ _ ?_
            clear hK2 K
            refine wpAnyIn_ready (rs := [0, 2]) (by kernel_rfl) (by simp) ?_
            refine AllReadyIn.cons rfl (fun K hK2 => ?_) ?_
            · skip
              go_simp
              refine hK2 _ _ ?_
              clear hK2 K
              refine wpAnyIn_ready (rs := [2]) (by kernel_rfl) (by simp) ?_
              refine AllReadyIn.cons rfl (fun K hK2 => ?_) ?_
              · skip
                go_simp
                refine hK2 _ _ ?_
                clear hK2 K
                refine wpAnyIn_ready (rs := [4]) (by kernel_rfl) (by simp) ?_
                refine AllReadyIn.cons rfl (fun K hK2 => ?_) ?_
                · skip
                  go_simp
                  refine hK2 _ _ ?_
                  clear hK2 K
                  refine wpAnyIn_ready (rs := [5]) (by kernel_rfl) (by simp) ?_
                  refine AllReadyIn.cons rfl (fun K hK2 => ?_) ?_
                  · skip
                    go_simp
                    refine hK2 _ _ ?_
                    clear hK2 K
                    refine wpAnyIn_ready (rs := [6]) (by kernel_rfl) (by simp) ?_
                    refine AllReadyIn.cons rfl (fun K hK2 => ?_) ?_
                    · skip
                      go_simp
                      refine hK2 _ _ ?_
                      clear hK2 K
                      refine wpAnyIn_done (by kernel_rfl) ?_ _
                      gi_wp2
                      obtain ⟨x1, x2, x3, x4⟩ := HF.out (.slice (some ⟨gr, k * 504, none⟩) 0 0) ⟨k * 504, rfl, fun h => absurd rfl (HO.out h)⟩
                      exact ⟨x1.from _, x2, by rw [hsnoc.out, hlen.out]; exact x3, x4⟩
                    exact AllReadyIn.nil
                  exact AllReadyIn.nil
                exact AllReadyIn.nil
              exact AllReadyIn.nil
            refine AllReadyIn.cons rfl (fun K hK2 => ?_) ?_
            · skip
              go_simp
              refine hK2 _ _ ?_
              clear hK2 K
              refine wpAnyIn_ready (rs := [0, 4]) (by kernel_rfl) (by simp) ?_
              refine AllReadyIn.cons rfl (fun K hK2 => ?_) ?_
              · skip
                go_simp
                refine hK2 _ _ ?_
                clear hK2 K
                refine wpAnyIn_ready (rs := [4]) (by kernel_rfl) (by simp) ?_
                refine AllReadyIn.cons rfl (fun K hK2 => ?_) ?_
                · skip
                  go_simp
                  refine hK2 _ _ ?_
                  clear hK2 K
                  refine wpAnyIn_ready (rs := [5]) (by kernel_rfl) (by simp) ?_
                  refine AllReadyIn.cons rfl (fun K hK2 => ?_) ?_
                  · skip
                    go_simp
                    refine hK2 _ _ ?_
                    clear hK2 K
                    refine wpAnyIn_ready (rs := [6]) (by kernel_rfl) (by simp) ?_
                    refine AllReadyIn.cons rfl (fun K hK2 => ?_) ?_
                    · skip
                      go_simp
                      refine hK2 _ _ ?_
                      clear hK2 K
                      refine wpAnyIn_done (by kernel_rfl) ?_ _
                      gi_wp2
                      obtain ⟨x1, x2, x3, x4⟩ := HF.out (.slice (some ⟨gr, k * 504, none⟩) 0 0) ⟨k * 504, rfl, fun h => absurd rfl (HO.out h)⟩
                      exact ⟨x1.from _, x2, by rw [hsnoc.out, hlen.out]; exact x3, x4⟩
                    exact AllReadyIn.nil
                  exact AllReadyIn.nil
                exact AllReadyIn.nil
              refine AllReadyIn.cons rfl (fun K hK2 => ?_) ?_
              · skip
                go_simp
                refine hK2 _ _ ?_
                clear hK2 K
                refine wpAnyIn_ready (rs := [0]) (by kernel_rfl) (by simp) ?_
                refine AllReadyIn.cons rfl (fun K hK2 => ?_) ?_
                · skip
                  go_simp
                  refine hK2 _ _ ?_
                  clear hK2 K
                  refine wpAnyIn_ready (rs := [5]) (by kernel_rfl) (by simp) ?_
                  refine AllReadyIn.cons rfl (fun K hK2 => ?_) ?_
                  · skip
                    go_simp
                    refine hK2 _ _ ?_
                    clear hK2 K
                    refine wpAnyIn_ready (rs := [6]) (by kernel_rfl) (by simp) ?_
                    refine AllReadyIn.cons rfl (fun K hK2 => ?_) ?_
                    · skip
                      go_simp
                      refine hK2 _ _ ?_
                      clear hK2 K
                      refine wpAnyIn_done (by kernel_rfl) ?_ _
                      gi_wp2
                      obtain ⟨x1, x2, x3, x4⟩ := HF.out (.slice (some ⟨gr, k * 504, none⟩) 0 0) ⟨k * 504, rfl, fun h => absurd rfl (HO.out h)⟩
                      exact ⟨x1.from _, x2, by rw [hsnoc.out, hlen.out]; exact x3, x4⟩
                    exact AllReadyIn.nil
                  exact AllReadyIn.nil
                exact AllReadyIn.nil
              exact AllReadyIn.nil
            exact AllReadyIn.nil
          exact AllReadyIn.nil
        refine AllReadyIn.cons rfl (fun K hK2 => ?_) ?_
        · skip
          go_simp
          refine hK2 _ _ ?_
          clear hK2 K
          refine wpAnyIn_ready (rs := [0, 1]) (by kernel_rfl) (by simp) ?_
          refine AllReadyIn.cons rfl (fun K hK2 => ?_) ?_
          · skip
            go_simp
            refine hK2 _ _ ?_
            clear hK2 K
            refine wpAnyIn_ready (rs := [1]) (by kernel_rfl) (by simp) ?_
            refine AllReadyIn.cons rfl (fun K hK2 => ?_) ?_
            · skip
              go_simp
              refine hK2 _ _ ?_
              clear hK2 K
              refine wpAnyIn_ready (rs := [2]) (by kernel_rfl) (by simp) ?_
              refine AllReadyIn.cons rfl (fun K hK2 => ?_) ?_
              · skip
                go_simp
                refine hK2 _ _ ?_
                clear hK2 K
                refine wpAnyIn_ready (rs := [4]) (by kernel_rfl) (by simp) ?_
                refine AllReadyIn.cons rfl (fun K hK2 => ?_) ?_
                · skip
                  go_simp
                  refine hK2 _ _ ?_
                  clear hK2 K
                  refine wpAnyIn_ready (rs := [5]) (by kernel_rfl) (by simp) ?_
                  refine AllReadyIn.cons rfl (fun K hK2 => ?_) ?_
                  · skip
                    go_simp
                    refine hK2 _ _ ?_
                    clear hK2 K
                    refine wpAnyIn_ready (rs := [6]) (by kernel_rfl) (by simp) ?_
                    refine AllReadyIn.cons rfl (fun K hK2 => ?_) ?_
                    · skip
                      go_simp
                      refine hK2 _ _ ?_
                      clear hK2 K
                      refine wpAnyIn_done (by kernel_rfl) ?_ _
                      gi_wp2
                      obtain ⟨x1, x2, x3, x4⟩ := HF.out (.slice (some ⟨gr, k * 504, none⟩) 0 0) ⟨k * 504, rfl, fun h => absurd rfl (HO.out h)⟩
                      exact ⟨x1.from _, x2, by rw [hsnoc.out, hlen.out]; exact x3, x4⟩
                    exact AllReadyIn.nil
                  exact AllReadyIn.nil
                exact AllReadyIn.nil
              exact AllReadyIn.nil
            exact AllReadyIn.nil
          refine AllReadyIn.cons rfl (fun K hK2 => ?_) ?_
          · skip
            go_simp
            refine hK2 _ _ ?_
            clear hK2 K
            refine wpAnyIn_ready (rs := [0, 2]) (by kernel_rfl) (by simp) ?_
            refine AllReadyIn.cons rfl (fun K hK2 => ?_) ?_
            · skip
              go_simp
              refine hK2 _ _ ?_
              clear hK2 K
              refine wpAnyIn_ready (rs := [2]) (by kernel_rfl) (by simp) ?_
              refine AllReadyIn.cons rfl (fun K hK2 => ?_) ?_
              · skip
                go_simp
                refine hK2 _ _ ?_
                clear hK2 K
                refine wpAnyIn_ready (rs := [4]) (by kernel_rfl) (by simp) ?_
                refine AllReadyIn.cons rfl (fun K hK2 => ?_) ?_
                · skip
                  go_simp
                  refine hK2 _ _ ?_
                  clear hK2 K
                  refine wpAnyIn_ready (rs := [5]) (by kernel_rfl) (by simp) ?_
                  refine AllReadyIn.cons rfl (fun K hK2 => ?_) ?_
                  · skip
                    go_simp
                    refine hK2 _ _ ?_
                    clear hK2 K
                    refine wpAnyIn_ready (rs := [6]) (by kernel_rfl) (by simp) ?_
                    refine AllReadyIn.cons rfl (fun K hK2 => ?_) ?_
                    · skip
                      go_simp
                      refine hK2 _ _ ?_
                      clear hK2 K
                      refine wpAnyIn_done (by kernel_rfl) ?_ _
                      gi_wp2
                      obtain ⟨x1, x2, x3, x4⟩ := HF.out (.slice (some ⟨gr, k * 504, none⟩) 0 0) ⟨k * 504, rfl, fun h => absurd rfl (HO.out h)⟩
                      exact ⟨x1.from _, x2, by rw [hsnoc.out, hlen.out]; exact x3, x4⟩
                    exact AllReadyIn.nil
                  exact AllReadyIn.nil
                exact AllReadyIn.nil
              exact AllReadyIn.nil
            refine AllReadyIn.cons rfl (fun K hK2 => ?_) ?_
            · skip
              go_simp
              refine hK2 _ _ ?_
              clear hK2 K
              refine wpAnyIn_ready (rs := [0, 4]) (by kernel_rfl) (by simp) ?_
              refine AllReadyIn.cons rfl (fun K hK2 => ?_) ?_
              · skip
                go_simp
                refine hK2 _ _ ?_
                clear hK2 K
                refine wpAnyIn_ready (rs := [4]) (by kernel_rfl) (by simp) ?_
                refine AllReadyIn.cons rfl (fun K hK2 => ?_) ?_
                · skip
                  go_simp
                  refine hK2 _ _ ?_
                  clear hK2 K
                  refine wpAnyIn_ready (rs := [5]) (by kernel_rfl) (by simp) ?_
                  refine AllReadyIn.cons rfl (fun K hK2 => ?_) ?_
                  · skip
                    go_simp
                    refine hK2 _ _ ?_
                    clear hK2 K
                    refine wpAnyIn_ready (rs := [6]) (by kernel_rfl) (by simp) ?_
                    refine AllReadyIn.cons rfl (fun K hK2 => ?_) ?_
                    · skip
                      go_simp
                      refine hK2 _ _ ?_
                      clear hK2 K
                      refine wpAnyIn_done (by kernel_rfl) ?_ _
                      gi_wp2
                      obtain ⟨x1, x2, x3, x4⟩ := HF.out (.slice (some ⟨gr, k * 504, none⟩) 0 0) ⟨k * 504, rfl, fun h => absurd rfl (HO.out h)⟩
                      exact ⟨x1.from _, x2, by rw [hsnoc.out, hlen.out]; exact x3, x4⟩
                    exact AllReadyIn.nil
                  exact AllReadyIn.nil
                exact AllReadyIn.nil
              refine AllReadyIn.cons rfl (fun K hK2 => ?_) ?_
              · skip
                go_simp
                refine hK2 _ _ ?_
                clear hK2 K
                refine wpAnyIn_ready (rs := [0]) (by kernel_rfl) (by simp) ?_
                refine AllReadyIn.cons rfl (fun K hK2 => ?_) ?_
                · skip
                  go_simp
                  refine hK2 _ _ ?_
                  clear hK2 K
                  refine wpAnyIn_ready (rs := [5]) (by kernel_rfl) (by simp) ?_
                  refine AllReadyIn.cons rfl (fun K hK2 => ?_) ?_
                  · skip
                    go_simp
                    refine hK2 _ _ ?_
                    clear hK2 K
                    refine wpAnyIn_ready (rs := [6]) (by kernel_rfl) (by simp) ?_
                    refine AllReadyIn.cons rfl (fun K hK2 => ?_) ?_
                    · skip
                      go_simp
                      refine hK2 _ _ ?_
                      clear hK2 K
                      refine wpAnyIn_done (by kernel_rfl) ?_ _
                      gi_wp2
                      obtain ⟨x1, x2, x3, x4⟩ := HF.out (.slice (some ⟨gr, k * 504, none⟩) 0 0) ⟨k * 504, rfl, fun h => absurd rfl (HO.out h)⟩
                      exact ⟨x1.from _, x2, by rw [hsnoc.out, hlen.out]; exact x3, x4⟩
                    exact AllReadyIn.nil
                  exact AllReadyIn.nil
                exact AllReadyIn.nil
              exact AllReadyIn.nil
            exact AllReadyIn.nil
          exact AllReadyIn.nil
        exact AllReadyIn.nil
      · have hC9 : ¬ C = 504 := hC
        have hLi : (504 : Int) ≤ (L : Int) := by omega
        have hLt : (decide ((504 : Int) ≤ (L : Int))) = true := by simp; omega
        gi_wp2_with fail
        refine wpIn_region_any (by kernel_rfl) ?_
        change wpAnyIn _ _ _ _ _ _ _ _ _ (World.drew _)
        refine wpAnyIn_ready (rs := [0, 1, 3]) (by kernel_rfl) (by simp) ?_
        refine AllReadyIn.cons rfl (fun K hK2 => ?_) ?_
        · skip
          go_simp
          refine hK2 _ _ ?_
          clear hK2 K
          refine wpAnyIn_ready (rs := [1, 3]) (by kernel_rfl) (by simp) ?_
          refine AllReadyIn.cons rfl (fun K hK2 => ?_) ?_
          · skip
            go_simp
            refine hK2 _ _ ?_
            clear hK2 K
            refine wpAnyIn_ready (rs := [2, 3]) (by kernel_rfl) (by simp) ?_
            refine AllReadyIn.cons rfl (fun K hK2 => ?_) ?_
            · skip
              go_simp
              refine hK2 _ _ ?_
              clear hK2 K
              refine wpAnyIn_ready (rs := [3]) (by kernel_rfl) (by simp) ?_
              refine AllReadyIn.cons rfl (fun K hK2 => ?_) ?_
              · skip
                go_simp
                refine hK2 _ _ ?_
                clear hK2 K
                refine wpAnyIn_ready (rs := [4]) (by kernel_rfl) (by simp) ?_
                refine AllReadyIn.cons rfl (fun K hK2 => ?_) ?_
                · skip
                  go_simp
                  refine hK2 _ _ ?_
                  clear hK2 K
                  refine wpAnyIn_ready (rs := [5]) (by kernel_rfl) (by simp) ?_
                  refine AllReadyIn.cons rfl (fun K hK2 => ?_) ?_
                  · skip
                    go_simp
                    refine hK2 _ _ ?_
                    clear hK2 K
                    refine wpAnyIn_ready (rs := [6]) (by kernel_rfl) (by simp) ?_
                    refine AllReadyIn.cons rfl (fun K hK2 => ?_) ?_
                    · skip
                      go_simp
                      refine hK2 _ _ ?_
                      clear hK2 K
                      refine wpAnyIn_done (by kernel_rfl) ?_ _
                      gi_wp2
                      obtain ⟨x1, x2, x3, x4⟩ := HF.out (.slice (some ⟨gr, k * 504 + 504, none⟩) (L - 504) (C - 504)) ⟨k * 504 + 504, rfl, fun _ => by omega⟩
                      exact ⟨x1.from _, x2, by rw [hsnoc.out, hlen.out]; exact x3, x4⟩
                    exact AllReadyIn.nil
                  exact AllReadyIn.nil
                exact AllReadyIn.nil
              exact AllReadyIn.nil
            refine AllReadyIn.cons rfl (fun K hK2 => ?_) ?_
            · skip
              go_simp
              refine hK2 _ _ ?_
              clear hK2 K
              refine wpAnyIn_ready (rs := [2]) (by kernel_rfl) (by simp) ?_
              refine AllReadyIn.cons rfl (fun K hK2 => ?_) ?_
              · skip
                go_simp
                refine hK2 _ _ ?_
                clear hK2 K
                refine wpAnyIn_ready (rs := [4]) (by kernel_rfl) (by simp) ?_
                refine AllReadyIn.cons rfl (fun K hK2 => ?_) ?_
                · skip
                  go_simp
                  refine hK2 _ _ ?_
                  clear hK2 K
                  refine wpAnyIn_ready (rs := [5]) (by kernel_rfl) (by simp) ?_
                  refine AllReadyIn.cons rfl (fun K hK2 => ?_) ?_
                  · skip
                    go_simp
                    refine hK2 _ _ ?_
                    clear hK2 K
                    refine wpAnyIn_ready (rs := [6]) (by kernel_rfl) (by simp) ?_
                    refine AllReadyIn.cons rfl (fun K hK2 => ?_) ?_
                    · skip
                      go_simp
                      refine hK2 _ _ ?_
                      clear hK2 K
                      refine wpAnyIn_done (by kernel_rfl) ?_ _
                      gi_wp2
                      obtain ⟨x1, x2, x3, x4⟩ := HF.out (.slice (some ⟨gr, k * 504 + 504, none⟩) (L - 504) (C - 504)) ⟨k * 504 + 504, rfl, fun _ => by omega⟩
                      exact ⟨x1.from _, x2, by rw [hsnoc.out, hlen.out]; exact x3, x4⟩
                    exact AllReadyIn.nil
                  exact AllReadyIn.nil
                exact AllReadyIn.nil
              exact AllReadyIn.nil
            exact AllReadyIn.nil
          refine AllReadyIn.cons rfl (fun K hK2 => ?_) ?_
          · skip
            go_simp
            refine hK2 _ _ ?_
            clear hK2 K
            refine wpAnyIn_ready (rs := [1]) (by kernel_rfl) (by simp) ?_
            refine AllReadyIn.cons rfl (fun K hK2 => ?_) ?_
            · skip
              go_simp
              refine hK2 _ _ ?_
              clear hK2 K
              refine wpAnyIn_ready (rs := [2]) (by kernel_rfl) (by simp) ?_
              refine AllReadyIn.cons rfl (fun K hK2 => ?_) ?_
              · skip
                go_simp
                refine hK2 _ _ ?_
                clear hK2 K
                refine wpAnyIn_ready (rs := [4]) (by kernel_rfl) (by simp) ?_
                refine AllReadyIn.cons rfl (fun K hK2 => ?_) ?_
                · skip
                  go_simp
                  refine hK2 _ _ ?_
                  clear hK2 K
                  refine wpAnyIn_ready (rs := [5]) (by kernel_rfl) (by simp) ?_
                  refine AllReadyIn.cons rfl (fun K hK2 => ?_) ?_
                  · skip
                    go_simp
                    refine hK2 _ _ ?_
                    clear hK2 K
                    refine wpAnyIn_ready (rs := [6]) (by kernel_rfl) (by simp) ?_
                    refine AllReadyIn.cons rfl (fun K hK2 => ?_) ?_
                    · skip
                      go_simp
                      refine hK2 _ _ ?_
                      clear hK2 K
                      refine wpAnyIn_done (by kernel_rfl) ?_ _
                      gi_wp2
                      obtain ⟨x1, x2, x3, x4⟩ := HF.out (.slice (some ⟨gr, k * 504 + 504, none⟩) (L - 504) (C - 504)) ⟨k * 504 + 504, rfl, fun _ => by omega⟩
                      exact ⟨x1.from _, x2, by rw [hsnoc.out, hlen.out]; exact x3, x4⟩
                    exact AllReadyIn.nil
                  exact AllReadyIn.nil
                exact AllReadyIn.nil
              exact AllReadyIn.nil
            exact AllReadyIn.nil
          exact AllReadyIn.nil
        refine AllReadyIn.cons rfl (fun K hK2 => ?_) ?_
        · skip
          go_simp
          refine hK2 _ _ ?_
          clear hK2 K
          refine wpAnyIn_ready (rs := [0, 2, 3]) (by kernel_rfl) (by simp) ?_
          refine AllReadyIn.cons rfl (fun K hK2 => ?_) ?_
          · skip
            go_simp
            refine hK2 _ _ ?_
            clear hK2 K
            refine wpAnyIn_ready (rs := [2, 3]) (by kernel_rfl) (by simp) ?_
            refine AllReadyIn.cons rfl (fun K hK2 => ?_) ?_
            · skip
              go_simp
              refine hK2 _ _ ?_
              clear hK2 K
              refine wpAnyIn_ready (rs := [3]) (by kernel_rfl) (by simp) ?_
              refine AllReadyIn.cons rfl (fun K hK2 => ?_) ?_
              · skip
                go_simp
                refine hK2 _ _ ?_
                clear hK2 K
                refine wpAnyIn_ready (rs := [4]) (by kernel_rfl) (by simp) ?_
                refine AllReadyIn.cons rfl (fun K hK2 => ?_) ?_
                · skip
                  go_simp
                  refine hK2 _ _ ?_
                  clear hK2 K
                  refine wpAnyIn_ready (rs := [5]) (by kernel_rfl) (by simp) ?_
                  refine AllReadyIn.cons rfl (fun K hK2 => ?_) ?_
                  · skip
                    go_simp
                    refine hK2 _ _ ?_
                    clear hK2 K
                    refine wpAnyIn_ready (rs := [6]) (by kernel_rfl) (by simp) ?_
                    refine AllReadyIn.cons rfl (fun K hK2 => ?_) ?_
                    · skip
                      go_simp
                      refine hK2 _ _ ?_
                      clear hK2 K
                      refine wpAnyIn_done (by kernel_rfl) ?_ _
                      gi_wp2
                      obtain ⟨x1, x2, x3, x4⟩ := HF.out (.slice (some ⟨gr, k * 504 + 504, none⟩) (L - 504) (C - 504)) ⟨k * 504 + 504, rfl, fun _ => by omega⟩
                      exact ⟨x1.from _, x2, by rw [hsnoc.out, hlen.out]; exact x3, x4⟩
                    exact AllReadyIn.nil
                  exact AllReadyIn.nil
                exact AllReadyIn.nil
              exact AllReadyIn.nil
            refine AllReadyIn.cons rfl (fun K hK2 => ?_) ?_
            · skip
              go_simp
              refine hK2 _ _ ?_
              clear hK2 K
              refine wpAnyIn_ready (rs := [2]) (by kernel_rfl) (by simp) ?_
              refine AllReadyIn.cons rfl (fun K hK2 => ?_) ?_
              · skip
                go_simp
                refine hK2 _ _ ?_
                clear hK2 K
                refine wpAnyIn_ready (rs := [4]) (by kernel_rfl) (by simp) ?_
                refine AllReadyIn.cons rfl (fun K hK2 => ?_) ?_
                · skip
                  go_simp
                  refine hK2 _ _ ?_
                  clear hK2 K
                  refine wpAnyIn_ready (rs := [5]) (by kernel_rfl) (by simp) ?_
                  refine AllReadyIn.cons rfl (fun K hK2 => ?_) ?_
                  · skip
                    go_simp
                    refine hK2 _ _ ?_
                    clear hK2 K
                    refine wpAnyIn_ready (rs := [6]) (by kernel_rfl) (by simp) ?_
                    refine AllReadyIn.cons rfl (fun K hK2 => ?_) ?_
                    · skip
                      go_simp
                      refine hK2 _ _ ?_
                      clear hK2 K
                      refine wpAnyIn_done (by kernel_rfl) ?_ _
                      gi_wp2
                      obtain ⟨x1, x2, x3, x4⟩ := HF.out (.slice (some ⟨gr, k * 504 + 504, none⟩) (L - 504) (C - 504)) ⟨k * 504 + 504, rfl, fun _ => by omega⟩
                      exact ⟨x1.from _, x2, by rw [hsnoc.out, hlen.out]; exact x3, x4⟩
                    exact AllReadyIn.nil
                  exact AllReadyIn.nil
                exact AllReadyIn.nil
              exact AllReadyIn.nil
            exact AllReadyIn.nil
          refine AllReadyIn.cons rfl (fun K hK2 => ?_) ?_
          · skip
            go_simp
            refine hK2 _ _ ?_
            clear hK2 K
            refine wpAnyIn_ready (rs := [0, 3]) (by kernel_rfl) (by simp) ?_
            refine AllReadyIn.cons rfl (fun K hK2 => ?_) ?_
            · skip
              go_simp
              refine hK2 _ _ ?_
              clear hK2 K
              refine wpAnyIn_ready (rs := [3]) (by kernel_rfl) (by simp) ?_
              refine AllReadyIn.cons rfl (fun K hK2 => ?_) ?_
              · skip
                go_simp
                refine hK2 _ _ ?_
                clear hK2 K
                refine wpAnyIn_ready (rs := [4]) (by kernel_rfl) (by simp) ?_
                refine AllReadyIn.cons rfl (fun K hK2 => ?_) ?_
                · skip
                  go_simp
                  refine hK2 _ _ ?_
                  clear hK2 K
                  refine wpAnyIn_ready (rs := [5]) (by kernel_rfl) (by simp) ?_
                  refine AllReadyIn.cons rfl (fun K hK2 => ?_) ?_
                  · skip
                    go_simp
                    refine hK2 _ _ ?_
                    clear hK2 K
                    refine wpAnyIn_ready (rs := [6]) (by kernel_rfl) (by simp) ?_
                    refine AllReadyIn.cons rfl (fun K hK2 => ?_) ?_
                    · skip
                      go_simp
                      refine hK2 _ _ ?_
                      clear hK2 K
                      refine wpAnyIn_done (by kernel_rfl) ?_ _
                      gi_wp2
                      obtain ⟨x1, x2, x3, x4⟩ := HF.out (.slice (some ⟨gr, k * 504 + 504, none⟩) (L - 504) (C - 504)) ⟨k * 504 + 504, rfl, fun _ => by omega⟩
                      exact ⟨x1.from _, x2, by rw [hsnoc.out, hlen.out]; exact x3, x4⟩
                    exact AllReadyIn.nil
                  exact AllReadyIn.nil
                exact AllReadyIn.nil
              exact AllReadyIn.nil
            refine AllReadyIn.cons rfl (fun K hK2 => ?_) ?_
            · skip
              go_simp
              refine hK2 _ _ ?_
              clear hK2 K
              refine wpAnyIn_ready (rs := [0, 4]) (by kernel_rfl) (by simp) ?_
              refine AllReadyIn.cons rfl (fun K hK2 => ?_) ?_
              · skip
                go_simp
                refine hK2 _ _ ?_
                clear hK2 K
                refine wpAnyIn_ready (rs := [4]) (by kernel_rfl) (by simp) ?_
                refine AllReadyIn.cons rfl (fun K hK2 => ?_) ?_
                · skip
                  go_simp
                  refine hK2 _ _ ?_
                  clear hK2 K
                  refine wpAnyIn_ready (rs := [5]) (by kernel_rfl) (by simp) ?_
                  refine AllReadyIn.cons rfl (fun K hK2 => ?_) ?_
                  · skip
                    go_simp
                    refine hK2 _ _ ?_
                    clear hK2 K
                    refine wpAnyIn_ready (rs := [6]) (by kernel_rfl) (by simp) ?_
                    refine AllReadyIn.cons rfl (fun K hK2 => ?_) ?_
                    · skip
                      go_simp
                      refine hK2 _ _ ?_
                      clear hK2 K
                      refine wpAnyIn_done (by kernel_rfl) ?_ _
                      gi_wp2
                      obtain ⟨x1, x2, x3, x4⟩ := HF.out (.slice (some ⟨gr, k * 504 + 504, none⟩) (L - 504) (C - 504)) ⟨k * 504 + 504, rfl, fun _ => by omega⟩
                      exact ⟨x1.from _, x2, by rw [hsnoc.out, hlen.out]; exact x3, x4⟩
                    exact AllReadyIn.nil
                  exact AllReadyIn.nil
                exact AllReadyIn.nil
              refine AllReadyIn.cons rfl (fun K hK2 => ?_) ?_
              · skip
                go_simp
                refine hK2 _ _ ?_
                clear hK2 K
                refine wpAnyIn_ready (rs := [0]) (by kernel_rfl) (by simp) ?_
                refine AllReadyIn.cons rfl (fun K hK2 => ?_) ?_
                · skip
                  go_simp
                  refine hK2 _ _ ?_
                  clear hK2 K
                  refine wpAnyIn_ready (rs := [5]) (by kernel_rfl) (by simp) ?_
                  refine AllReadyIn.cons rfl (fun K hK2 => ?_) ?_
                  · skip
                    go_simp
                    refine hK2 _ _ ?_
                    clear hK2 K
                    refine wpAnyIn_ready (rs := [6]) (by kernel_rfl) (by simp) ?_
                    refine AllReadyIn.cons rfl (fun K hK2 => ?_) ?_
                    · skip
                      go_simp
                      refine hK2 _ _ ?_
                      clear hK2 K
                      refine wpAnyIn_done (by kernel_rfl) ?_ _
                      gi_wp2
                      obtain ⟨x1, x2, x3, x4⟩ := HF.out (.slice (some ⟨gr, k * 504 + 504, none⟩) (L - 504) (C - 504)) ⟨k * 504 + 504, rfl, fun _ => by omega⟩
                      exact ⟨x1.from _, x2, by rw [hsnoc.out, hlen.out]; exact x3, x4⟩
                    exact AllReadyIn.nil
                  exact AllReadyIn.nil
                exact AllReadyIn.nil
              exact AllReadyIn.nil
            exact AllReadyIn.nil
          refine AllReadyIn.cons rfl (fun K hK2 => ?_) ?_
          · skip
            go_simp
            refine hK2 _ _ ?_
            clear hK2 K
            refine wpAnyIn_ready (rs := [0, 2]) (by kernel_rfl) (by simp) ?_
            refine AllReadyIn.cons rfl (fun K hK2 => ?_) ?_
            · skip
              go_simp
              refine hK2 _ _ ?_
              clear hK2 K
              refine wpAnyIn_ready (rs := [2]) (by kernel_rfl) (by simp) ?_
              refine AllReadyIn.cons rfl (fun K hK2 => ?_) ?_
              · skip
                go_simp
                refine hK2 _ _ ?_
                clear hK2 K
                refine wpAnyIn_ready (rs := [4]) (by kernel_rfl) (by simp) ?_
                refine AllReadyIn.cons rfl (fun K hK2 => ?_) ?_
                · skip
                  go_simp
                  refine hK2 _ _ ?_
                  clear hK2 K
                  refine wpAnyIn_ready (rs := [5]) (by kernel_rfl) (by simp) ?_
                  refine AllReadyIn.cons rfl (fun K hK2 => ?_) ?_
                  · skip
                    go_simp
                    refine hK2 _ _ ?_
                    clear hK2 K
                    refine wpAnyIn_ready (rs := [6]) (by kernel_rfl) (by simp) ?_
                    refine AllReadyIn.cons rfl (fun K hK2 => ?_) ?_
                    · skip
                      go_simp
                      refine hK2 _ _ ?_
                      clear hK2 K
                      refine wpAnyIn_done (by kernel_rfl) ?_ _
                      gi_wp2
                      obtain ⟨x1, x2, x3, x4⟩ := HF.out (.slice (some ⟨gr, k * 504 + 504, none⟩) (L - 504) (C - 504)) ⟨k * 504 + 504, rfl, fun _ => by omega⟩
                      exact ⟨x1.from _, x2, by rw [hsnoc.out, hlen.out]; exact x3, x4⟩
                    exact AllReadyIn.nil
                  exact AllReadyIn.nil
                exact AllReadyIn.nil
              exact AllReadyIn.nil
            refine AllReadyIn.cons rfl (fun K hK2 => ?_) ?_
            · skip
              go_simp
              refine hK2 _ _ ?_
              clear hK2 K
              refine wpAnyIn_ready (rs := [0, 4]) (by kernel_rfl) (by simp) ?_
              refine AllReadyIn.cons rfl (fun K hK2 => ?_) ?_
              · skip
                go_simp
                refine hK2 _ _ ?_
                clear hK2 K
                refine wpAnyIn_ready (rs := [4]) (by kernel_rfl) (by simp) ?_
                refine AllReadyIn.cons rfl (fun K hK2 => ?_) ?_
                · skip
                  go_simp
                  refine hK2 _ _ ?_
                  clear hK2 K
                  refine wpAnyIn_ready (rs := [5]) (by kernel_rfl) (by simp) ?_
                  refine AllReadyIn.cons rfl (fun K hK2 => ?_) ?_
                  · skip
                    go_simp
                    refine hK2 _ _ ?_
                    clear hK2 K
                    refine wpAnyIn_ready (rs := [6]) (by kernel_rfl) (by simp) ?_
                    refine AllReadyIn.cons rfl (fun K hK2 => ?_) ?_
                    · skip
                      go_simp
                      refine hK2 _ _ ?_
                      clear hK2 K
                      refine wpAnyIn_done (by kernel_rfl) ?_ _
                      gi_wp2
                      obtain ⟨x1, x2, x3, x4⟩ := HF.out (.slice (some ⟨gr, k * 504 + 504, none⟩) (L - 504) (C - 504)) ⟨k * 504 + 504, rfl, fun _ => by omega⟩
                      exact ⟨x1.from _, x2, by rw [hsnoc.out, hlen.out]; exact x3, x4⟩
                    exact AllReadyIn.nil
                  exact AllReadyIn.nil
                exact AllReadyIn.nil
              refine AllReadyIn.cons rfl (fun K hK2 => ?_) ?_
              · skip
                go_simp
                refine hK2 _ _ ?_
                clear hK2 K
                refine wpAnyIn_ready (rs := [0]) (by kernel_rfl) (by simp) ?_
                refine AllReadyIn.cons rfl (fun K hK2 => ?_) ?_
                · skip
                  go_simp
                  refine hK2 _ _ ?_
                  clear hK2 K
                  refine wpAnyIn_ready (rs := [5]) (by kernel_rfl) (by simp) ?_
                  refine AllReadyIn.cons rfl (fun K hK2 => ?_) ?_
                  · skip
                    go_simp
                    refine hK2 _ _ ?_
                    clear hK2 K
                    refine wpAnyIn_ready (rs := [6]) (by kernel_rfl) (by simp) ?_
                    refine AllReadyIn.cons rfl (fun K hK2 => ?_) ?_
                    · skip
                      go_simp
                      refine hK2 _ _ ?_
                      clear hK2 K
                      refine wpAnyIn_done (by kernel_rfl) ?_ _
                      gi_wp2
                      obtain ⟨x1, x2, x3, x4⟩ := HF.out (.slice (some ⟨gr, k * 504 + 504, none⟩) (L - 504) (C - 504)) ⟨k * 504 + 504, rfl, fun _ => by omega⟩
                      exact ⟨x1.from _, x2, by rw [hsnoc.out, hlen.out]; exact x3, x4⟩
                    exact AllReadyIn.nil
                  exact AllReadyIn.nil
                exact AllReadyIn.nil
              exact AllReadyIn.nil
            exact AllReadyIn.nil
          exact AllReadyIn.nil
        refine AllReadyIn.cons rfl (fun K hK2 => ?_) ?_
        · skip
          go_simp
          refine hK2 _ _ ?_
          clear hK2 K
          refine wpAnyIn_ready (rs := [0, 1]) (by kernel_rfl) (by simp) ?_
          refine AllReadyIn.cons rfl (fun K hK2 => ?_) ?_
          · skip
            go_simp
            refine hK2 _ _ ?_
            clear hK2 K
            refine wpAnyIn_ready (rs := [1]) (by kernel_rfl) (by simp) ?_
            refine AllReadyIn.cons rfl (fun K hK2 => ?_) ?_
            · skip
              go_simp
              refine hK2 _ _ ?_
              clear hK2 K
              refine wpAnyIn_ready (rs := [2]) (by kernel_rfl) (by simp) ?_
              refine AllReadyIn.cons rfl (fun K hK2 => ?_) ?_
              · skip
                go_simp
                refine hK2 _ _ ?_
                clear hK2 K
                refine wpAnyIn_ready (rs := [4]) (by kernel_rfl) (by simp) ?_
                refine AllReadyIn.cons rfl (fun K hK2 => ?_) ?_
                · skip
                  go_simp
                  refine hK2 _ _ ?_
                  clear hK2 K
                  refine wpAnyIn_ready (rs := [5]) (by kernel_rfl) (by simp) ?_
                  refine AllReadyIn.cons rfl (fun K hK2 => ?_) ?_
                  · skip
                    go_simp
                    refine hK2 _ _ ?_
                    clear hK2 K
                    refine wpAnyIn_ready (rs := [6]) (by kernel_rfl) (by simp) ?_
                    refine AllReadyIn.cons rfl (fun K hK2 => ?_) ?_
                    · skip
                      go_simp
                      refine hK2 _ _ ?_
                      clear hK2 K
                      refine wpAnyIn_done (by kernel_rfl) ?_ _
                      gi_wp2
                      obtain ⟨x1, x2, x3, x4⟩ := HF.out (.slice (some ⟨gr, k * 504 + 504, none⟩) (L - 504) (C - 504)) ⟨k * 504 + 504, rfl, fun _ => by omega⟩
                      exact ⟨x1.from _, x2, by rw [hsnoc.out, hlen.out]; exact x3, x4⟩
                    exact AllReadyIn.nil
                  exact AllReadyIn.nil
                exact AllReadyIn.nil
              exact AllReadyIn.nil
            exact AllReadyIn.nil
          refine AllReadyIn.cons rfl (fun K hK2 => ?_) ?_
          · skip
            go_simp
            refine hK2 _ _ ?_
            clear hK2 K
            refine wpAnyIn_ready (rs := [0, 2]) (by kernel_rfl) (by simp) ?_
            refine AllReadyIn.cons rfl (fun K hK2 => ?_) ?_
            · skip
              go_simp
              refine hK2 _ _ ?_
              clear hK2 K
              refine wpAnyIn_ready (rs := [2]) (by kernel_rfl) (by simp) ?_
              refine AllReadyIn.cons rfl (fun K hK2 => ?_) ?_
              · skip
                go_simp
                refine hK2 _ _ ?_
                clear hK2 K
                refine wpAnyIn_ready (rs := [4]) (by kernel_rfl) (by simp) ?_
                refine AllReadyIn.cons rfl (fun K hK2 => ?_) ?_
                · skip
                  go_simp
                  refine hK2 _ _ ?_
                  clear hK2 K
                  refine wpAnyIn_ready (rs := [5]) (by kernel_rfl) (by simp) ?_
                  refine AllReadyIn.cons rfl (fun K hK2 => ?_) ?_
                  · skip
                    go_simp
                    refine hK2 _ _ ?_
                    clear hK2 K
                    refine wpAnyIn_ready (rs := [6]) (by kernel_rfl) (by simp) ?_
                    refine AllReadyIn.cons rfl (fun K hK2 => ?_) ?_
                    · skip
                      go_simp
                      refine hK2 _ _ ?_
                      clear hK2 K
                      refine wpAnyIn_done (by kernel_rfl) ?_ _
                      gi_wp2
                      obtain ⟨x1, x2, x3, x4⟩ := HF.out (.slice (some ⟨gr, k * 504 + 504, none⟩) (L - 504) (C - 504)) ⟨k * 504 + 504, rfl, fun _ => by omega⟩
                      exact ⟨x1.from _, x2, by rw [hsnoc.out, hlen.out]; exact x3, x4⟩
                    exact AllReadyIn.nil
                  exact AllReadyIn.nil
                exact AllReadyIn.nil
              exact AllReadyIn.nil
            refine AllReadyIn.cons rfl (fun K hK2 => ?_) ?_
            · skip
              go_simp
              refine hK2 _ _ ?_
              clear hK2 K
              refine wpAnyIn_ready (rs := [0, 4]) (by kernel_rfl) (by simp) ?_
              refine AllReadyIn.cons rfl (fun K hK2 => ?_) ?_
              · skip
                go_simp
                refine hK2 _ _ ?_
                clear hK2 K
                refine wpAnyIn_ready (rs := [4]) (by kernel_rfl) (by simp) ?_
                refine AllReadyIn.cons rfl (fun K hK2 => ?_) ?_
                · skip
                  go_simp
                  refine hK2 _ _ ?_
                  clear hK2 K
                  refine wpAnyIn_ready (rs := [5]) (by kernel_rfl) (by simp) ?_
                  refine AllReadyIn.cons rfl (fun K hK2 => ?_) ?_
                  · skip
                    go_simp
                    refine hK2 _ _ ?_
                    clear hK2 K
                    refine wpAnyIn_ready (rs := [6]) (by kernel_rfl) (by simp) ?_
                    refine AllReadyIn.cons rfl (fun K hK2 => ?_) ?_
                    · skip
                      go_simp
                      refine hK2 _ _ ?_
                      clear hK2 K
                      refine wpAnyIn_done (by kernel_rfl) ?_ _
                      gi_wp2
                      obtain ⟨x1, x2, x3, x4⟩ := HF.out (.slice (some ⟨gr, k * 504 + 504, none⟩) (L - 504) (C - 504)) ⟨k * 504 + 504, rfl, fun _ => by omega⟩
                      exact ⟨x1.from _, x2, by rw [hsnoc.out, hlen.out]; exact x3, x4⟩
                    exact AllReadyIn.nil
                  exact AllReadyIn.nil
                exact AllReadyIn.nil
              refine AllReadyIn.cons rfl (fun K hK2 => ?_) ?_
              · skip
                go_simp
                refine hK2 _ _ ?_
                clear hK2 K
                refine wpAnyIn_ready (rs := [0]) (by kernel_rfl) (by simp) ?_
                refine AllReadyIn.cons rfl (fun K hK2 => ?_) ?_
                · skip
                  go_simp
                  refine hK2 _ _ ?_
                  clear hK2 K
                  refine wpAnyIn_ready (rs := [5]) (by kernel_rfl) (by simp) ?_
                  refine AllReadyIn.cons rfl (fun K hK2 => ?_) ?_
                  · skip
                    go_simp
                    refine hK2 _ _ ?_
                    clear hK2 K
                    refine wpAnyIn_ready (rs := [6]) (by kernel_rfl) (by simp) ?_
                    refine AllReadyIn.cons rfl (fun K hK2 => ?_) ?_
                    · skip
                      go_simp
                      refine hK2 _ _ ?_
                      clear hK2 K
                      refine wpAnyIn_done (by kernel_rfl) ?_ _
                      gi_wp2
                      obtain ⟨x1, x2, x3, x4⟩ := HF.out (.slice (some ⟨gr, k * 504 + 504, none⟩) (L - 504) (C - 504)) ⟨k * 504 + 504, rfl, fun _ => by omega⟩
                      exact ⟨x1.from _, x2, by rw [hsnoc.out, hlen.out]; exact x3, x4⟩
                    exact AllReadyIn.nil
                  exact AllReadyIn.nil
                exact AllReadyIn.nil
              exact AllReadyIn.nil
            exact AllReadyIn.nil
          exact AllReadyIn.nil
        exact AllReadyIn.nil
    case done =>
      rintro D' ys W hD rfl ⟨hI, hB⟩ hK
      gi_wp2
      refine ⟨by simp, .inl ⟨_, _, rfl, run_takeDeferred hK, ?_⟩⟩
      exact ⟨_, by simp [results, Tryz.f198, go_sem], _, rfl, Nat.le_succ _, by rw [← HZ.out, ← HM.out, ← HBB.out]; exact hI.1.kept (grownBy_putObj' _ D' (.deferred none)) (fun r e => by cases e; exact ⟨_, hK, rfl⟩), hB.trans (belowK_b (w := w) (Nat.le_refl _) _ D' _ _ (by omega) hK rfl rfl)⟩
    case stop =>
      rintro D' c pre W hD _ ⟨hf, _⟩ hK
      exact hf.elim
end Go.Proofs.YtnldkpckojhbhaaGreat.Rc

/-
  hide.
-/
namespace Go.Proofs.YtnldkpckojhbhaaGreat.Rc
open Go.RowKit Go.Shelf
attribute [local go_sem] Oper.semAt_some

set_option maxRecDepth 100000 in
set_option maxHeartbeats 4000000 in
theorem hide_in (g o cap gm : Nat) (xs M : List UInt8) (w : World) (hl : xs.length = 4096) (hr : Rd w (some ⟨g, o, none⟩) xs) (hml : M.length = 8) (hM : Rd w (some ⟨gm, 0, none⟩) M) :
    Calls Tryz.prog 196 #[.slice (some ⟨g, o, none⟩) 4096 cap, .slice (some ⟨gm, 0, none⟩) 8 8] w fun r w' => ∃ h c v, r = .returned (.tuple #[.slice (some ⟨h, 0, none⟩) 4096 c, v]) ∧ w.heap.size ≤ h ∧
      RowB w' h c (hideTo xs M (List.finRange 8)).1 ∧ w'.ownsRow (h + 1) 5 1 v 64 (bcs (hideTo xs M (List.finRange 8)).2) ∧ Below w.heap.size w w' := by
  refine (callsIn_wide (n := 3)).1 ?_
  have c1 : ∀ u, Below w.heap.size w u → _ := fun u hb => clone_at cap 4096 g o xs u hl (by omega) (by omega) (hr.below hb (Nat.le_refl _))
  refine callsIn_of_wp_marks Tryz.func196 rfl trivial ?_ rfl
  simp only [Tryz.ntmps196, List.size_toArray, List.length_cons, List.length_nil, Nat.reduceAdd, Nat.reduceSub, Array.replicate_succ, Array.replicate_zero, List.push_toArray, List.append_toArray, List.nil_append, List.cons_append]
  gi_wp2_with fail
  refine ⟨trivial, ?_⟩
  refine ((callsIn_wide (n := 2)).2 (c1 _ (((Below.refl _ w).alloc (Nat.le_refl _) _).alloc (by simp) _))).mono ?_
  rintro r w1 ⟨h, c, rfl, hh, hrow, hb1⟩
  gi_wp2_with fail
  refine ⟨trivial, ?_⟩
  refine (sectors_in 2 _ _ _ _).mono ?_
  rintro r w' ⟨rfl, rfl⟩
  gi_wp2_with fail
  have bN := Box.new w #[.slice (some ⟨gm, 0, none⟩) 8 8] 37
  have bR := Box.new (w.alloc (.cells #[.slice (some ⟨gm, 0, none⟩) 8 8] 37)) #[.slice none 0 0] 37
  have s1 : (w.alloc (.cells #[.slice (some ⟨gm, 0, none⟩) 8 8] 37)).heap.size = w.heap.size + 1 := by simp
  have s2 : ((w.alloc (.cells #[.slice (some ⟨gm, 0, none⟩) 8 8] 37)).alloc (.cells #[.slice none 0 0] 37)).heap.size = w.heap.size + 2 := by simp
  rw [s1] at bR
  rw [s2] at hh hb1
  have B0 := ((Below.refl w.heap.size w).alloc (Nat.le_refl _) (.cells #[.slice (some ⟨gm, 0, none⟩) 8 8] 37)).alloc (by simp) (.cells #[.slice none 0 0] 37)
  have B1 : Below w.heap.size w w1 := B0.trans (hb1.mono (by omega))
  have bN1 : Box w1 w.heap.size #[.slice (some ⟨gm, 0, none⟩) 8 8] 37 := (hb1.block _ (by omega)).trans (bN.alloc _)
  have bR1 : Box w1 (w.heap.size + 1) #[.slice none 0 0] 37 := (hb1.block _ (by omega)).trans bR
  have hlt := hrow.lt
  have hcm : 4096 ≤ c ∧ c ≤ 9223372036854775807 := by
    obtain ⟨cur, _, q1, q2, _⟩ := hrow
    unfold maxLen at q2
    omega
  have bS := Box.new w1 #[.slice (some ⟨h, 0, none⟩) 4096 c] 37
  have bN2 := bN1.alloc (.cells #[.slice (some ⟨h, 0, none⟩) 4096 c] 37)
  have bR2 := bR1.alloc (.cells #[.slice (some ⟨h, 0, none⟩) 4096 c] 37)
  have rw2 : RowB (w1.alloc (.cells #[.slice (some ⟨h, 0, none⟩) 4096 c] 37)) h c xs := hrow.same (Below.heap_alloc w1 _ h hlt)
  have B2 := B1.alloc B1.size (.cells #[.slice (some ⟨h, 0, none⟩) 4096 c] 37)
  obtain ⟨W0, hW0⟩ : ∃ W, W = w1.alloc (.cells #[.slice (some ⟨h, 0, none⟩) 4096 c] 37) := ⟨_, rfl⟩
  have s3 : W0.heap.size = w1.heap.size + 1 := by rw [hW0]; simp
  rw [← hW0] at bS bN2 bR2 rw2 B2 ⊢
  clear hW0 bN bR s1 s2 B0 hb1 bN1 bR1 hrow
  obtain ⟨k1, hk1⟩ : ∃ k, k = w1.heap.size := ⟨_, rfl⟩
  rw [← hk1] at bS s3 hlt ⊢
  clear hk1 B1 c1
  have hs3 : k1 + 1 ≤ W0.heap.size := by omega
  have hs4 : w.heap.size < W0.heap.size := by omega
  have S3 : Hid _ := s3
  clear s3
  have HML : Hid _ := hml
  have HL : Hid _ := hl
  clear hml hl
  have Hh : Hid _ := hh
  clear hh
  obtain ⟨hc1, hc2⟩ := hcm
  refine wpIn_rangeFunc_ownH (α := Fin 8) rfl (by omega) (gf := 268) (lb := #[.pointer (some ⟨k1, 0, none⟩)]) rfl trivial (enters_of Tryz.func268 (by kernel_rfl) rfl)
    (sect_stops (3 - 1) (by omega) k1 h 0 c hc1 hc2 W0 (by omega) (bS.cell 0)) cellK_t (cellK_b (by omega)) (Below.refl _ _) (fun _ => rfl)
    (fun pre W => HideI w h c gm k1 (hideTo xs M pre) W ∧ Below w.heap.size w W)
    (fun c _ W => False ∧ Below w.heap.size w W)
    (OwnFrom.and (Own.from (fun s A B row hs hg hr => by
      obtain ⟨a1, ⟨v, a2, a3⟩, a4, a5⟩ := hs
      exact ⟨a1.kept hg hr, ⟨v, a2.kept hg hr, owns_kept a3 hg hr⟩, a4.kept hg hr, Nat.le_trans a5 hg.size⟩) _) (ownFrom_below (Nat.le_refl _) (by omega)))
    (fun c => OwnFrom.and (Own.from (fun s A B row hs hg hr => hs) _) (ownFrom_below (Nat.le_refl _) (by omega)))
    ⟨⟨rw2, ⟨_, bR2, World.ownsRow_nil _ _ _ _⟩, bN2, hs3⟩, B2⟩
    (fun x a' _ => a' = { tmps := #[.slice (some ⟨g, o, none⟩) 4096 cap, .slice (some ⟨gm, 0, none⟩) 8 8, undef, .pointer (some ⟨w.heap.size, 0, none⟩), .slice (some ⟨h, 0, none⟩) 4096 c, .pointer (some ⟨w.heap.size + 1, 0, none⟩), .slice (some ⟨h, x.val * 512, none⟩) 512 512, .slice (some ⟨g, o, none⟩) 4096 cap, .slice (some ⟨h, 0, none⟩) 4096 c, .slice (some ⟨h, 0, none⟩) 4096 c, .func (.func 268) #[] #[.pointer (some ⟨k1, 0, none⟩)], .slice (some ⟨h, x.val * 512, none⟩) 512 512, undef, undef, undef, undef, undef, undef, undef, undef, undef], defers := [] })
    (fun x a' => ownFrom_pure _ _) ?assign ?body ?done ?stop
  case assign =>
    rintro l pre x W K hI hK
    dsimp only [encS]
    simp only [Nat.zero_add]
    gi_wp2
    exact hK _ _ (KeepsFrom.refl _ _) rfl hI rfl
  case body =>
    rintro l pre x a' W hlw ⟨r, hr1⟩ ⟨⟨q1, ⟨v, q2, q3⟩, q4, q5⟩, hB⟩ rfl hlt2
    obtain ⟨hd1, hd2⟩ := hideTo_length xs M HL.out HML.out pre
    obtain ⟨d, hd, hst⟩ : ∃ d hd, hideTo xs M pre = (d, hd) := ⟨_, _, rfl⟩
    rw [hst] at q1 q3 hd1 hd2
    dsimp only at q1 q3 hd1 hd2
    have HR : Hid _ := hide_round w W h c gm k1 d M hd v x (by have := Hh.out; omega) hlt hd1 HML.out hM hB q1 q2 q3 q4 q5
    have hown1 := q3
    have hsz1 : k1 + 1 ≤ W.drew.heap.size := q5
    have hs8 : ((sec d x.val).take 8).length = 8 := by have := sec_length d x.val hd1 x.isLt; simp [this]
    have hr8 : Rd W (some ⟨h, x.val * 512, none⟩) ((sec d x.val).take 8) := by
      have := (sec_part q1.rd x).part 0 8
      simpa using this
    have hn8 : hd.length + 8 ≤ 140737488355328 := by omega
    have d5 : W.drew.cell? ⟨w.heap.size + 1, 0, none⟩ = some v := q2.cell 0
    have HST : Hid _ := hst
    clear hst hd1 hd2 q1 q2 q3 q4 q5
    have hst := HST
    gi_wp2_with fail
    refine wpIn_region_any (by kernel_rfl) ?_
    change wpAnyIn _ _ _ _ _ _ _ _ _ (World.drew _)
    refine wpAnyIn_ready (rs := [0, 1]) (by kernel_rfl) (by simp) ?_
    refine AllReadyIn.cons rfl (fun K hK2 => ?_) ?_
    · skip
      go_simp
      refine hK2 _ _ ?_
      clear hK2 K
      refine wpAnyIn_ready (rs := [1]) (by kernel_rfl) (by simp) ?_
      refine AllReadyIn.cons rfl (fun K hK2 => ?_) ?_
      · skip
        go_simp
        refine hK2 _ _ ?_
        clear hK2 K
        refine wpAnyIn_ready (rs := [2]) (by kernel_rfl) (by simp) ?_
        refine AllReadyIn.cons rfl (fun K hK2 => ?_) ?_
        · skip
          go_simp
          refine hK2 _ _ ?_
          clear hK2 K
          refine wpAnyIn_ready (rs := [3]) (by kernel_rfl) (by simp) ?_
          refine AllReadyIn.cons rfl (fun K hK2 => ?_) ?_
          · skip
            refine wpIn_append_bytes rfl _ _ rfl (k1 + 1) v hd.length (bcs hd) rfl (show W.drew.ownsRow _ _ _ _ _ _ from hown1) h (x.val * 512) 8 512 ((sec d x.val).take 8) rfl hs8 (show Rd W.drew _ _ from hr8) hn8 hsz1 ?_
            intro v' w2 hown2 hg2
            refine hK2 _ _ ?_
            clear hK2 K
            obtain ⟨e1, e2, e3, W5, e4, e5, e6, e7, e8⟩ := HR.out v' w2 hown2 hg2
            obtain ⟨av, cv, rfl⟩ := owns_shape hown2
            refine wpAnyIn_ready (rs := [4]) (by kernel_rfl) (by simp) ?_
            refine AllReadyIn.cons rfl (fun K hK2 => ?_) ?_
            · skip
              go_simp
              refine hK2 _ _ ?_
              clear hK2 K
              refine wpAnyIn_done (by kernel_rfl) ?_ _
              gi_wp2
              exact ⟨e7.from _, World.cell?_of_block (a := ⟨k1, 0, none⟩) e8, by rw [hideTo_snoc]; rw [hst.out]; exact e5, e6⟩
            exact AllReadyIn.nil
          exact AllReadyIn.nil
        exact AllReadyIn.nil
      exact AllReadyIn.nil
    refine AllReadyIn.cons rfl (fun K hK2 => ?_) ?_
    · skip
      go_simp
      refine hK2 _ _ ?_
      clear hK2 K
      refine wpAnyIn_ready (rs := [0, 2]) (by kernel_rfl) (by simp) ?_
      refine AllReadyIn.cons rfl (fun K hK2 => ?_) ?_
      · skip
        go_simp
        refine hK2 _ _ ?_
        clear hK2 K
        refine wpAnyIn_ready (rs := [2]) (by kernel_rfl) (by simp) ?_
        refine AllReadyIn.cons rfl (fun K hK2 => ?_) ?_
        · skip
          go_simp
          refine hK2 _ _ ?_
          clear hK2 K
          refine wpAnyIn_ready (rs := [3]) (by kernel_rfl) (by simp) ?_
          refine AllReadyIn.cons rfl (fun K hK2 => ?_) ?_
          · skip
            refine wpIn_append_bytes rfl _ _ rfl (k1 + 1) v hd.length (bcs hd) rfl (show W.drew.ownsRow _ _ _ _ _ _ from hown1) h (x.val * 512) 8 512 ((sec d x.val).take 8) rfl hs8 (show Rd W.drew _ _ from hr8) hn8 hsz1 ?_
            intro v' w2 hown2 hg2
            refine hK2 _ _ ?_
            clear hK2 K
            obtain ⟨e1, e2, e3, W5, e4, e5, e6, e7, e8⟩ := HR.out v' w2 hown2 hg2
            obtain ⟨av, cv, rfl⟩ := owns_shape hown2
            refine wpAnyIn_ready (rs := [4]) (by kernel_rfl) (by simp) ?_
            refine AllReadyIn.cons rfl (fun K hK2 => ?_) ?_
            · skip
              go_simp
              refine hK2 _ _ ?_
              clear hK2 K
              refine wpAnyIn_done (by kernel_rfl) ?_ _
              gi_wp2
              exact ⟨e7.from _, World.cell?_of_block (a := ⟨k1, 0, none⟩) e8, by rw [hideTo_snoc]; rw [hst.out]; exact e5, e6⟩
            exact AllReadyIn.nil
          exact AllReadyIn.nil
        exact AllReadyIn.nil
      refine AllReadyIn.cons rfl (fun K hK2 => ?_) ?_
      · skip
        go_simp
        refine hK2 _ _ ?_
        clear hK2 K
        refine wpAnyIn_ready (rs := [0]) (by kernel_rfl) (by simp) ?_
        refine AllReadyIn.cons rfl (fun K hK2 => ?_) ?_
        · skip
          go_simp
          refine hK2 _ _ ?_
          clear hK2 K
          refine wpAnyIn_ready (rs := [3]) (by kernel_rfl) (by simp) ?_
          refine AllReadyIn.cons rfl (fun K hK2 => ?_) ?_
          · skip
            refine wpIn_append_bytes rfl _ _ rfl (k1 + 1) v hd.length (bcs hd) rfl (show W.drew.ownsRow _ _ _ _ _ _ from hown1) h (x.val * 512) 8 512 ((sec d x.val).take 8) rfl hs8 (show Rd W.drew _ _ from hr8) hn8 hsz1 ?_
            intro v' w2 hown2 hg2
            refine hK2 _ _ ?_
            clear hK2 K
            obtain ⟨e1, e2, e3, W5, e4, e5, e6, e7, e8⟩ := HR.out v' w2 hown2 hg2
            obtain ⟨av, cv, rfl⟩ := owns_shape hown2
            refine wpAnyIn_ready (rs := [4]) (by kernel_rfl) (by simp) ?_
            refine AllReadyIn.cons rfl (fun K hK2 => ?_) ?_
            · skip
              go_simp
              refine hK2 _ _ ?_
              clear hK2 K
              refine wpAnyIn_done (by kernel_rfl) ?_ _
              gi_wp2
              exact ⟨e7.from _, World.cell?_of_block (a := ⟨k1, 0, none⟩) e8, by rw [hideTo_snoc]; rw [hst.out]; exact e5, e6⟩
            exact AllReadyIn.nil
          exact AllReadyIn.nil
        exact AllReadyIn.nil
      exact AllReadyIn.nil
    exact AllReadyIn.nil
  case done =>
    rintro D' ys W hD rfl ⟨⟨q1, ⟨v, q2, q3⟩, q4, q5⟩, hB⟩ hK
    obtain ⟨hd1, hd2⟩ := hideTo_length xs M HL.out HML.out (List.finRange 8)
    have hd3 : (hideTo xs M (List.finRange 8)).2.length = 64 := by rw [hd2]; simp
    rw [hd3] at q3
    obtain ⟨av, cv, rfl⟩ := owns_shape q3
    have q3' : W.ownsRow (h + 1) 5 1 (.slice av 64 cv) 64 (bcs (hideTo xs M (List.finRange 8)).2) := by
      refine ⟨q3.1, ?_⟩
      rcases q3.2 with e | ⟨g', cap', cur, e1, e2, e3⟩
      · exact .inl e
      · exact .inr ⟨g', cap', cur, e1, by omega, e3⟩
    have d5 : W.drew.cell? ⟨w.heap.size + 1, 0, none⟩ = some (.slice av 64 cv) := q2.cell 0
    have f5 : W.drew.frozen? ⟨w.heap.size + 1, 0, none⟩ = false := q2.frozen 0
    obtain ⟨V, hV⟩ : ∃ V, V = W.drew := ⟨_, rfl⟩
    have hK0 : V.heap[D']? = some (.deferred (some [])) := by rw [hV]; exact hK
    have hbV : Box V (w.heap.size + 1) #[.slice av 64 cv] 37 := by rw [hV]; exact q2
    have rwV : RowB V h c (hideTo xs M (List.finRange 8)).1 := by rw [hV]; exact q1
    have owV : V.ownsRow (h + 1) 5 1 (.slice av 64 cv) 64 (bcs (hideTo xs M (List.finRange 8)).2) := by rw [hV]; exact q3'
    have hBV : Below w.heap.size w V := by rw [hV]; exact hB.drew
    have rwV2 := rowB_store (j := 0) rwV hbV (by decide) (.slice av 64 cv)
    have owV2 := owns_grown owV (grown_store V (w.heap.size + 1) 0 (.slice av 64 cv)) (fun g' e => by
      obtain ⟨q, _⟩ := owns_block owV g' e
      intro e2
      cases e2
      have := Hh.out
      omega)
    have hBV2 := hBV.setCell (p := ⟨w.heap.size + 1, 0, none⟩) (by simp) (.slice av 64 cv)
    have hbV2 : Box (V.setCell ⟨w.heap.size + 1, 0, none⟩ (.slice av 64 cv)) (w.heap.size + 1) #[.slice av 64 cv] 37 := by have := hbV.store 0 (.slice av 64 cv); simpa using this
    have hKV : (V.setCell ⟨w.heap.size + 1, 0, none⟩ (.slice av 64 cv)).heap[D']? = some (.deferred (some [])) := (KeepsOthers.setCell V ⟨w.heap.size + 1, 0, none⟩ (.slice av 64 cv)).same D' _ hK0 rfl
    rw [← hV] at d5 f5
    gi_wp2_with fail
    refine wpIn_region_any (by kernel_rfl) ?_
    change wpAnyIn _ _ _ _ _ _ _ _ _ (World.drew _)
    rw [← hV]
    clear hV q1 q2 q3 q3' hB hK
    refine wpAnyIn_ready (rs := [0, 1]) (by kernel_rfl) (by simp) ?_
    refine AllReadyIn.cons rfl (fun K hK2 => ?_) ?_
    · skip
      go_simp
      refine hK2 _ _ ?_
      clear hK2 K
      refine wpAnyIn_ready (rs := [1, 2]) (by kernel_rfl) (by simp) ?_
      refine AllReadyIn.cons rfl (fun K hK2 => ?_) ?_
      · skip
        go_simp
        refine hK2 _ _ ?_
        clear hK2 K
        refine wpAnyIn_ready (rs := [2]) (by kernel_rfl) (by simp) ?_
        refine AllReadyIn.cons rfl (fun K hK2 => ?_) ?_
        · skip
          go_simp
          refine hK2 _ _ ?_
          clear hK2 K
          refine wpAnyIn_ready (rs := [3]) (by kernel_rfl) (by simp) ?_
          refine AllReadyIn.cons rfl (fun K hK2 => ?_) ?_
          · skip
            go_simp
            refine hK2 _ _ ?_
            clear hK2 K
            refine wpAnyIn_done (by kernel_rfl) ?_ _
            gi_wp2
            have hc5 := (hbV2.kept (grownBy_putObj' _ D' (.deferred none)) (fun r e => by cases e; exact ⟨_, hKV, rfl⟩)).cell 0
            refine ⟨by simp, .inl ⟨_, _, rfl, run_takeDeferred hKV, ?_⟩⟩
            refine ⟨_, by simp [results, Tryz.f196, go_sem, hc5], h, c, _, rfl, by have := Hh.out; omega, rwV2.kept (grownBy_putObj' _ D' (.deferred none)) (fun r e => by cases e; exact ⟨_, hKV, rfl⟩), owns_kept owV2 (grownBy_putObj' _ D' (.deferred none)) (fun r e => by cases e; exact ⟨_, hKV, rfl⟩), hBV2.trans (belowK_b (w := w) (Nat.le_refl _) _ D' _ _ (by omega) hKV rfl rfl)⟩
          exact AllReadyIn.nil
        exact AllReadyIn.nil
      refine AllReadyIn.cons rfl (fun K hK2 => ?_) ?_
      · skip
        go_simp
        refine hK2 _ _ ?_
        clear hK2 K
        refine wpAnyIn_ready (rs := [1]) (by kernel_rfl) (by simp) ?_
        refine AllReadyIn.cons rfl (fun K hK2 => ?_) ?_
        · skip
          go_simp
          refine hK2 _ _ ?_
          clear hK2 K
          refine wpAnyIn_ready (rs := [3]) (by kernel_rfl) (by simp) ?_
          refine AllReadyIn.cons rfl (fun K hK2 => ?_) ?_
          · skip
            go_simp
            refine hK2 _ _ ?_
            clear hK2 K
            refine wpAnyIn_done (by kernel_rfl) ?_ _
            gi_wp2
            have hc5 := (hbV2.kept (grownBy_putObj' _ D' (.deferred none)) (fun r e => by cases e; exact ⟨_, hKV, rfl⟩)).cell 0
            refine ⟨by simp, .inl ⟨_, _, rfl, run_takeDeferred hKV, ?_⟩⟩
            refine ⟨_, by simp [results, Tryz.f196, go_sem, hc5], h, c, _, rfl, by have := Hh.out; omega, rwV2.kept (grownBy_putObj' _ D' (.deferred none)) (fun r e => by cases e; exact ⟨_, hKV, rfl⟩), owns_kept owV2 (grownBy_putObj' _ D' (.deferred none)) (fun r e => by cases e; exact ⟨_, hKV, rfl⟩), hBV2.trans (belowK_b (w := w) (Nat.le_refl _) _ D' _ _ (by omega) hKV rfl rfl)⟩
          exact AllReadyIn.nil
        exact AllReadyIn.nil
      exact AllReadyIn.nil
    refine AllReadyIn.cons rfl (fun K hK2 => ?_) ?_
    · skip
      go_simp
      refine hK2 _ _ ?_
      clear hK2 K
      refine wpAnyIn_ready (rs := [0]) (by kernel_rfl) (by simp) ?_
      refine AllReadyIn.cons rfl (fun K hK2 => ?_) ?_
      · skip
        go_simp
        refine hK2 _ _ ?_
        clear hK2 K
        refine wpAnyIn_ready (rs := [2]) (by kernel_rfl) (by simp) ?_
        refine AllReadyIn.cons rfl (fun K hK2 => ?_) ?_
        · skip
          go_simp
          refine hK2 _ _ ?_
          clear hK2 K
          refine wpAnyIn_ready (rs := [3]) (by kernel_rfl) (by simp) ?_
          refine AllReadyIn.cons rfl (fun K hK2 => ?_) ?_
          · skip
            go_simp
            refine hK2 _ _ ?_
            clear hK2 K
            refine wpAnyIn_done (by kernel_rfl) ?_ _
            gi_wp2
            have hc5 := (hbV2.kept (grownBy_putObj' _ D' (.deferred none)) (fun r e => by cases e; exact ⟨_, hKV, rfl⟩)).cell 0
            refine ⟨by simp, .inl ⟨_, _, rfl, run_takeDeferred hKV, ?_⟩⟩
            refine ⟨_, by simp [results, Tryz.f196, go_sem, hc5], h, c, _, rfl, by have := Hh.out; omega, rwV2.kept (grownBy_putObj' _ D' (.deferred none)) (fun r e => by cases e; exact ⟨_, hKV, rfl⟩), owns_kept owV2 (grownBy_putObj' _ D' (.deferred none)) (fun r e => by cases e; exact ⟨_, hKV, rfl⟩), hBV2.trans (belowK_b (w := w) (Nat.le_refl _) _ D' _ _ (by omega) hKV rfl rfl)⟩
          exact AllReadyIn.nil
        exact AllReadyIn.nil
      exact AllReadyIn.nil
    exact AllReadyIn.nil
  case stop =>
    rintro D' c pre W hD _ ⟨hf, _⟩ hK
    exact hf.elim
end Go.Proofs.YtnldkpckojhbhaaGreat.Rc

/-
  entriesOf.
-/
namespace Go.Proofs.YtnldkpckojhbhaaGreat.Rc
open Go.RowKit

theorem info62 : (Tryz.prog.info? 254).map (fun i => (i.zero, i.size, i.bytes)) = some (some (.agg #[.int .i64 0, .slice none 0 0]), 2, 32) := by kernel_rfl
theorem two_cells {w : World} {g : Nat} {c0 c1 : Value} {t : TypeId} (h : Box w g #[c0, c1] t) : ∀ j u, ([c0, c1] : List Value)[j]? = some u → w.cell? ((⟨g, 0, none⟩ : Addr).add j) = some u := fun j u hj => by
  rw [Addr.add_lit, Nat.zero_add, h.cell j]
  simpa using hj

def entOf (BB : List UInt8) (i : Nat) : Nat × List UInt8 := (beNat ((BB.drop (6 + i * 66)).take 2), (BB.drop (8 + i * 66)).take 64)
def entsOf (BB : List UInt8) (n : Nat) : List (Nat × List UInt8) := (List.range n).map (entOf BB)
theorem entsOf_length (BB : List UInt8) (n : Nat) : (entsOf BB n).length = n := by simp [entsOf]
def entCell (BB : List UInt8) (g o cap i : Nat) : List Value := [.int .i64 ((entOf BB i).1 : Int), .slice (some ⟨g, o + (8 + i * 66), none⟩) 64 (cap - (8 + i * 66))]
def entCells (BB : List UInt8) (g o cap n : Nat) : List Value := (List.range n).flatMap (entCell BB g o cap)
theorem entCells_succ (BB : List UInt8) (g o cap n : Nat) : entCells BB g o cap (n + 1) = entCells BB g o cap n ++ entCell BB g o cap n := by simp [entCells, List.range_succ]
theorem entCells_at (BB : List UInt8) (g o cap n i : Nat) (h : i < n) : (entCells BB g o cap n)[i * 2]? = some (.int .i64 ((entOf BB i).1 : Int)) ∧ (entCells BB g o cap n)[i * 2 + 1]? = some (.slice (some ⟨g, o + (8 + i * 66), none⟩) 64 (cap - (8 + i * 66))) := by
  have hl : ∀ n, (entCells BB g o cap n).length = n * 2 := by
    intro n
    induction n with
    | zero => rfl
    | succ n ih => rw [entCells_succ, List.length_append, ih]; simp [entCell]; omega
  induction n with
  | zero => omega
  | succ n ih =>
    rw [entCells_succ]
    by_cases hi : i < n
    · obtain ⟨a, b⟩ := ih hi
      rw [List.getElem?_append_left (by rw [hl]; omega), List.getElem?_append_left (by rw [hl]; omega)]
      exact ⟨a, b⟩
    · obtain rfl : i = n := by omega
      rw [List.getElem?_append_right (by rw [hl]; omega), List.getElem?_append_right (by rw [hl]; omega), hl]
      have e1 : i * 2 - i * 2 = 0 := by omega
      have e2 : i * 2 + 1 - i * 2 = 1 := by omega
      rw [e1, e2]
      exact ⟨rfl, rfl⟩

def cntOf (BB : List UInt8) : Nat := beNat (BB.take 2)

theorem numAt_body (BB : List UInt8) (k : Nat) (hl : BB.length = 4032) (h : k + 2 ≤ 4032) : numAt BB (k : Int) 2 = some (beNat ((BB.drop k).take 2)) := numAt_some (by omega)
theorem be2_lt (l : List UInt8) : beNat (l.take 2) < 65536 := by
  have h := beNat_lt (l.take 2)
  have h2 : (l.take 2).length ≤ 2 := by simp; omega
  exact Nat.lt_of_lt_of_le h (by
    have : 256 ^ (l.take 2).length ≤ 256 ^ 2 := Nat.pow_le_pow_right (by omega) h2
    omega)

set_option maxRecDepth 100000 in
set_option maxHeartbeats 4000000 in
theorem entriesOf_in (g o cap : Nat) (BB : List UInt8) (w : World) (hl : BB.length = 4032) (hcap : 4032 ≤ cap) (hmax : cap ≤ 9223372036854775807) (hr : Rd w (some ⟨g, o, none⟩) BB) (hc : cntOf BB ≤ 32) :
    Calls Tryz.prog 294 #[.slice (some ⟨g, o, none⟩) 4032 cap] w fun r w' => ∃ v, r = .returned v ∧ w'.ownsRow w.heap.size 254 2 v (cntOf BB) (entCells BB g o cap (cntOf BB)) ∧ Below w.heap.size w w' := by
  obtain ⟨i0, hi, hz0, hz1, hz2⟩ := info_parts info62
  have n0 : numAt BB 0 2 = some (cntOf BB) := by have := numAt_body BB 0 hl (by omega); simpa [cntOf] using this
  have nk : Hid (∀ k : Nat, k < 32 → numAt BB ((6 + k * 66 : Nat) : Int) 2 = some (entOf BB k).1) := fun k hk => by have := numAt_body BB (6 + k * 66) hl (by omega); simpa [entOf] using this
  have el : Hid (∀ k, (entOf BB k).1 < 65536) := fun k => be2_lt _
  have c1 := u16_at cap 4032 (some ⟨g, o, none⟩) BB 0 (cntOf BB) _ w rfl hl (by omega) hr n0
  obtain ⟨n, hn⟩ : ∃ n, n = cntOf BB := ⟨_, rfl⟩
  rw [← hn] at hc c1 ⊢
  clear hn n0
  have hci : (n : Int) ≤ 32 := by omega
  go_enter Tryz.func294, Tryz.ntmps294
  go_wp2_with fail
  refine c1.mono ?_
  rintro r w' ⟨rfl, rfl⟩
  clear c1
  go_wp2_with fail
  go_loopw [5, 20] (fun v i wr => ∃ k : Nat, k ≤ n ∧ i = .int .i64 k ∧ wr.ownsRow w.heap.size 254 2 v k (entCells BB g o cap k) ∧ Below w.heap.size w wr) (fun _ i _ => n - (intOf i).toNat)
  case atStart => exact ⟨0, Nat.zero_le _, rfl, World.ownsRow_nil _ _ _ _, Below.refl _ _⟩
  case round =>
    obtain ⟨k, hk, rfl, hown, hB⟩ := hrel
    by_cases hlt : k < n
    · have hlt2 : (k : Int) < n := by omega
      have c2 := u16_at cap 4032 (some ⟨g, o, none⟩) BB ((6 + k * 66 : Nat) : Int) (entOf BB k).1 _ wr rfl hl (by omega) (hr.below hB (Nat.le_refl _)) (nk.out k (by omega))
      have hsucc := entCells_succ BB g o cap k
      have hcell : entCell BB g o cap k = [.int .i64 ((entOf BB k).1 : Int), .slice (some ⟨g, o + (8 + k * 66), none⟩) 64 (cap - (8 + k * 66))] := rfl
      have hE := el.out k
      obtain ⟨E, hEE⟩ : ∃ E, E = (entOf BB k).1 := ⟨_, rfl⟩
      rw [← hEE] at c2 hcell hE
      clear hEE
      obtain ⟨m, hm⟩ : ∃ m, m = 6 + k * 66 := ⟨_, rfl⟩
      have e0 : (6 : Int) + (k : Int) * 66 = (m : Int) := by omega
      have e1 : 8 + k * 66 = m + 2 := by omega
      rw [← hm] at c2
      rw [e1] at hcell
      have hm2 : m + 66 ≤ 4032 := by omega
      have hcap2 : m + 66 ≤ cap := by omega
      have hne : ¬ cap = m + 2 := by omega
      have e2 : m + 2 + 64 - (m + 2) = 64 := by omega
      have Hm : Hid _ := hm
      have HS : Hid _ := hsucc
      have HC : Hid _ := hcell
      clear hm hsucc hcell e1
      go_wp2_with fail
      refine c2.mono ?_
      rintro r w' ⟨rfl, rfl⟩
      clear c2
      have hBa := (Below.refl wr.heap.size wr).alloc (Nat.le_refl _) (.cells #[.int .i64 (E : Int), .slice (some ⟨g, o + (m + 2), none⟩) 64 (cap - (m + 2))] 254)
      have bx := Box.new wr #[.int .i64 (E : Int), .slice (some ⟨g, o + (m + 2), none⟩) 64 (cap - (m + 2))] 254
      have B1 := hB.trans (hBa.mono hB.size)
      have ow1 := hown.alloc (.cells #[.int .i64 (E : Int), .slice (some ⟨g, o + (m + 2), none⟩) 64 (cap - (m + 2))] 254)
      obtain ⟨av, cv, rfl⟩ := owns_shape hown
      go_wp2_with (at_builtin; refine wpList_append_own _ rfl _ _ 248 rfl w.heap.size 254 i0 (.agg #[.int .i64 0, .slice none 0 0]) 2 32 Tryz.underlying248 hi hz0 hz1 hz2 rfl (by decide) _ k (entCells BB g o cap k) rfl ow1 ⟨wr.heap.size, 0, none⟩ 1 1 [.int .i64 (E : Int), .slice (some ⟨g, o + (m + 2), none⟩) 64 (cap - (m + 2))] rfl rfl (two_cells bx) ?c2 ?c3 ?c4 B1.size ?_)
      case c2 => intro u hu; simp at hu; rcases hu with rfl | rfl <;> rfl
      case c3 => unfold maxLen; omega
      case c4 => omega
      · intro v' w4 hown4 hgrow _
        have B4 := B1.grown hgrow B1.size (fun j e => (owns_block hown j e).1)
        rw [← HC.out, ← HS.out] at hown4
        clear hgrow ow1 bx hBa B1 hown hB
        go_wp2
        go_roundw
        case rel => exact ⟨k + 1, by omega, by go_num, hown4, B4⟩
        case measure => simp [intOf]; omega
    · obtain rfl : k = n := by omega
      go_wp2
      go_ret
      exact ⟨_, rfl, hown, hB⟩

set_option maxRecDepth 100000 in
/-- .. too many -/
theorem entriesOf_many (g o cap : Nat) (BB : List UInt8) (w : World) (hl : BB.length = 4032) (hr : Rd w (some ⟨g, o, none⟩) BB) (hc : 32 < cntOf BB) :
    Calls Tryz.prog 294 #[.slice (some ⟨g, o, none⟩) 4032 cap] w fun r w' => r = .returned (.slice none 0 0) ∧ w = w' := by
  have n0 : numAt BB 0 2 = some (cntOf BB) := by have := numAt_body BB 0 hl (by omega); simpa [cntOf] using this
  have c1 := u16_at cap 4032 (some ⟨g, o, none⟩) BB 0 (cntOf BB) _ w rfl hl (by omega) hr n0
  obtain ⟨n, hn⟩ : ∃ n, n = cntOf BB := ⟨_, rfl⟩
  rw [← hn] at hc c1
  clear hn n0
  have hci : (32 : Int) < n := by omega
  go_enter Tryz.func294, Tryz.ntmps294
  go_wp2_with fail
  refine c1.mono ?_
  rintro r w' ⟨rfl, rfl⟩
  go_wp2
  go_ret
  exact ⟨rfl, rfl⟩

theorem entsOf_ents {w w' : World} {g o cap : Nat} {BB : List UInt8} {v : Value} (hl : BB.length = 4032) (hcap : 4032 ≤ cap) (hmax : cap ≤ 9223372036854775807) (hr : Rd w' (some ⟨g, o, none⟩) BB) (hc : cntOf BB ≤ 32)
    (hown : w'.ownsRow w.heap.size 254 2 v (cntOf BB) (entCells BB g o cap (cntOf BB))) : ∃ a c, v = .slice a (cntOf BB) c ∧ Ents w' a (entsOf BB (cntOf BB)) := by
  obtain ⟨a, c, rfl⟩ := owns_shape hown
  refine ⟨a, c, rfl, fun hp => ?_⟩
  rw [entsOf_length] at hp
  rcases hown.2 with ⟨hv, hn⟩ | ⟨gv, cap', cur, hv, _⟩
  · omega
  · have ha : a = some ⟨gv, 0, none⟩ := by simpa using (Value.slice.inj hv).1
    subst ha
    refine ⟨gv, 0, rfl, fun j hj => ?_⟩
    rw [entsOf_length] at hj
    obtain ⟨e1, e2⟩ := entCells_at BB g o cap (cntOf BB) j hj
    have hb : (Value.slice (some ⟨gv, 0, none⟩) (cntOf BB) c).ownBlock = some gv := rfl
    have k1 := hown.cells hb _ _ e1
    have k2 := hown.cells hb _ _ e2
    rw [Addr.add_lit] at k1 k2
    have hx : (entsOf BB (cntOf BB))[j]'(by rw [entsOf_length]; exact hj) = entOf BB j := by simp [entsOf]
    rw [hx]
    refine ⟨k1, g, o + (8 + j * 66), cap - (8 + j * 66), ?_, by omega, by omega, by simp [entOf]; omega, hr.part (8 + j * 66) 64⟩
    rw [Nat.add_assoc]
    exact k2
end Go.Proofs.YtnldkpckojhbhaaGreat.Rc
